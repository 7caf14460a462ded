/- For the law FormulaParts: Assign where a formula lies in a world, two lists of clauses put together, the closure has. -/
import Derived.Test.YtmghmmkljplnfaaGreatFoTurn
namespace Go.Proofs.YtmghmmkljplnfaaGreat
open Go.RowKit Go.ChangeAt Go.ChangeShapes Go.WideShapes Go.Shelf Go.Sort

theorem ok_asg {L : List (List Int)} (x : Int) (h : Ok8 L) : Ok8 (asgL x L) := by
  unfold asgL
  refine ⟨?_, fun zs hz => ?_⟩
  · rw [List.length_map]
    have := List.length_filter_le (fun zs => decide (x ∉ zs)) L
    have := h.len
    omega
  · obtain ⟨y, hy, rfl⟩ := List.mem_map.1 hz
    have hy := (List.mem_filter.1 hy).1
    have h1 := List.length_filter_le (fun a => decide (a ≠ -x)) y
    exact ⟨by have := (h.cl y hy).1; omega, fun l hl => (h.cl y hy).2 l (List.mem_filter.1 hl).1⟩
/-- What is left has neither the literal nor its negation. -/
theorem asg_free {L : List (List Int)} {x : Int} {z : List Int} (h : z ∈ asgL x L) : x ∉ z ∧ -x ∉ z := by
  unfold asgL at h
  obtain ⟨y, hy, rfl⟩ := List.mem_map.1 h
  have hy := (List.mem_filter.1 hy).2
  refine ⟨fun h => ?_, fun h => ?_⟩
  · have h1 := (List.mem_filter.1 h).1
    simp at hy
    exact hy h1
  · have h1 := (List.mem_filter.1 h).2
    simp at h1
section
variable {w W : World} {fs : List (Value × List (List Int))} {ms : List (Value × List Bool)} {rs : List (Value × List (List Bool))} {ss : List (Nat × TypeId × Array Value)} {ds : List Nat} {v : Value} {L : List (List Int)}
theorem ev_assign (h : Ev w W fs ms rs ss ds) (hp : (v, L) ∈ fs) (hk : Ok8 L) (x : Int) (hx : hasV 8 x = true) {L' : List (List Int)} (hr : asgL x L = L') (n : Nat) (hn : L'.length = n) :
    Calls Tryz.prog 15 #[.agg #[.int .i64 8, v], .int .i64 x] W fun e w' => ∃ A c, e = .returned (.tuple #[.agg #[.int .i64 8, .slice A n c], .int .i64 0]) ∧ Ev w w' ((.slice A n c, L') :: fs) ms rs ss ds ∧ (A = none ∧ c = 0 ∨ ∃ g, A = some ⟨g, 0, none⟩) :=
  (assign_ok 8 x W (Nat.le_refl _) hk.short (h.f hp) hk.chk2 hx).mono fun e w' ⟨v', he, ho, hB⟩ => by
    obtain ⟨svs, hrow, -⟩ := id ho
    obtain ⟨A, c, rfl⟩ := ho.len
    rw [cellsL_len] at he ho
    rw [hr] at ho
    rw [hr, hn] at he
    rw [hn] at ho
    refine ⟨A, c, he, (h.on hB).addF ho.rowsL, ?_⟩
    rcases hrow.2 with ⟨e, h0⟩ | ⟨g, cap, cur, e, -⟩
    · injection e with e1 e2 e3
      exact .inl ⟨e1, e3⟩
    · injection e with e1 e2 e3
      exact .inr ⟨g, e1⟩
/-- All clauses of a formula as values. -/
theorem ev_vals {A : Option Addr} {m c : Nat} (hA : A = none ∧ c = 0 ∨ ∃ g, A = some ⟨g, 0, none⟩) (h : RowsL W.heap.size W (.slice A m c) L) (hm : L.length = m) :
    ∃ us, Vals W (.slice A m c) us ∧ Pw (fun u zs => Lits W.heap.size W u zs) us L := by
  rcases hA with ⟨rfl, rfl⟩ | ⟨g, rfl⟩
  · obtain rfl : L = [] := by
      rcases h with ⟨A', c', e, h0, h1⟩ | ⟨b, off, cap, e, hl, hc⟩
      · exact List.map_eq_nil_iff.1 h1
      · cases e
    subst hm
    exact ⟨[], .inl ⟨rfl, rfl⟩, Pw.nil⟩
  · obtain ⟨us, hp, hc⟩ := krows_vals (krows_low h (Nat.le_refl _)) hm
    have hul : us.length = m := by rw [hp.1]; exact hm
    refine ⟨us, .inr ⟨g, 0, c, by rw [hul], hc⟩, hp.1, fun j u zs hu hz => rowV_lits.1 (hp.2 j u zs hu hz).rowV⟩
theorem rows_new {W' : World} {B : Nat} {us : List Value} {M : List (List Int)} (hown : W'.ownsRow B 41 1 v us.length us) (hb : Below W.heap.size W W') (hp : Pw (fun u zs => Lits W.heap.size W u zs) us M) : RowsL W'.heap.size W' v M := by
  rcases hown.2 with ⟨rfl, h0⟩ | ⟨g, cap, cur, rfl, hb1, hg, hn, hm, hs, ht⟩
  · have hM : M = [] := List.eq_nil_of_length_eq_zero (by rw [← hp.1, h0])
    subst hM
    exact rows_none _ _
  · have hul := hp.1
    refine .inr ⟨g, 0, cap, by rw [List.length_map, hul], (hown.lt g rfl).2, fun j xs hx => ?_⟩
    obtain ⟨zs, hz, rfl⟩ := map_at hx
    have hj := (List.getElem?_eq_some_iff.1 hz).1
    have hju : j < us.length := by omega
    exact ⟨us[j], by rw [Nat.zero_add, hown.cellAt j (by omega), List.getElem?_eq_getElem hju], by rw [Nat.zero_add]; exact hown.frozenAt j, (RowV.below hb (rowV_lits.2 (hp.2 j _ _ (List.getElem?_eq_getElem hju) hz))).more hb.size⟩
/-- Two lists of clauses, one behind the other. -/
theorem ev_both {W1 : World} {B : Nat} {s1 s2 : Value} {u1 u2 : List Value} {M1 M2 : List (List Int)} (h : Ev w W fs ms rs ss ds) (h1 : Vals W s1 u1) (h2 : Vals W s2 u2) (p1 : Pw (fun u zs => Lits W.heap.size W u zs) u1 M1) (p2 : Pw (fun u zs => Lits W.heap.size W u zs) u2 M2) (n : Nat) (hn : M1.length + M2.length = n) (hl : n ≤ 1000) (hb1 : Below W.heap.size W W1) (T : TypeId) (hW : Whole W1 B T #[s1, s2]) :
    Calls Tryz.prog 17 #[.slice (some ⟨B, 0, none⟩) 2 2] W1 fun e w' => ∃ A' c', e = .returned (.slice A' n c') ∧ Ev w w' ((.slice A' n c', M1 ++ M2) :: fs) ms rs ss ds := by
  have hfl : [u1, u2].flatten = u1 ++ u2 := by simp
  have hp := p1.append p2
  have hlen : (u1 ++ u2).length = n := by rw [hp.1, List.length_append]; exact hn
  have hc := concatV B 2 [s1, s2] [u1, u2] rfl rfl (by omega) (by rw [hfl]; omega) W1 hW.lt
    (fun j v hv => by
      match j with
      | 0 => simp at hv; subst hv; exact hW.cell 0
      | 1 => simp at hv; subst hv; exact hW.cell 1
      | j + 2 => simp at hv)
    (fun j v xs hv hx => by
      match j with
      | 0 => simp at hv hx; subst hv; subst hx; exact h1.below hb1
      | 1 => simp at hv hx; subst hv; subst hx; exact h2.below hb1
      | j + 2 => simp at hv)
  rw [hfl] at hc
  refine hc.mono fun e w' ⟨v, he, ho, hb⟩ => ?_
  have hbw := below_cat hb1 hb
  have hr := rows_new ho hbw hp
  obtain ⟨A', c', rfl⟩ := own_shape0 ho
  rw [hlen] at he hr
  exact ⟨A', c', he, (h.on hbw).addF hr⟩
end
set_option maxRecDepth 100000 in
set_option maxHeartbeats 1000000 in
theorem parts_eq {w W : World} {fs : List (Value × List (List Int))} {ms : List (Value × List Bool)} {rs : List (Value × List (List Bool))} {ss : List (Nat × TypeId × Array Value)} {ds : List Nat} {gm : Nat} {mv v : Value} {x y : List Bool} (h : Ev w W fs ms rs ss ds) (hg : (gm, 25, #[mv]) ∈ ss) (hm : Bools w.heap.size w mv x) (hv : Bools W.heap.size W v y) (hx : x.length = 8) :
    Calls Tryz.prog 24 #[v, .pointer (some ⟨gm, 0, none⟩)] W fun e w' => e = .returned (.bool (decide (x = y))) ∧ Ev w w' fs ms rs ss ds := by
  have cm : W.cell? ⟨gm, 0, none⟩ = some mv := (h.s hg).cell 0
  have hmw : Bools W.heap.size W mv x := (hm.below h.below).more h.below.size
  obtain ⟨Am, cam, rfl, -⟩ := bools_shape hmw
  obtain ⟨Av, cav, rfl, -⟩ := bools_shape hv
  obtain ⟨t, ht⟩ : ∃ t, decide (x = y) = t := ⟨_, rfl⟩
  have heq := ev_equal h hmw hv (by omega) t ht
  rw [ht]
  rw [hx] at heq cm
  have HEq := Lib.hid heq
  clear heq h hg hm hv hmw ht hx
  go_enter Tryz.func24, Tryz.ntmps24
  go_wp2_with fail
  refine HEq.out.mono ?_
  rintro e w1 ⟨rfl, h1⟩
  have H1 := Lib.hid h1
  clear h1
  go_wp2_with fail
  go_ret
  exact ⟨rfl, H1.out⟩
set_option maxRecDepth 100000 in
set_option maxHeartbeats 1000000 in
theorem has_any {w W : World} {fs : List (Value × List (List Int))} {ms : List (Value × List Bool)} {rs : List (Value × List (List Bool))} {ss : List (Nat × TypeId × Array Value)} {ds : List Nat} {A : Option Addr} {K c : Nat} {l : List (List Bool)} {mv : Value} {x : List Bool} (h : Ev w W fs ms rs ss ds) (hp : (Value.slice A K c, l) ∈ rs) (hK : l.length = K) (hK2 : K ≤ 1000000) (hm : Bools W.heap.size W mv x) (hx : x.length = 8) (t : Bool) (ht : l.any (fun y => decide (x = y)) = t) :
    Calls Tryz.prog 22 #[.slice A K c, mv] W fun e w' => e = .returned (.bool t) ∧ Ev w w' fs ms rs ss ds := by
  have hen : ∀ args w, (callFunc 24 args).run Tryz.prog w = .ok (.enter 24 args) w := enters_of Tryz.func24 (by kernel_rfl) rfl
  obtain ⟨Am, cam, rfl, -⟩ := bools_shape hm
  have hb := below1a W (.cells #[.slice Am x.length cam] 25)
  have h1 := h.box 25 #[.slice Am x.length cam]
  have h2 := h.on hb
  have hm1 := (hm.below hb).more hb.size
  obtain ⟨gm, hgm⟩ : ∃ y, W.heap.size = y := ⟨_, rfl⟩
  obtain ⟨W1, hW1⟩ : ∃ y, W.alloc (.cells #[.slice Am x.length cam] 25) = y := ⟨_, rfl⟩
  rw [hW1] at h1 h2 hm1
  rw [hgm] at h1
  have hco := containsF_any 24 #[.pointer (some ⟨gm, 0, none⟩)] (fun y => decide (x = y)) (⟨Below.refl _ _, h1.fo, h1.mo, h1.ro, h1.st, h1.de⟩ : Ev W1 W1 _ _ _ _ _) (A := A) (c := c) (K := K) (l := l) hp hK hK2 hen
    (fun W' v y hW hv hy => parts_eq hW (gm := gm) (mv := .slice Am x.length cam) (by simp) hm1 hv hx)
  rw [ht, hx] at *
  have HCo := Lib.hid hco; have H2 := Lib.hid h2
  clear hco h1 h2 hm1 hm h hp hen hb hx ht
  go_enter Tryz.func22, Tryz.ntmps22
  go_wp2_with fail
  refine HCo.out.mono ?_
  rintro e w1 ⟨rfl, h1⟩
  have H1 := Lib.hid (H2.out.on h1.below)
  clear h1
  go_wp2_with fail
  go_ret
  exact ⟨rfl, H1.out⟩
end Go.Proofs.YtmghmmkljplnfaaGreat
