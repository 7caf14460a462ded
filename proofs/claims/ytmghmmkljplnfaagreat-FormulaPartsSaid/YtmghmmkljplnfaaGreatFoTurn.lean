/- slices.Concat of lists of clauses. -/
/- The normal form of a formula: its mathematics, and contracts where a formula lies in a world. -/
/- Clauses of a formula put together anew out of parts of it. -/
import Derived.Test.YtmghmmkljplnfaaGreatFoEv2
import Derived.Laws.AppendOwnNone
namespace Go.Proofs.YtmghmmkljplnfaaGreat
open Go.RowKit Go.ChangeAt Go.ChangeShapes Go.WideShapes

/-- A slice whose cells are these values; nil, empty or not. -/
def Vals (W : World) (sv : Value) (us : List Value) : Prop :=
  (sv = .slice none 0 0 ∧ us = []) ∨ ∃ b off c, sv = .slice (some ⟨b, off, none⟩) us.length c ∧ ∀ j u, us[j]? = some u → b < W.heap.size ∧ W.cell? ⟨b, off + j, none⟩ = some u ∧ u.oneCell' = true
theorem Vals.below {W W' : World} {sv : Value} {us : List Value} (h : Vals W sv us) (hb : Below W.heap.size W W') : Vals W' sv us := by
  rcases h with h | ⟨b, off, c, e, h⟩
  · exact .inl h
  · exact .inr ⟨b, off, c, e, fun j u hu => by
      obtain ⟨h1, h2, h3⟩ := h j u hu
      exact ⟨by have := hb.size; omega, (hb.cell (p := ⟨b, off + j, none⟩) h1).trans h2, h3⟩⟩
theorem Vals.shape {W : World} {sv : Value} {us : List Value} (h : Vals W sv us) : ∃ A c, sv = .slice A us.length c := by
  rcases h with ⟨rfl, rfl⟩ | ⟨b, off, c, e, -⟩
  · exact ⟨_, _, rfl⟩
  · exact ⟨_, _, e⟩
theorem wpList_append_vals {P : Program} {w : World} {ops : Array Oper} {rest : List Oper} {o : Oper} {a : Act} {Q : Exit → Act → World → Prop} (hgd : o.guard = none) (s x : Operand) (t : TypeId)
    (ho : o.op = .call { callee := .builtin .append, args := #[s, x], argTypes := #[t, t] })
    (base : Nat) (e : TypeId) (i : TypeInfo) (z : Value) (bytes : Nat) (ht : P.underlying t = some (.slice e)) (hi : P.info? e = some i) (hz : i.zero = some z)
    (hsize : i.size = 1) (hby : i.bytes = bytes) (hzs : z.cells.size = 1)
    (v : Value) (n : Nat) (l : List Value) (hs : a.eval s = v) (hown : w.ownsRow base e 1 v n l)
    (xv : Value) (us : List Value) (hx : a.eval x = xv) (hI : Vals w xv us)
    (h63 : n + us.length ≤ maxLen) (hbytes : (n + us.length) * bytes ≤ 140737488355328) (hbase : base ≤ w.heap.size)
    (h : ∀ v' w', w'.ownsRow base e 1 v' (n + us.length) (l ++ us) → Below base w w' → wpList P ops Q rest (a.put o.dst v') w') : wpList P ops Q (o :: rest) a w := by
  rcases hI with ⟨rfl, rfl⟩ | ⟨b, off, c, rfl, hnew⟩
  · exact wpList_append_own_none hgd s x t ho base e i 1 ht hi v n l hs hown hx (h v w (by simpa using hown) (Below.refl _ _))
  · exact wpList_append_own w hgd s x t ho base e i z 1 bytes ht hi hz hsize hby hzs (by decide) v n l hs hown ⟨b, off, none⟩ us.length c us hx (by simp) (fun j u hu => by rw [addr_add]; exact (hnew j u hu).2.1)
      (fun u hu => by obtain ⟨j, hj⟩ := List.mem_iff_getElem?.1 hu; exact (hnew j u hj).2.2) h63 hbytes hbase
      fun v' w' h1 h2 _ => h v' w' h1 ((Below.refl _ _).grown h2 hbase fun j e => (hown.lt j e).1)
set_option maxRecDepth 100000 in
set_option maxHeartbeats 1000000 in
theorem growClause (n : Nat) (hn : n ≤ 1000000) (w : World) :
    Calls Tryz.prog 52 #[.slice none 0 0, .int .i64 n] w fun e w' => ∃ v, e = .returned v ∧ w'.ownsRow w.heap.size 41 1 v 0 [] ∧ Below w.heap.size w w' := by
  obtain ⟨i0, hi, hz0, hz1, hz2⟩ := info_parts infoClause
  by_cases h0 : n = 0
  · subst h0
    go_enter Tryz.func52, Tryz.ntmps52
    go_wp2
    go_ret
    exact ⟨_, rfl, World.ownsRow_nil _ _ _ _, Below.refl _ _⟩
  · have hn0 : (0 : Int) < (n : Int) := by omega
    have hb : ¬ (281474976710656 : Int) < (n : Int) * (Tryz.t41.bytes : Int) := by rw [show Tryz.t41.bytes = 24 by kernel_rfl]; omega
    have hns : ¬ 281474976710656 < Builtin.nextslicecap n 0 * Tryz.t41.bytes := by rw [show Tryz.t41.bytes = 24 by kernel_rfl]; have := nextslicecap_le (need := n) (old := 0) (by omega); omega
    have hcap := And.intro (grownCap_ge w n 0 41) (grownCap_le_maxLen w n 0 41 (by unfold maxLen; omega))
    simp only [grownCap] at hcap
    go_enter Tryz.func52, Tryz.ntmps52
    go_wp2
    obtain ⟨c, hc⟩ : ∃ c, (Question.appendCap n 0 41).cut (w.tape w.drawn (Question.appendCap n 0 41)) = c := ⟨_, rfl⟩
    rw [hc] at hcap ⊢
    have hb1 : Below w.heap.size w ((w.alloc (.cells (Builtin.zeroCells #[Value.slice none 0 0] n ++ Builtin.zeroCells #[Value.slice none 0 0] (c - n)) 41)).drew) := (((Below.refl _ w).alloc (Nat.le_refl _) _)).drew
    have hr : ((w.alloc (.cells (Builtin.zeroCells #[Value.slice none 0 0] n ++ Builtin.zeroCells #[Value.slice none 0 0] (c - n)) 41)).drew).ownsRow w.heap.size 41 1 (.slice (some ⟨w.heap.size, 0, none⟩) 0 c) 0 [] := by
      refine ⟨rfl, .inr ⟨_, _, _, rfl, Nat.le_refl _, World.alloc_heap_new w _, Nat.zero_le _, hcap.2, ?_, by simp⟩⟩
      rw [Array.size_append, size_zeroCells, size_zeroCells]
      simp
      omega
    go_ret
    exact ⟨_, rfl, hr, hb1⟩
/-- How many the first k hold together. -/
def lenK (xss : List (List Value)) (k : Nat) : Nat := ((xss.take k).flatten).length
theorem lenK_succ {xss : List (List Value)} {k : Nat} {xs : List Value} (h : xss[k]? = some xs) : (xss.take (k + 1)).flatten = (xss.take k).flatten ++ xs := by
  rw [List.take_add_one, h, List.flatten_append]; simp
theorem lenK_le (xss : List (List Value)) (k : Nat) : lenK xss k ≤ xss.flatten.length := by
  unfold lenK
  have h : xss.flatten = (xss.take k).flatten ++ (xss.drop k).flatten := by rw [← List.flatten_append, List.take_append_drop]
  rw [h, List.length_append]; omega
def SzRel (xss : List (List Value)) (N : Nat) (size i : Value) : Prop := ∃ k n : Nat, k ≤ N ∧ i = .int .i64 k ∧ size = .int .i64 n ∧ n = lenK xss k
def CcRel (w : World) (xss : List (List Value)) (N : Nat) (o i : Value) (wr : World) : Prop :=
  ∃ (k n : Nat) (v : Value), v = o ∧ k ≤ N ∧ i = .int .i64 k ∧ n = lenK xss k ∧ Below w.heap.size w wr ∧ wr.ownsRow w.heap.size 41 1 v n (xss.take k).flatten
set_option maxRecDepth 100000 in
set_option maxHeartbeats 1000000 in
theorem concatV (B N : Nat) (vs : List Value) (xss : List (List Value)) (hv : vs.length = N) (hx : xss.length = N) (hN : N ≤ 100) (hs : xss.flatten.length ≤ 100000) (w : World) (hB : B < w.heap.size)
    (hc : ∀ (j : Nat) (v : Value), vs[j]? = some v → w.cell? ⟨B, j, none⟩ = some v) (hvals : ∀ (j : Nat) (v : Value) (xs : List Value), vs[j]? = some v → xss[j]? = some xs → Vals w v xs) :
    Calls Tryz.prog 17 #[.slice (some ⟨B, 0, none⟩) N N] w fun e w' => ∃ v, e = .returned v ∧ w'.ownsRow w.heap.size 41 1 v xss.flatten.length xss.flatten ∧ Below w.heap.size w w' := by
  obtain ⟨i0, hi, hz0, hz1, hz2⟩ := info_parts infoClause
  obtain ⟨T, hT⟩ : ∃ x, xss.flatten.length = x := ⟨_, rfl⟩
  have HT := Lib.hid hT
  rw [hT] at hs ⊢
  have HV := Lib.hid hv; have HX := Lib.hid hx; have HC := Lib.hid hc; have HVals := Lib.hid hvals
  have hle : ∀ k, lenK xss k ≤ T := fun k => by rw [← hT]; exact lenK_le xss k
  have HLe := Lib.hid hle
  clear hv hx hc hvals hle hT
  go_enter Tryz.func17, Tryz.ntmps17
  go_wp2_with fail
  go_loop [3, 11] (fun s i => SzRel xss N s i) (fun _ i => N - (intOf i).toNat)
  case atStart => exact ⟨0, 0, by omega, rfl, rfl, rfl⟩
  case round =>
    obtain ⟨k, n, hk, rfl, rfl, hn⟩ := hrel
    have hnT : n ≤ T := by rw [hn]; exact HLe.out k
    have HNk := Lib.hid hn
    clear hn
    by_cases hlt : k < N
    · obtain ⟨v, hv⟩ : ∃ v, vs[k]? = some v := ⟨_, List.getElem?_eq_getElem (by have := HV.out; omega)⟩
      obtain ⟨xs, hxs⟩ : ∃ xs, xss[k]? = some xs := ⟨_, List.getElem?_eq_getElem (by have := HX.out; omega)⟩
      have hva := HVals.out k v xs hv hxs
      obtain ⟨A, c, rfl⟩ := hva.shape
      have hcell := HC.out k _ hv
      have hnx : n + xs.length = lenK xss (k + 1) := by unfold lenK; rw [lenK_succ hxs, List.length_append, HNk.out]; rfl
      have hnT2 : n + xs.length ≤ T := by rw [hnx]; exact HLe.out _
      obtain ⟨q, hq⟩ : ∃ q, xs.length = q := ⟨_, rfl⟩
      rw [hq] at hnx hnT2 hcell
      have hki : (k : Int) < (N : Int) := by omega
      have HNx := Lib.hid hnx; have HLt := Lib.hid hlt
      clear hva hnx hv hxs hlt hq
      go_wp2_with fail
      go_round
      case rel => exact ⟨k + 1, n + q, HLt.out, by go_num, by go_num, HNx.out⟩
      case measure => simp [intOf]; have := HLt.out; omega
    · obtain rfl : k = N := by omega
      have hnT' : n = T := by rw [HNk.out, ← HT.out]; unfold lenK; rw [List.take_of_length_le (by have := HX.out; omega)]
      subst hnT'
      clear hlt
      go_wp2_with fail
      refine (growClause n (by omega) w).mono ?_
      rintro e w1 ⟨v, rfl, hr, hb⟩
      go_wp2_with fail
      go_loopw [6, 27] (fun o i wr => CcRel w xss k o i wr) (fun _ i _ => k - (intOf i).toNat)
      case atStart => exact ⟨0, 0, _, rfl, Nat.zero_le _, rfl, rfl, hb, hr⟩
      case round =>
        obtain ⟨j, q, v, rfl, hj, rfl, hq, hb', hr'⟩ := hrel
        have hqT : q ≤ n := by rw [hq]; exact HLe.out j
        have HQ := Lib.hid hq; have HR := Lib.hid hr'; have HB' := Lib.hid hb'
        clear hq hr' hb' hb hr
        by_cases hlt : j < k
        · obtain ⟨u, hu⟩ : ∃ v, vs[j]? = some v := ⟨_, List.getElem?_eq_getElem (by have := HV.out; omega)⟩
          obtain ⟨xs, hxs⟩ : ∃ xs, xss[j]? = some xs := ⟨_, List.getElem?_eq_getElem (by have := HX.out; omega)⟩
          have hva := (HVals.out j u xs hu hxs).below HB'.out
          obtain ⟨A, c, rfl⟩ := hva.shape
          have hcell := (HB'.out.cell (p := ⟨B, j, none⟩) hB).trans (HC.out j _ hu)
          have hnx : q + xs.length = lenK xss (j + 1) := by unfold lenK; rw [lenK_succ hxs, List.length_append, HQ.out]; rfl
          have hnT2 : q + xs.length ≤ n := by rw [hnx]; exact HLe.out _
          have hsn := lenK_succ hxs
          have hki : (j : Int) < (k : Int) := by omega
          have HNx := Lib.hid hnx; have HLt := Lib.hid hlt; have HVa := Lib.hid hva; have HSn := Lib.hid hsn
          clear hva hnx hu hxs hlt hsn
          go_wp2_with (at_builtin; refine wpList_append_vals rfl _ _ 22 rfl w.heap.size 41 i0 _ 24 Tryz.underlying22 hi hz0 hz1 hz2 rfl _ _ _ rfl HR.out _ xs rfl HVa.out (by unfold maxLen; omega) (by omega) HB'.out.size ?_; intro v' w2 hown' hb2)
          have hbn : Below w.heap.size w w2 := HB'.out.trans hb2
          rw [← HSn.out] at hown'
          have HO := Lib.hid hown'; have HBn := Lib.hid hbn
          clear hown' hb2 hbn
          go_roundw
          case rel => exact ⟨j + 1, _, _, rfl, HLt.out, by go_num, HNx.out, HBn.out, HO.out⟩
          case measure => simp [intOf]; have := HLt.out; omega
        · obtain rfl : j = k := by omega
          have hall : (xss.take j).flatten = xss.flatten := by rw [List.take_of_length_le (by have := HX.out; omega)]
          have hqn : q = n := by rw [HQ.out, ← HT.out]; unfold lenK; rw [hall]
          have hr' := HR.out
          rw [hall, hqn] at hr'
          have HR' := Lib.hid hr'
          clear hr' hall hqn hlt
          go_wp2_with fail
          go_ret
          exact ⟨_, rfl, HR'.out, HB'.out⟩
end Go.Proofs.YtmghmmkljplnfaaGreat
namespace Go.Proofs.YtmghmmkljplnfaaGreat
open Go.RowKit Go.ChangeAt Go.ChangeShapes Go.WideShapes Go.Shelf Go.Sort

theorem alw_norm (x : List Int) : alwB (normL x) = alwB x := by
  rw [Bool.eq_iff_iff, alwB_iff, alwB_iff]
  constructor
  · rintro ⟨a, h, h'⟩; exact ⟨a, norm_mem.1 h, norm_mem.1 h'⟩
  · rintro ⟨a, h, h'⟩; exact ⟨a, norm_mem.2 h, norm_mem.2 h'⟩
theorem raw_mem {L : List (List Int)} {c : List Int} : c ∈ nrmRaw L ↔ ∃ x ∈ L, alwB x = false ∧ normL x = c := by
  unfold nrmRaw
  rw [List.mem_map]
  constructor
  · rintro ⟨x, hx, e⟩
    have h := List.mem_filter.1 hx
    exact ⟨x, h.1, by simpa using h.2, e⟩
  · rintro ⟨x, hx, ha, e⟩
    exact ⟨x, List.mem_filter.2 ⟨hx, by simpa using ha⟩, e⟩
theorem nrmF_mem {L : List (List Int)} {c : List Int} : c ∈ nrmF L ↔ ∃ x ∈ L, alwB x = false ∧ normL x = c := ((nrmF_is L).2 c).trans raw_mem
theorem nrm_same {L M : List (List Int)} (h : ∀ c, c ∈ M ↔ c ∈ L) : nrmF M = nrmF L := nrm_unique (nrmF_is M).1 fun x => by
  rw [nrmF_mem, raw_mem]
  exact ⟨fun ⟨y, hy, k⟩ => ⟨y, (h y).1 hy, k⟩, fun ⟨y, hy, k⟩ => ⟨y, (h y).2 hy, k⟩⟩
theorem nrm_idem (L : List (List Int)) : nrmF (nrmF L) = nrmF L := (nrm_unique (nrmF_is L).1 fun x => by
  rw [raw_mem]
  constructor
  · intro h
    obtain ⟨y, hy, ha, e⟩ := nrmF_mem.1 h
    exact ⟨x, h, by rw [← e, alw_norm]; exact ha, by rw [← e, norm_norm]⟩
  · rintro ⟨c, hc, ha, e⟩
    obtain ⟨y, hy, ha', e'⟩ := nrmF_mem.1 hc
    rw [← e, ← e', norm_norm, e']
    exact hc).symm
theorem pair_len {α : Type} {R : α → α → Prop} (hR : ∀ a, ¬ R a a) : ∀ {l m : List α}, l.Pairwise R → (∀ x ∈ l, x ∈ m) → l.length ≤ m.length
  | [], _, _, _ => Nat.zero_le _
  | a :: l, m, hp, hm => by
    have hp' := List.pairwise_cons.1 hp
    have ha : a ∈ m := hm a (by simp)
    obtain ⟨s, t, rfl⟩ := List.append_of_mem ha
    have ih := pair_len hR (l := l) (m := s ++ t) hp'.2 fun x hx => by
      have h1 := hm x (by simp [hx])
      rw [List.mem_append, List.mem_cons] at h1
      rw [List.mem_append]
      rcases h1 with h | h | h
      · exact .inl h
      · exact absurd (hp'.1 x hx) (by rw [h]; exact hR a)
      · exact .inr h
    simp at ih ⊢
    omega
theorem nrm_len (L : List (List Int)) : (nrmF L).length ≤ L.length := by
  refine Nat.le_trans (pair_len (R := fun a b => clCmp a b < 0) (m := nrmRaw L) (fun a h => ?_) (nrmF_is L).1 fun x hx => ((nrmF_is L).2 x).1 hx) (nrmRaw_len L)
  have := clCmp_flip a a
  omega
theorem ok_nrm {L : List (List Int)} (h : Ok8 L) : Ok8 (nrmF L) := ⟨by have := nrm_len L; have := h.len; omega, fun zs hz => by
  obtain ⟨y, hy, -, rfl⟩ := nrmF_mem.1 hz
  exact ⟨by have := norm_length y; have := (h.cl y hy).1; omega, fun l hl => (h.cl y hy).2 l (norm_mem.1 hl)⟩⟩
theorem holds_norm (m : List Bool) (y : List Int) : holdsM m (normL y) = holdsM m y := by
  unfold holdsM
  rw [Bool.eq_iff_iff, List.any_eq_true, List.any_eq_true]
  exact ⟨fun ⟨x, h, k⟩ => ⟨x, norm_mem.1 h, k⟩, fun ⟨x, h, k⟩ => ⟨x, norm_mem.2 h, k⟩⟩
theorem alw_holds {m : List Bool} {y : List Int} (hl : ∀ l ∈ y, 1 ≤ l.natAbs) (h : alwB y = true) : holdsM m y = true := by
  obtain ⟨x, h1, h2⟩ := alwB_iff.1 h
  unfold holdsM
  rw [List.any_eq_true]
  cases hs : satB m x
  · exact ⟨-x, h2, by rw [sat_neg (hl x h1), hs]; rfl⟩
  · exact ⟨x, h1, hs⟩
theorem models_nrm {L : List (List Int)} (h : Ok8 L) : modelsB 8 (nrmF L) = modelsB 8 L := models_same fun m => by
  constructor
  · intro hm y hy
    cases ha : alwB y
    · rw [← holds_norm]
      exact hm _ (nrmF_mem.2 ⟨y, hy, ha, rfl⟩)
    · exact alw_holds (fun l hl => ((h.cl y hy).2 l hl).1) ha
  · intro hm c hc
    obtain ⟨y, hy, -, rfl⟩ := nrmF_mem.1 hc
    rw [holds_norm]
    exact hm y hy
/-! ### contracts -/
section
variable {w W : World} {fs : List (Value × List (List Int))} {ms : List (Value × List Bool)} {rs : List (Value × List (List Bool))} {ss : List (Nat × TypeId × Array Value)} {ds : List Nat} {v : Value} {L : List (List Int)}
theorem ev_norm (h : Ev w W fs ms rs ss ds) (hp : (v, L) ∈ fs) (hk : Ok8 L) {N : List (List Int)} (hN : nrmF L = N) (n : Nat) (hn : N.length = n) :
    Calls Tryz.prog 34 #[.agg #[.int .i64 8, v]] W fun e w' => ∃ A c, e = .returned (.tuple #[.agg #[.int .i64 8, .slice A n c], .int .i64 0]) ∧ Ev w w' ((.slice A n c, N) :: fs) ms rs ss ds :=
  (fonorm_ok 8 W (Nat.le_refl _) hk.short (h.f hp) hk.chk2).mono fun e w' ⟨v', he, ho, hB⟩ => by
    obtain ⟨A, c, rfl⟩ := ho.len
    rw [cellsL_len] at he ho
    rw [hN] at ho
    rw [hN, hn] at he
    rw [hn] at ho
    exact ⟨A, c, he, (h.on hB).addF ho.rowsL⟩
theorem ev_same (h : Ev w W fs ms rs ss ds) {v' : Value} (hp : (v, L) ∈ fs) (hp' : (v', L) ∈ fs) (hk : Ok8 L) :
    Calls Tryz.prog 30 #[.agg #[.int .i64 8, v], .agg #[.int .i64 8, v']] W fun e w' => e = .returned (.bool true) ∧ Ev w w' fs ms rs ss ds :=
  (fosame_any 8 8 W (Nat.le_refl _) (by have := hk.len; omega) hk.short hk.short (h.f hp) (h.f hp')).mono fun e w' ⟨he, hB⟩ => ⟨by rw [he]; simp, h.on hB⟩
end
def EqRel (w : World) (fs : List (Value × List (List Int))) (ms : List (Value × List Bool)) (rs : List (Value × List (List Bool))) (ss : List (Nat × TypeId × Array Value)) (ds : List Nat) (K : Nat) (i : Value) (wr : World) : Prop := ∃ k : Nat, k ≤ K ∧ i = .int .i64 k ∧ Ev w wr fs ms rs ss ds
def IcRel (w : World) (fs : List (Value × List (List Int))) (ms : List (Value × List Bool)) (rs : List (Value × List (List Bool))) (ss : List (Nat × TypeId × Array Value)) (ds : List Nat) (p : List Int → Bool) (l : List (List Int)) (i : Value) (wr : World) : Prop := ∃ k : Nat, k ≤ l.length ∧ i = .int .i64 k ∧ (l.take k).any p = false ∧ Ev w wr fs ms rs ss ds
end Go.Proofs.YtmghmmkljplnfaaGreat
namespace Go.Proofs.YtmghmmkljplnfaaGreat
open Go.RowKit Go.ChangeAt Go.ChangeShapes Go.WideShapes Go.Shelf Go.Sort

/-- Two lists go together, one by one. -/
def Pw (R : Value → List Int → Prop) (us : List Value) (M : List (List Int)) : Prop := us.length = M.length ∧ ∀ (j : Nat) (u : Value) (zs : List Int), us[j]? = some u → M[j]? = some zs → R u zs
theorem Pw.append {R : Value → List Int → Prop} {us vs : List Value} {M N : List (List Int)} (h : Pw R us M) (k : Pw R vs N) : Pw R (us ++ vs) (M ++ N) := by
  refine ⟨by rw [List.length_append, List.length_append, h.1, k.1], fun j u zs hu hz => ?_⟩
  rcases Nat.lt_or_ge j us.length with hj | hj
  · rw [List.getElem?_append_left hj] at hu
    rw [List.getElem?_append_left (by rw [← h.1]; exact hj)] at hz
    exact h.2 j u zs hu hz
  · rw [List.getElem?_append_right hj] at hu
    rw [List.getElem?_append_right (by rw [← h.1]; exact hj), ← h.1] at hz
    exact k.2 _ u zs hu hz
theorem Pw.take {R : Value → List Int → Prop} {us : List Value} {M : List (List Int)} (h : Pw R us M) (k : Nat) : Pw R (us.take k) (M.take k) := by
  refine ⟨by rw [List.length_take, List.length_take, h.1], fun j u zs hu hz => ?_⟩
  rw [List.getElem?_take] at hu hz
  split at hu
  · rename_i hj
    rw [if_pos hj] at hz
    exact h.2 j u zs hu hz
  · cases hu
theorem Pw.drop {R : Value → List Int → Prop} {us : List Value} {M : List (List Int)} (h : Pw R us M) (k : Nat) : Pw R (us.drop k) (M.drop k) := by
  refine ⟨by rw [List.length_drop, List.length_drop, h.1], fun j u zs hu hz => ?_⟩
  rw [List.getElem?_drop] at hu hz
  exact h.2 _ u zs hu hz
theorem Pw.nil {R : Value → List Int → Prop} : Pw R [] [] := ⟨rfl, fun j u zs h _ => by simp at h⟩
theorem rowF_keep {K : Nat → Prop} {W W' : World} {sv : Value} {xs : List Value} (h : RowF K W sv xs) (hk : Keeps K W W') : RowF K W' sv xs := by
  rcases h with e | ⟨b, off, cap, e, hl, hn, hc⟩
  · exact .inl e
  · have hb := hk.block b hl hn
    exact .inr ⟨b, off, cap, e, Nat.lt_of_lt_of_le hl hk.size, hn, fun j hj => ⟨(World.cell?_of_block hb).trans (hc j hj).1, (World.frozen?_of_block hb).trans (hc j hj).2⟩⟩
/-- A formula's clauses, none of which lies in the block p. -/
def KRows (p : Nat) (W : World) (v : Value) (L : List (List Int)) : Prop :=
  (∃ A c, v = .slice A 0 c ∧ (A = none → c = 0) ∧ L = []) ∨ ∃ b off cap, v = .slice (some ⟨b, off, none⟩) L.length cap ∧ b < W.heap.size ∧ b ≠ p ∧ ∀ (j : Nat) (zs : List Int), L[j]? = some zs → ∃ sv, W.cell? ⟨b, off + j, none⟩ = some sv ∧ W.frozen? ⟨b, off + j, none⟩ = false ∧ RowF (fun i => i = p) W sv (zs.map (Value.int .i64))
theorem KRows.keep {p : Nat} {W W' : World} {v : Value} {L : List (List Int)} (h : KRows p W v L) (hk : Keeps (fun i => i = p) W W') : KRows p W' v L := by
  rcases h with e | ⟨b, off, cap, e, hl, hn, hc⟩
  · exact .inl e
  · have hb := hk.block b hl hn
    refine .inr ⟨b, off, cap, e, Nat.lt_of_lt_of_le hl hk.size, hn, fun j zs hz => ?_⟩
    obtain ⟨sv, h1, h2, h3⟩ := hc j zs hz
    exact ⟨sv, (World.cell?_of_block hb).trans h1, (World.frozen?_of_block hb).trans h2, rowF_keep h3 hk⟩
theorem KRows.on {p : Nat} {W W' : World} {v : Value} {L : List (List Int)} (h : KRows p W v L) (hb : Below W.heap.size W W') : KRows p W' v L := h.keep (Keeps.of_below hb)
theorem KRows.set {p : Nat} {W : World} {v : Value} {L : List (List Int)} (h : KRows p W v L) (i : Nat) (u : Value) : KRows p (W.setCell ⟨p, i, none⟩ u) v L := h.keep ((Keeps.refl (fun i => i = p) W).setCell (p := ⟨p, i, none⟩) (.inl rfl) u)
theorem map_at {L : List (List Int)} {j : Nat} {xs : List Value} (hx : (L.map fun zs => zs.map (Value.int .i64))[j]? = some xs) : ∃ zs, L[j]? = some zs ∧ zs.map (Value.int .i64) = xs := by
  rw [List.getElem?_map] at hx
  cases h : L[j]? with
  | none => rw [h] at hx; cases hx
  | some zs => rw [h] at hx; exact ⟨zs, rfl, by simpa using hx⟩
theorem KRows.rows {p : Nat} {W : World} {v : Value} {L : List (List Int)} (h : KRows p W v L) : RowsL W.heap.size W v L := by
  rcases h with ⟨A, c, e, h0, rfl⟩ | ⟨b, off, cap, e, hl, hn, hc⟩
  · exact .inl ⟨A, c, e, h0, rfl⟩
  · refine .inr ⟨b, off, cap, by rw [List.length_map]; exact e, hl, fun j xs hx => ?_⟩
    obtain ⟨zs, hz, rfl⟩ := map_at hx
    obtain ⟨sv, h1, h2, h3⟩ := hc j zs hz
    exact ⟨sv, h1, h2, h3.rowV⟩
theorem krows_low {p : Nat} {W : World} {v : Value} {L : List (List Int)} (h : RowsL p W v L) (hp : p ≤ W.heap.size) : KRows p W v L := by
  rcases h with ⟨A, c, e, h0, h1⟩ | ⟨b, off, cap, e, hl, hc⟩
  · exact .inl ⟨A, c, e, h0, List.map_eq_nil_iff.1 h1⟩
  · refine .inr ⟨b, off, cap, by rw [List.length_map] at e; exact e, by omega, by omega, fun j zs hz => ?_⟩
    obtain ⟨sv, h1, h2, h3⟩ := hc j (zs.map (Value.int .i64)) (by rw [List.getElem?_map, hz]; rfl)
    refine ⟨sv, h1, h2, ?_⟩
    rcases h3 with e | ⟨b, off, cap, e, hl, hc⟩
    · exact .inl e
    · exact .inr ⟨b, off, cap, e, by omega, by omega, hc⟩
theorem krows_own {p B : Nat} {W : World} {v : Value} {L : List (List Int)} (h : OwnL B W v L) (hp : p < B) : KRows p W v L := by
  obtain ⟨svs, hrow, hl, hin⟩ := h
  rcases hrow.2 with ⟨rfl, h0⟩ | ⟨g, cap, cur, rfl, hb, hg, hn, hm, hs, ht⟩
  · exact .inl ⟨none, 0, rfl, fun _ => rfl, by rw [cellsL_len] at h0; exact List.eq_nil_of_length_eq_zero h0⟩
  · rw [cellsL_len] at hl
    refine .inr ⟨g, 0, cap, by rw [cellsL_len], (hrow.lt g rfl).2, by omega, fun j zs hz => ?_⟩
    obtain ⟨sv, h1, h2⟩ := hin j (zs.map (Value.int .i64)) (by simp [cellsL, hz])
    have hj := (List.getElem?_eq_some_iff.1 hz).1
    rw [Nat.zero_add]
    exact ⟨sv, (hrow.cellAt j (by rw [cellsL_len]; omega)).trans h1, hrow.frozenAt j, h2.less fun i hi => .inr (by omega)⟩
theorem krows_vals {p : Nat} {W : World} {b off m c : Nat} {L : List (List Int)} (h : KRows p W (.slice (some ⟨b, off, none⟩) m c) L) (hm : L.length = m) :
    ∃ us, Pw (fun u zs => RowF (fun i => i = p) W u (zs.map (Value.int .i64))) us L ∧ ∀ (j : Nat) (u : Value), us[j]? = some u → b < W.heap.size ∧ W.cell? ⟨b, off + j, none⟩ = some u ∧ u.oneCell' = true := by
  have hat : ∀ (j : Nat) (zs : List Int), L[j]? = some zs → ∃ sv, b < W.heap.size ∧ W.cell? ⟨b, off + j, none⟩ = some sv ∧ RowF (fun i => i = p) W sv (zs.map (Value.int .i64)) := fun j zs hz => by
    rcases h with ⟨A, c, e, h0, rfl⟩ | ⟨b', off', cap, e, hl, hn, hc⟩
    · simp at hz
    · injection e with e1 e2 e3
      obtain ⟨rfl, rfl⟩ : b = b' ∧ off = off' := by cases e1; exact ⟨rfl, rfl⟩
      obtain ⟨sv, h1, h2, h3⟩ := hc j zs hz
      exact ⟨sv, hl, h1, h3⟩
  refine ⟨(List.range m).map fun j => (W.cell? ⟨b, off + j, none⟩).getD undef, ⟨by simp [hm], fun j u zs hu hz => ?_⟩, fun j u hu => ?_⟩
  · obtain ⟨sv, -, h2, h3⟩ := hat j zs hz
    have hjm : j < m := by rw [← hm]; exact (List.getElem?_eq_some_iff.1 hz).1
    rw [List.getElem?_map, List.getElem?_range hjm, Option.map_some, h2] at hu
    injection hu with hu
    rw [← hu]
    exact h3
  · have hjm : j < m := by have := (List.getElem?_eq_some_iff.1 hu).1; simpa using this
    obtain ⟨zs, hz⟩ : ∃ zs, L[j]? = some zs := ⟨_, List.getElem?_eq_getElem (by omega)⟩
    obtain ⟨sv, h1, h2, h3⟩ := hat j zs hz
    rw [List.getElem?_map, List.getElem?_range hjm, Option.map_some, h2] at hu
    injection hu with hu
    have hu : sv = u := hu
    subst hu
    refine ⟨h1, h2, ?_⟩
    rcases h3 with ⟨A, c, rfl, -⟩ | ⟨b, off, cap, rfl, -⟩ <;> simp [Value.oneCell']
theorem vals_drop {W : World} {b off m c k : Nat} {us : List Value} (hm : us.length = m) (h : ∀ (j : Nat) (u : Value), us[j]? = some u → b < W.heap.size ∧ W.cell? ⟨b, off + j, none⟩ = some u ∧ u.oneCell' = true) : Vals W (.slice (some ⟨b, off + k, none⟩) (m - k) c) (us.drop k) :=
  .inr ⟨b, off + k, c, by rw [List.length_drop, hm], fun j u hu => by
    rw [List.getElem?_drop] at hu
    have := h _ u hu
    rw [Nat.add_assoc]
    exact this⟩
theorem vals_take {W : World} {b off m c k : Nat} {us : List Value} (hm : us.length = m) (hk : k ≤ m) (h : ∀ (j : Nat) (u : Value), us[j]? = some u → b < W.heap.size ∧ W.cell? ⟨b, off + j, none⟩ = some u ∧ u.oneCell' = true) : Vals W (.slice (some ⟨b, off, none⟩) k c) (us.take k) :=
  .inr ⟨b, off, c, by rw [List.length_take, hm, Nat.min_eq_left hk], fun j u hu => by
    rw [List.getElem?_take] at hu
    split at hu
    · exact h _ u hu
    · cases hu⟩
theorem krows_new {p : Nat} {W W' : World} {B : Nat} {v : Value} {us : List Value} {M : List (List Int)} (hown : W'.ownsRow B 41 1 v us.length us) (hB : p < B) (hb : Below W.heap.size W W') (hp : Pw (fun u zs => RowF (fun i => i = p) W u (zs.map (Value.int .i64))) us M) : KRows p W' v M := by
  rcases hown.2 with ⟨rfl, h0⟩ | ⟨g, cap, cur, rfl, hb1, hg, hn, hm, hs, ht⟩
  · exact .inl ⟨none, 0, rfl, fun _ => rfl, List.eq_nil_of_length_eq_zero (by rw [← hp.1, h0])⟩
  · have hul := hp.1
    refine .inr ⟨g, 0, cap, by rw [hul], (hown.lt g rfl).2, by omega, fun j zs hz => ?_⟩
    have hj : j < M.length := (List.getElem?_eq_some_iff.1 hz).1
    have hju : j < us.length := by omega
    exact ⟨us[j], by rw [Nat.zero_add, hown.cellAt j (by omega), List.getElem?_eq_getElem hju], by rw [Nat.zero_add]; exact hown.frozenAt j, (hp.2 j _ _ (List.getElem?_eq_getElem hju) hz).on hb⟩
theorem turn_any {W W1 : World} {B p : Nat} {s1 s2 : Value} {u1 u2 : List Value} {M1 M2 : List (List Int)} (h1 : Vals W s1 u1) (h2 : Vals W s2 u2) (p1 : Pw (fun u zs => RowF (fun i => i = p) W u (zs.map (Value.int .i64))) u1 M1) (p2 : Pw (fun u zs => RowF (fun i => i = p) W u (zs.map (Value.int .i64))) u2 M2) (n : Nat) (hn : M1.length + (M2.length + M2.length) = n) (hl : n ≤ 1000) (hpl : p < W.heap.size) (hb1 : Below W.heap.size W W1) (T : TypeId) (hW : Whole W1 B T #[s1, s2, s2]) :
    Calls Tryz.prog 17 #[.slice (some ⟨B, 0, none⟩) 3 3] W1 fun e w' => ∃ A' c', e = .returned (.slice A' n c') ∧ KRows p w' (.slice A' n c') (M1 ++ (M2 ++ M2)) ∧ Below W.heap.size W w' := by
  have hfl : [u1, u2, u2].flatten = u1 ++ (u2 ++ u2) := by simp
  have hp := p1.append (p2.append p2)
  have hlen : (u1 ++ (u2 ++ u2)).length = n := by rw [hp.1, List.length_append, List.length_append]; exact hn
  have hc := concatV B 3 [s1, s2, s2] [u1, u2, u2] rfl rfl (by omega) (by rw [hfl]; omega) W1 hW.lt
    (fun j v hv => by
      match j with
      | 0 => simp at hv; subst hv; exact hW.cell 0
      | 1 => simp at hv; subst hv; exact hW.cell 1
      | 2 => simp at hv; subst hv; exact hW.cell 2
      | j + 3 => simp at hv)
    (fun j v xs hv hx => by
      match j with
      | 0 => simp at hv hx; subst hv; subst hx; exact h1.below hb1
      | 1 => simp at hv hx; subst hv; subst hx; exact h2.below hb1
      | 2 => simp at hv hx; subst hv; subst hx; exact h2.below hb1
      | j + 3 => simp at hv)
  rw [hfl] at hc
  refine hc.mono fun e w' ⟨v, he, ho, hb⟩ => ?_
  have hbw := below_cat hb1 hb
  have hr := krows_new ho (by have := hb1.size; omega) hbw hp
  obtain ⟨A', c', rfl⟩ := own_shape0 ho
  rw [hlen] at he hr
  exact ⟨A', c', he, hr, hbw⟩
end Go.Proofs.YtmghmmkljplnfaaGreat
