/- The arena's All. -/
import Derived.Test.YtjkhhnfmefbohaaArOps
import Derived.Test.YtjkhhnfmefbohaaArDel
import Derived.Test.YtjkhhnfmefbohaaArBehind
import Derived.Test.YtjkhhnfmefbohaaRange
import Derived.RangeFuncBox
import Derived.RangeFuncNested
import Derived.RangeFuncLeaves
import Derived.Shelf.Abstract
import Derived.Shelf.AbstractIn
import Derived.Shelf.RegionOpen
import Derived.OwnWalkIn
import Derived.TacticsInMore
import Derived.LoopNIn
import Derived.LoopIn
import Derived.Stop.RegionWithIn
namespace Go.Proofs.Ytjkhhnfmefbohaa
open Go.RowKit Go.ChangeAt Go.ChangeShapes Go.WideShapes

attribute [local go_sem] Oper.semAt_some

/-- The number of the last clause that came. -/
def posOf (xs : List (Int × List Int)) : Int := (xs.getLast?.map (·.1)).getD 0
theorem posOf_snoc (xs : List (Int × List Int)) (x : Int × List Int) : posOf (xs ++ [x]) = x.1 := by simp [posOf]
/-- The next clause behind a number. -/
def nextOf (L : List (Int × List Int)) (p : Int) : Option (Int × List Int) := L.find? fun q => decide (p < q.1)
/-- Where a walk over an arena stands: what has come, the arena's blocks, and the block that the walk keeps for itself. -/
abbrev AllS := List (Int × List Int) × (Nat → Prop) × Option (Nat × Array Value)
/-- A clause is handed over: its literals lie in memory that is not the arena's. -/
def AllStep (Lof : List (Int × List Int) → List (Int × List Int)) (s : AllS) (x : Int × List Int) (args : Array Value) (W : World) : Prop :=
  nextOf (Lof s.1) (posOf s.1) = some x ∧ ∃ v B, args = #[.int .i64 x.1, v] ∧ W.ownsRow B 30 1 v x.2.length (x.2.map (Value.int .i64)) ∧ ∀ b, v.ownBlock = some b → ¬ s.2.1 b
def AllNx (s : AllS) (x : Int × List Int) (s' : AllS) : Prop := s'.1 = s.1 ++ [x] ∧ s'.2.2 = s.2.2
/-- The walk's own steps: what is new, and its block. -/
def AllLk (s : AllS) (W : World) (s' : AllS) (W' : World) : Prop :=
  s.1 = s'.1 ∧ s.2.1 = s'.2.1 ∧ ((s.2.2 = s'.2.2 ∧ Below W.heap.size W W') ∨ ∃ cs, s'.2.2 = some (W.heap.size, cs) ∧ W' = W.alloc (.cells cs 77))
theorem AllLk.odd {s s' : AllS} {W W' : World} (h : AllLk s W s' W') : Odd W W' := by
  obtain ⟨-, -, ⟨-, hb⟩ | ⟨cs, -, rfl⟩⟩ := h
  · exact Odd.of_below hb
  · exact Odd.of_below (below1a _ _)
def AllHas (g bx : Nat) (Lof : List (Int × List Int) → List (Int × List Int)) (s : AllS) (W : World) : Prop :=
  (∃ last, Ar s.2.1 W g (Lof s.1) last) ∧ W.cell? ⟨bx, 0, none⟩ = some (.pointer (some ⟨g, 0, none⟩)) ∧ ∀ b cs, s.2.2 = some (b, cs) → Whole W b 77 cs
/-- What the loop of All knows. -/
def AllRel (J : AllS → World → Prop) (g : Nat) (Lof : List (Int × List Int) → List (Int × List Int)) (i b : Value) (W : World) : Prop :=
  ∃ xs o K last es q, J (xs, K, o) W ∧ Arena K W g es last ∧ clO es = Lof xs ∧ i = .int .i64 (upTo es q : Nat) ∧ 0 ≤ q ∧ q ≤ 1073741824 ∧ posOf xs ≤ q ∧ (∀ x ∈ Lof xs, x.1 ≤ q → x.1 ≤ posOf xs) ∧
    ((b = undef ∧ q = 0) ∨ ∃ bb of ln, b = .pointer (some ⟨bb, 0, none⟩) ∧ o = some (bb, #[.int .i64 q, of, ln]))
def allLeft (b : Value) (W : World) : Nat :=
  match b with
  | .pointer (some p) => (1073741824 - (intOf ((W.cell? p).getD undef))).toNat
  | _ => 1073741825

theorem upTo_next {es : List Ent} (hp : es.Pairwise fun a b => a.id < b.id) {q : Int} {e : Ent} (hk : es[upTo es q]? = some e) : upTo es e.id = upTo es q + 1 := by
  have h1 := (upTo_lt hp (n := e.id) hk).1 (Int.le_refl _)
  have hl := (List.getElem?_eq_some_iff.1 hk).1
  have hle := upTo_le es e.id
  rcases Nat.lt_or_ge (upTo es q + 1) (upTo es e.id) with h | h
  · have hb : upTo es q + 1 < es.length := by omega
    have hk2 := List.getElem?_eq_getElem hb
    have h2 := (upTo_lt hp (n := e.id) hk2).2 h
    obtain ⟨_, he⟩ := List.getElem?_eq_some_iff.1 hk
    have h3 := List.pairwise_iff_getElem.1 hp (upTo es q) (upTo es q + 1) hl hb (by omega)
    rw [he] at h3
    omega
  · omega
theorem nextOf_mk {L : List (Int × List Int)} (hp : L.Pairwise fun a b => a.1 < b.1) {p : Int} {x : Int × List Int} (hx : x ∈ L) (hpx : p < x.1) (hn : ∀ y ∈ L, y.1 < x.1 → y.1 ≤ p) : nextOf L p = some x := by
  induction L with
  | nil => cases hx
  | cons y r ih =>
    obtain ⟨h1, h2⟩ := List.pairwise_cons.1 hp
    unfold nextOf at *
    by_cases hy : p < y.1
    · rw [List.find?_cons_of_pos (by simpa using hy)]
      rcases List.mem_cons.1 hx with rfl | hx
      · rfl
      · have := hn y (by simp) (h1 x hx)
        omega
    · rw [List.find?_cons_of_neg (by simpa using hy)]
      refine ih h2 ?_ (fun z hz => hn z (List.mem_cons_of_mem _ hz))
      rcases List.mem_cons.1 hx with rfl | hx
      · exact absurd hpx hy
      · exact hx
theorem allLeft_lt {o : Option (Nat × Array Value)} {u : Value} {q id : Int} {b : Nat} {wr w : World} (hb : (u = undef ∧ q = 0) ∨ ∃ bb of ln, u = .pointer (some ⟨bb, 0, none⟩) ∧ o = some (bb, #[.int .i64 q, of, ln])) (hW : ∀ b cs, o = some (b, cs) → Whole wr b 77 cs)
    (hq : q < id) (hi : id ≤ 1073741824) (hc : w.cell? ⟨b, 0, none⟩ = some (.int .i64 id)) : allLeft (.pointer (some ⟨b, 0, none⟩)) w < allLeft u wr := by
  have h1 : allLeft (.pointer (some ⟨b, 0, none⟩)) w = (1073741824 - id).toNat := by simp [allLeft, hc, intOf]
  rcases hb with ⟨rfl, rfl⟩ | ⟨bb, of, ln, rfl, ho⟩
  · rw [h1]
    show _ < 1073741825
    omega
  · have hcq : wr.cell? ⟨bb, 0, none⟩ = some (.int .i64 q) := (hW _ _ ho).cell 0
    have h2 : allLeft (.pointer (some ⟨bb, 0, none⟩)) wr = (1073741824 - q).toNat := by simp [allLeft, hcq, intOf]
    rw [h1, h2]
    omega

set_option maxRecDepth 100000 in
set_option maxHeartbeats 4000000 in
theorem all1_in (m : Nat) (hm : 1 ≤ m) (g bx : Nat) (Lof : List (Int × List Int) → List (Int × List Int)) (l : Nat) (J : AllS → World → Prop) (Jx : World → Prop)
    (hJ : ∀ s s' W W', AllLk s W s' W' → J s W → J s' W') (hJx : ∀ W W', Jx W → Below W.heap.size W W' → Jx W') (hA : ∀ s W, J s W → AllHas g bx Lof s W) (W : World) (K0 : Nat → Prop) (h0 : J ([], K0, none) W)
    (hY : ∀ s x args W, J s W → AllStep Lof s x args W → YieldAt .wide (m - 1) Try.prog l args W fun e W' => (e = .returned (.bool true) ∧ ∃ s', AllNx s x s' ∧ J s' W') ∨ (e = .returned (.bool false) ∧ Jx W')) :
    CallsIn .wide m Try.prog 43 #[.func (.yield l) #[] #[], .pointer (some ⟨bx, 0, none⟩)] W fun e W' => (∃ v, e = .returned v) ∧ ((∃ s : AllS, nextOf (Lof s.1) (posOf s.1) = none ∧ J s W') ∨ Jx W') := by
  refine callsIn_of_wp Try.func43 rfl trivial ?_ rfl
  simp only [Try.ntmps43, List.size_toArray, List.length_cons, List.length_nil, Nat.reduceAdd, Nat.reduceSub, Array.replicate_succ, Array.replicate_zero, List.push_toArray, List.append_toArray, List.nil_append, List.cons_append]
  obtain ⟨⟨last0, es0, hAr0, hL0, -⟩, hbx0, -⟩ := hA _ _ h0
  have hstart : AllRel J g Lof (.int .i64 0) undef W := ⟨[], none, K0, last0, es0, 0, h0, hAr0, hL0, by
    have : upTo es0 0 = 0 := by
      unfold upTo
      rw [List.countP_eq_zero]
      intro e he
      have := (hAr0.good.lo e he).1
      simp; omega
    rw [this]; rfl, by omega, by omega, by simp [posOf], (fun x _ h => by simpa [posOf] using h), .inl ⟨rfl, rfl⟩⟩
  have HAr0 := Lib.hid hAr0; have H0 := Lib.hid hstart; have HA := Lib.hid hA; have HY := Lib.hid hY; have HJ := Lib.hid hJ; have HJx := Lib.hid hJx
  clear hAr0 h0 hA hY hJ hL0 hstart hJx
  gi_wp2_with (refine ⟨trivial, ?_⟩; gi_at_call 40; refine (callsIn_wide.2 (orEmpty_yes _ HAr0.out)).mono ?_; rintro e w' ⟨rfl, rfl⟩)
  clear HAr0 hbx0
  gi_loopw [4, 5] (fun i b wr => AllRel J g Lof i b wr) (fun _ b wr => allLeft b wr)
  case atStart => exact H0.out
  case round =>
    clear H0
    obtain ⟨xs, o, K, last, es, q, hJs, hAr, hL, rfl, hq0, hq1, hpq, hskip, hb⟩ := hrel
    by_cases hlt : upTo es q < es.length
    · obtain ⟨e, hke⟩ : ∃ e, es[upTo es q]? = some e := ⟨es[upTo es q]'hlt, List.getElem?_eq_getElem _⟩
      obtain ⟨sv, ev, mm, nn, D, ⟨-, d1, -, -, -⟩, -, hgl, -, he, -, -, -⟩ := hAr.cells
      obtain ⟨bb, cap, rfl, hbl, e0, e1, e2⟩ := ent_cells he hke
      have hid := hAr.good.lo e (List.mem_of_getElem? hke)
      have hl1 := hAr.good.last1
      have hqe : q < e.id := by
        have := (upTo_lt hAr.good.inc (n := q) hke).1
        omega
      have hAb := fun cs => hAr.on (w' := (wr.alloc (.cells cs 77)).drew) ((below1a wr (.cells cs 77)).trans (Below.refl _ _).drew)
      have hJs' := fun cs => HJ.out (xs, K, o) (xs, K, some (wr.heap.size, cs)) wr (wr.alloc (.cells cs 77)) ⟨rfl, rfl, .inr ⟨cs, rfl, rfl⟩⟩ hJs
      have hbeh := fun (W' : World) (K' : Nat → Prop) (es' : List Ent) (last' : Int) (h : Arena K' W' g es' last') => behind_any e.id (by omega) (by omega) W' h
      have hgt : ∀ x ∈ Lof xs, x.1 ≤ e.id → x.1 ≤ posOf xs ∨ (e.on = true ∧ x = clE e) := by
        intro x hx hle
        rw [← hL] at hx
        obtain ⟨y, hy, rfl⟩ := List.mem_map.1 hx
        obtain ⟨hy1, hy2⟩ := List.mem_filter.1 hy
        obtain ⟨k, hk⟩ := List.mem_iff_getElem?.1 hy1
        by_cases hyq : y.id ≤ q
        · exact .inl (hskip _ (by rw [← hL]; exact hx) hyq)
        · right
          have hk1 : ¬ k < upTo es q := fun h => hyq ((upTo_lt hAr.good.inc (n := q) hk).2 h)
          have hk2 : k < upTo es e.id := (upTo_lt hAr.good.inc (n := e.id) hk).1 hle
          have := upTo_next hAr.good.inc hke
          obtain rfl : k = upTo es q := by omega
          rw [hke] at hk
          obtain rfl : e = y := by injection hk
          exact ⟨hy2, rfl⟩
      have hJ2 := fun cs => hJs' cs
      have hWo := (HA.out _ _ hJs).2.2
      have HBq := Lib.hid hb; have HWo := Lib.hid hWo
      have HJ2 := Lib.hid hJ2
      clear hJ2 hWo
      cases ho : e.on
      · have hh := has_no e.id (int_wf (by omega)) _ (hAb #[.int .i64 e.id, .int .i64 (offE es (upTo es q) : Nat), .int .i64 (e.ls.length : Nat)]) (isOn_off hAr.good.inc hke ho)
        have HH := Lib.hid hh; have HGt := Lib.hid hgt; have HAb := Lib.hid hAb; have HBe := Lib.hid hbeh; have HJs := Lib.hid hJs
        have HHL := Lib.hid hL; have HO := Lib.hid ho; clear hh hgt hAb hbeh hJs hAr he hke hskip hb hL ho hJs'
        obtain ⟨id, hID⟩ : ∃ i, e.id = i := ⟨_, rfl⟩
        obtain ⟨of, hOf⟩ : ∃ i, offE es (upTo es q) = i := ⟨_, rfl⟩
        obtain ⟨ln, hLn⟩ : ∃ i, e.ls.length = i := ⟨_, rfl⟩
        obtain ⟨uq, hUq⟩ : ∃ i, upTo es q = i := ⟨_, rfl⟩
        rw [hID] at e0 hid hqe HBe HGt
        rw [hOf] at e1
        rw [hLn] at e2
        rw [hID, hOf, hLn] at HH
        rw [hUq] at e0 e1 e2 hlt ⊢
        have HID := Lib.hid hID
        clear hOf hLn hUq hID
        gi_wp2
        refine wpIn_wide.2 (wp_region_any (by kernel_rfl) ?_)
        change wpAny _ _ _ _ _ _ _ (World.drew _)
        refine wpAny_take (i := 0) (v := .pointer (some ⟨g, 0, none⟩)) rfl (by kernel_rfl) (by kernel_rfl) (by kernel_rfl) (fun _ _ _ h => h) (Or.inl ⟨by kernel_rfl, fun w => by go_simp⟩) ?_
        refine wpAny_take (i := 1) (v := .pointer (some ⟨wr.heap.size, 0, none⟩)) rfl (by kernel_rfl) (by kernel_rfl) (by kernel_rfl) (fun _ _ _ h => h) (Or.inl ⟨by kernel_rfl, fun w => by go_simp⟩) ?_
        refine wpAny_ready (rs := [2]) (by kernel_rfl) (by simp) (AllReady.cons rfl (fun K hK => ?_) AllReady.nil)
        go_simp
        refine hK _ _ ?_
        clear hK K
        refine wpAny_ready (rs := [3]) (by kernel_rfl) (by simp) (AllReady.cons rfl (fun K hK => ?_) AllReady.nil)
        go_simp
        go_at_call 21
        refine (HH.out).mono ?_
        rintro r w3 ⟨rfl, hB3⟩
        go_simp
        refine hK _ _ ?_
        clear hK K
        refine wpAny_take (i := 4) (v := .bool false) rfl (by kernel_rfl) (by kernel_rfl) (by kernel_rfl) (fun _ _ _ h => h) (Or.inl ⟨by kernel_rfl, fun w => by go_simp⟩) ?_
        refine wpAny_take (i := 5) (v := undef) rfl (by kernel_rfl) (by kernel_rfl) (by kernel_rfl) (fun _ _ _ h => h) (Or.inr ⟨by kernel_rfl, rfl⟩) ?_
        refine wpAny_take (i := 6) (v := undef) rfl (by kernel_rfl) (by kernel_rfl) (by kernel_rfl) (fun _ _ _ h => h) (Or.inr ⟨by kernel_rfl, rfl⟩) ?_
        refine wpAny_take (i := 7) (v := undef) rfl (by kernel_rfl) (by kernel_rfl) (by kernel_rfl) (fun _ _ _ h => h) (Or.inr ⟨by kernel_rfl, rfl⟩) ?_
        refine wpAny_take (i := 8) (v := undef) rfl (by kernel_rfl) (by kernel_rfl) (by kernel_rfl) (fun _ _ _ h => h) (Or.inr ⟨by kernel_rfl, rfl⟩) ?_
        refine wpAny_take (i := 9) (v := undef) rfl (by kernel_rfl) (by kernel_rfl) (by kernel_rfl) (fun _ _ _ h => h) (Or.inr ⟨by kernel_rfl, rfl⟩) ?_
        refine wpAny_take (i := 10) (v := undef) rfl (by kernel_rfl) (by kernel_rfl) (by kernel_rfl) (fun _ _ _ h => h) (Or.inr ⟨by kernel_rfl, rfl⟩) ?_
        refine wpAny_take (i := 11) (v := undef) rfl (by kernel_rfl) (by kernel_rfl) (by kernel_rfl) (fun _ _ _ h => h) (Or.inr ⟨by kernel_rfl, rfl⟩) ?_
        refine wpAny_take (i := 12) (v := undef) rfl (by kernel_rfl) (by kernel_rfl) (by kernel_rfl) (fun _ _ _ h => h) (Or.inr ⟨by kernel_rfl, rfl⟩) ?_
        refine wpAny_take (i := 13) (v := undef) rfl (by kernel_rfl) (by kernel_rfl) (by kernel_rfl) (fun _ _ _ h => h) (Or.inr ⟨by kernel_rfl, rfl⟩) ?_
        refine wpAny_take (i := 14) (v := .bool false) rfl (by kernel_rfl) (by kernel_rfl) (by kernel_rfl) (fun _ _ _ h => h) (Or.inl ⟨by kernel_rfl, fun w => by go_simp⟩) ?_
        refine wpAny_done (by kernel_rfl) ?_ _
        have hbel : Below wr.heap.size wr w3 := (below1a wr _).trans ((Below.refl _ _).drew.trans (hB3.mono (by simp)))
        have hx : Whole w3 wr.heap.size 77 #[.int .i64 id, .int .i64 (of : Nat), .int .i64 (ln : Nat)] := (Whole.made wr 77 _).same (hB3.block wr.heap.size (by simp))
        have x0 : w3.cell? ⟨wr.heap.size, 0, none⟩ = some (.int .i64 id) := hx.cell 0
        have hA3 := (HAb.out _).on hB3
        have hb3 := HBe.out _ _ _ _ hA3
        have HB3 := Lib.hid hb3
        have HX := Lib.hid hx
        have HA3 := Lib.hid hA3
        clear hb3 hx hA3
        go_simp
        gi_wp2_with ((refine ⟨trivial, ?_⟩; gi_at_call 44; refine (callsIn_wide.2 HB3.out).mono ?_; rintro r w4 ⟨rfl, hB4⟩))
        refine ⟨⟨xs, some (wr.heap.size, #[.int .i64 id, .int .i64 (of : Nat), .int .i64 (ln : Nat)]), K, last, es, id, HJ.out _ (xs, K, some (wr.heap.size, #[.int .i64 id, .int .i64 (of : Nat), .int .i64 (ln : Nat)])) _ w4 ⟨rfl, rfl, .inl ⟨rfl, (Below.refl _ _).drew.trans ((hB3.mono (by simp)).trans (hB4.mono (by have := hB3.size; simpa using this)))⟩⟩ (HJ2.out _), HA3.out.on hB4, HHL.out, rfl, by omega, by omega, by omega, fun x hx hle => ?_, .inr ⟨_, _, _, rfl, rfl⟩⟩, allLeft_lt HBq.out HWo.out hqe (by omega) ((hB4.cell (p := ⟨wr.heap.size, 0, none⟩) HX.out.lt).trans x0)⟩
        rcases HGt.out x hx hle with h | ⟨h, -⟩
        · exact h
        · rw [HO.out] at h; cases h
      · have hh := has_yes _ (hAb #[.int .i64 e.id, .int .i64 (offE es (upTo es q) : Nat), .int .i64 (e.ls.length : Nat)]) hke ho
        have hLt := fun (W : World) (hA : Arena K W g es last) => literals_any e.id W hA hke
        have hll : e.ls.length ≤ 2000000 := by have := hAr.good.ls_le hke ho; omega
        have hnext : nextOf (Lof xs) (posOf xs) = some (e.id, e.ls) := by
          refine nextOf_mk (by rw [← hL]; exact clO_inc hAr.good.inc) (by rw [← hL]; exact List.mem_map.2 ⟨e, List.mem_filter.2 ⟨List.mem_of_getElem? hke, ho⟩, rfl⟩) (by show posOf xs < e.id; omega) fun y hy hlt => ?_
          have hle : y.1 < e.id := hlt
          rcases hgt y hy (by omega) with h | ⟨-, h⟩
          · exact h
          · rw [h] at hle; exact absurd hle (Int.lt_irrefl _)
        have HH := Lib.hid hh; have HLt := Lib.hid hLt; have HN := Lib.hid hnext; have HAb := Lib.hid hAb
        clear hh hgt hAb hbeh hJs hAr he hke hskip hb hL ho hJs' hLt hnext
        obtain ⟨id, hID⟩ : ∃ i, e.id = i := ⟨_, rfl⟩
        obtain ⟨of, hOf⟩ : ∃ i, offE es (upTo es q) = i := ⟨_, rfl⟩
        obtain ⟨ln, hLn⟩ : ∃ i, e.ls.length = i := ⟨_, rfl⟩
        obtain ⟨uq, hUq⟩ : ∃ i, upTo es q = i := ⟨_, rfl⟩
        rw [hID] at e0 hid hqe
        rw [hOf] at e1
        rw [hLn] at e2
        rw [hID, hOf, hLn] at HH HLt
        rw [hID] at HN
        rw [hUq] at e0 e1 e2 hlt ⊢
        clear hOf hLn hUq hID
        gi_wp2
        refine wpIn_region_any (by kernel_rfl) ?_
        change wpAnyIn _ _ _ _ _ _ _ _ _ (World.drew _)
        refine wpAnyIn_take (i := 0) (v := .pointer (some ⟨g, 0, none⟩)) rfl rfl (by kernel_rfl) (by kernel_rfl) (by kernel_rfl) (fun _ _ _ h => h) ⟨Or.inl ⟨by kernel_rfl, fun w => by go_simp⟩, fun _ => rfl⟩ ?_
        refine wpAnyIn_take (i := 1) (v := .pointer (some ⟨wr.heap.size, 0, none⟩)) rfl rfl (by kernel_rfl) (by kernel_rfl) (by kernel_rfl) (fun _ _ _ h => h) ⟨Or.inl ⟨by kernel_rfl, fun w => by go_simp⟩, fun _ => rfl⟩ ?_
        refine wpAnyIn_ready (rs := [2]) (by kernel_rfl) (by simp) (AllReadyIn.cons rfl (fun K hK => ?_) AllReadyIn.nil)
        go_simp
        refine hK _ _ ?_
        clear hK K
        refine wpAnyIn_ready (rs := [3]) (by kernel_rfl) (by simp) (AllReadyIn.cons rfl (fun K hK => ?_) AllReadyIn.nil)
        go_simp
        refine ⟨trivial, ?_⟩
        gi_at_call 21
        refine (callsIn_wide.2 HH.out).mono ?_
        rintro r w3 ⟨rfl, hB3⟩
        go_simp
        refine hK _ _ ?_
        clear hK K
        have hx3 : Whole w3 wr.heap.size 77 #[.int .i64 id, .int .i64 (of : Nat), .int .i64 (ln : Nat)] := (Whole.made wr 77 _).same (hB3.block wr.heap.size (by simp))
        have x30 : w3.cell? ⟨wr.heap.size, 0, none⟩ = some (.int .i64 id) := hx3.cell 0
        have x31 : w3.cell? ⟨wr.heap.size, 1, none⟩ = some (.int .i64 (of : Nat)) := hx3.cell 1
        have x32 : w3.cell? ⟨wr.heap.size, 2, none⟩ = some (.int .i64 (ln : Nat)) := hx3.cell 2
        have hA3 := (HAb.out _).on hB3
        have hL3 := HLt.out w3 hA3
        have hJ3 : J (xs, K, some (wr.heap.size, #[.int .i64 id, .int .i64 (of : Nat), .int .i64 (ln : Nat)])) w3 := HJ.out _ _ _ _ ⟨rfl, rfl, .inl ⟨rfl, (Below.refl _ _).drew.trans (hB3.mono (by simp))⟩⟩ (HJ2.out _)
        have hkb : ∀ (v : Value) (w4 w5 : World) (xs : List Value) (n : Nat), Below w3.heap.size w3 w4 → w5.ownsRow w4.heap.size 30 1 v n xs → ∀ b, v.ownBlock = some b → ¬ K b := fun v w4 w5 xs n hb hr b e x => by have h1 := (hr.lt b e).1; have h2 := hA3.kok.lt x; have h3 := hb.size; omega
        have HKb := Lib.hid hkb; clear hkb
        have HL3 := Lib.hid hL3; have HJ3 := Lib.hid hJ3; have HX3 := Lib.hid hx3
        clear hL3 hJ3 hx3 hA3
        refine wpAnyIn_take (i := 4) (v := .bool true) rfl rfl (by kernel_rfl) (by kernel_rfl) (by kernel_rfl) (fun _ _ _ h => h) ⟨Or.inl ⟨by kernel_rfl, fun w => by go_simp⟩, fun _ => rfl⟩ ?_
        refine wpAnyIn_take (i := 5) (v := .func (.yield l) #[] #[]) rfl rfl (by kernel_rfl) (by kernel_rfl) (by kernel_rfl) (fun _ _ _ h => h) ⟨Or.inl ⟨by kernel_rfl, fun w => by go_simp⟩, fun _ => rfl⟩ ?_
        refine wpAnyIn_take (i := 6) (v := .pointer (some ⟨wr.heap.size, 0, none⟩)) rfl rfl (by kernel_rfl) (by kernel_rfl) (by kernel_rfl) (fun _ _ _ h => h) ⟨Or.inl ⟨by kernel_rfl, fun w => by go_simp⟩, fun _ => rfl⟩ ?_
        refine wpAnyIn_take (i := 8) (v := .pointer (some ⟨g, 0, none⟩)) rfl rfl (by kernel_rfl) (by kernel_rfl) (by kernel_rfl) (fun _ _ _ h => h) ⟨Or.inl ⟨by kernel_rfl, fun w => by go_simp⟩, fun _ => rfl⟩ ?_
        refine wpAnyIn_ready (rs := [7, 9]) (by kernel_rfl) (by simp) (AllReadyIn.cons rfl (fun K hK => ?_) (AllReadyIn.cons rfl (fun K hK => ?_) AllReadyIn.nil))
        · skip
          go_simp
          refine hK _ _ ?_
          clear hK K
          refine wpAnyIn_ready (rs := [9]) (by kernel_rfl) (by simp) (AllReadyIn.cons rfl (fun K hK => ?_) AllReadyIn.nil)
          go_simp
          refine hK _ _ ?_
          clear hK K
          refine wpAnyIn_ready (rs := [10]) (by kernel_rfl) (by simp) (AllReadyIn.cons rfl (fun K hK => ?_) AllReadyIn.nil)
          go_simp
          refine ⟨trivial, ?_⟩
          gi_at_call 42
          refine (callsIn_wide.2 HL3.out).mono ?_
          rintro r w4 ⟨v4, rfl, hI4, hB4⟩
          go_simp
          refine hK _ _ ?_
          clear hK K
          have x40 : w4.cell? ⟨wr.heap.size, 0, none⟩ = some (.int .i64 id) := (hB4.cell (p := ⟨wr.heap.size, 0, none⟩) HX3.out.lt).trans x30
          have HI4 := Lib.hid hI4; have HB4 := Lib.hid hB4
          clear hI4
          refine wpAnyIn_ready (rs := [11]) (by kernel_rfl) (by simp) (AllReadyIn.cons rfl (fun K hK => ?_) AllReadyIn.nil)
          go_simp
          refine ⟨trivial, ?_⟩
          gi_at_call 41
          refine (callsIn_wide.2 (fresh_any _ v4 e.ls hll _ HI4.out)).mono ?_
          rintro r w5 ⟨v5, rfl, hr5, hB5⟩
          go_simp
          refine hK _ _ ?_
          clear hK K
          have x50 : w5.cell? ⟨wr.heap.size, 0, none⟩ = some (.int .i64 id) := (hB5.cell (p := ⟨wr.heap.size, 0, none⟩) (Nat.lt_of_lt_of_le HX3.out.lt hB4.size)).trans x40
          have hJ5 : J (xs, K, some (wr.heap.size, #[.int .i64 id, .int .i64 (of : Nat), .int .i64 (ln : Nat)])) w5 := HJ.out _ _ _ _ ⟨rfl, rfl, .inl ⟨rfl, hB4.trans (hB5.mono hB4.size)⟩⟩ HJ3.out
          have HR5 := Lib.hid hr5; have HJ5 := Lib.hid hJ5
          clear hr5 hJ5
          obtain ⟨fn, tmps, assign, body, hy, hR⟩ := HY.out _ (id, e.ls) _ w5 HJ5.out ⟨HN.out, v5, _, rfl, HR5.out, HKb.out v5 w4 w5 _ _ HB4.out HR5.out⟩
          dsimp only at hy
          refine wpAnyIn_ready (rs := [12]) (by kernel_rfl) (by simp) (AllReadyIn.cons rfl (fun K hK => ?_) AllReadyIn.nil)
          go_simp
          refine hR.mono ?_
          rintro r w6 (⟨rfl, ⟨xs6, K6, o6⟩, ⟨hx6a, ho6⟩, hJ6⟩ | ⟨rfl, hJ6⟩)
          · skip
            dsimp only at hx6a ho6
            subst hx6a ho6
            have HJ6 := Lib.hid hJ6
            clear hJ6 hR hy
            go_simp
            refine hK _ _ ?_
            clear hK K
            obtain ⟨⟨last6, es6, hAr6, hL6, -⟩, -, hW6⟩ := HA.out _ _ HJ6.out
            have hx6 := hW6 _ _ rfl
            have x60 : w6.cell? ⟨wr.heap.size, 0, none⟩ = some (.int .i64 id) := hx6.cell 0
            have hb6 := behind_any id (by omega) (by omega) _ hAr6
            have HB6 := Lib.hid hb6; have HA6 := Lib.hid hAr6; have HL6 := Lib.hid hL6; have HX6 := Lib.hid hx6
            clear hb6 hAr6 hL6 hW6 hx6
            refine wpAnyIn_take (i := 13) (v := .bool false) rfl rfl (by kernel_rfl) (by kernel_rfl) (by kernel_rfl) (fun _ _ _ h => h) ⟨Or.inl ⟨by kernel_rfl, fun w => by go_simp⟩, fun _ => rfl⟩ ?_
            refine wpAnyIn_take (i := 14) (v := .bool false) rfl rfl (by kernel_rfl) (by kernel_rfl) (by kernel_rfl) (fun _ _ _ h => h) ⟨Or.inl ⟨by kernel_rfl, fun w => by go_simp⟩, fun _ => rfl⟩ ?_
            refine wpAnyIn_done (by kernel_rfl) ?_ _
            go_simp
            gi_wp2_with ((refine ⟨trivial, ?_⟩; gi_at_call 44; refine (callsIn_wide.2 HB6.out).mono ?_; rintro r w7 ⟨rfl, hB7⟩))
            refine ⟨⟨xs ++ [(id, e.ls)], some (wr.heap.size, #[.int .i64 id, .int .i64 (of : Nat), .int .i64 (ln : Nat)]), K6, last6, es6, id, HJ.out _ _ _ w7 ⟨rfl, rfl, .inl ⟨rfl, hB7⟩⟩ HJ6.out, HA6.out.on hB7, HL6.out, rfl, by omega, by omega, by rw [posOf_snoc]; exact Int.le_refl _, fun x _ hle => by rw [posOf_snoc]; exact hle, .inr ⟨_, _, _, rfl, rfl⟩⟩, allLeft_lt HBq.out HWo.out hqe (by omega) ((hB7.cell (p := ⟨wr.heap.size, 0, none⟩) HX6.out.lt).trans x60)⟩
          · skip
            have HJ6 := Lib.hid hJ6
            clear hJ6 hR hy
            go_simp
            refine hK _ _ ?_
            clear hK K
            refine wpAnyIn_take (i := 13) (v := .bool true) rfl rfl (by kernel_rfl) (by kernel_rfl) (by kernel_rfl) (fun _ _ _ h => h) ⟨Or.inl ⟨by kernel_rfl, fun w => by go_simp⟩, fun _ => rfl⟩ ?_
            refine wpAnyIn_take (i := 14) (v := .bool true) rfl rfl (by kernel_rfl) (by kernel_rfl) (by kernel_rfl) (fun _ _ _ h => h) ⟨Or.inl ⟨by kernel_rfl, fun w => by go_simp⟩, fun _ => rfl⟩ ?_
            refine wpAnyIn_done (by kernel_rfl) ?_ _
            go_simp
            gi_wp2
            refine bodyPost_ret (results_none rfl _ _ _) rfl ?_
            exact ⟨⟨_, rfl⟩, .inr HJ6.out⟩
        · skip
          go_simp
          refine hK _ _ ?_
          clear hK K
          refine wpAnyIn_ready (rs := [7, 10]) (by kernel_rfl) (by simp) (AllReadyIn.cons rfl (fun K hK => ?_) (AllReadyIn.cons rfl (fun K hK => ?_) AllReadyIn.nil))
          · skip
            go_simp
            refine hK _ _ ?_
            clear hK K
            refine wpAnyIn_ready (rs := [10]) (by kernel_rfl) (by simp) (AllReadyIn.cons rfl (fun K hK => ?_) AllReadyIn.nil)
            go_simp
            refine ⟨trivial, ?_⟩
            gi_at_call 42
            refine (callsIn_wide.2 HL3.out).mono ?_
            rintro r w4 ⟨v4, rfl, hI4, hB4⟩
            go_simp
            refine hK _ _ ?_
            clear hK K
            have x40 : w4.cell? ⟨wr.heap.size, 0, none⟩ = some (.int .i64 id) := (hB4.cell (p := ⟨wr.heap.size, 0, none⟩) HX3.out.lt).trans x30
            have HI4 := Lib.hid hI4; have HB4 := Lib.hid hB4
            clear hI4
            refine wpAnyIn_ready (rs := [11]) (by kernel_rfl) (by simp) (AllReadyIn.cons rfl (fun K hK => ?_) AllReadyIn.nil)
            go_simp
            refine ⟨trivial, ?_⟩
            gi_at_call 41
            refine (callsIn_wide.2 (fresh_any _ v4 e.ls hll _ HI4.out)).mono ?_
            rintro r w5 ⟨v5, rfl, hr5, hB5⟩
            go_simp
            refine hK _ _ ?_
            clear hK K
            have x50 : w5.cell? ⟨wr.heap.size, 0, none⟩ = some (.int .i64 id) := (hB5.cell (p := ⟨wr.heap.size, 0, none⟩) (Nat.lt_of_lt_of_le HX3.out.lt hB4.size)).trans x40
            have hJ5 : J (xs, K, some (wr.heap.size, #[.int .i64 id, .int .i64 (of : Nat), .int .i64 (ln : Nat)])) w5 := HJ.out _ _ _ _ ⟨rfl, rfl, .inl ⟨rfl, hB4.trans (hB5.mono hB4.size)⟩⟩ HJ3.out
            have HR5 := Lib.hid hr5; have HJ5 := Lib.hid hJ5
            clear hr5 hJ5
            obtain ⟨fn, tmps, assign, body, hy, hR⟩ := HY.out _ (id, e.ls) _ w5 HJ5.out ⟨HN.out, v5, _, rfl, HR5.out, HKb.out v5 w4 w5 _ _ HB4.out HR5.out⟩
            dsimp only at hy
            refine wpAnyIn_ready (rs := [12]) (by kernel_rfl) (by simp) (AllReadyIn.cons rfl (fun K hK => ?_) AllReadyIn.nil)
            go_simp
            refine hR.mono ?_
            rintro r w6 (⟨rfl, ⟨xs6, K6, o6⟩, ⟨hx6a, ho6⟩, hJ6⟩ | ⟨rfl, hJ6⟩)
            · skip
              dsimp only at hx6a ho6
              subst hx6a ho6
              have HJ6 := Lib.hid hJ6
              clear hJ6 hR hy
              go_simp
              refine hK _ _ ?_
              clear hK K
              obtain ⟨⟨last6, es6, hAr6, hL6, -⟩, -, hW6⟩ := HA.out _ _ HJ6.out
              have hx6 := hW6 _ _ rfl
              have x60 : w6.cell? ⟨wr.heap.size, 0, none⟩ = some (.int .i64 id) := hx6.cell 0
              have hb6 := behind_any id (by omega) (by omega) _ hAr6
              have HB6 := Lib.hid hb6; have HA6 := Lib.hid hAr6; have HL6 := Lib.hid hL6; have HX6 := Lib.hid hx6
              clear hb6 hAr6 hL6 hW6 hx6
              refine wpAnyIn_take (i := 13) (v := .bool false) rfl rfl (by kernel_rfl) (by kernel_rfl) (by kernel_rfl) (fun _ _ _ h => h) ⟨Or.inl ⟨by kernel_rfl, fun w => by go_simp⟩, fun _ => rfl⟩ ?_
              refine wpAnyIn_take (i := 14) (v := .bool false) rfl rfl (by kernel_rfl) (by kernel_rfl) (by kernel_rfl) (fun _ _ _ h => h) ⟨Or.inl ⟨by kernel_rfl, fun w => by go_simp⟩, fun _ => rfl⟩ ?_
              refine wpAnyIn_done (by kernel_rfl) ?_ _
              go_simp
              gi_wp2_with ((refine ⟨trivial, ?_⟩; gi_at_call 44; refine (callsIn_wide.2 HB6.out).mono ?_; rintro r w7 ⟨rfl, hB7⟩))
              refine ⟨⟨xs ++ [(id, e.ls)], some (wr.heap.size, #[.int .i64 id, .int .i64 (of : Nat), .int .i64 (ln : Nat)]), K6, last6, es6, id, HJ.out _ _ _ w7 ⟨rfl, rfl, .inl ⟨rfl, hB7⟩⟩ HJ6.out, HA6.out.on hB7, HL6.out, rfl, by omega, by omega, by rw [posOf_snoc]; exact Int.le_refl _, fun x _ hle => by rw [posOf_snoc]; exact hle, .inr ⟨_, _, _, rfl, rfl⟩⟩, allLeft_lt HBq.out HWo.out hqe (by omega) ((hB7.cell (p := ⟨wr.heap.size, 0, none⟩) HX6.out.lt).trans x60)⟩
            · skip
              have HJ6 := Lib.hid hJ6
              clear hJ6 hR hy
              go_simp
              refine hK _ _ ?_
              clear hK K
              refine wpAnyIn_take (i := 13) (v := .bool true) rfl rfl (by kernel_rfl) (by kernel_rfl) (by kernel_rfl) (fun _ _ _ h => h) ⟨Or.inl ⟨by kernel_rfl, fun w => by go_simp⟩, fun _ => rfl⟩ ?_
              refine wpAnyIn_take (i := 14) (v := .bool true) rfl rfl (by kernel_rfl) (by kernel_rfl) (by kernel_rfl) (fun _ _ _ h => h) ⟨Or.inl ⟨by kernel_rfl, fun w => by go_simp⟩, fun _ => rfl⟩ ?_
              refine wpAnyIn_done (by kernel_rfl) ?_ _
              go_simp
              gi_wp2
              refine bodyPost_ret (results_none rfl _ _ _) rfl ?_
              exact ⟨⟨_, rfl⟩, .inr HJ6.out⟩
          · skip
            go_simp
            refine ⟨trivial, ?_⟩
            gi_at_call 42
            refine (callsIn_wide.2 HL3.out).mono ?_
            rintro r w4 ⟨v4, rfl, hI4, hB4⟩
            go_simp
            refine hK _ _ ?_
            clear hK K
            have x40 : w4.cell? ⟨wr.heap.size, 0, none⟩ = some (.int .i64 id) := (hB4.cell (p := ⟨wr.heap.size, 0, none⟩) HX3.out.lt).trans x30
            have HI4 := Lib.hid hI4; have HB4 := Lib.hid hB4
            clear hI4
            refine wpAnyIn_ready (rs := [7, 11]) (by kernel_rfl) (by simp) (AllReadyIn.cons rfl (fun K hK => ?_) (AllReadyIn.cons rfl (fun K hK => ?_) AllReadyIn.nil))
            · skip
              go_simp
              refine hK _ _ ?_
              clear hK K
              refine wpAnyIn_ready (rs := [11]) (by kernel_rfl) (by simp) (AllReadyIn.cons rfl (fun K hK => ?_) AllReadyIn.nil)
              go_simp
              refine ⟨trivial, ?_⟩
              gi_at_call 41
              refine (callsIn_wide.2 (fresh_any _ v4 e.ls hll _ HI4.out)).mono ?_
              rintro r w5 ⟨v5, rfl, hr5, hB5⟩
              go_simp
              refine hK _ _ ?_
              clear hK K
              have x50 : w5.cell? ⟨wr.heap.size, 0, none⟩ = some (.int .i64 id) := (hB5.cell (p := ⟨wr.heap.size, 0, none⟩) (Nat.lt_of_lt_of_le HX3.out.lt hB4.size)).trans x40
              have hJ5 : J (xs, K, some (wr.heap.size, #[.int .i64 id, .int .i64 (of : Nat), .int .i64 (ln : Nat)])) w5 := HJ.out _ _ _ _ ⟨rfl, rfl, .inl ⟨rfl, hB4.trans (hB5.mono hB4.size)⟩⟩ HJ3.out
              have HR5 := Lib.hid hr5; have HJ5 := Lib.hid hJ5
              clear hr5 hJ5
              obtain ⟨fn, tmps, assign, body, hy, hR⟩ := HY.out _ (id, e.ls) _ w5 HJ5.out ⟨HN.out, v5, _, rfl, HR5.out, HKb.out v5 w4 w5 _ _ HB4.out HR5.out⟩
              dsimp only at hy
              refine wpAnyIn_ready (rs := [12]) (by kernel_rfl) (by simp) (AllReadyIn.cons rfl (fun K hK => ?_) AllReadyIn.nil)
              go_simp
              refine hR.mono ?_
              rintro r w6 (⟨rfl, ⟨xs6, K6, o6⟩, ⟨hx6a, ho6⟩, hJ6⟩ | ⟨rfl, hJ6⟩)
              · skip
                dsimp only at hx6a ho6
                subst hx6a ho6
                have HJ6 := Lib.hid hJ6
                clear hJ6 hR hy
                go_simp
                refine hK _ _ ?_
                clear hK K
                obtain ⟨⟨last6, es6, hAr6, hL6, -⟩, -, hW6⟩ := HA.out _ _ HJ6.out
                have hx6 := hW6 _ _ rfl
                have x60 : w6.cell? ⟨wr.heap.size, 0, none⟩ = some (.int .i64 id) := hx6.cell 0
                have hb6 := behind_any id (by omega) (by omega) _ hAr6
                have HB6 := Lib.hid hb6; have HA6 := Lib.hid hAr6; have HL6 := Lib.hid hL6; have HX6 := Lib.hid hx6
                clear hb6 hAr6 hL6 hW6 hx6
                refine wpAnyIn_take (i := 13) (v := .bool false) rfl rfl (by kernel_rfl) (by kernel_rfl) (by kernel_rfl) (fun _ _ _ h => h) ⟨Or.inl ⟨by kernel_rfl, fun w => by go_simp⟩, fun _ => rfl⟩ ?_
                refine wpAnyIn_take (i := 14) (v := .bool false) rfl rfl (by kernel_rfl) (by kernel_rfl) (by kernel_rfl) (fun _ _ _ h => h) ⟨Or.inl ⟨by kernel_rfl, fun w => by go_simp⟩, fun _ => rfl⟩ ?_
                refine wpAnyIn_done (by kernel_rfl) ?_ _
                go_simp
                gi_wp2_with ((refine ⟨trivial, ?_⟩; gi_at_call 44; refine (callsIn_wide.2 HB6.out).mono ?_; rintro r w7 ⟨rfl, hB7⟩))
                refine ⟨⟨xs ++ [(id, e.ls)], some (wr.heap.size, #[.int .i64 id, .int .i64 (of : Nat), .int .i64 (ln : Nat)]), K6, last6, es6, id, HJ.out _ _ _ w7 ⟨rfl, rfl, .inl ⟨rfl, hB7⟩⟩ HJ6.out, HA6.out.on hB7, HL6.out, rfl, by omega, by omega, by rw [posOf_snoc]; exact Int.le_refl _, fun x _ hle => by rw [posOf_snoc]; exact hle, .inr ⟨_, _, _, rfl, rfl⟩⟩, allLeft_lt HBq.out HWo.out hqe (by omega) ((hB7.cell (p := ⟨wr.heap.size, 0, none⟩) HX6.out.lt).trans x60)⟩
              · skip
                have HJ6 := Lib.hid hJ6
                clear hJ6 hR hy
                go_simp
                refine hK _ _ ?_
                clear hK K
                refine wpAnyIn_take (i := 13) (v := .bool true) rfl rfl (by kernel_rfl) (by kernel_rfl) (by kernel_rfl) (fun _ _ _ h => h) ⟨Or.inl ⟨by kernel_rfl, fun w => by go_simp⟩, fun _ => rfl⟩ ?_
                refine wpAnyIn_take (i := 14) (v := .bool true) rfl rfl (by kernel_rfl) (by kernel_rfl) (by kernel_rfl) (fun _ _ _ h => h) ⟨Or.inl ⟨by kernel_rfl, fun w => by go_simp⟩, fun _ => rfl⟩ ?_
                refine wpAnyIn_done (by kernel_rfl) ?_ _
                go_simp
                gi_wp2
                refine bodyPost_ret (results_none rfl _ _ _) rfl ?_
                exact ⟨⟨_, rfl⟩, .inr HJ6.out⟩
            · skip
              go_simp
              refine ⟨trivial, ?_⟩
              gi_at_call 41
              refine (callsIn_wide.2 (fresh_any _ v4 e.ls hll _ HI4.out)).mono ?_
              rintro r w5 ⟨v5, rfl, hr5, hB5⟩
              go_simp
              refine hK _ _ ?_
              clear hK K
              have x50 : w5.cell? ⟨wr.heap.size, 0, none⟩ = some (.int .i64 id) := (hB5.cell (p := ⟨wr.heap.size, 0, none⟩) (Nat.lt_of_lt_of_le HX3.out.lt hB4.size)).trans x40
              have hJ5 : J (xs, K, some (wr.heap.size, #[.int .i64 id, .int .i64 (of : Nat), .int .i64 (ln : Nat)])) w5 := HJ.out _ _ _ _ ⟨rfl, rfl, .inl ⟨rfl, hB4.trans (hB5.mono hB4.size)⟩⟩ HJ3.out
              have HR5 := Lib.hid hr5; have HJ5 := Lib.hid hJ5
              clear hr5 hJ5
              refine wpAnyIn_ready (rs := [7]) (by kernel_rfl) (by simp) (AllReadyIn.cons rfl (fun K hK => ?_) AllReadyIn.nil)
              go_simp
              refine hK _ _ ?_
              clear hK K
              obtain ⟨fn, tmps, assign, body, hy, hR⟩ := HY.out _ (id, e.ls) _ w5 HJ5.out ⟨HN.out, v5, _, rfl, HR5.out, HKb.out v5 w4 w5 _ _ HB4.out HR5.out⟩
              dsimp only at hy
              refine wpAnyIn_ready (rs := [12]) (by kernel_rfl) (by simp) (AllReadyIn.cons rfl (fun K hK => ?_) AllReadyIn.nil)
              go_simp
              refine hR.mono ?_
              rintro r w6 (⟨rfl, ⟨xs6, K6, o6⟩, ⟨hx6a, ho6⟩, hJ6⟩ | ⟨rfl, hJ6⟩)
              · skip
                dsimp only at hx6a ho6
                subst hx6a ho6
                have HJ6 := Lib.hid hJ6
                clear hJ6 hR hy
                go_simp
                refine hK _ _ ?_
                clear hK K
                obtain ⟨⟨last6, es6, hAr6, hL6, -⟩, -, hW6⟩ := HA.out _ _ HJ6.out
                have hx6 := hW6 _ _ rfl
                have x60 : w6.cell? ⟨wr.heap.size, 0, none⟩ = some (.int .i64 id) := hx6.cell 0
                have hb6 := behind_any id (by omega) (by omega) _ hAr6
                have HB6 := Lib.hid hb6; have HA6 := Lib.hid hAr6; have HL6 := Lib.hid hL6; have HX6 := Lib.hid hx6
                clear hb6 hAr6 hL6 hW6 hx6
                refine wpAnyIn_take (i := 13) (v := .bool false) rfl rfl (by kernel_rfl) (by kernel_rfl) (by kernel_rfl) (fun _ _ _ h => h) ⟨Or.inl ⟨by kernel_rfl, fun w => by go_simp⟩, fun _ => rfl⟩ ?_
                refine wpAnyIn_take (i := 14) (v := .bool false) rfl rfl (by kernel_rfl) (by kernel_rfl) (by kernel_rfl) (fun _ _ _ h => h) ⟨Or.inl ⟨by kernel_rfl, fun w => by go_simp⟩, fun _ => rfl⟩ ?_
                refine wpAnyIn_done (by kernel_rfl) ?_ _
                go_simp
                gi_wp2_with ((refine ⟨trivial, ?_⟩; gi_at_call 44; refine (callsIn_wide.2 HB6.out).mono ?_; rintro r w7 ⟨rfl, hB7⟩))
                refine ⟨⟨xs ++ [(id, e.ls)], some (wr.heap.size, #[.int .i64 id, .int .i64 (of : Nat), .int .i64 (ln : Nat)]), K6, last6, es6, id, HJ.out _ _ _ w7 ⟨rfl, rfl, .inl ⟨rfl, hB7⟩⟩ HJ6.out, HA6.out.on hB7, HL6.out, rfl, by omega, by omega, by rw [posOf_snoc]; exact Int.le_refl _, fun x _ hle => by rw [posOf_snoc]; exact hle, .inr ⟨_, _, _, rfl, rfl⟩⟩, allLeft_lt HBq.out HWo.out hqe (by omega) ((hB7.cell (p := ⟨wr.heap.size, 0, none⟩) HX6.out.lt).trans x60)⟩
              · skip
                have HJ6 := Lib.hid hJ6
                clear hJ6 hR hy
                go_simp
                refine hK _ _ ?_
                clear hK K
                refine wpAnyIn_take (i := 13) (v := .bool true) rfl rfl (by kernel_rfl) (by kernel_rfl) (by kernel_rfl) (fun _ _ _ h => h) ⟨Or.inl ⟨by kernel_rfl, fun w => by go_simp⟩, fun _ => rfl⟩ ?_
                refine wpAnyIn_take (i := 14) (v := .bool true) rfl rfl (by kernel_rfl) (by kernel_rfl) (by kernel_rfl) (fun _ _ _ h => h) ⟨Or.inl ⟨by kernel_rfl, fun w => by go_simp⟩, fun _ => rfl⟩ ?_
                refine wpAnyIn_done (by kernel_rfl) ?_ _
                go_simp
                gi_wp2
                refine bodyPost_ret (results_none rfl _ _ _) rfl ?_
                exact ⟨⟨_, rfl⟩, .inr HJ6.out⟩
    · have hno : nextOf (Lof xs) (posOf xs) = none := by
        rw [nextOf, List.find?_eq_none]
        intro x hx
        rw [← hL] at hx
        obtain ⟨e, he, rfl⟩ := List.mem_map.1 hx
        obtain ⟨k, hk⟩ := List.mem_iff_getElem?.1 (List.mem_filter.1 he).1
        have h1 := (List.getElem?_eq_some_iff.1 hk).1
        have h2 := (upTo_lt hAr.good.inc (n := q) hk).2 (by omega)
        have h3 := hskip _ (by rw [← hL]; exact hx) h2
        simpa using h3
      obtain ⟨sv, ev, mm, nn, D, ⟨-, d1, -, -, -⟩, -, -, -, he, -, -, -⟩ := hAr.cells
      obtain ⟨A, c, rfl⟩ := own_shape0 he
      have HJs := Lib.hid hJs; have HN := Lib.hid hno
      clear hAr he hJs hno hskip hb hL
      gi_wp2
      go_end0
      exact ⟨⟨_, rfl⟩, .inl ⟨_, HN.out, HJs.out⟩⟩
end Go.Proofs.Ytjkhhnfmefbohaa
