/- The chapter's examples of the arena. -/
import Derived.Test.YtjkhhnfmefbohaaArUse
import Derived.RangeFuncBound
import Derived.RangeFuncCalls
namespace Go.Proofs.Ytjkhhnfmefbohaa
open Go.RowKit Go.ChangeAt Go.ChangeShapes Go.WideShapes

attribute [local go_sem] Oper.semAt_some

/-- What a function with a boxed result keeps beside an arena. -/
structure Ctx (w : World) (rb : Nat) (K : Nat → Prop) (W : World) : Prop where
  cell : Whole W rb 4 #[.bool false]
  off : ¬ K rb
  base : ∀ i, K i → w.heap.size ≤ i
  below : Below w.heap.size w W
theorem Ctx.turn {w : World} {rb : Nat} {K K' : Nat → Prop} {W W' : World} (h : Ctx w rb K W) (t : Turn K W K' W') : Ctx w rb K' W' :=
  ⟨h.cell.same (t.1.block rb h.cell.lt h.off), t.off h.cell.lt h.off, t.from_ h.below.size h.base, h.below.trans (t.below h.below.size h.base)⟩
theorem Ctx.on {w : World} {rb : Nat} {K : Nat → Prop} {W W' : World} (h : Ctx w rb K W) (hb : Below W.heap.size W W') : Ctx w rb K W' := h.turn (Turn.of_below hb)
theorem steady_ctx {B : Nat} (w : World) (rb : Nat) (K : Nat → Prop) (hB : w.heap.size ≤ B) : Steady B (Ctx w rb K) := fun W W' row h hg hr =>
  ⟨steady_whole _ _ _ W W' row h.cell hg hr, h.off, h.base, h.below.grown hg h.below.size (fun k e => Nat.le_trans hB (hr k e).1)⟩
theorem Whole.beside {W : World} {b nb : Nat} {t : TypeId} {cs : Array Value} (h : Whole W b t cs) (hne : b ≠ nb) (u : Value) : Whole (W.setCell ⟨nb, 0, none⟩ u) b t cs := h.same (Below.heap_setCell _ _ _ _ hne)
theorem Ctx.beside {w : World} {rb nb : Nat} {K : Nat → Prop} {W : World} (h : Ctx w rb K W) (hne : nb ≠ rb) (hB : w.heap.size ≤ nb) (u : Value) : Ctx w rb K (W.setCell ⟨nb, 0, none⟩ u) :=
  ⟨h.cell.beside hne.symm u, h.off, h.base, h.below.setCell (p := ⟨nb, 0, none⟩) hB u⟩
section
variable {K : Nat → Prop} {g : Nat} {L : List (Int × List Int)} {last : Int} {w : World} {n : Int}
theorem count_is (h : Ar K w g L last) (hn : (L.length : Int) = n) : Calls Try.prog 22 #[.pointer (some ⟨g, 0, none⟩)] w fun e w' => e = .returned (.int .i64 n) ∧ w = w' := by subst hn; exact count_ar h
theorem used_is (h : Ar K w g L last) (hn : (sumL L : Int) = n) : Calls Try.prog 16 #[.pointer (some ⟨g, 0, none⟩)] w fun e w' => e = .returned (.int .i64 n) ∧ w = w' := by subst hn; exact used_ar h
theorem lit_at {id i x : Int} {ls : List Int} (h : Ar K w g L last) (hm : (id, ls) ∈ L) (hi : 0 ≤ i) (hx : ls[i.toNat]? = some x) : Calls Try.prog 19 #[.pointer (some ⟨g, 0, none⟩), .int .i64 id, .int .i64 i] w fun r w' => r = .returned (.tuple #[.int .i64 x, .int .i64 0]) ∧ Below w.heap.size w w' := by
  obtain ⟨hl, hx'⟩ := List.getElem?_eq_some_iff.1 hx
  have := lit_in h hm i.toNat hl
  rw [hx, Int.toNat_of_nonneg hi] at this
  exact this
theorem held_aw (h : Ar K w g [(4, [2])] last) : Calls Try.prog 23 #[.pointer (some ⟨g, 0, none⟩)] w fun e w' => ∃ n : Nat, e = .returned (.int .i64 (n : Nat)) ∧ ¬ (n : Int) < 1 ∧ ¬ (66 : Int) < (n : Int) ∧ w = w' := by
  refine (held_ar h).mono fun e w' ⟨n, he, h1, h2, hw⟩ => ⟨n, he, ?_, ?_, hw⟩
  · have : sumL [(4, [2])] = 1 := by decide
    omega
  · have : sumL [(4, [2])] = 1 := by decide
    omega
theorem equal_yes {B : Nat} {v1 v2 : Value} {xs : List Int} {n : Nat} {e : TypeId} (h1 : w.ownsRow B e 1 v1 n (xs.map (Value.int .i64))) (h2 : Ints w.heap.size w v2 xs) (hx : xs.length ≤ 1000000 := by decide) :
    Calls Try.prog 26 #[v1, v2] w fun e w' => e = .returned (.bool true) ∧ ∃ q, w' = w.drewN q :=
  (equal_cl w (by omega) (by omega) (ints_own h1) h2).mono fun e w' ⟨he, hw⟩ => ⟨by rw [he, beq_self_eq_true], hw⟩
theorem len_is {id : Int} {ls : List Int} (h : Ar K w g L last) (hm : (id, ls) ∈ L) (hn : (ls.length : Int) = n) : Calls Try.prog 18 #[.pointer (some ⟨g, 0, none⟩), .int .i64 id] w fun r w' => r = .returned (.tuple #[.int .i64 n, .int .i64 0]) ∧ Below w.heap.size w w' := by subst hn; exact len_in h hm
end

/-- What is known between two rounds. -/
def AwI (w : World) (g bx nb : Nat) (s : AllS) (W : World) : Prop :=
  Come [(4, [2])] s.1 ∧ Ar s.2.1 W g [(4, [2])] 4 ∧ Whole W bx 31 #[.pointer (some ⟨g, 0, none⟩)] ∧ BoxOk s W ∧ Ctx w w.heap.size s.2.1 W ∧ Whole W nb 3 #[.int .i64 (s.1.length : Nat)] ∧ ¬ s.2.1 nb ∧ (∀ b cs, s.2.2 = some (b, cs) → b ≠ nb) ∧ nb ≠ w.heap.size ∧ bx ≠ nb ∧ w.heap.size ≤ nb

theorem awI_steady {B : Nat} (w : World) (hB : w.heap.size ≤ B) (g bx nb : Nat) (s : AllS) : Steady B (AwI w g bx nb s) :=
  (steady_true _).and ((steady_ar _ _ _ _).and ((steady_whole _ _ _).and ((steady_box _).and ((steady_ctx _ _ _ hB).and ((steady_whole _ _ _).and (steady_true _))))))
theorem awI_link (w : World) (g bx nb : Nat) (s s' : AllS) (W W' : World) (h : AllLk s W s' W') (hi : AwI w g bx nb s W) : AwI w g bx nb s' W' := by
  obtain ⟨h1, h2, h3, h4, h5, h6, h7, h8, h9, h10, h11⟩ := hi
  have hb := h.below
  have hbox := h4.link h2.kok h
  obtain ⟨e1, e2, e3⟩ := h
  refine ⟨by rw [← e1]; exact h1, by rw [← e2]; exact h2.on hb, h3.same (hb.block _ h3.lt), hbox, by rw [← e2]; exact h5.on hb, by rw [← e1]; exact h6.same (hb.block _ h6.lt), by rw [← e2]; exact h7, fun b cs e => ?_, h9, h10, h11⟩
  rcases e3 with ⟨e3, -⟩ | ⟨cs', e3, -⟩
  · exact h8 b cs (e3.trans e)
  · rw [e3] at e; cases e
    have := h6.lt
    omega
theorem awI_has (w : World) (g bx nb : Nat) (s : AllS) (W : World) (hi : AwI w g bx nb s W) : (∃ last, Ar s.2.1 W g [(4, [2])] last) ∧ W.cell? ⟨bx, 0, none⟩ = some (.pointer (some ⟨g, 0, none⟩)) ∧ BoxOk s W := by
  obtain ⟨h1, h2, h3, h4, -⟩ := hi
  exact ⟨⟨_, h2⟩, h3.cell 0, h4⟩

set_option maxRecDepth 100000 in
set_option maxHeartbeats 4000000 in
theorem arawake_any (w : World) : Calls Try.prog 12 #[] w fun e w' => e = .returned (.bool true) ∧ Below w.heap.size w w' := by
  refine (callsIn_wide (n := 5)).1 ?_
  refine callsIn_of_wp_marks Try.func12 rfl trivial ?_ rfl
  simp only [Try.ntmps12, List.size_toArray, List.length_nil, Nat.sub_zero, Array.replicate_succ, Array.replicate_zero, List.push_toArray, List.append_toArray, List.nil_append, List.cons_append]
  gi_wp2_with fail
  refine ⟨trivial, ?_⟩
  gi_at_call 13
  refine (callsIn_wide.2 (new_ar _)).mono ?_
  rintro r w1 ⟨g, K1, rfl, hA1, hK1, hB1⟩
  have hC1 : Ctx w w.heap.size K1 w1 := ⟨(Whole.made w _ _).same (hB1.block _ (by simp)), fun x => by have := hK1 _ x; simp at this; omega, fun i x => by have := hK1 i x; simp at this; omega, (below1a w _).trans (hB1.mono (by simp))⟩
  have HA1 := Lib.hid hA1; have HC1 := Lib.hid hC1
  clear hA1 hC1
  clear hK1 hB1
  gi_wp2_with fail
  refine ⟨trivial, ?_⟩
  gi_at_call 14
  refine (callsIn_wide.2 (add_ok (c := [3, -1]) (HA1.out.on (below1a _ _)) (intsF_laid HA1.out.kok [3, -1] _) (by decide) (by decide) (by decide) (by decide))).mono ?_
  rintro r w2 ⟨K2, rfl, hA2, hT2⟩
  have hC2 := (HC1.out.on (below1a _ _)).turn hT2
  replace hA2 : Ar K2 w2 g [(1, [3, -1])] 1 := hA2
  have HA2 := Lib.hid hA2; have HC2 := Lib.hid hC2
  clear hA2 hC2
  clear hT2 HA1 HC1
  gi_wp2_with fail
  refine ⟨trivial, ?_⟩
  gi_at_call 14
  refine (callsIn_wide.2 (add_ok (c := [2]) (HA2.out.on (below1a _ _)) (intsF_laid HA2.out.kok [2] _) (by decide) (by decide) (by decide) (by decide))).mono ?_
  rintro r w3 ⟨K3, rfl, hA3, hT3⟩
  have hC3 := (HC2.out.on (below1a _ _)).turn hT3
  replace hA3 : Ar K3 w3 g [(1, [3, -1]), (4, [2])] 4 := hA3
  have HA3 := Lib.hid hA3; have HC3 := Lib.hid hC3
  clear hA3 hC3
  clear hT3 HA2 HC2
  gi_wp2_with fail
  refine ⟨trivial, ?_⟩
  gi_at_call 14
  refine (callsIn_wide.2 (add_bad (e := 30) (c := []) HA3.out (intsF_nil _) (by decide) (by decide) (by decide))).mono ?_
  rintro r w4 ⟨rfl, hB4⟩
  have hA4 := HA3.out.on hB4
  have hC4 := HC3.out.on hB4
  have HA4 := Lib.hid hA4; have HC4 := Lib.hid hC4
  clear hA4 hC4
  clear hB4 HA3 HC3
  gi_wp2_with fail
  refine ⟨trivial, ?_⟩
  gi_at_call 14
  refine (callsIn_wide.2 (add_bad (e := 30) (c := []) HA4.out (intsF_nil _) (by decide) (by decide) (by decide))).mono ?_
  rintro r w5 ⟨rfl, hB5⟩
  have hA5 := HA4.out.on hB5
  have hC5 := HC4.out.on hB5
  have HA5 := Lib.hid hA5; have HC5 := Lib.hid hC5
  clear hA5 hC5
  clear hB5 HA4 HC4
  gi_wp2_with fail
  refine ⟨trivial, ?_⟩
  gi_at_call 22
  refine (callsIn_wide.2 (count_is (n := 2) HA5.out (by decide))).mono ?_
  rintro r w' ⟨rfl, rfl⟩
  gi_wp2_with fail
  refine ⟨trivial, ?_⟩
  gi_at_call 16
  refine (callsIn_wide.2 (used_is (n := 3) HA5.out (by decide))).mono ?_
  rintro r w' ⟨rfl, rfl⟩
  gi_wp2_with fail
  refine ⟨trivial, ?_⟩
  gi_at_call 24
  refine (callsIn_wide.2 (last_ar HA5.out)).mono ?_
  rintro r w' ⟨rfl, rfl⟩
  gi_wp2_with fail
  refine ⟨trivial, ?_⟩
  gi_at_call 19
  refine (callsIn_wide.2 (lit_at (id := 1) (ls := [3, -1]) (x := -1) HA5.out (by decide) (by decide) (by decide))).mono ?_
  rintro r w6 ⟨rfl, hB6⟩
  have hA6 := HA5.out.on hB6
  have hC6 := HC5.out.on hB6
  have HA6 := Lib.hid hA6; have HC6 := Lib.hid hC6
  clear hA6 hC6
  clear hB6 HA5 HC5
  gi_wp2_with fail
  refine ⟨trivial, ?_⟩
  gi_at_call 19
  refine (callsIn_wide.2 (lit_off (id := 1) (ls := [3, -1]) HA6.out (by decide) 2 (by decide))).mono ?_
  rintro r w7 ⟨rfl, hB7⟩
  have hA7 := HA6.out.on hB7
  have hC7 := HC6.out.on hB7
  have HA7 := Lib.hid hA7; have HC7 := Lib.hid hC7
  clear hA7 hC7
  clear hB7 HA6 HC6
  gi_wp2_with fail
  refine ⟨trivial, ?_⟩
  gi_at_call 15
  refine (callsIn_wide.2 (del_ok (id := 1) (ls := [3, -1]) HA7.out (by decide))).mono ?_
  rintro r w8 ⟨rfl, K8, hA8, hT8⟩
  rw [show ([(1, [3, -1]), (4, [2])] : List (Int × List Int)).filter (fun p => decide (p.1 ≠ 1)) = [(4, [2])] by decide] at hA8
  have hC8 := HC7.out.turn hT8
  have HA8 := Lib.hid hA8; have HC8 := Lib.hid hC8
  clear hA8 hC8
  clear hT8 HA7 HC7
  gi_wp2_with fail
  refine ⟨trivial, ?_⟩
  gi_at_call 16
  refine (callsIn_wide.2 (used_is (n := 1) HA8.out (by decide))).mono ?_
  rintro r w' ⟨rfl, rfl⟩
  gi_wp2_with fail
  refine ⟨trivial, ?_⟩
  gi_at_call 23
  refine (callsIn_wide.2 (held_aw HA8.out)).mono ?_
  rintro r w' ⟨n1, rfl, hn1a, hn1b, rfl⟩
  gi_wp2_with fail
  refine ⟨trivial, ?_⟩
  gi_at_call 23
  refine (callsIn_wide.2 (held_aw HA8.out)).mono ?_
  rintro r w' ⟨n2, rfl, hn2a, hn2b, rfl⟩
  gi_wp2_with fail
  refine ⟨trivial, ?_⟩
  gi_at_call 20
  refine (callsIn_wide.2 (all_any _ _)).mono ?_
  rintro r w' ⟨rfl, rfl⟩
  gi_wp2_with fail
  clear hn1a hn1b hn2a hn2b
  have hn0 : Whole (w8.alloc (.cells #[.int .i64 0] 3)) w8.heap.size 3 #[.int .i64 0] := Whole.made w8 _ _
  have hb0 := Whole.made (w8.alloc (.cells #[.int .i64 0] 3)) 31 #[.pointer (some ⟨g, 0, none⟩)]
  have hbl := (below1a w8 (.cells #[.int .i64 0] 3)).trans ((below1a (w8.alloc (.cells #[.int .i64 0] 3)) (.cells #[.pointer (some ⟨g, 0, none⟩)] 31)).mono (by simp))
  rw [World.size_alloc] at hb0
  have hk8 := fun i => HA8.out.kok.lt (i := i)
  have h0 : AwI w g (w8.heap.size + 1) w8.heap.size ([], K8, none) ((w8.alloc (.cells #[.int .i64 0] 3)).alloc (.cells #[.pointer (some ⟨g, 0, none⟩)] 31)) := ⟨come_nil _, HA8.out.on hbl, hb0, (fun b cs e => by cases e), HC8.out.on hbl, hn0.same ((below1a _ _).block _ hn0.lt), (fun x => Nat.lt_irrefl _ (hk8 _ x)), (fun b cs e => by cases e), (fun e => by have := HC8.out.cell.lt; omega), by omega, HC8.out.below.size⟩
  have H0 := Lib.hid h0; clear h0 hn0 hb0 hbl
  have hsz := HC8.out.cell.lt
  have hBB : w.heap.size ≤ ((w8.alloc (.cells #[.int .i64 0] 3)).alloc (.cells #[.pointer (some ⟨g, 0, none⟩)] 31)).heap.size := by have := HC8.out.below.size; simp; omega
  clear HA8 HC8 hk8
  refine range_all (n := 5) (by decide) (g := g) (bx := w8.heap.size + 1) rfl (enters_of Try.func43 (by kernel_rfl) rfl) rfl (fun _ => [(4, [2])]) (AwI w g (w8.heap.size + 1) w8.heap.size) (fun _ _ => False) (awI_steady w hBB _ _ _) (fun _ => steady_true False) K8 H0.out (awI_link _ _ _ _) (awI_has _ _ _ _) ?a1 ?assign ?body ?done ?stop
  case assign =>
    intro l id v W K hK
    gi_wp2
    exact hK
  case stop => intro D c W _ h; cases h
  case body =>
    intro l s id ls v B W hI hx hrow hnk
    obtain ⟨i1, i2, i3, i4, i5, i6, i7, i8, i9, i10, i11⟩ := hI
    obtain ⟨c1, c2⟩ := i1.step (by decide) (by decide) hx
    have hs1 : s.1.length = 0 := by
      have h := (List.getElem?_eq_some_iff.1 c1).1
      simpa using h
    rw [hs1] at c1 i6
    obtain ⟨rfl, rfl⟩ : id = 4 ∧ ls = [2] := by simpa [eq_comm] using c1
    have hbl := fun q => below_drewN (below1a W (laidO [2] 30)) q
    have HI2 := Lib.hid i2; have HI3 := Lib.hid i3; have HI4 := Lib.hid i4; have HI5 := Lib.hid i5; have HI6 := Lib.hid i6; have HC2 := Lib.hid c2; have HRow := Lib.hid hrow; have HBl := Lib.hid hbl; have HNk := Lib.hid i7
    clear i1 i2 i3 i4 i5 i6 c1 c2 hrow hnk hx hbl H0
    gi_wp2_with fail
    refine ⟨trivial, ?_⟩
    gi_at_call 26
    refine (CallsIn.inRound l (callsIn_wide.2 (equal_yes (HRow.out.alloc _) (intsF_laid HI2.out.kok [2] _).ints))).mono ?_
    rintro r w9 ⟨rfl, q, hq⟩
    have hb9 : Below W.heap.size W w9 := by rw [hq]; exact HBl.out q
    have hn9 := HI6.out.same (hb9.block _ HI6.out.lt)
    have hc9 : w9.cell? ⟨w8.heap.size, 0, none⟩ = some (.int .i64 (0 : Nat)) := hn9.cell 0
    have hf9 := hn9.frozen 0
    have HB9 := Lib.hid hb9; have HN9 := Lib.hid hn9
    clear hb9 hn9 hq
    gi_wp2_with fail
    refine ⟨(Odd.of_below HB9.out).trans (Odd.set HN9.out 0 _), (s.1 ++ [(4, [2])], s.2.1, s.2.2), ⟨rfl, rfl⟩, HC2.out, (HI2.out.on HB9.out).set HNk.out _, (HI3.out.same (HB9.out.block _ HI3.out.lt)).beside i10 _, fun b cs e => ⟨((HI4.out b cs e).1.same (HB9.out.block _ (HI4.out b cs e).1.lt)).beside (i8 b cs e) _, (HI4.out b cs e).2⟩, (HI5.out.on HB9.out).beside i9 i11 _, ?_, HNk.out, i8, i9, i10, i11⟩
    rw [List.length_append, hs1]
    exact HN9.out.store 0 _
  case done =>
    intro D s W hDw hx hI hD
    simp only [World.size_alloc] at hDw
    obtain ⟨i1, i2, i3, i4, i5, i6, i7, i8, i9, i10, i11⟩ := hI
    have hs1 := i1.all (by decide) (by decide) hx
    rw [hs1] at i6
    have hcn : W.cell? ⟨w8.heap.size, 0, none⟩ = some (.int .i64 1) := i6.cell 0
    have HA9 := Lib.hid i2; have HC9 := Lib.hid i5; have HD9 := Lib.hid hD
    clear i1 i2 i3 i4 i5 i6 i7 i8 hs1 hx hD H0
    gi_wp2_with fail
    refine ⟨trivial, ?_⟩
    gi_at_call 15
    refine (callsIn_wide.2 (del_bad HA9.out (by decide) (by decide))).mono ?_
    rintro r w10 ⟨rfl, hB10⟩
    have hA10 := HA9.out.on hB10
    have hC10 := HC9.out.on hB10
    have hD10 := (Odd.of_below hB10).same D _ HD9.out rfl
    have HA10 := Lib.hid hA10; have HC10 := Lib.hid hC10
    clear hA10 hC10
    have HD10 := Lib.hid hD10
    clear hB10 HA9 HC9 HD9 hD10
    gi_wp2_with fail
    refine ⟨trivial, ?_⟩
    gi_at_call 14
    refine (callsIn_wide.2 (add_ok (c := []) HA10.out (intsF_nil _) (by decide) (by decide) (by decide) (by decide))).mono ?_
    rintro r w11 ⟨K11, rfl, hA11, hT11⟩
    have hC11 := HC10.out.turn hT11
    have hD11 := (HA10.out.turn_odd hT11).same D _ HD10.out rfl
    replace hA11 : Ar K11 w11 g [(4, [2]), (5, [])] 5 := hA11
    have HA11 := Lib.hid hA11; have HC11 := Lib.hid hC11
    clear hA11 hC11
    have HD11 := Lib.hid hD11
    clear hT11 HA10 HC10 HD10 hD11
    gi_wp2_with fail
    refine ⟨trivial, ?_⟩
    gi_at_call 18
    refine (callsIn_wide.2 (len_is (id := 5) (ls := []) (n := 0) HA11.out (by decide) (by decide))).mono ?_
    rintro r w12 ⟨rfl, hB12⟩
    have hA12 := HA11.out.on hB12
    have hC12 := HC11.out.on hB12
    have hD12 := (Odd.of_below hB12).same D _ HD11.out rfl
    have HA12 := Lib.hid hA12; have HC12 := Lib.hid hC12
    clear hA12 hC12
    have HD12 := Lib.hid hD12
    clear hB12 HA11 HC11 HD11 hD12
    gi_wp2_with fail
    refine ⟨trivial, ?_⟩
    gi_at_call 21
    refine (callsIn_wide.2 (has_in (id := 5) (ls := []) HA12.out (by decide))).mono ?_
    rintro r w13 ⟨rfl, hB13⟩
    have hC13 := HC12.out.on hB13
    have hD13 := (Odd.of_below hB13).same D _ HD12.out rfl
    have hr13 : w13.cell? ⟨w.heap.size, 0, none⟩ = some (.bool false) := hC13.cell.cell 0
    have hf13 := hC13.cell.frozen 0
    have HC13 := Lib.hid hC13; have HD13 := Lib.hid hD13
    clear hB13 HA12 HC12 HD12 hC13 hD13
    gi_wp2_with fail
    have hD14 := (Odd.set HC13.out.cell 0 (.bool true)).same D _ HD13.out rfl
    have hr14 : (w13.setCell ⟨w.heap.size, 0, none⟩ (.bool true)).cell? ⟨w.heap.size, 0, none⟩ = some (.bool true) := (HC13.out.cell.store 0 _).cell 0
    have hb14 : Below w.heap.size w (w13.setCell ⟨w.heap.size, 0, none⟩ (.bool true)) := HC13.out.below.setCell (p := ⟨w.heap.size, 0, none⟩) (Nat.le_refl _) _
    refine ⟨by simp, .inl ⟨_, _, rfl, run_takeDeferred hD14, ?_⟩⟩
    have hc15 : ((w13.setCell ⟨w.heap.size, 0, none⟩ (.bool true)).putObj D (.deferred none)).cell? ⟨w.heap.size, 0, none⟩ = some (.bool true) := (World.cell?_of_block (World.putObj_heap_other (k := w.heap.size) (by omega))).trans hr14
    have hb15 := hb14.grown (grownBy_putObj' _ D (.deferred none)) hb14.size (fun k e => by cases e; omega)
    refine ⟨.bool true, ?_, rfl, hb15⟩
    simp [results, Try.f12, go_sem, hc15]
end Go.Proofs.Ytjkhhnfmefbohaa
