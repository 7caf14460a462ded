/- The walk of LitsWrong. -/
import Derived.Test.YtjipmjimggggbaaDoorMade
import Derived.Test.YtjipmjimggggbaaDoorAwake
namespace Go.Proofs.YtjipmjimggggbaaDoor.litsWrong
open Go.RowKit Go.Sort

/-- What is wanted of a number that is no literal. -/
theorem bad_facts {x : Int} (h : litB x = false) : idxI x = 0 ∧ varI x = 0 ∧ negdB x = false ∧ negI x = 0 ∧ textL x = [] ∧ ofI x false = 0 ∧ ofI x true = 0 ∧ ofE x = 10 := by
  have hb := litB_no h
  refine ⟨by simp [idxI, h], by simp [varI, h], by simp [negdB, h], by simp [negI, h], by simp [textL, h], ?_, ?_, ?_⟩
  · rw [ofI, if_neg (by omega)]
  · rw [ofI, if_neg (by omega)]
  · rw [ofE, if_neg (by omega)]
theorem good_facts {y : Int} (h : litB y = true) {x : Int} (hx : litB x = false) : vl [x, y, x] = [varI y] ∧ maxL [varI y] = varI y ∧ varsL [x, y, x] = [varI y] ∧ compareI x y = -1 := by
  have hv := varI_yes h
  have e : vl [x, y, x] = [varI y] := by simp [vl, h, hx]
  refine ⟨e, ?_, ?_, by simp [compareI, h, hx]⟩
  · simp [maxL]; omega
  · unfold varsL
    rw [e, show ded [varI y] = [varI y] by simp [ded]]
    simp

theorem madeI_lit (n : Int) : litB (madeI n) = true := by
  obtain ⟨z, z0, z1, h | h⟩ := madeI_is n
  · rw [h]; exact p_lit z0 z1
  · rw [h]; exact n_lit z0 z1
/-- The numbers that the law tries. -/
def badI (n : Int) (k : Nat) : Int := match k with | 0 => 0 | 1 => min n (-1048577) | _ => max n 1048577
theorem badI_no (n : Int) (k : Nat) : litB (badI n k) = false := by
  match k with
  | 0 => rfl
  | 1 => exact litB_not (by rw [show badI n 1 = min n (-1048577) from rfl]; omega)
  | m + 2 => exact litB_not (by rw [show badI n (m + 2) = max n 1048577 from rfl]; omega)
def WrongRel (w : World) (i : Value) (wr : World) : Prop := ∃ k : Nat, k ≤ 3 ∧ i = .int .i64 k ∧ Below w.heap.size w wr

set_option maxRecDepth 100000 in
set_option maxHeartbeats 4000000 in
theorem litsWrong_walk (n : Int) (hn : (Lit.int .i64 n).wf = true) (l : Int) (hl : (Lit.int .i32 l).wf = true) (w : World) (ht : Tab w) :
    Calls Tryd.prog 11 #[.int .i64 n, .int .i32 l] w fun e w' => e = .returned (.bool true) ∧ Below w.heap.size w w' := by
  have hb : IntKind.i64.min ≤ n ∧ n ≤ IntKind.i64.max := by simpa [Lit.wf] using hn
  have hn0 : -9223372036854775808 ≤ n := hb.1
  have hn1 : n ≤ 9223372036854775807 := hb.2
  clear hb hn
  have HM := Lib.hid (made_any l hl); clear hl
  have hT : Hid (∀ w', Below w.heap.size w w' → Tab w') := fun w' hb => ht.below hb
  clear ht
  go_enter Tryd.func11, Tryd.ntmps11
  go_wp2_with fail
  have hcs : ∀ k, k < 3 → (w.alloc (.cells #[.int .i64 0, .int .i64 (min n (-1048577)), .int .i64 (max n 1048577)] 3)).cell? ⟨w.heap.size, k, none⟩ = some (.int .i64 (badI n k)) := by
    intro k hk
    rw [cell_of_row _ _ k _ _ (0, 0) (World.alloc_heap_new w _)]
    match k, hk with
    | 0, _ => rfl
    | 1, _ => rfl
    | 2, _ => rfl
  have hb1 := (Below.refl w.heap.size w).alloc (Nat.le_refl _) (.cells #[.int .i64 0, .int .i64 (min n (-1048577)), .int .i64 (max n 1048577)] 3)
  have hN : w.heap.size < (w.alloc (.cells #[.int .i64 0, .int .i64 (min n (-1048577)), .int .i64 (max n 1048577)] 3)).heap.size := by simp
  obtain ⟨w1, hw1⟩ : ∃ w1, w.alloc (.cells #[.int .i64 0, .int .i64 (min n (-1048577)), .int .i64 (max n 1048577)] 3) = w1 := ⟨_, rfl⟩
  rw [hw1] at hcs hb1 hN ⊢
  clear hw1
  have HC := Lib.hid hcs; clear hcs
  go_loopw [27] (fun i wr => WrongRel w1 i wr) (fun i _ => 3 - (intOf i).toNat)
  case atStart => exact ⟨0, by omega, rfl, Below.refl _ _⟩
  case round =>
    obtain ⟨k, hk, rfl, hbr⟩ := hrel
    have hbw : Below w.heap.size w wr := hb1.trans (hbr.mono hb1.size)
    by_cases hlt : k < 3
    · have hc : wr.cell? ⟨w.heap.size, k, none⟩ = some (.int .i64 (badI n k)) := (hbr.cell (p := ⟨w.heap.size, k, none⟩) hN).trans (HC.out k hlt)
      have hx := badI_no n k
      obtain ⟨x, ex⟩ : ∃ x, badI n k = x := ⟨_, rfl⟩
      rw [ex] at hx hc
      clear ex
      obtain ⟨f1, f2, f3, f4, f5, f6, f7, f8⟩ := bad_facts hx
      have F0 := Lib.hid hx; have F1 := Lib.hid f1; have F2 := Lib.hid f2; have F3 := Lib.hid f3; have F4 := Lib.hid f4; have F5 := Lib.hid f5; have F6 := Lib.hid f6; have F7 := Lib.hid f7; have F8 := Lib.hid f8
      clear hx f1 f2 f3 f4 f5 f6 f7 f8
      have HTx := Lib.hid (text_any x wr (hT.out _ hbw))
      go_wp2_with (first
        | (go_at_call 24; refine (index_any _ _).mono ?_; rintro e w' ⟨rfl, rfl⟩; rw [F1.out, F0.out]; unfold errI; rw [if_neg (by decide)])
        | (go_at_call 31; refine (of_any _ _ _).mono ?_; rintro e w' ⟨rfl, rfl⟩; rw [F8.out]; (first | rw [F6.out] | rw [F7.out]))
        | (go_at_call 25; refine (right_any _ _).mono ?_; rintro e w' ⟨rfl, rfl⟩; rw [F0.out])
        | (go_at_call 26; refine (var_any _ _).mono ?_; rintro e w' ⟨rfl, rfl⟩; rw [F2.out])
        | (go_at_call 27; refine (negd_any _ _).mono ?_; rintro e w' ⟨rfl, rfl⟩; rw [F3.out])
        | (go_at_call 23; refine (neg_any _ _).mono ?_; rintro e w' ⟨rfl, rfl⟩; rw [F4.out])
        | (go_at_call 30; refine HTx.out.mono ?_; rintro e w2 ⟨rfl, hb2⟩; rw [F5.out]))
      have hbw2 : Below w.heap.size w w2 := hbw.trans (hb2.mono hbw.size)
      have hy := madeI_lit l
      obtain ⟨y, ey⟩ : ∃ y, madeI l = y := ⟨_, rfl⟩
      rw [ey] at hy
      have EY := Lib.hid ey; clear ey
      obtain ⟨g1, g2, g3, g4⟩ := good_facts hy F0.out
      obtain ⟨v, ev⟩ : ∃ v, varI y = v := ⟨_, rfl⟩
      rw [ev] at g1 g2 g3
      have EV := Lib.hid ev; have G1 := Lib.hid g1; have G2 := Lib.hid g2; have G3 := Lib.hid g3; have G4 := Lib.hid g4
      clear ev g1 g2 g3 g4 hy
      refine (HM.out _).mono ?_
      rintro e w' ⟨rfl, rfl⟩
      rw [EY.out]
      go_wp2_with fail
      have hI3 : Ints (w2.alloc (.cells #[.int .i64 x, .int .i64 y, .int .i64 x] 27)).heap.size (w2.alloc (.cells #[.int .i64 x, .int .i64 y, .int .i64 x] 27)) (.slice (some ⟨w2.heap.size, 0, none⟩) 3 3) [x, y, x] := by
        refine .inr ⟨_, _, _, rfl, by simp, fun j hj => ?_⟩
        rw [cell_of_row _ _ (0 + j) _ _ (0, 0) (World.alloc_heap_new w2 _)]
        match j, hj with
        | 0, _ => rfl
        | 1, _ => rfl
        | 2, _ => rfl
      have hb3 : Below w.heap.size w (w2.alloc (.cells #[.int .i64 x, .int .i64 y, .int .i64 x] 27)) := hbw2.alloc hbw2.size _
      have hr3 : Below w1.heap.size w1 (w2.alloc (.cells #[.int .i64 x, .int .i64 y, .int .i64 x] 27)) := (hbr.trans (hb2.mono hbr.size)).alloc (Nat.le_trans hbr.size hb2.size) _
      obtain ⟨w3, hw3⟩ : ∃ w3, w2.alloc (.cells #[.int .i64 x, .int .i64 y, .int .i64 x] 27) = w3 := ⟨_, rfl⟩
      rw [hw3] at hI3 hb3 hr3 ⊢
      clear hw3
      refine (greatest_any _ _ (by simp) _ hI3).mono ?_
      rintro e w4 ⟨rfl, hb4⟩
      rw [G1.out, G2.out]
      have hI4 : Ints w4.heap.size w4 (.slice (some ⟨w2.heap.size, 0, none⟩) 3 3) [x, y, x] := (hI3.below hb4).more hb4.size
      have hr4 : Below w1.heap.size w1 w4 := hr3.trans (hb4.mono hr3.size)
      clear hI3
      have HI4 := Lib.hid hI4; clear hI4
      go_wp2_with fail
      refine (HM.out _).mono ?_
      rintro e w' ⟨rfl, rfl⟩
      rw [EY.out]
      go_wp2_with fail
      refine (var_any _ _).mono ?_
      rintro e w' ⟨rfl, rfl⟩
      rw [EV.out]
      go_wp2_with fail
      refine (vars_any _ _ (by simp) _ HI4.out).mono ?_
      rintro e w5 ⟨sv, rfl, hrow, -, hb5⟩
      rw [G3.out] at hrow
      obtain ⟨g, cap, rfl⟩ := ownsRow_succ hrow
      have hr5 : Below w1.heap.size w1 w5 := hr4.trans (hb5.mono hr4.size)
      have hc1 : ∀ j, j < [v].length → (w5.alloc (.cells #[.int .i64 v] 3)).cell? ⟨g, 0 + j, none⟩ = some (.int .i64 ([v].getD j 0)) := by
        intro j hj
        have hgl := (hrow.lt g rfl).2
        rw [Nat.zero_add, World.cell?_alloc_lt _ _ _ hgl, hrow.cellAt j (by simpa using hj)]
        match j, hj with
        | 0, _ => rfl
      have hc2 : ∀ j, j < [v].length → (w5.alloc (.cells #[.int .i64 v] 3)).cell? ⟨w5.heap.size, 0 + j, none⟩ = some (.int .i64 ([v].getD j 0)) := by
        intro j hj
        rw [cell_of_row _ _ (0 + j) _ _ (0, 0) (World.alloc_heap_new w5 _)]
        match j, hj with
        | 0, _ => rfl
      have hr6 : Hid (∀ q, Below w1.heap.size w1 ((w5.alloc (.cells #[.int .i64 v] 3)).drewN q)) := fun q => below_drewN (hr5.alloc hr5.size _) q
      have H1 := Lib.hid hc1; clear hc1
      have H2 := Lib.hid hc2; clear hc2
      clear hrow
      go_wp2_with fail
      refine (HM.out _).mono ?_
      rintro e w' ⟨rfl, rfl⟩
      rw [EY.out]
      go_wp2_with fail
      refine (var_any _ _).mono ?_
      rintro e w' ⟨rfl, rfl⟩
      rw [EV.out]
      go_wp2_with fail
      refine (Tryd.slices_Equal_int g 0 1 cap w5.heap.size 0 1 1 [v] [v] _ (by simp) (by simp) (by omega) (by omega) H1.out H2.out).mono ?_
      rintro e w' ⟨rfl, q, rfl⟩
      rw [show ([v].take 1 == [v].take 1) = true from beq_self_eq_true _]
      go_wp2_with fail
      refine (HM.out _).mono ?_
      rintro e w' ⟨rfl, rfl⟩
      rw [EY.out]
      go_wp2_with fail
      refine (compare_any _ _ _).mono ?_
      rintro e w' ⟨rfl, rfl⟩
      rw [G4.out]
      go_wp2_with fail
      go_roundw
      case rel => exact ⟨k + 1, by omega, by go_num, hr6 q⟩
      case measure => simp [intOf]; omega
    · have HA := Lib.hid (awake_any wr (hT.out _ hbw))
      have t1 : atI (min n (-1)) = 0 ∧ atE (min n (-1)) = 10 := by unfold atI atE; rw [if_pos (by omega), if_pos (by omega)]; exact ⟨rfl, rfl⟩
      have t2 : atI (max n 2097152) = 0 ∧ atE (max n 2097152) = 10 := by unfold atI atE ofI ofE; rw [if_neg (by omega), if_neg (by omega), if_neg (by omega), if_neg (by omega)]; exact ⟨rfl, rfl⟩
      have t3 : ofI (min n 0) false = 0 ∧ ofE (min n 0) = 10 := by unfold ofI ofE; rw [if_neg (by omega), if_neg (by omega)]; exact ⟨rfl, rfl⟩
      have T1 := Lib.hid t1; have T2 := Lib.hid t2; have T3 := Lib.hid t3; clear t1 t2 t3
      go_wp2_with fail
      refine (at_any _ (by omega) _).mono ?_
      rintro e w' ⟨rfl, rfl⟩
      rw [T1.out.1, T1.out.2]
      go_wp2_with fail
      refine (at_any _ (by omega) _).mono ?_
      rintro e w' ⟨rfl, rfl⟩
      rw [T2.out.1, T2.out.2]
      go_wp2_with fail
      refine (of_any _ _ _).mono ?_
      rintro e w' ⟨rfl, rfl⟩
      rw [T3.out.1, T3.out.2]
      go_wp2_with (go_at_call 13; refine HA.out.mono ?_; rintro e w6 ⟨rfl, hb6⟩)
      go_ret
      exact ⟨rfl, hbw.trans (hb6.mono hbw.size)⟩
end Go.Proofs.YtjipmjimggggbaaDoor.litsWrong
