/- The chapter's examples hold. -/
import Derived.Test.YtjipmjimggggbaaDoorRead
import Derived.Test.YtjipmjimggggbaaDoorGreatest
import Derived.Test.YtjipmjimggggbaaDoorVars
import Derived.Test.YtjipmjimggggbaaDoorText
import Derived.StillTailTactics
namespace Go.Proofs.YtjipmjimggggbaaDoor
open Go.RowKit Go.Shelf Go.Sort

theorem read_c (s : ByteArray) (w : World) (i e : Int) (hs : s.size ≤ 9223372036854775807) (hi : readI s.data.toList = i) (he : readE s.data.toList = e) :
    Calls Tryd.prog 29 #[.string s] w fun r w' => r = .returned (.tuple #[.int .i64 i, .int .i64 e]) ∧ w = w' := by
  subst hi he
  exact read_any s w hs
theorem varsL_ex : varsL [3, -1, -3] = [1, 3] := by
  unfold varsL
  rw [show ded (vl [3, -1, -3]) = [3, 1] by decide +kernel]
  simp [List.mergeSort, List.MergeSort.Internal.splitInTwo]
/-- The examples' texts of no literal. -/
def badS (k : Nat) : ByteArray := match k with | 0 => ⟨#[48]⟩ | 1 => ⟨#[45, 48]⟩ | 2 => ⟨#[48, 51]⟩ | 3 => ⟨#[43, 51]⟩ | _ => ⟨#[]⟩
theorem read_bad (k : Nat) (w : World) : Calls Tryd.prog 29 #[.string (badS k)] w fun r w' => r = .returned (.tuple #[.int .i64 0, .int .i64 10]) ∧ w = w' := by
  match k with
  | 0 => exact read_c _ w _ _ (by decide +kernel) (by decide +kernel) (by decide +kernel)
  | 1 => exact read_c _ w _ _ (by decide +kernel) (by decide +kernel) (by decide +kernel)
  | 2 => exact read_c _ w _ _ (by decide +kernel) (by decide +kernel) (by decide +kernel)
  | 3 => exact read_c _ w _ _ (by decide +kernel) (by decide +kernel) (by decide +kernel)
  | _ + 4 => exact read_c ⟨#[]⟩ w _ _ (by decide +kernel) (by decide +kernel) (by decide +kernel)

set_option maxRecDepth 100000 in
set_option maxHeartbeats 2000000 in
theorem awake_any (w : World) (ht : Tab w) : Calls Tryd.prog 13 #[] w fun e w' => e = .returned (.bool true) ∧ Below w.heap.size w w' := by
  have HT := Lib.hid ht; clear ht
  go_enter Tryd.func13, Tryd.ntmps13
  have E1 : Hid (idxI (-3) = 5 ∧ errI (litB (-3)) = 0) := ⟨by decide, by decide⟩
  have E2 : Hid (atI 4 = 3 ∧ atE 4 = 0) := ⟨by decide, by decide⟩
  have E3 : Hid (atI 0 = 1 ∧ atE 0 = 0) := ⟨by decide, by decide⟩
  go_wp2_with fail
  refine (index_any _ _).mono ?_
  rintro e w' ⟨rfl, rfl⟩
  rw [E1.out.1, E1.out.2]
  go_wp2_with fail
  refine (at_any _ (by omega) _).mono ?_
  rintro e w' ⟨rfl, rfl⟩
  rw [E2.out.1, E2.out.2]
  go_wp2_with fail
  refine (at_any _ (by omega) _).mono ?_
  rintro e w' ⟨rfl, rfl⟩
  rw [E3.out.1, E3.out.2]
  clear E1 E2 E3
  go_wp2_with (go_at_call 29; refine (read_c ⟨#[45, 51]⟩ _ (-3) 0 (by decide +kernel) (by decide +kernel) (by decide +kernel)).mono ?_; rintro e w' ⟨rfl, rfl⟩)
  have hcs : ∀ k, k < 5 → (w.alloc (.cells #[.string ⟨#[48]⟩, .string ⟨#[45, 48]⟩, .string ⟨#[48, 51]⟩, .string ⟨#[43, 51]⟩, .string ⟨#[]⟩] 9)).cell? ⟨w.heap.size, k, none⟩ = some (.string (badS k)) := by
    intro k hk
    rw [cell_of_row _ _ k _ _ (0, 0) (World.alloc_heap_new w _)]
    match k, hk with
    | 0, _ => rfl
    | 1, _ => rfl
    | 2, _ => rfl
    | 3, _ => rfl
    | 4, _ => rfl
  have hb1 := (Below.refl w.heap.size w).alloc (Nat.le_refl _) (.cells #[.string ⟨#[48]⟩, .string ⟨#[45, 48]⟩, .string ⟨#[48, 51]⟩, .string ⟨#[43, 51]⟩, .string ⟨#[]⟩] 9)
  obtain ⟨w1, hw1⟩ : ∃ w1, w.alloc (.cells #[.string ⟨#[48]⟩, .string ⟨#[45, 48]⟩, .string ⟨#[48, 51]⟩, .string ⟨#[43, 51]⟩, .string ⟨#[]⟩] 9) = w1 := ⟨_, rfl⟩
  rw [hw1] at hcs hb1 ⊢
  clear hw1
  have HC := Lib.hid hcs; clear hcs
  go_loop [32] (fun i => ∃ k : Nat, k ≤ 5 ∧ i = .int .i64 k) (fun i => 5 - (intOf i).toNat)
  case atStart => exact ⟨0, by omega, rfl⟩
  case round =>
    obtain ⟨k, hk, rfl⟩ := hrel
    by_cases hlt : k < 5
    · have hc := HC.out k hlt
      go_wp2_with (go_at_call 29; refine (read_bad k _).mono ?_; rintro e w' ⟨rfl, rfl⟩)
      go_round
      case rel => exact ⟨k + 1, by omega, by go_num⟩
      case measure => simp [intOf]; omega
    · go_wp2_with fail
      clear hk hlt
      refine (var_any _ _).mono ?_
      rintro e w' ⟨rfl, rfl⟩
      rw [show varI (-3) = 3 by decide]
      go_wp2_with fail
      refine (negd_any _ _).mono ?_
      rintro e w' ⟨rfl, rfl⟩
      rw [show negdB (-3) = true by decide]
      go_wp2_with fail
      refine (neg_any _ _).mono ?_
      rintro e w' ⟨rfl, rfl⟩
      rw [show negI (-3) = 3 by decide]
      go_wp2_with fail
      have hb2 := hb1.alloc hb1.size (.cells #[.int .i64 3, .int .i64 (-1), .int .i64 (-3)] 27)
      have hI2 : Ints (w1.alloc (.cells #[.int .i64 3, .int .i64 (-1), .int .i64 (-3)] 27)).heap.size (w1.alloc (.cells #[.int .i64 3, .int .i64 (-1), .int .i64 (-3)] 27)) (.slice (some ⟨w1.heap.size, 0, none⟩) 3 3) [3, -1, -3] := by
        refine .inr ⟨_, _, _, rfl, by simp, fun j hj => ?_⟩
        rw [cell_of_row _ _ (0 + j) _ _ (0, 0) (World.alloc_heap_new w1 _)]
        match j, hj with
        | 0, _ => rfl
        | 1, _ => rfl
        | 2, _ => rfl
      obtain ⟨W2, hW2⟩ : ∃ W2, w1.alloc (.cells #[.int .i64 3, .int .i64 (-1), .int .i64 (-3)] 27) = W2 := ⟨_, rfl⟩
      rw [hW2] at hb2 hI2 ⊢
      clear hW2
      refine (text_any _ _ (HT.out.below hb2)).mono ?_
      rintro e w2 ⟨rfl, hb3⟩
      rw [show textL (-3) = [45, 51] by decide +kernel]
      have hI3 : Ints w2.heap.size w2 (.slice (some ⟨w1.heap.size, 0, none⟩) 3 3) [3, -1, -3] := (hI2.below hb3).more hb3.size
      have hb4 : Below w.heap.size w w2 := hb2.trans (hb3.mono hb2.size)
      clear hI2 hb3 hb2
      have HI3 := Lib.hid hI3; clear hI3
      go_wp2_with fail
      refine (compare_any _ _ _).mono ?_
      rintro e w' ⟨rfl, rfl⟩
      rw [show compareI 3 (-3) = -1 by decide]
      go_wp2_with fail
      refine (compare_any _ _ _).mono ?_
      rintro e w' ⟨rfl, rfl⟩
      rw [show compareI (-2) 3 = -1 by decide]
      go_wp2_with fail
      refine (vars_any _ _ (by simp) _ HI3.out).mono ?_
      rintro e w3 ⟨v, rfl, hrow, -, hb5⟩
      rw [varsL_ex] at hrow
      obtain ⟨g, cap, rfl⟩ := ownsRow_succ hrow
      have hc1 : ∀ j, j < [(1 : Int), 3].length → (w3.alloc (.cells #[.int .i64 1, .int .i64 3] 3)).cell? ⟨g, 0 + j, none⟩ = some (.int .i64 ([(1 : Int), 3].getD j 0)) := by
        intro j hj
        have hgl := (hrow.lt g rfl).2
        rw [Nat.zero_add, World.cell?_alloc_lt _ _ _ hgl, hrow.cellAt j (by simpa using hj)]
        match j, hj with
        | 0, _ => rfl
        | 1, _ => rfl
      have hc2 : ∀ j, j < [(1 : Int), 3].length → (w3.alloc (.cells #[.int .i64 1, .int .i64 3] 3)).cell? ⟨w3.heap.size, 0 + j, none⟩ = some (.int .i64 ([(1 : Int), 3].getD j 0)) := by
        intro j hj
        rw [cell_of_row _ _ (0 + j) _ _ (0, 0) (World.alloc_heap_new w3 _)]
        match j, hj with
        | 0, _ => rfl
        | 1, _ => rfl
      have hI4 : Ints w3.heap.size w3 (.slice (some ⟨w1.heap.size, 0, none⟩) 3 3) [3, -1, -3] := (HI3.out.below hb5).more hb5.size
      have hI5 : ∀ q, Ints ((w3.alloc (.cells #[.int .i64 1, .int .i64 3] 3)).drewN q).heap.size ((w3.alloc (.cells #[.int .i64 1, .int .i64 3] 3)).drewN q) (.slice (some ⟨w1.heap.size, 0, none⟩) 3 3) [3, -1, -3] := fun q =>
        (hI4.below (below_drewN ((Below.refl _ w3).alloc (Nat.le_refl _) _) q)).more (by simp)
      have hb6 : ∀ q, Below w.heap.size w ((w3.alloc (.cells #[.int .i64 1, .int .i64 3] 3)).drewN q) := fun q =>
        below_drewN ((hb4.trans (hb5.mono hb4.size)).alloc (Nat.le_trans hb4.size hb5.size) _) q
      have HI5 := Lib.hid hI5; clear hI5 hI4
      have H1 := Lib.hid hc1; clear hc1
      have H2 := Lib.hid hc2; clear hc2
      have HB := Lib.hid hb6; clear hb6 hrow hb5 hb4
      go_wp2_with fail
      refine (Tryd.slices_Equal_int g 0 2 cap w3.heap.size 0 2 2 [1, 3] [1, 3] _ (by simp) (by simp) (by omega) (by omega) H1.out H2.out).mono ?_
      rintro e w' ⟨rfl, q, rfl⟩
      rw [show ([(1 : Int), 3].take 2 == [(1 : Int), 3].take 2) = true by decide]
      go_wp2_with fail
      refine (greatest_any _ _ (by simp) _ (HI5.out q)).mono ?_
      rintro e w' ⟨rfl, hb7⟩
      rw [show maxL (vl [3, -1, -3]) = 3 by decide +kernel]
      go_wp2_with fail
      go_ret
      exact ⟨rfl, (HB.out q).trans (hb7.mono (HB.out q).size)⟩
end Go.Proofs.YtjipmjimggggbaaDoor
