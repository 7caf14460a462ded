/- Contracts of the reference's functions of numbers. -/
import Derived.Test.YtgoflapolglfcaaGreatLits
import Derived.LoopTactic
namespace Go.Proofs.YtgoflapolglfcaaGreat
open Go.ChangeShapes Go.WideShapes Go.ChangeAt Go.RowKit

set_option maxHeartbeats 400000 in
theorem ref_right (a : Int) (w : World) : Calls Tryz.prog 63 #[.int .i64 a] w fun e w' => e = .returned (.bool (litB a)) ∧ w = w' := by
  by_cases h1 : 1 ≤ a
  · by_cases h2 : a ≤ 1048576
    · go_enter Tryz.func63, Tryz.ntmps63
      go_wp2
      go_ret
      exact ⟨ret_bool (litB_yes (by omega) (by omega) (by omega)).symm, rfl⟩
    · go_enter Tryz.func63, Tryz.ntmps63
      go_wp2
      go_ret
      exact ⟨ret_bool (by rw [litB_not (by omega)]; try (simp; try omega)), rfl⟩
  · by_cases h2 : -1048576 ≤ a
    · by_cases h3 : a ≤ -1
      · go_enter Tryz.func63, Tryz.ntmps63
        go_wp2
        go_ret
        exact ⟨ret_bool (by rw [litB_yes (by omega) (by omega) (by omega)]; try (simp; try omega)), rfl⟩
      · go_enter Tryz.func63, Tryz.ntmps63
        go_wp2
        go_ret
        exact ⟨ret_bool (by rw [litB_not (by omega)]; try (simp; try omega)), rfl⟩
    · go_enter Tryz.func63, Tryz.ntmps63
      go_wp2
      go_ret
      exact ⟨ret_bool (by rw [litB_not (by omega)]; try (simp; try omega)), rfl⟩

set_option maxHeartbeats 400000 in
theorem ref_var (a : Int) (w : World) : Calls Tryz.prog 42 #[.int .i64 a] w fun e w' => e = .returned (.int .i64 (varI a)) ∧ w = w' := by
  cases hl : litB a
  · have H := Lib.hid hl; clear hl
    go_enter Tryz.func42, Tryz.ntmps42
    go_wp2_with (go_at_call 63; refine (ref_right _ _).mono ?_; rintro e w' ⟨rfl, rfl⟩; rw [H.out])
    go_ret
    exact ⟨ret_i (by simp [varI, H.out]), rfl⟩
  · have hb := litB_of hl
    have H := Lib.hid hl; clear hl
    by_cases h : a < 0
    all_goals
      go_enter Tryz.func42, Tryz.ntmps42
      go_wp2_with (go_at_call 63; refine (ref_right _ _).mono ?_; rintro e w' ⟨rfl, rfl⟩; rw [H.out])
      go_ret
      exact ⟨ret_i (by simp [varI, H.out]; try omega), rfl⟩
def refIdx (a : Int) : Int := if litB a then idxI a else -1
set_option maxHeartbeats 400000 in
theorem ref_index (a : Int) (w : World) : Calls Tryz.prog 76 #[.int .i64 a] w fun e w' => e = .returned (.int .i64 (refIdx a)) ∧ w = w' := by
  cases hl : litB a
  · have H := Lib.hid hl; clear hl
    go_enter Tryz.func76, Tryz.ntmps76
    go_wp2_with (go_at_call 63; refine (ref_right _ _).mono ?_; rintro e w' ⟨rfl, rfl⟩; rw [H.out])
    go_ret
    exact ⟨ret_i (by simp [refIdx, H.out]), rfl⟩
  · have hb := litB_of hl
    have H := Lib.hid hl; clear hl
    by_cases h : a < 0
    all_goals
      go_enter Tryz.func76, Tryz.ntmps76
      go_wp2_with (go_at_call 63; refine (ref_right _ _).mono ?_; rintro e w' ⟨rfl, rfl⟩; rw [H.out])
      go_ret
      exact ⟨ret_i (by simp [refIdx, idxI, H.out]; try omega), rfl⟩

set_option maxHeartbeats 400000 in
theorem ref_at (i : Int) (w : World) : Calls Tryz.prog 77 #[.int .i64 i] w fun e w' => e = .returned (.int .i64 (atI i)) ∧ w = w' := by
  by_cases h0 : i < 0
  · go_enter Tryz.func77, Tryz.ntmps77
    go_wp2
    go_ret
    exact ⟨ret_i (by rw [atI, if_pos h0]), rfl⟩
  · by_cases h1 : i ≤ 2097151
    · by_cases h2 : i % 2 = 1
      · have hq : (i % 2 == 1) = true := by rw [h2]; rfl
        have H2 := Lib.hid h2; clear h2
        go_enter Tryz.func77, Tryz.ntmps77
        go_wp2
        go_ret
        exact ⟨ret_i (by rw [atI, if_neg (by omega), ofI, if_pos (by omega), decide_eq_true H2.out, if_pos rfl]), rfl⟩
      · have hq : (i % 2 == 1) = false := by rw [beq_eq_false_iff_ne]; exact h2
        have H2 := Lib.hid h2; clear h2
        go_enter Tryz.func77, Tryz.ntmps77
        go_wp2
        go_ret
        exact ⟨ret_i (by rw [atI, if_neg (by omega), ofI, if_pos (by omega), decide_eq_false H2.out, if_neg (by decide)]), rfl⟩
    · go_enter Tryz.func77, Tryz.ntmps77
      go_wp2
      go_ret
      exact ⟨ret_i (by rw [atI, if_neg (by omega), ofI, if_neg (by omega)]), rfl⟩

theorem idx_nonneg {a : Int} (h : litB a = true) : 0 ≤ idxI a ∧ idxI a ≤ 2097151 := by
  have := litB_of h
  rw [idxI, if_pos h]
  split <;> omega
set_option maxHeartbeats 400000 in
theorem ref_compare (a b : Int) (w : World) : Calls Tryz.prog 75 #[.int .i64 a, .int .i64 b] w fun e w' => e = .returned (.int .i64 (compareI a b)) ∧ w = w' := by
  cases ha : litB a <;> cases hb : litB b
  · have ea : refIdx a = -1 := by simp [refIdx, ha]
    have eb : refIdx b = -1 := by simp [refIdx, hb]
    have ec : compareI a b = cmpI a b := by simp [compareI, ha, hb]
    have Ea := Lib.hid ea; have Eb := Lib.hid eb; have Ec := Lib.hid ec; clear ha hb ea eb ec
    go_enter Tryz.func75, Tryz.ntmps75
    go_wp2_with (go_at_call 76; refine (ref_index _ _).mono ?_; rintro e w' ⟨rfl, rfl⟩; (first | rw [Ea.out] | rw [Eb.out]))
    all_goals
      go_ret
      exact ⟨ret_i (by rw [Ec.out]; unfold cmpI; split <;> (try split) <;> omega), rfl⟩
  · have ea : refIdx a = -1 := by simp [refIdx, ha]
    obtain ⟨k, eb⟩ : ∃ k, refIdx b = k := ⟨_, rfl⟩
    have hk : 0 ≤ k := by have := idx_nonneg hb; rw [← eb]; simp [refIdx, hb]; omega
    have ec : compareI a b = -1 := by simp [compareI, ha, hb]
    have Ea := Lib.hid ea; have Eb := Lib.hid eb; have Ec := Lib.hid ec; clear ha hb ea eb ec
    go_enter Tryz.func75, Tryz.ntmps75
    go_wp2_with (go_at_call 76; refine (ref_index _ _).mono ?_; rintro e w' ⟨rfl, rfl⟩; (first | rw [Ea.out] | rw [Eb.out]))
    go_ret
    exact ⟨ret_i Ec.out.symm, rfl⟩
  · have eb : refIdx b = -1 := by simp [refIdx, hb]
    obtain ⟨k, ea⟩ : ∃ k, refIdx a = k := ⟨_, rfl⟩
    have hk : 0 ≤ k := by have := idx_nonneg ha; rw [← ea]; simp [refIdx, ha]; omega
    have ec : compareI a b = 1 := by simp [compareI, ha, hb]
    have Ea := Lib.hid ea; have Eb := Lib.hid eb; have Ec := Lib.hid ec; clear ha hb ea eb ec
    go_enter Tryz.func75, Tryz.ntmps75
    go_wp2_with (go_at_call 76; refine (ref_index _ _).mono ?_; rintro e w' ⟨rfl, rfl⟩; (first | rw [Ea.out] | rw [Eb.out]))
    go_ret
    exact ⟨ret_i Ec.out.symm, rfl⟩
  · obtain ⟨k, eb⟩ : ∃ k, refIdx b = k := ⟨_, rfl⟩
    obtain ⟨j, ea⟩ : ∃ j, refIdx a = j := ⟨_, rfl⟩
    have hk : 0 ≤ k := by have := idx_nonneg hb; rw [← eb]; simp [refIdx, hb]; omega
    have hj : 0 ≤ j := by have := idx_nonneg ha; rw [← ea]; simp [refIdx, ha]; omega
    have ec : compareI a b = cmpI j k := by rw [← ea, ← eb]; simp [compareI, refIdx, ha, hb]
    have Ea := Lib.hid ea; have Eb := Lib.hid eb; have Ec := Lib.hid ec; clear ha hb ea eb ec
    go_enter Tryz.func75, Tryz.ntmps75
    go_wp2_with (go_at_call 76; refine (ref_index _ _).mono ?_; rintro e w' ⟨rfl, rfl⟩; (first | rw [Ea.out] | rw [Eb.out]))
    all_goals
      go_ret
      exact ⟨ret_i (by rw [Ec.out]; unfold cmpI; split <;> (try split) <;> omega), rfl⟩
end Go.Proofs.YtgoflapolglfcaaGreat
