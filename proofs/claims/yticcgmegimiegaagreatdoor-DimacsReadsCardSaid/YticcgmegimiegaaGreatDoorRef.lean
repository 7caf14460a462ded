/- Contracts of the reference's functions of numbers. -/
import Derived.Test.YticcgmegimiegaaGreatDoorLits
import Derived.LoopTactic
namespace Go.Proofs.YticcgmegimiegaaGreatDoor
open Go.ChangeShapes Go.WideShapes Go.ChangeAt Go.RowKit

set_option maxHeartbeats 400000 in
theorem ref_right (a : Int) (w : World) : Calls Tryz.prog 78 #[.int .i64 a] w fun e w' => e = .returned (.bool (litB a)) ∧ w = w' := by
  by_cases h1 : 1 ≤ a
  · by_cases h2 : a ≤ 1048576
    · go_enter Tryz.func78, Tryz.ntmps78
      go_wp2
      go_ret
      exact ⟨ret_bool (litB_yes (by omega) (by omega) (by omega)).symm, rfl⟩
    · go_enter Tryz.func78, Tryz.ntmps78
      go_wp2
      go_ret
      exact ⟨ret_bool (by rw [litB_not (by omega)]; try (simp; try omega)), rfl⟩
  · by_cases h2 : -1048576 ≤ a
    · by_cases h3 : a ≤ -1
      · go_enter Tryz.func78, Tryz.ntmps78
        go_wp2
        go_ret
        exact ⟨ret_bool (by rw [litB_yes (by omega) (by omega) (by omega)]; try (simp; try omega)), rfl⟩
      · go_enter Tryz.func78, Tryz.ntmps78
        go_wp2
        go_ret
        exact ⟨ret_bool (by rw [litB_not (by omega)]; try (simp; try omega)), rfl⟩
    · go_enter Tryz.func78, Tryz.ntmps78
      go_wp2
      go_ret
      exact ⟨ret_bool (by rw [litB_not (by omega)]; try (simp; try omega)), rfl⟩

set_option maxHeartbeats 400000 in
theorem ref_var (a : Int) (w : World) : Calls Tryz.prog 77 #[.int .i64 a] w fun e w' => e = .returned (.int .i64 (varI a)) ∧ w = w' := by
  cases hl : litB a
  · have H := Lib.hid hl; clear hl
    go_enter Tryz.func77, Tryz.ntmps77
    go_wp2_with (go_at_call 78; refine (ref_right _ _).mono ?_; rintro e w' ⟨rfl, rfl⟩; rw [H.out])
    go_ret
    exact ⟨ret_i (by simp [varI, H.out]), rfl⟩
  · have hb := litB_of hl
    have H := Lib.hid hl; clear hl
    by_cases h : a < 0
    all_goals
      go_enter Tryz.func77, Tryz.ntmps77
      go_wp2_with (go_at_call 78; refine (ref_right _ _).mono ?_; rintro e w' ⟨rfl, rfl⟩; rw [H.out])
      go_ret
      exact ⟨ret_i (by simp [varI, H.out]; try omega), rfl⟩
def refIdx (a : Int) : Int := if litB a then idxI a else -1
theorem idx_nonneg {a : Int} (h : litB a = true) : 0 ≤ idxI a ∧ idxI a ≤ 2097151 := by
  have := litB_of h
  rw [idxI, if_pos h]
  split <;> omega
end Go.Proofs.YticcgmegimiegaaGreatDoor
