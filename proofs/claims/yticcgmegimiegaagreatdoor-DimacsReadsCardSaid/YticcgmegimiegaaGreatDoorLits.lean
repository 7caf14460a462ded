/- Contracts of the functions of package lits that take numbers. -/
import Derived.Test.YticcgmegimiegaaGreatDoorRows
import Derived.WalkKit
import Derived.ProofKit
import Derived.OpenShut
import Derived.Deep.QuietTactic
import Derived.BigQuiet
import Derived.Lib.Hide
import Derived.Outline
namespace Go.Proofs.YticcgmegimiegaaGreatDoor
open Go.ChangeShapes Go.WideShapes Go.ChangeAt Go.RowKit

/-- The number is a literal. -/
def litB (a : Int) : Bool := decide (a ≠ 0 ∧ -1048576 ≤ a ∧ a ≤ 1048576)
theorem litB_of {a : Int} (h : litB a = true) : a ≠ 0 ∧ -1048576 ≤ a ∧ a ≤ 1048576 := of_decide_eq_true h
theorem litB_no {a : Int} (h : litB a = false) : ¬ (a ≠ 0 ∧ -1048576 ≤ a ∧ a ≤ 1048576) := of_decide_eq_false h
theorem litB_yes {a : Int} (h : a ≠ 0) (h1 : -1048576 ≤ a) (h2 : a ≤ 1048576) : litB a = true := decide_eq_true ⟨h, h1, h2⟩
theorem litB_not {a : Int} (h : ¬ (a ≠ 0 ∧ -1048576 ≤ a ∧ a ≤ 1048576)) : litB a = false := decide_eq_false h
def varI (a : Int) : Int := if litB a then (if a < 0 then -a else a) else 0
def negdB (a : Int) : Bool := decide (a < 0) && litB a
def negI (a : Int) : Int := if litB a then -a else 0
def idxI (a : Int) : Int := if litB a then (if a < 0 then 2 * -a - 1 else 2 * a - 2) else 0
def errI (b : Bool) : Int := if b then 0 else 10
def ofI (v : Int) (n : Bool) : Int := if 1 ≤ v ∧ v ≤ 1048576 then (if n then -v else v) else 0
def ofE (v : Int) : Int := if 1 ≤ v ∧ v ≤ 1048576 then 0 else 10

theorem ret_bool {a b : Bool} (h : a = b) : Ending.returned (.bool a) = .returned (.bool b) := by rw [h]
theorem ret_i {k : IntKind} {a b : Int} (h : a = b) : Ending.returned (.int k a) = .returned (.int k b) := by rw [h]
theorem ret_ii {k l : IntKind} {a b c d : Int} (h : a = b) (h' : c = d) : Ending.returned (.tuple #[.int k a, .int l c]) = .returned (.tuple #[.int k b, .int l d]) := by rw [h, h']

set_option maxHeartbeats 400000 in
theorem right_any (a : Int) (w : World) : Calls Tryz.prog 97 #[.int .i64 a] w fun e w' => e = .returned (.bool (litB a)) ∧ w = w' := by
  by_cases h0 : a = 0
  · subst h0
    go_enter Tryz.func97, Tryz.ntmps97
    go_wp2
    go_ret
    exact ⟨rfl, rfl⟩
  · by_cases h1 : -1048576 ≤ a
    · by_cases h2 : a ≤ 1048576
      · go_enter Tryz.func97, Tryz.ntmps97
        go_wp2
        go_ret
        exact ⟨ret_bool (by rw [litB_yes h0 h1 h2]; try (simp; try omega)), rfl⟩
      · go_enter Tryz.func97, Tryz.ntmps97
        go_wp2
        go_ret
        exact ⟨ret_bool (by rw [litB_not (by omega)]; try (simp; try omega)), rfl⟩
    · go_enter Tryz.func97, Tryz.ntmps97
      go_wp2
      go_ret
      exact ⟨ret_bool (litB_not (by omega)).symm, rfl⟩

set_option maxHeartbeats 400000 in
theorem var_any (a : Int) (w : World) : Calls Tryz.prog 93 #[.int .i64 a] w fun e w' => e = .returned (.int .i64 (varI a)) ∧ w = w' := by
  cases hl : litB a
  · have H := Lib.hid hl; clear hl
    go_enter Tryz.func93, Tryz.ntmps93
    go_wp2_with (go_at_call 97; refine (right_any _ _).mono ?_; rintro e w' ⟨rfl, rfl⟩; rw [H.out])
    go_ret
    exact ⟨ret_i (by simp [varI, H.out]), rfl⟩
  · have hb := litB_of hl
    have H := Lib.hid hl; clear hl
    by_cases h : a < 0
    all_goals
      go_enter Tryz.func93, Tryz.ntmps93
      go_wp2_with (go_at_call 97; refine (right_any _ _).mono ?_; rintro e w' ⟨rfl, rfl⟩; rw [H.out])
      go_ret
      exact ⟨ret_i (by simp [varI, H.out]; try omega), rfl⟩
set_option maxHeartbeats 400000 in
theorem of_any (v : Int) (n : Bool) (w : World) : Calls Tryz.prog 114 #[.int .i64 v, .bool n] w fun e w' => e = .returned (.tuple #[.int .i64 (ofI v n), .int .i64 (ofE v)]) ∧ w = w' := by
  by_cases h1 : 1 ≤ v
  · by_cases h2 : v ≤ 1048576
    · cases n
      all_goals
        go_enter Tryz.func114, Tryz.ntmps114
        go_wp2
        go_ret2
        exact ⟨ret_ii (by simp [ofI]; try omega) (by simp [ofE]; try omega), rfl⟩
    · go_enter Tryz.func114, Tryz.ntmps114
      go_wp2
      go_ret2
      exact ⟨ret_ii (by simp [ofI]; try omega) (by simp [ofE]; try omega), rfl⟩
  · go_enter Tryz.func114, Tryz.ntmps114
    go_wp2
    go_ret2
    exact ⟨ret_ii (by simp [ofI]; try omega) (by simp [ofE]; try omega), rfl⟩
def atI (i : Int) : Int := if i < 0 then 0 else ofI (i / 2 + 1) (decide (i % 2 = 1))
def atE (i : Int) : Int := if i < 0 then 10 else ofE (i / 2 + 1)
/-- The sign of a comparison. -/
def cmpI (a b : Int) : Int := if a < b then -1 else if b < a then 1 else 0
def compareI (a b : Int) : Int :=
  if litB a then (if litB b then cmpI (idxI a) (idxI b) else 1) else (if litB b then -1 else cmpI a b)
end Go.Proofs.YticcgmegimiegaaGreatDoor
