/- Contracts of the functions of package lits that take numbers. -/
import Derived.Test.YtgoflapolglfcaaGreatRows
import Derived.WalkKit
import Derived.ProofKit
import Derived.OpenShut
import Derived.Deep.QuietTactic
import Derived.BigQuiet
import Derived.Lib.Hide
import Derived.Outline
namespace Go.Proofs.YtgoflapolglfcaaGreat
open Go.ChangeShapes Go.WideShapes Go.ChangeAt Go.RowKit

/-- The number is a literal. -/
def litB (a : Int) : Bool := decide (a ≠ 0 ∧ -1048576 ≤ a ∧ a ≤ 1048576)
theorem litB_of {a : Int} (h : litB a = true) : a ≠ 0 ∧ -1048576 ≤ a ∧ a ≤ 1048576 := of_decide_eq_true h
theorem litB_no {a : Int} (h : litB a = false) : ¬ (a ≠ 0 ∧ -1048576 ≤ a ∧ a ≤ 1048576) := of_decide_eq_false h
theorem litB_yes {a : Int} (h : a ≠ 0) (h1 : -1048576 ≤ a) (h2 : a ≤ 1048576) : litB a = true := decide_eq_true ⟨h, h1, h2⟩
theorem litB_not {a : Int} (h : ¬ (a ≠ 0 ∧ -1048576 ≤ a ∧ a ≤ 1048576)) : litB a = false := decide_eq_false h
def varI (a : Int) : Int := if litB a then (if a < 0 then -a else a) else 0
def negdB (a : Int) : Bool := decide (a < 0) && litB a
def negI (a : Int) : Int := if litB a then -a else 0
def idxI (a : Int) : Int := if litB a then (if a < 0 then 2 * -a - 1 else 2 * a - 2) else 0
def errI (b : Bool) : Int := if b then 0 else 10
def ofI (v : Int) (n : Bool) : Int := if 1 ≤ v ∧ v ≤ 1048576 then (if n then -v else v) else 0
def ofE (v : Int) : Int := if 1 ≤ v ∧ v ≤ 1048576 then 0 else 10

theorem ret_bool {a b : Bool} (h : a = b) : Ending.returned (.bool a) = .returned (.bool b) := by rw [h]
theorem ret_i {k : IntKind} {a b : Int} (h : a = b) : Ending.returned (.int k a) = .returned (.int k b) := by rw [h]
theorem ret_ii {k l : IntKind} {a b c d : Int} (h : a = b) (h' : c = d) : Ending.returned (.tuple #[.int k a, .int l c]) = .returned (.tuple #[.int k b, .int l d]) := by rw [h, h']

set_option maxHeartbeats 400000 in
theorem right_any (a : Int) (w : World) : Calls Tryz.prog 59 #[.int .i64 a] w fun e w' => e = .returned (.bool (litB a)) ∧ w = w' := by
  by_cases h0 : a = 0
  · subst h0
    go_enter Tryz.func59, Tryz.ntmps59
    go_wp2
    go_ret
    exact ⟨rfl, rfl⟩
  · by_cases h1 : -1048576 ≤ a
    · by_cases h2 : a ≤ 1048576
      · go_enter Tryz.func59, Tryz.ntmps59
        go_wp2
        go_ret
        exact ⟨ret_bool (by rw [litB_yes h0 h1 h2]; try (simp; try omega)), rfl⟩
      · go_enter Tryz.func59, Tryz.ntmps59
        go_wp2
        go_ret
        exact ⟨ret_bool (by rw [litB_not (by omega)]; try (simp; try omega)), rfl⟩
    · go_enter Tryz.func59, Tryz.ntmps59
      go_wp2
      go_ret
      exact ⟨ret_bool (litB_not (by omega)).symm, rfl⟩

set_option maxHeartbeats 400000 in
theorem var_any (a : Int) (w : World) : Calls Tryz.prog 33 #[.int .i64 a] w fun e w' => e = .returned (.int .i64 (varI a)) ∧ w = w' := by
  cases hl : litB a
  · have H := Lib.hid hl; clear hl
    go_enter Tryz.func33, Tryz.ntmps33
    go_wp2_with (go_at_call 59; refine (right_any _ _).mono ?_; rintro e w' ⟨rfl, rfl⟩; rw [H.out])
    go_ret
    exact ⟨ret_i (by simp [varI, H.out]), rfl⟩
  · have hb := litB_of hl
    have H := Lib.hid hl; clear hl
    by_cases h : a < 0
    all_goals
      go_enter Tryz.func33, Tryz.ntmps33
      go_wp2_with (go_at_call 59; refine (right_any _ _).mono ?_; rintro e w' ⟨rfl, rfl⟩; rw [H.out])
      go_ret
      exact ⟨ret_i (by simp [varI, H.out]; try omega), rfl⟩
set_option maxHeartbeats 400000 in
theorem negd_any (a : Int) (w : World) : Calls Tryz.prog 34 #[.int .i64 a] w fun e w' => e = .returned (.bool (negdB a)) ∧ w = w' := by
  by_cases h : a < 0
  · cases hl : litB a
    all_goals
      have H := Lib.hid hl; clear hl
      go_enter Tryz.func34, Tryz.ntmps34
      go_wp2_with (go_at_call 59; refine (right_any _ _).mono ?_; rintro e w' ⟨rfl, rfl⟩; rw [H.out])
      go_ret
      exact ⟨ret_bool (by simp [negdB, H.out]; try omega), rfl⟩
  · go_enter Tryz.func34, Tryz.ntmps34
    go_wp2
    go_ret
    exact ⟨ret_bool (by simp [negdB]; omega), rfl⟩
set_option maxHeartbeats 400000 in
theorem neg_any (a : Int) (w : World) : Calls Tryz.prog 46 #[.int .i64 a] w fun e w' => e = .returned (.int .i64 (negI a)) ∧ w = w' := by
  cases hl : litB a
  · have H := Lib.hid hl; clear hl
    go_enter Tryz.func46, Tryz.ntmps46
    go_wp2_with (go_at_call 59; refine (right_any _ _).mono ?_; rintro e w' ⟨rfl, rfl⟩; rw [H.out])
    go_ret
    exact ⟨ret_i (by simp [negI, H.out]), rfl⟩
  · have hb := litB_of hl
    have H := Lib.hid hl; clear hl
    go_enter Tryz.func46, Tryz.ntmps46
    go_wp2_with (go_at_call 59; refine (right_any _ _).mono ?_; rintro e w' ⟨rfl, rfl⟩; rw [H.out])
    go_ret
    exact ⟨ret_i (by simp [negI, H.out]), rfl⟩

set_option maxHeartbeats 400000 in
theorem index_any (a : Int) (w : World) : Calls Tryz.prog 97 #[.int .i64 a] w fun e w' => e = .returned (.tuple #[.int .i64 (idxI a), .int .i64 (errI (litB a))]) ∧ w = w' := by
  cases hl : litB a
  · have H := Lib.hid hl; clear hl
    go_enter Tryz.func97, Tryz.ntmps97
    go_wp2_with (go_at_call 59; refine (right_any _ _).mono ?_; rintro e w' ⟨rfl, rfl⟩; rw [H.out])
    go_ret2
    exact ⟨ret_ii (by simp [idxI, H.out]) (by simp [errI]), rfl⟩
  · have hb := litB_of hl
    have H := Lib.hid hl; clear hl
    by_cases h : a < 0
    all_goals
      go_enter Tryz.func97, Tryz.ntmps97
      go_wp2_with (go_at_call 59; refine (right_any _ _).mono ?_; rintro e w' ⟨rfl, rfl⟩; rw [H.out])
      go_ret2
      exact ⟨ret_ii (by simp [idxI, H.out]; try omega) (by simp [errI]), rfl⟩

def atI (i : Int) : Int := if i < 0 then 0 else ofI (i / 2 + 1) (decide (i % 2 = 1))
def atE (i : Int) : Int := if i < 0 then 10 else ofE (i / 2 + 1)
/-- The sign of a comparison. -/
def cmpI (a b : Int) : Int := if a < b then -1 else if b < a then 1 else 0
theorem nan1 (a : Int) (w : World) : Calls Tryz.prog 105 #[.int .i64 a] w fun e w' => e = .returned (.bool false) ∧ w = w' := by
  go_enter Tryz.func105, Tryz.ntmps105
  go_wp2
  go_ret
  exact ⟨ret_bool (by simp), rfl⟩
theorem nan2 (a : Int) (w : World) : Calls Tryz.prog 96 #[.int .i64 a] w fun e w' => e = .returned (.bool false) ∧ w = w' := by
  go_enter Tryz.func96, Tryz.ntmps96
  go_wp2
  go_ret
  exact ⟨ret_bool (by simp), rfl⟩
set_option maxHeartbeats 400000 in
theorem cmp1 (a b : Int) (w : World) : Calls Tryz.prog 98 #[.int .i64 a, .int .i64 b] w fun e w' => e = .returned (.int .i64 (cmpI a b)) ∧ w = w' := by
  go_enter Tryz.func98, Tryz.ntmps98
  go_wp2_with (go_at_call 105; refine (nan1 _ _).mono ?_; rintro e w' ⟨rfl, rfl⟩)
  all_goals
    go_ret
    exact ⟨ret_i (by unfold cmpI; split <;> (try split) <;> omega), rfl⟩
set_option maxHeartbeats 400000 in
theorem cmp2 (a b : Int) (w : World) : Calls Tryz.prog 72 #[.int .i64 a, .int .i64 b] w fun e w' => e = .returned (.int .i64 (cmpI a b)) ∧ w = w' := by
  go_enter Tryz.func72, Tryz.ntmps72
  go_wp2_with (go_at_call 96; refine (nan2 _ _).mono ?_; rintro e w' ⟨rfl, rfl⟩)
  all_goals
    go_ret
    exact ⟨ret_i (by unfold cmpI; split <;> (try split) <;> omega), rfl⟩

def compareI (a b : Int) : Int :=
  if litB a then (if litB b then cmpI (idxI a) (idxI b) else 1) else (if litB b then -1 else cmpI a b)
set_option maxHeartbeats 400000 in
theorem compare_any (a b : Int) (w : World) : Calls Tryz.prog 74 #[.int .i64 a, .int .i64 b] w fun e w' => e = .returned (.int .i64 (compareI a b)) ∧ w = w' := by
  cases ha : litB a <;> cases hb : litB b
  all_goals
    have Ha := Lib.hid ha; clear ha
    have Hb := Lib.hid hb; clear hb
    go_enter Tryz.func74, Tryz.ntmps74
    go_wp2_with fail
    refine (index_any _ _).mono ?_
    rintro e w' ⟨rfl, rfl⟩
    rw [Ha.out]
    go_wp2_with fail
    refine (index_any _ _).mono ?_
    rintro e w' ⟨rfl, rfl⟩
    rw [Hb.out]
    simp only [errI]
    go_wp2_with (first
      | (go_at_call 98; refine (cmp1 _ _ _).mono ?_; rintro e w' ⟨rfl, rfl⟩)
      | (go_at_call 72; refine (cmp2 _ _ _).mono ?_; rintro e w' ⟨rfl, rfl⟩))
    go_ret
    exact ⟨ret_i (by simp [compareI, Ha.out, Hb.out]), rfl⟩
end Go.Proofs.YtgoflapolglfcaaGreat
