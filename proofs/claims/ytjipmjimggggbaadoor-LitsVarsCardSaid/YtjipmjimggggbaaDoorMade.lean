/- The contract of the laws' Made: a literal out of any number; what is known of literals by their variable. -/
import Derived.Test.YtjipmjimggggbaaDoorLits
namespace Go.Proofs.YtjipmjimggggbaaDoor
open Go.ChangeShapes Go.WideShapes Go.ChangeAt Go.RowKit

/-- The literal that is made of a number. -/
def madeI (n : Int) : Int := if (bits BinOp.and IntKind.i32 n 1 == 1) = true then -(1 + n % 4294967296 / 2 % 1048576) else 1 + n % 4294967296 / 2 % 1048576
theorem madeI_is (n : Int) : ∃ x : Int, 1 ≤ x ∧ x ≤ 1048576 ∧ (madeI n = x ∨ madeI n = -x) := by
  refine ⟨1 + n % 4294967296 / 2 % 1048576, by omega, by omega, ?_⟩
  unfold madeI
  split
  · exact .inr rfl
  · exact .inl rfl

set_option maxHeartbeats 400000 in
theorem made_any (n : Int) (h : (Lit.int .i32 n).wf = true) (w : World) : Calls Tryd.prog 22 #[.int .i32 n] w fun e w' => e = .returned (.int .i64 (madeI n)) ∧ w = w' := by
  have hb : IntKind.i32.min ≤ n ∧ n ≤ IntKind.i32.max := by simpa [Lit.wf] using h
  have h0 : -2147483648 ≤ n := hb.1
  have h1 : n ≤ 2147483647 := hb.2
  clear hb
  go_enter Tryd.func22, Tryd.ntmps22
  go_wp2
  · have h2 : (bits BinOp.and IntKind.i32 n 1 == 1) = true := by assumption
    go_ret
    exact ⟨ret_i (by rw [madeI, if_pos h2]), rfl⟩
  · have h2 : (bits BinOp.and IntKind.i32 n 1 == 1) = false := by assumption
    go_ret
    exact ⟨ret_i (by rw [madeI, if_neg (by rw [h2]; exact Bool.false_ne_true)]), rfl⟩

section
variable {x : Int} (h0 : 1 ≤ x) (h1 : x ≤ 1048576)
include h0 h1
theorem p_lit : litB x = true := litB_yes (by omega) (by omega) (by omega)
theorem n_lit : litB (-x) = true := litB_yes (by omega) (by omega) (by omega)
theorem p_var : varI x = x := by rw [varI, if_pos (p_lit h0 h1), if_neg (by omega)]
theorem n_var : varI (-x) = x := by rw [varI, if_pos (n_lit h0 h1), if_pos (by omega)]; omega
theorem p_negd : negdB x = false := by unfold negdB; rw [decide_eq_false (by omega)]; rfl
theorem n_negd : negdB (-x) = true := by unfold negdB; rw [decide_eq_true (by omega), n_lit h0 h1]; rfl
theorem p_neg : negI x = -x := by rw [negI, if_pos (p_lit h0 h1)]
theorem n_neg : negI (-x) = x := by rw [negI, if_pos (n_lit h0 h1)]; omega
theorem p_idx : idxI x = 2 * x - 2 := by rw [idxI, if_pos (p_lit h0 h1), if_neg (by omega)]
theorem n_idx : idxI (-x) = 2 * x - 1 := by rw [idxI, if_pos (n_lit h0 h1), if_pos (by omega)]; omega
end
end Go.Proofs.YtjipmjimggggbaaDoor
