/- slices.Equal of two lists of literals. -/
import Derived.Test.YticcgmegimiegaaGreatDoorRight
import Derived.Test.YticcgmegimiegaaGreatDoorShelf
namespace Go.Proofs.YticcgmegimiegaaGreatDoor
open Go.RowKit Go.ChangeAt Go.ChangeShapes Go.WideShapes

/-! ### slices.Equal -/
set_option maxHeartbeats 400000 in
theorem equal_cl_lens (a1 a2 : Option Addr) (n c m d : Nat) (w : World) (h : n ≠ m) : Calls Tryz.prog 58 #[.slice a1 n c, .slice a2 m d] w fun e w' => e = .returned (.bool false) ∧ w' = w := by
  have hq : ((n : Int) == (m : Int)) = false := by rw [beq_eq_false_iff_ne]; omega
  have hq2 : (n == m) = false := by rw [beq_eq_false_iff_ne]; exact h
  go_enter Tryz.func58, Tryz.ntmps58
  go_wp2
  go_ret
  exact ⟨rfl, rfl⟩
theorem equal_cl {B : Nat} {v1 v2 : Value} {xs ys : List Int} (w : World) (hx : xs.length ≤ 9223372036854775807) (hy : ys.length ≤ 9223372036854775807) (h1 : Ints B w v1 xs) (h2 : Ints B w v2 ys) :
    Calls Tryz.prog 58 #[v1, v2] w fun e w' => e = .returned (.bool (xs == ys)) ∧ ∃ q, w' = w.drewN q := by
  by_cases hl : xs.length = ys.length
  · rcases h1 with ⟨A, c, rfl, -, rfl⟩ | ⟨b, off, cap, rfl, -, hc⟩
    · obtain ⟨A', c', rfl, -⟩ := ints_shape h2
      refine (Tryz.slices_Equal_int_empty_f58 _ _ _ _ _ w hy).mono fun e w' ⟨he, hw⟩ => ⟨?_, 0, hw⟩
      rw [he]
      cases ys <;> rfl
    · rcases h2 with ⟨A', c', rfl, -, rfl⟩ | ⟨b', off', cap', rfl, -, hc'⟩
      · obtain rfl : xs = [] := List.eq_nil_of_length_eq_zero hl
        exact (Tryz.slices_Equal_int_empty_f58 _ _ _ _ _ w (by omega)).mono fun e w' ⟨he, hw⟩ => ⟨by rw [he]; rfl, 0, hw⟩
      · refine (Tryz.slices_Equal_int_f58 b off xs.length cap b' off' ys.length cap' xs ys w (Nat.le_refl _) (Nat.le_refl _) hx hy (fun j hj => by rw [List.getD_eq_getElem?_getD]; exact hc j hj) (fun j hj => by rw [List.getD_eq_getElem?_getD]; exact hc' j hj)).mono fun e w' ⟨he, hw⟩ => ⟨?_, hw⟩
        rw [he, List.take_length, List.take_length]
  · obtain ⟨A, c, rfl, -⟩ := ints_shape h1
    obtain ⟨A', c', rfl, -⟩ := ints_shape h2
    refine (equal_cl_lens _ _ _ _ _ _ w hl).mono fun e w' ⟨he, hw⟩ => ⟨?_, 0, hw⟩
    have hne : (xs == ys) = false := by rw [beq_eq_false_iff_ne]; rintro rfl; exact hl rfl
    rw [he, hne]
end Go.Proofs.YticcgmegimiegaaGreatDoor
