/- clauses.Within, Same, Has, Normal. -/
import Derived.Test.YtmghmmkljplnfaaGreatClHaving
namespace Go.Proofs.YtmghmmkljplnfaaGreat
open Go.ChangeShapes Go.WideShapes Go.ChangeAt Go.RowKit Go.Shelf Go.Sort

theorem hasB_norm (zs : List Int) (x : Int) : hasB (normL zs) x = hasB zs x := by
  unfold hasB
  rw [Bool.eq_iff_iff, decide_eq_true_iff, decide_eq_true_iff, norm_mem]
/-- The answer of Within. -/
def withinB (xs ys : List Int) : Bool := rightB xs && (rightB ys && withB xs ys)
def WiRel (w : World) (xs ys : List Int) (i : Value) (wr : World) : Prop := ∃ k : Nat, k ≤ xs.length ∧ i = .int .i64 k ∧ (∀ x ∈ xs.take k, hasB ys x = true) ∧ RowKit.Below w.heap.size w wr



theorem contains_lits {B : Nat} {v : Value} {xs : List Int} (x : Int) (w : World) (hx : xs.length ≤ 1000000) (h : Ints B w v xs) :
    Calls Tryz.prog 49 #[v, .int .i64 x] w fun e w' => e = .returned (.bool (hasB xs x)) ∧ w = w' := by
  rcases h with ⟨A, c, rfl, -, rfl⟩ | ⟨b, off, cap, rfl, -, hc⟩
  · exact (Tryz.slices_Contains_int_empty_f49 A c x w).mono fun e w' ⟨he, hw⟩ => ⟨he, hw.symm⟩
  · refine (Tryz.slices_Contains_int_f49 b off xs.length cap xs x w (Nat.le_refl _) (by omega) (fun j hj => by rw [List.getD_eq_getElem?_getD]; exact hc j hj)).mono fun e w' ⟨he, hw⟩ => ⟨?_, hw.symm⟩
    rw [he, List.take_length]
    congr 2
    unfold hasB
    rw [Bool.eq_iff_iff, List.contains_iff_mem, decide_eq_true_iff]


end Go.Proofs.YtmghmmkljplnfaaGreat
