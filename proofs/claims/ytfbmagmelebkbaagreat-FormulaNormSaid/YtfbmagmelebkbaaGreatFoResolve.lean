/- Clauses resolved: what holds of them. -/
import Derived.Test.YtfbmagmelebkbaaGreatFoEv2
import Derived.Test.YtfbmagmelebkbaaGreatClClashes
import Derived.Test.YtfbmagmelebkbaaGreatClUnion
namespace Go.Proofs.YtfbmagmelebkbaaGreat
open Go.RowKit Go.ChangeAt Go.ChangeShapes Go.WideShapes Go.Shelf Go.Sort

theorem sat_neg {m : List Bool} {l : Int} (h : 1 ≤ l.natAbs) : satB m (-l) = !satB m l := by
  unfold satB
  rw [Int.natAbs_neg]
  have : decide (-l < 0) = !decide (l < 0) := by
    by_cases h0 : l < 0
    · rw [decide_eq_true h0, decide_eq_false (by omega)]; rfl
    · rw [decide_eq_false h0, decide_eq_true (by omega)]; rfl
  rw [this]
  cases m[l.natAbs - 1]?.getD false <;> cases decide (l < 0) <;> rfl
theorem clash_mem {xs ys : List Int} {x : Int} : x ∈ normL (xs.filter fun x => hasB ys (-x)) ↔ x ∈ xs ∧ -x ∈ ys := by
  rw [norm_mem, List.mem_filter]
  exact ⟨fun ⟨h, h'⟩ => ⟨h, hasB_iff.1 h'⟩, fun ⟨h, h'⟩ => ⟨h, hasB_iff.2 h'⟩⟩
theorem cl8_right {xs : List Int} (h : Cl8 xs) : rightB xs = true := cl_right (by have := h.1; omega) h.2
theorem resolve_cl8 {xs ys : List Int} {l : Int} (hx : Cl8 xs) (hy : Cl8 ys) (h1 : l ∈ xs) (h2 : -l ∈ ys) :
    clResE xs ys l = 0 ∧ Few8 (clResL xs ys l) ∧ ∀ m : List Bool, holdsM m xs = true → holdsM m ys = true → holdsM m (clResL xs ys l) = true := by
  have hra := cl8_right hx
  have hrb := cl8_right hy
  have hl8 := hx.2 l h1
  have hlx : litB l = true := lit_small (by omega)
  have hpl : (normL (lessL xs l)).length ≤ 20 := by have := norm_length (lessL xs l); have := lessL_length xs l; have := hx.1; omega
  have hql : (normL (lessL ys (-l))).length ≤ 20 := by have := norm_length (lessL ys (-l)); have := lessL_length ys (-l); have := hy.1; omega
  have hrs : clResL xs ys l = normL (normL (lessL xs l) ++ normL (lessL ys (-l))) := by
    unfold clResL resL
    rw [hra, hrb, Bool.and_self, if_pos rfl, hlx, if_pos rfl, hasB_iff.2 h1, hasB_iff.2 h2, Bool.and_self, if_pos rfl, manyL_few (by rw [List.length_append]; omega)]
  have hre : clResE xs ys l = 0 := by
    unfold clResE resE
    rw [hra, hrb, Bool.and_self, if_pos rfl, hlx, if_pos rfl, hasB_iff.2 h1, hasB_iff.2 h2, Bool.and_self, if_pos rfl, manyE_few (by rw [List.length_append]; omega)]
  have hmr : ∀ y, y ∈ clResL xs ys l ↔ (y ∈ xs ∧ y ≠ l) ∨ (y ∈ ys ∧ y ≠ -l) := fun y => by rw [hrs, norm_mem, List.mem_append, norm_mem, norm_mem, lessL_mem, lessL_mem]
  refine ⟨hre, ⟨by rw [hrs]; have := norm_length (normL (lessL xs l) ++ normL (lessL ys (-l))); rw [List.length_append] at this; omega, fun y hy' => ?_⟩, fun m h3 h4 => ?_⟩
  · rcases (hmr y).1 hy' with h | h
    · exact hx.2 y h.1
    · exact hy.2 y h.1
  · unfold holdsM at h3 h4 ⊢
    obtain ⟨a, ha, has⟩ := List.any_eq_true.1 h3
    obtain ⟨b, hb, hbs⟩ := List.any_eq_true.1 h4
    by_cases e : a = l
    · subst e
      have : b ≠ -a := fun e' => by
        rw [e', sat_neg (by omega), has] at hbs
        cases hbs
      exact List.any_eq_true.2 ⟨b, (hmr b).2 (.inr ⟨hb, this⟩), hbs⟩
    · exact List.any_eq_true.2 ⟨a, (hmr a).2 (.inl ⟨ha, e⟩), has⟩
theorem clashes_cl8 (xv yv : Value) (xs ys : List Int) (hx : Cl8 xs) (hy : Cl8 ys) (w : World) (hI : Lits w.heap.size w xv xs) (hJ : Lits w.heap.size w yv ys) :
    Calls Tryz.prog 39 #[xv, yv] w (Gives2 37 w (normL (xs.filter fun x => hasB ys (-x))) 0) := by
  have h := clashes_any w.heap.size xv yv xs ys (by have := hx.1; omega) (by have := hy.1; omega) w (Nat.le_refl _) hI hJ
  rw [cl8_right hx, cl8_right hy, Bool.and_self, if_pos rfl, if_pos rfl] at h
  exact h
end Go.Proofs.YtfbmagmelebkbaaGreat
