/- slices.Equal, Clone over slices that hold lists, nil or not. -/
import Derived.Test.YtjipmjimggggbaaDoorRefLists
import Derived.Test.YtjipmjimggggbaaDoorShelf2
import Derived.Test.YtjipmjimggggbaaDoorText
namespace Go.Proofs.YtjipmjimggggbaaDoor
open Go.ChangeShapes Go.WideShapes Go.ChangeAt Go.RowKit

theorem ints_own {W : World} {base : Nat} {e : TypeId} {v : Value} {n : Nat} {xs : List Int} (h : W.ownsRow base e 1 v n (xs.map (Value.int .i64))) : Ints W.heap.size W v xs := by
  have hl : xs.length = n := by simpa using h.1
  rcases h.2 with ⟨rfl, h0⟩ | ⟨g, cap, cur, rfl, hb, hg, hn, hm, hs, ht⟩
  · subst h0
    exact .inl ⟨_, _, rfl, List.eq_nil_of_length_eq_zero hl⟩
  · refine .inr ⟨g, 0, cap, by rw [hl], (h.lt g rfl).2, fun j hj => ?_⟩
    rw [Nat.zero_add, h.cellAt j (by omega), List.getElem?_map]
    simp [hj]
theorem getD_eq (l : List Int) (j : Nat) : l.getD j 0 = l[j]?.getD 0 := by rw [List.getD_eq_getElem?_getD]

theorem equal_ints {B : Nat} {v1 v2 : Value} {xs ys : List Int} (w : World) (hx : xs.length ≤ 9223372036854775807) (hy : ys.length ≤ 9223372036854775807) (h1 : Ints B w v1 xs) (h2 : Ints B w v2 ys) :
    Calls Tryd.prog 19 #[v1, v2] w fun e w' => e = .returned (.bool (xs == ys)) ∧ ∃ q, w' = w.drewN q := by
  rcases h1 with ⟨A, c, rfl, rfl⟩ | ⟨b, off, cap, rfl, -, hc⟩
  · rcases h2 with ⟨A', c', rfl, rfl⟩ | ⟨b', off', cap', rfl, -, hc'⟩
    · exact (Tryd.slices_Equal_int_empty _ _ _ _ _ w (by omega)).mono fun e w' ⟨he, hw⟩ => ⟨by rw [he]; rfl, 0, hw⟩
    · refine (Tryd.slices_Equal_int_empty _ _ _ _ _ w hy).mono fun e w' ⟨he, hw⟩ => ⟨?_, 0, hw⟩
      rw [he]
      cases ys <;> rfl
  · rcases h2 with ⟨A', c', rfl, rfl⟩ | ⟨b', off', cap', rfl, -, hc'⟩
    · by_cases h0 : xs.length = 0
      · obtain rfl : xs = [] := List.eq_nil_of_length_eq_zero h0
        exact (Tryd.slices_Equal_int_empty _ _ _ _ _ w (by omega)).mono fun e w' ⟨he, hw⟩ => ⟨by rw [he]; rfl, 0, hw⟩
      · refine (Tryd.slices_Equal_int_lens _ _ _ _ _ _ w h0).mono fun e w' ⟨he, hw⟩ => ⟨?_, 0, hw⟩
        rw [he]
        cases xs
        · exact absurd rfl h0
        · rfl
    · refine (Tryd.slices_Equal_int b off xs.length cap b' off' ys.length cap' xs ys w (Nat.le_refl _) (Nat.le_refl _) hx hy (fun j hj => by rw [getD_eq]; exact hc j hj) (fun j hj => by rw [getD_eq]; exact hc' j hj)).mono fun e w' ⟨he, hw⟩ => ⟨?_, hw⟩
      rw [he, List.take_length, List.take_length]
theorem equal_lits {B : Nat} {v1 v2 : Value} {xs : List Int} (w : World) (hx : xs.length ≤ 9223372036854775807) (h1 : Ints B w v1 xs) (h2 : Ints B w v2 xs) :
    Calls Tryd.prog 18 #[v1, v2] w fun e w' => e = .returned (.bool true) ∧ ∃ q, w' = w.drewN q := by
  rcases h1 with ⟨A, c, rfl, rfl⟩ | ⟨b, off, cap, rfl, -, hc⟩
  · rcases h2 with ⟨A', c', rfl, -⟩ | ⟨b', off', cap', rfl, -, hc'⟩
    · exact (Tryd.slices_Equal_int_empty_f18 _ _ _ _ _ w (by omega)).mono fun e w' ⟨he, hw⟩ => ⟨he, 0, hw⟩
    · exact (Tryd.slices_Equal_int_empty_f18 _ _ _ _ _ w hx).mono fun e w' ⟨he, hw⟩ => ⟨he, 0, hw⟩
  · rcases h2 with ⟨A', c', rfl, rfl⟩ | ⟨b', off', cap', rfl, -, hc'⟩
    · exact (Tryd.slices_Equal_int_empty_f18 _ _ _ _ _ w (by omega)).mono fun e w' ⟨he, hw⟩ => ⟨he, 0, hw⟩
    · refine (Tryd.slices_Equal_int_f18 b off xs.length cap b' off' xs.length cap' xs xs w (Nat.le_refl _) (Nat.le_refl _) hx hx (fun j hj => by rw [getD_eq]; exact hc j hj) (fun j hj => by rw [getD_eq]; exact hc' j hj)).mono fun e w' ⟨he, hw⟩ => ⟨?_, hw⟩
      rw [he, beq_self_eq_true]
/-- A clone holds the same list. -/
theorem clone_lits {B : Nat} {v : Value} {xs : List Int} (w : World) (hx : xs.length ≤ 1000) (h : Ints B w v xs) :
    Calls Tryd.prog 15 #[v] w fun e w' => ∃ v', e = .returned v' ∧ Ints w'.heap.size w' v' xs ∧ w'.ownsRow w.heap.size 27 1 v' xs.length (xs.map (Value.int .i64)) ∧ Below w.heap.size w w' := by
  rcases h with ⟨A, c, rfl, rfl⟩ | ⟨b, off, cap, rfl, -, hc⟩
  · cases A with
    | none => exact (Tryd.slices_Clone_int_nil_f15 _ _ w).mono fun e w' ⟨he, hw⟩ => ⟨_, he, .inl ⟨_, _, rfl, rfl⟩, by rw [hw]; exact World.ownsRow_nil _ _ _ _, by rw [hw]; exact Below.refl _ _⟩
    | some a => exact (Tryd.slices_Clone_int_zero_f15 a _ w).mono fun e w' ⟨v', he, hr, _, hb⟩ => ⟨v', he, ints_own (xs := []) hr, hr, hb⟩
  · refine (Tryd.slices_Clone_int_f15 b off xs.length cap xs w (Nat.le_refl _) (by omega) (fun j hj => by rw [getD_eq]; exact hc j hj)).mono fun e w' ⟨v', he, hr, _, hb⟩ => ?_
    rw [List.take_length] at hr
    exact ⟨v', he, ints_own hr, hr, hb⟩
end Go.Proofs.YtjipmjimggggbaaDoor
