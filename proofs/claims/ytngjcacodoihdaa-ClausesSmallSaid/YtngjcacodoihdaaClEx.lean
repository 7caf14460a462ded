/- The chapter's examples: what each call comes to. -/
import Derived.Test.YtngjcacodoihdaaClClashes
import Derived.Test.YtngjcacodoihdaaClCompare
import Derived.Test.YtngjcacodoihdaaClHolds
namespace Go.Proofs.Ytngjcacodoihdaa
open Go.RowKit Go.ChangeAt Go.ChangeShapes Go.WideShapes

theorem lits_laid2 (w : World) (A : Obj) (ys : List Int) (T : TypeId) : Lits ((w.alloc A).alloc (.cells ((ys.map (Value.int .i64)).toArray) T)).heap.size ((w.alloc A).alloc (.cells ((ys.map (Value.int .i64)).toArray) T)) (.slice (some ⟨w.heap.size + 1, 0, none⟩) ys.length ys.length) ys := by
  have h := lits_laid (w.alloc A) ys T
  rw [World.size_alloc w A] at h
  exact h
abbrev laid (xs : List Int) (T : TypeId) : Obj := .cells ((xs.map (Value.int .i64)).toArray) T
theorem lits_first (w : World) (xs : List Int) (T : TypeId) (B : Obj) : Lits ((w.alloc (laid xs T)).alloc B).heap.size ((w.alloc (laid xs T)).alloc B) (.slice (some ⟨w.heap.size, 0, none⟩) xs.length xs.length) xs :=
  (lits_laid w xs T).on ((Below.refl _ _).alloc (Nat.le_refl _) _)
theorem below2 (w : World) (A B : Obj) : Below w.heap.size w ((w.alloc A).alloc B) := ((Below.refl _ _).alloc (Nat.le_refl _) _).alloc (by simp) _
theorem below1 (w : World) (A : Obj) : Below w.heap.size w (w.alloc A) := (Below.refl _ _).alloc (Nat.le_refl _) _

theorem ex_norm (w : World) (xs : List Int) (hx : xs.length ≤ 1000) (ns : List Int) (b : Bool) (hr : rightB xs = true) (hn : normL xs = ns) (hb : alwB xs = b) (T : TypeId) :
    Calls Try.prog 28 #[.slice (some ⟨w.heap.size, 0, none⟩) xs.length xs.length] (w.alloc (laid xs T)) fun e w' => ∃ v, e = .returned (.tuple #[v, .bool b, .int .i64 0]) ∧ Lits w'.heap.size w' v ns ∧ Below w.heap.size w w' := by
  have h := clnorm_any _ _ xs (by omega) (w.alloc (laid xs T)) (Nat.le_refl _) (lits_laid w xs T)
  rw [hr, if_pos rfl, if_pos rfl, Bool.true_and, hn, hb] at h
  exact h.mono fun e w' ⟨v, he, hr', hb'⟩ => ⟨v, he, lits_own hr', (below1 w _).trans (hb'.mono (below1 w _).size)⟩
theorem ex_resolve (w : World) (xs ys : List Int) (l : Int) (hx : xs.length ≤ 1000) (hy : ys.length ≤ 1000) (ns : List Int) (f : Int) (hn : clResL xs ys l = ns) (hf : clResE xs ys l = f) (T U : TypeId) :
    Calls Try.prog 17 #[.slice (some ⟨w.heap.size, 0, none⟩) xs.length xs.length, .slice (some ⟨w.heap.size + 1, 0, none⟩) ys.length ys.length, .int .i64 l] ((w.alloc (laid xs T)).alloc (laid ys U)) fun e w' => ∃ v, e = .returned (.tuple #[v, .int .i64 f]) ∧ Lits w'.heap.size w' v ns ∧ Below w.heap.size w w' := by
  have h := clresolve_any _ _ _ xs ys l (by omega) (by omega) ((w.alloc (laid xs T)).alloc (laid ys U)) (Nat.le_refl _) (lits_first w xs T _) (lits_laid2 w _ ys U)
  rw [hn, hf] at h
  exact h.mono fun e w' ⟨v, he, hr', hb'⟩ => ⟨v, he, lits_own hr', (below2 w _ _).trans (hb'.mono (below2 w _ _).size)⟩
theorem ex_clashes (w : World) (xs ys : List Int) (hx : xs.length ≤ 1000) (hy : ys.length ≤ 1000) (ns : List Int) (h1 : rightB xs = true) (h2 : rightB ys = true) (hn : normL (xs.filter fun x => hasB ys (-x)) = ns) (T U : TypeId) :
    Calls Try.prog 21 #[.slice (some ⟨w.heap.size, 0, none⟩) xs.length xs.length, .slice (some ⟨w.heap.size + 1, 0, none⟩) ys.length ys.length] ((w.alloc (laid xs T)).alloc (laid ys U)) fun e w' => ∃ v, e = .returned (.tuple #[v, .int .i64 0]) ∧ Lits w'.heap.size w' v ns ∧ Below w.heap.size w w' := by
  have h := clashes_any _ _ _ xs ys (by omega) (by omega) ((w.alloc (laid xs T)).alloc (laid ys U)) (Nat.le_refl _) (lits_first w xs T _) (lits_laid2 w _ ys U)
  rw [h1, h2, Bool.true_and, if_pos rfl, if_pos rfl, hn] at h
  exact h.mono fun e w' ⟨v, he, hr', hb'⟩ => ⟨v, he, lits_own hr', (below2 w _ _).trans (hb'.mono (below2 w _ _).size)⟩
theorem ex_within (w : World) (xs ys : List Int) (hx : xs.length ≤ 1000) (hy : ys.length ≤ 1000) (b : Bool) (hn : withinB xs ys = b) (T U : TypeId) :
    Calls Try.prog 36 #[.slice (some ⟨w.heap.size, 0, none⟩) xs.length xs.length, .slice (some ⟨w.heap.size + 1, 0, none⟩) ys.length ys.length] ((w.alloc (laid xs T)).alloc (laid ys U)) fun e w' => e = .returned (.bool b) ∧ Below w.heap.size w w' := by
  have h := within_any _ _ _ xs ys (by omega) (by omega) ((w.alloc (laid xs T)).alloc (laid ys U)) (Nat.le_refl _) (lits_first w xs T _) (lits_laid2 w _ ys U)
  rw [hn] at h
  exact h.mono fun e w' ⟨he, hb'⟩ => ⟨he, (below2 w _ _).trans (hb'.mono (below2 w _ _).size)⟩
theorem ex_compare (w : World) (xs ys : List Int) (hx : xs.length ≤ 1000) (hy : ys.length ≤ 1000) (c : Int) (hn : (if rightB xs && rightB ys then clCmp xs ys else 0) = c) (T U : TypeId) :
    Calls Try.prog 37 #[.slice (some ⟨w.heap.size, 0, none⟩) xs.length xs.length, .slice (some ⟨w.heap.size + 1, 0, none⟩) ys.length ys.length] ((w.alloc (laid xs T)).alloc (laid ys U)) fun e w' => e = .returned (.int .i64 c) ∧ Below w.heap.size w w' := by
  have h := clcompare_any _ _ _ xs ys (by omega) (by omega) ((w.alloc (laid xs T)).alloc (laid ys U)) (Nat.le_refl _) (lits_first w xs T _) (lits_laid2 w _ ys U)
  rw [hn] at h
  exact h.mono fun e w' ⟨he, hb'⟩ => ⟨he, (below2 w _ _).trans (hb'.mono (below2 w _ _).size)⟩
theorem ex_holds (w : World) (xs ys : List Int) (hx : xs.length ≤ 1000) (hy : ys.length ≤ 1000) (b : Bool) (hn : (rightB xs && holdsB xs ys) = b) (T U : TypeId) :
    Calls Try.prog 27 #[.slice (some ⟨w.heap.size, 0, none⟩) xs.length xs.length, .slice (some ⟨w.heap.size + 1, 0, none⟩) ys.length ys.length] ((w.alloc (laid xs T)).alloc (laid ys U)) fun e w' => e = .returned (.bool b) ∧ Below w.heap.size w w' := by
  have h := holds_any _ _ _ xs ys (by omega) (by omega) ((w.alloc (laid xs T)).alloc (laid ys U)) (Nat.le_refl _) (lits_first w xs T _) (lits_laid2 w _ ys U).ints
  rw [hn] at h
  exact h.mono fun e w' ⟨he, hb'⟩ => ⟨he, (below2 w _ _).trans (hb'.mono (below2 w _ _).size)⟩
theorem ex_holds0 (w : World) (ys : List Int) (hy : ys.length ≤ 1000) (U : TypeId) :
    Calls Try.prog 27 #[.slice none 0 0, .slice (some ⟨w.heap.size, 0, none⟩) ys.length ys.length] (w.alloc (laid ys U)) fun e w' => e = .returned (.bool false) ∧ Below w.heap.size w w' := by
  have h := holds_any _ (.slice none 0 0) _ [] ys (by simp) (by omega) (w.alloc (laid ys U)) (Nat.le_refl _) (.inl ⟨_, _, rfl, fun _ => rfl, rfl⟩) (lits_laid w ys U).ints
  rw [show (rightB [] && holdsB [] ys) = false from by rw [holdsB_no (fun x _ => hasB_no (by simp)), Bool.and_false]] at h
  exact h.mono fun e w' ⟨he, hb'⟩ => ⟨he, (below1 w _).trans (hb'.mono (below1 w _).size)⟩

/-! ### slices.Equal -/
set_option maxHeartbeats 400000 in
theorem equal_cl_lens (a1 a2 : Option Addr) (n c m d : Nat) (w : World) (h : n ≠ m) : Calls Try.prog 29 #[.slice a1 n c, .slice a2 m d] w fun e w' => e = .returned (.bool false) ∧ w' = w := by
  have hq : ((n : Int) == (m : Int)) = false := by rw [beq_eq_false_iff_ne]; omega
  have hq2 : (n == m) = false := by rw [beq_eq_false_iff_ne]; exact h
  go_enter Try.func29, Try.ntmps29
  go_wp2
  go_ret
  exact ⟨rfl, rfl⟩
theorem equal_cl {B : Nat} {v1 v2 : Value} {xs ys : List Int} (w : World) (hx : xs.length ≤ 9223372036854775807) (hy : ys.length ≤ 9223372036854775807) (h1 : Ints B w v1 xs) (h2 : Ints B w v2 ys) :
    Calls Try.prog 29 #[v1, v2] w fun e w' => e = .returned (.bool (xs == ys)) ∧ ∃ q, w' = w.drewN q := by
  by_cases hl : xs.length = ys.length
  · rcases h1 with ⟨A, c, rfl, -, rfl⟩ | ⟨b, off, cap, rfl, -, hc⟩
    · obtain ⟨A', c', rfl, -⟩ := ints_shape h2
      refine (Try.slices_Equal_int_empty_f29 _ _ _ _ _ w hy).mono fun e w' ⟨he, hw⟩ => ⟨?_, 0, hw⟩
      rw [he]
      cases ys <;> rfl
    · rcases h2 with ⟨A', c', rfl, -, rfl⟩ | ⟨b', off', cap', rfl, -, hc'⟩
      · obtain rfl : xs = [] := List.eq_nil_of_length_eq_zero hl
        exact (Try.slices_Equal_int_empty_f29 _ _ _ _ _ w (by omega)).mono fun e w' ⟨he, hw⟩ => ⟨by rw [he]; rfl, 0, hw⟩
      · refine (Try.slices_Equal_int_f29 b off xs.length cap b' off' ys.length cap' xs ys w (Nat.le_refl _) (Nat.le_refl _) hx hy (fun j hj => by rw [List.getD_eq_getElem?_getD]; exact hc j hj) (fun j hj => by rw [List.getD_eq_getElem?_getD]; exact hc' j hj)).mono fun e w' ⟨he, hw⟩ => ⟨?_, hw⟩
        rw [he, List.take_length, List.take_length]
  · obtain ⟨A, c, rfl, -⟩ := ints_shape h1
    obtain ⟨A', c', rfl, -⟩ := ints_shape h2
    refine (equal_cl_lens _ _ _ _ _ _ w hl).mono fun e w' ⟨he, hw⟩ => ⟨?_, 0, hw⟩
    have hne : (xs == ys) = false := by rw [beq_eq_false_iff_ne]; rintro rfl; exact hl rfl
    rw [he, hne]

set_option maxHeartbeats 400000 in
theorem equal_ls_lens (a1 a2 : Option Addr) (n c m d : Nat) (w : World) (h : n ≠ m) : Calls Try.prog 48 #[.slice a1 n c, .slice a2 m d] w fun e w' => e = .returned (.bool false) ∧ w' = w := by
  have hq : ((n : Int) == (m : Int)) = false := by rw [beq_eq_false_iff_ne]; omega
  have hq2 : (n == m) = false := by rw [beq_eq_false_iff_ne]; exact h
  go_enter Try.func48, Try.ntmps48
  go_wp2
  go_ret
  exact ⟨rfl, rfl⟩
theorem equal_ls {B : Nat} {v1 v2 : Value} {xs ys : List Int} (w : World) (hx : xs.length ≤ 9223372036854775807) (hy : ys.length ≤ 9223372036854775807) (h1 : Ints B w v1 xs) (h2 : Ints B w v2 ys) :
    Calls Try.prog 48 #[v1, v2] w fun e w' => e = .returned (.bool (xs == ys)) ∧ ∃ q, w' = w.drewN q := by
  by_cases hl : xs.length = ys.length
  · rcases h1 with ⟨A, c, rfl, -, rfl⟩ | ⟨b, off, cap, rfl, -, hc⟩
    · obtain ⟨A', c', rfl, -⟩ := ints_shape h2
      refine (Try.slices_Equal_int_empty_f48 _ _ _ _ _ w hy).mono fun e w' ⟨he, hw⟩ => ⟨?_, 0, hw⟩
      rw [he]
      cases ys <;> rfl
    · rcases h2 with ⟨A', c', rfl, -, rfl⟩ | ⟨b', off', cap', rfl, -, hc'⟩
      · obtain rfl : xs = [] := List.eq_nil_of_length_eq_zero hl
        exact (Try.slices_Equal_int_empty_f48 _ _ _ _ _ w (by omega)).mono fun e w' ⟨he, hw⟩ => ⟨by rw [he]; rfl, 0, hw⟩
      · refine (Try.slices_Equal_int_f48 b off xs.length cap b' off' ys.length cap' xs ys w (Nat.le_refl _) (Nat.le_refl _) hx hy (fun j hj => by rw [List.getD_eq_getElem?_getD]; exact hc j hj) (fun j hj => by rw [List.getD_eq_getElem?_getD]; exact hc' j hj)).mono fun e w' ⟨he, hw⟩ => ⟨?_, hw⟩
        rw [he, List.take_length, List.take_length]
  · obtain ⟨A, c, rfl, -⟩ := ints_shape h1
    obtain ⟨A', c', rfl, -⟩ := ints_shape h2
    refine (equal_ls_lens _ _ _ _ _ _ w hl).mono fun e w' ⟨he, hw⟩ => ⟨?_, 0, hw⟩
    have hne : (xs == ys) = false := by rw [beq_eq_false_iff_ne]; rintro rfl; exact hl rfl
    rw [he, hne]

set_option maxHeartbeats 400000 in
theorem equal_is_lens (a1 a2 : Option Addr) (n c m d : Nat) (w : World) (h : n ≠ m) : Calls Try.prog 44 #[.slice a1 n c, .slice a2 m d] w fun e w' => e = .returned (.bool false) ∧ w' = w := by
  have hq : ((n : Int) == (m : Int)) = false := by rw [beq_eq_false_iff_ne]; omega
  have hq2 : (n == m) = false := by rw [beq_eq_false_iff_ne]; exact h
  go_enter Try.func44, Try.ntmps44
  go_wp2
  go_ret
  exact ⟨rfl, rfl⟩
theorem equal_is {B : Nat} {v1 v2 : Value} {xs ys : List Int} (w : World) (hx : xs.length ≤ 9223372036854775807) (hy : ys.length ≤ 9223372036854775807) (h1 : Ints B w v1 xs) (h2 : Ints B w v2 ys) :
    Calls Try.prog 44 #[v1, v2] w fun e w' => e = .returned (.bool (xs == ys)) ∧ ∃ q, w' = w.drewN q := by
  by_cases hl : xs.length = ys.length
  · rcases h1 with ⟨A, c, rfl, -, rfl⟩ | ⟨b, off, cap, rfl, -, hc⟩
    · obtain ⟨A', c', rfl, -⟩ := ints_shape h2
      refine (Try.slices_Equal_int_empty _ _ _ _ _ w hy).mono fun e w' ⟨he, hw⟩ => ⟨?_, 0, hw⟩
      rw [he]
      cases ys <;> rfl
    · rcases h2 with ⟨A', c', rfl, -, rfl⟩ | ⟨b', off', cap', rfl, -, hc'⟩
      · obtain rfl : xs = [] := List.eq_nil_of_length_eq_zero hl
        exact (Try.slices_Equal_int_empty _ _ _ _ _ w (by omega)).mono fun e w' ⟨he, hw⟩ => ⟨by rw [he]; rfl, 0, hw⟩
      · refine (Try.slices_Equal_int b off xs.length cap b' off' ys.length cap' xs ys w (Nat.le_refl _) (Nat.le_refl _) hx hy (fun j hj => by rw [List.getD_eq_getElem?_getD]; exact hc j hj) (fun j hj => by rw [List.getD_eq_getElem?_getD]; exact hc' j hj)).mono fun e w' ⟨he, hw⟩ => ⟨?_, hw⟩
        rw [he, List.take_length, List.take_length]
  · obtain ⟨A, c, rfl, -⟩ := ints_shape h1
    obtain ⟨A', c', rfl, -⟩ := ints_shape h2
    refine (equal_is_lens _ _ _ _ _ _ w hl).mono fun e w' ⟨he, hw⟩ => ⟨?_, 0, hw⟩
    have hne : (xs == ys) = false := by rw [beq_eq_false_iff_ne]; rintro rfl; exact hl rfl
    rw [he, hne]

/-! ### What the examples' lists come to -/
theorem norm_val {zs ns : List Int} (h1 : incB ns = true) (h2 : (ns.all fun x => hasB zs x) = true) (h3 : (zs.all fun x => hasB ns x) = true) : normL zs = ns := by
  rw [List.all_eq_true] at h2 h3
  exact norm_unique ((incB_iff ns).1 h1) fun x => ⟨fun h => hasB_iff.1 (h2 x h), fun h => hasB_iff.1 (h3 x h)⟩
theorem n1 : normL [3, -1, 3] = [-1, 3] := norm_val (by decide) (by decide) (by decide)
theorem n2 : normL [2, -2] = [2, -2] := norm_val (by decide) (by decide) (by decide)
theorem n3 : normL [2] = [2] := norm_val (by decide) (by decide) (by decide)
theorem n4 : normL [3] = [3] := norm_val (by decide) (by decide) (by decide)
theorem n5 : normL [2, 3] = [2, 3] := norm_val (by decide) (by decide) (by decide)
theorem n6 : normL [-2] = [-2] := norm_val (by decide) (by decide) (by decide)
theorem n7 : normL [1, 2] = [1, 2] := norm_val (by decide) (by decide) (by decide)
theorem n8 : normL [5] = [5] := norm_val (by decide) (by decide) (by decide)
theorem r1 : clResL [1, 2] [-1, 3] 1 = [2, 3] ∧ clResE [1, 2] [-1, 3] 1 = 0 := by
  unfold clResL clResE resL resE manyL manyE
  rw [show lessL [1, 2] 1 = [2] by decide, show lessL [-1, 3] (-1) = [3] by decide, n3, n4, show [2] ++ [3] = [(2 : Int), 3] from rfl, n5]
  decide
theorem r2 : clResL [1, 2] [-1, 3] 2 = [] ∧ clResE [1, 2] [-1, 3] 2 = 21 := by
  unfold clResL clResE resL resE
  rw [show hasB [-1, 3] (-2) = false by decide, Bool.and_false]
  decide
theorem r3 : clResL [1, 2] [-1, -2] 1 = [2, -2] ∧ clResE [1, 2] [-1, -2] 1 = 0 := by
  unfold clResL clResE resL resE manyL manyE
  rw [show lessL [1, 2] 1 = [2] by decide, show lessL [-1, -2] (-1) = [-2] by decide, n3, n6, show [2] ++ [-2] = [(2 : Int), -2] from rfl, n2]
  decide
theorem c1 : normL ([1, 2].filter fun x => hasB [-1, -2] (-x)) = [1, 2] := by
  rw [show ([1, 2].filter fun x => hasB [-1, -2] (-x)) = [1, 2] by decide, n7]
theorem c2 : (if rightB [5] && rightB [1, 2] then clCmp [5] [1, 2] else 0) = -1 := by
  unfold clCmp
  rw [n8, n7]
  decide
end Go.Proofs.Ytngjcacodoihdaa
