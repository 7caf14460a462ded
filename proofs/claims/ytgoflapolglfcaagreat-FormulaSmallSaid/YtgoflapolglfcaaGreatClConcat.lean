/- clauses.having, Within, Same. -/
/- clauses.Within, Same, Has, Normal. -/
/- slices.Grow and Concat of clauses. -/
import Derived.Test.YtgoflapolglfcaaGreatClRest
import Derived.Laws.AppendOwnNone
namespace Go.Proofs.YtgoflapolglfcaaGreat
open Go.ChangeShapes Go.WideShapes Go.ChangeAt Go.RowKit Go.Shelf Go.Sort

attribute [local go_sem] Oper.semAt_some

/-- In a list in order, the place of a number is how many come before it. -/
theorem count_has {ns : List Int} (h : Inc ns) (x : Int) : (decide (ns.toArray.toList.countP (fun y => decide (compareI y x < 0)) < ns.toArray.size) && decide (compareI ns.toArray[ns.toArray.toList.countP (fun y => decide (compareI y x < 0))]! x = 0)) = hasB ns x := by
  have hcount : ∀ l : List Int, Inc l → l.countP (fun y => decide (compareI y x < 0)) ≤ l.length ∧ ((∃ h : l.countP (fun y => decide (compareI y x < 0)) < l.length, l[l.countP (fun y => decide (compareI y x < 0))]'h = x) ↔ x ∈ l) := by
    intro l
    induction l with
    | nil => intro _; exact ⟨by simp, by simp⟩
    | cons a l ih =>
      intro hl
      obtain ⟨h1, h2⟩ := List.pairwise_cons.1 hl
      obtain ⟨i1, i2⟩ := ih h2
      by_cases ha : compareI a x < 0
      · rw [List.countP_cons_of_pos (by simpa using ha)]
        refine ⟨by simp; omega, ?_⟩
        have hne : x ≠ a := by rintro rfl; rw [compareI_zero.2 rfl] at ha; omega
        constructor
        · rintro ⟨hlt, e⟩
          exact List.mem_cons_of_mem _ (i2.1 ⟨by simpa using hlt, by simpa using e⟩)
        · intro hx
          obtain ⟨hlt, e⟩ := i2.2 ((List.mem_cons.1 hx).resolve_left hne)
          exact ⟨by simpa using hlt, by simpa using e⟩
      · have hz : (a :: l).countP (fun y => decide (compareI y x < 0)) = 0 := by
          rw [List.countP_eq_zero]
          intro y hy
          rw [decide_eq_true_iff]
          rcases List.mem_cons.1 hy with rfl | hy
          · exact ha
          · intro hyx
            have h3 := h1 y hy
            have h4 : ltI y x = true := decide_eq_true hyx
            have h5 := ltI_trans h3 h4
            exact ha (of_decide_eq_true h5)
        rw [hz]
        refine ⟨Nat.zero_le _, ?_⟩
        constructor
        · rintro ⟨_, e⟩
          exact List.mem_cons.2 (.inl (by simpa using e.symm))
        · intro hx
          refine ⟨by simp, ?_⟩
          rcases List.mem_cons.1 hx with e | hx
          · exact e.symm
          · have h3 := h1 x hx
            exact (ha (of_decide_eq_true h3)).elim
  obtain ⟨-, hc⟩ := hcount ns h
  show (decide (ns.countP _ < ns.toArray.size) && _) = decide (x ∈ ns)
  by_cases hx : x ∈ ns
  · obtain ⟨hlt, e⟩ := hc.2 hx
    rw [decide_eq_true hx, decide_eq_true (by simpa using hlt), bang_eq ns hlt, e, compareI_zero.2 rfl]
    rfl
  · rw [decide_eq_false hx]
    by_cases hlt : ns.countP (fun y => decide (compareI y x < 0)) < ns.length
    · rw [bang_eq ns hlt, decide_eq_false (p := compareI _ x = 0) (fun e => hx (hc.1 ⟨hlt, compareI_zero.1 e⟩)), Bool.and_false]
    · rw [decide_eq_false (by simpa using hlt), Bool.false_and]



end Go.Proofs.YtgoflapolglfcaaGreat
namespace Go.Proofs.YtgoflapolglfcaaGreat
open Go.ChangeShapes Go.WideShapes Go.ChangeAt Go.RowKit Go.Shelf Go.Sort

theorem hasB_norm (zs : List Int) (x : Int) : hasB (normL zs) x = hasB zs x := by
  unfold hasB
  rw [Bool.eq_iff_iff, decide_eq_true_iff, decide_eq_true_iff, norm_mem]
/-- The answer of Within. -/
def withinB (xs ys : List Int) : Bool := rightB xs && (rightB ys && withB xs ys)
def WiRel (w : World) (xs ys : List Int) (i : Value) (wr : World) : Prop := ∃ k : Nat, k ≤ xs.length ∧ i = .int .i64 k ∧ (∀ x ∈ xs.take k, hasB ys x = true) ∧ RowKit.Below w.heap.size w wr



theorem contains_lits {B : Nat} {v : Value} {xs : List Int} (x : Int) (w : World) (hx : xs.length ≤ 1000000) (h : Ints B w v xs) :
    Calls Tryz.prog 44 #[v, .int .i64 x] w fun e w' => e = .returned (.bool (hasB xs x)) ∧ w = w' := by
  rcases h with ⟨A, c, rfl, -, rfl⟩ | ⟨b, off, cap, rfl, -, hc⟩
  · exact (Tryz.slices_Contains_int_empty_f44 A c x w).mono fun e w' ⟨he, hw⟩ => ⟨he, hw.symm⟩
  · refine (Tryz.slices_Contains_int_f44 b off xs.length cap xs x w (Nat.le_refl _) (by omega) (fun j hj => by rw [List.getD_eq_getElem?_getD]; exact hc j hj)).mono fun e w' ⟨he, hw⟩ => ⟨?_, hw.symm⟩
    rw [he, List.take_length]
    congr 2
    unfold hasB
    rw [Bool.eq_iff_iff, List.contains_iff_mem, decide_eq_true_iff]


end Go.Proofs.YtgoflapolglfcaaGreat
namespace Go.Proofs.YtgoflapolglfcaaGreat
open Go.RowKit Go.ChangeAt Go.ChangeShapes Go.WideShapes

def szI (a b : Nat) : Nat → Int
  | 0 => 0
  | 1 => a
  | _ => (a : Int) + (b : Int)
def catL (xs ys : List Int) : Nat → List Int
  | 0 => []
  | 1 => xs
  | _ => xs ++ ys


def SzLit (xs ys : List Int) (size i : Value) : Prop := ∃ k : Nat, k ≤ 2 ∧ i = .int .i64 k ∧ size = .int .i64 (szI xs.length ys.length k)
def CcLit (w : World) (xs ys : List Int) (o i : Value) (wr : World) : Prop :=
  ∃ (k : Nat) (v : Value), v = o ∧ k ≤ 2 ∧ i = .int .i64 k ∧ Below w.heap.size w wr ∧ wr.ownsRow w.heap.size 35 1 v (catL xs ys k).length ((catL xs ys k).map (Value.int .i64))

end Go.Proofs.YtgoflapolglfcaaGreat
