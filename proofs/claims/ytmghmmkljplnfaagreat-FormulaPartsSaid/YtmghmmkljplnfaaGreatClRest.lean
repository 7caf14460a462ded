/- clauses.rest and Without. -/
import Derived.Test.YtmghmmkljplnfaaGreatClCollect
import Derived.Test.YtmghmmkljplnfaaGreatRefMore
namespace Go.Proofs.YtmghmmkljplnfaaGreat
open Go.ChangeShapes Go.WideShapes Go.ChangeAt Go.RowKit Go.Shelf Go.Sort

attribute [local go_sem] Oper.semAt_some

theorem kpR_refl (Bx B H : Nat) (W : World) : KpR Bx B H W W := ⟨RowKit.Below.refl _ _, fun _ _ _ ho _ hr => ⟨ho, hr⟩⟩
theorem lessL_snoc (l : List Int) (x k : Int) : lessL (l ++ [x]) k = if x = k then lessL l k else lessL l k ++ [x] := by
  unfold lessL
  rw [List.filter_append]
  by_cases h : x = k
  · rw [if_pos h]; simp [h]
  · rw [if_neg h]; simp [h]
theorem lessL_length (l : List Int) (k : Int) : (lessL l k).length ≤ l.length := List.length_filter_le _ _
theorem filter_inc {l : List Int} (h : Inc l) (p : Int → Bool) : Inc (l.filter p) := List.Pairwise.sublist List.filter_sublist h
theorem norm_filter (zs : List Int) (p : Int → Bool) : (normL zs).filter p = normL (zs.filter p) :=
  (norm_unique (filter_inc (norm_inc zs) p) fun x => by rw [List.mem_filter, List.mem_filter, norm_mem]).symm
theorem less_norm (zs : List Int) (l : Int) : lessL (normL zs) l = normL (lessL zs l) := norm_filter zs _

/-- A box ahead of the row is no part of it. -/
theorem owns_ne {W : World} {base n Bx : Nat} {e : TypeId} {v : Value} {xs : List Value} (h : W.ownsRow base e 1 v n xs) (hb : Bx < base) : some Bx ≠ v.ownBlock := by
  rcases h.2 with ⟨rfl, -⟩ | ⟨g, cap, cur, rfl, hg, -⟩
  · simp [Value.ownBlock]
  · intro e'
    have : Bx = g := by simpa [Value.ownBlock] using e'
    omega
/-- The same row, of the later base, behind the store of the slice into its box. -/
theorem owns_set {W : World} {base n Bx : Nat} {t e : TypeId} {u v : Value} {xs : List Value} (h : W.ownsRow base e 1 v n xs) (hv : Boxed W Bx t u) (hte : t ≠ e) : (W.setCell ⟨Bx, 0, none⟩ v).ownsRow base e 1 v n xs :=
  h.kept (grownBy_setCell' W Bx v) (.inr (hv.not_row hte h).symm)
/-- What holds between two rounds of the loop of rest. -/
def RestI (w : World) (l : Int) (pre : List Int) (W : World) : Prop :=
  ((∃ v, Boxed W (w.heap.size + 1) 41 v ∧ W.ownsRow (w.heap.size + 1 + 1) 37 1 v (lessL pre l).length ((lessL pre l).map (Value.int .i64)) ∧ True) ∧ Boxed W w.heap.size 37 (.int .i64 l)) ∧ RowKit.Below w.heap.size w W

end Go.Proofs.YtmghmmkljplnfaaGreat
