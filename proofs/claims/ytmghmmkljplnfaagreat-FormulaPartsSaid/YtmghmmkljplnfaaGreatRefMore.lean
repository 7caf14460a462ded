/- The reference's Without, Clashes, Union, Resolve, Compare. -/
import Derived.Test.YtmghmmkljplnfaaGreatRefNorm
import Derived.Test.YtmghmmkljplnfaaGreatCmpFunc
import Derived.Laws.AppendOwnNone
namespace Go.Proofs.YtmghmmkljplnfaaGreat
open Go.ChangeShapes Go.WideShapes Go.ChangeAt Go.RowKit Go.Shelf Go.Sort

/-- A slice of the call's own, and a number. -/
def Gives2 (e : TypeId) (w : World) (zs : List Int) (f : Int) (r : Ending) (w' : World) : Prop :=
  ∃ v, r = .returned (.tuple #[v, .int .i64 f]) ∧ w'.ownsRow w.heap.size e 1 v zs.length (zs.map (Value.int .i64)) ∧ Below w.heap.size w w'
theorem below_drewN {B : Nat} {a w : World} (h : Below B a w) (n : Nat) : Below B a (w.drewN n) := ⟨h.os, h.tape, h.output, h.size, h.block⟩
theorem own_shape {W : World} {base n : Nat} {e : TypeId} {v : Value} {xs : List Value} (h : W.ownsRow base e 1 v n xs) : ∃ A c, v = .slice A n c := by
  rcases h.2 with ⟨h1, h0⟩ | ⟨g, cap, cur, h1, -⟩
  · exact ⟨none, 0, by rw [h1, h0]⟩
  · exact ⟨_, _, h1⟩
/-- What is collected of the first k places. -/
def FiltRel (e : TypeId) (w : World) (p : Int → Bool) (zs : List Int) (own i : Value) (wr : World) : Prop :=
  ∃ (k : Nat) (o : Value) (l : List Int), o = own ∧ k ≤ zs.length ∧ i = .int .i64 k ∧ l = (zs.take k).filter p ∧ l.length ≤ k ∧ wr.ownsRow w.heap.size e 1 o l.length (l.map (Value.int .i64)) ∧ Below w.heap.size w wr
theorem filt_yes {p : Int → Bool} {zs l : List Int} {k : Nat} {x : Int} (ht : zs.take (k + 1) = zs.take k ++ [x]) (h : l = (zs.take k).filter p) (hp : p x = true) : l ++ [x] = (zs.take (k + 1)).filter p := by
  rw [ht, List.filter_append, h]; simp [hp]
theorem filt_no {p : Int → Bool} {zs l : List Int} {k : Nat} {x : Int} (ht : zs.take (k + 1) = zs.take k ++ [x]) (h : l = (zs.take k).filter p) (hp : p x = false) : l = (zs.take (k + 1)).filter p := by
  rw [ht, List.filter_append, h]; simp [hp]
theorem norm_lit {zs : List Int} (h : ∀ x ∈ zs, litB x = true) : ∀ x ∈ normL zs, litB x = true := fun x hx => h x (norm_mem.1 hx)

/-- All but one number. -/
def lessL (zs : List Int) (l : Int) : List Int := zs.filter fun x => x != l
theorem lessL_mem {zs : List Int} {l x : Int} : x ∈ lessL zs l ↔ x ∈ zs ∧ x ≠ l := by
  unfold lessL
  rw [List.mem_filter, bne_iff_ne]
theorem lessL_lit {zs : List Int} {l : Int} (h : ∀ x ∈ zs, litB x = true) : ∀ x ∈ lessL zs l, litB x = true := fun x hx => h x (lessL_mem.1 hx).1
/-- The errors of Union: too many. -/
def manyE (zs : List Int) : Int := if 4096 < (normL zs).length then 5 else 0
def manyL (zs : List Int) : List Int := if 4096 < (normL zs).length then [] else normL zs

/-- What the reference's Resolve says. -/
def resE (xs ys : List Int) (l : Int) : Int := if litB l then (if hasB xs l && hasB ys (-l) then manyE (normL (lessL xs l) ++ normL (lessL ys (-l))) else 21) else 10
def resL (xs ys : List Int) (l : Int) : List Int := if litB l then (if hasB xs l && hasB ys (-l) then manyL (normL (lessL xs l) ++ normL (lessL ys (-l))) else []) else []
theorem neg_lit {l : Int} (h : litB l = true) : litB (-l) = true := by have := litB_of h; exact litB_yes (by omega) (by omega) (by omega)

end Go.Proofs.YtmghmmkljplnfaaGreat
