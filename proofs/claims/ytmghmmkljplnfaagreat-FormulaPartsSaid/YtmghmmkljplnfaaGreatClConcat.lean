/- slices.Grow and Concat of clauses. -/
import Derived.Test.YtmghmmkljplnfaaGreatClWithin
import Derived.Laws.AppendOwnNone
namespace Go.Proofs.YtmghmmkljplnfaaGreat
open Go.RowKit Go.ChangeAt Go.ChangeShapes Go.WideShapes

def szI (a b : Nat) : Nat → Int
  | 0 => 0
  | 1 => a
  | _ => (a : Int) + (b : Int)
def catL (xs ys : List Int) : Nat → List Int
  | 0 => []
  | 1 => xs
  | _ => xs ++ ys


def SzLit (xs ys : List Int) (size i : Value) : Prop := ∃ k : Nat, k ≤ 2 ∧ i = .int .i64 k ∧ size = .int .i64 (szI xs.length ys.length k)
def CcLit (w : World) (xs ys : List Int) (o i : Value) (wr : World) : Prop :=
  ∃ (k : Nat) (v : Value), v = o ∧ k ≤ 2 ∧ i = .int .i64 k ∧ Below w.heap.size w wr ∧ wr.ownsRow w.heap.size 37 1 v (catL xs ys k).length ((catL xs ys k).map (Value.int .i64))

end Go.Proofs.YtmghmmkljplnfaaGreat
