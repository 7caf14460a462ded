/- The laws' Clause and Ints: a list of numbers as a clause, and back. -/
import Derived.Test.YtdeedmfofjdbjaaRight
namespace Go.Proofs.Ytdeedmfofjdbjaa
open Go.ChangeShapes Go.WideShapes Go.ChangeAt Go.RowKit Go.Shelf Go.Sort

def ConvRel (e : TypeId) (w : World) (zs : List Int) (own i : Value) (wr : World) : Prop :=
  ∃ (k : Nat) (o : Value), o = own ∧ k ≤ zs.length ∧ i = .int .i64 k ∧ wr.ownsRow w.heap.size e 1 o k ((zs.take k).map (Value.int .i64)) ∧ Below w.heap.size w wr
/-- A slice of the call's own holds the numbers zs. -/
def GivesE (e : TypeId) (w : World) (zs : List Int) (r : Ending) (w' : World) : Prop :=
  ∃ v, r = .returned v ∧ w'.ownsRow w.heap.size e 1 v zs.length (zs.map (Value.int .i64)) ∧ Below w.heap.size w w'

end Go.Proofs.Ytdeedmfofjdbjaa
