/- The reference's Compare of clauses. -/
import Derived.Test.YtfbmagmelebkbaaRefMore
namespace Go.Proofs.Ytfbmagmelebkbaa
open Go.ChangeShapes Go.WideShapes Go.ChangeAt Go.RowKit Go.Shelf Go.Sort

/-- The order of clauses. -/
def clCmp (xs ys : List Int) : Int := if (normL xs).length < (normL ys).length then -1 else if (normL ys).length < (normL xs).length then 1 else cmpLL (normL xs) (normL ys)
theorem cmpLL_nil : cmpLL [] [] = 0 := rfl
def RcRel (w : World) (xs ys : List Int) (i : Value) (wr : World) : Prop := ∃ k q : Nat, k ≤ xs.length ∧ i = .int .i64 k ∧ cmpLL xs ys = cmpLL (xs.drop k) (ys.drop k) ∧ wr = w.drewN q

end Go.Proofs.Ytfbmagmelebkbaa
