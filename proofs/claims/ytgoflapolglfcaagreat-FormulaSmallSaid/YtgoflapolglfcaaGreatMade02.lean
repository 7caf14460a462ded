/- The laws' Made and Model. -/
import Derived.Test.YtgoflapolglfcaaGreatPlain
import Derived.Test.YtgoflapolglfcaaGreatConv
namespace Go.Proofs.YtgoflapolglfcaaGreat
open Go.ChangeShapes Go.WideShapes Go.ChangeAt Go.RowKit

/-- The literal that a number makes. -/
def madeU (n : Int) : Int := if n % 2 = 1 then -(1 + n / 2 % 8) else 1 + n / 2 % 8
theorem madeU_is (n : Int) : ∃ v : Int, 1 ≤ v ∧ v ≤ 8 ∧ (madeU n = v ∨ madeU n = -v) := by
  refine ⟨1 + n / 2 % 8, by omega, by omega, ?_⟩
  unfold madeU
  split
  · exact .inr rfl
  · exact .inl rfl
def madeL (zs : List Int) : List Int := (zs.take 20).map madeU
def MadeRel (n : Nat) (w : World) (zs : List Int) (o i : Value) (wr : World) : Prop :=
  ∃ (k : Nat) (v : Value), v = o ∧ k ≤ n ∧ i = .int .i64 k ∧ RowKit.Below w.heap.size w wr ∧ wr.ownsRow w.heap.size 35 1 v k (((zs.take k).map madeU).map (Value.int .i64))

theorem u8_wf {x : Int} (h : (Lit.int .u8 x).wf = true) : 0 ≤ x ∧ x ≤ 255 := by
  have : IntKind.u8.min ≤ x ∧ x ≤ IntKind.u8.max := by simpa [Lit.wf] using h
  exact this
theorem intsK_shape {k : IntKind} {B : Nat} {w : World} {sv : Value} {zs : List Int} (h : IntsK k B w sv zs) : ∃ A cap, sv = .slice A zs.length cap ∧ ∀ j, j < zs.length → ∃ b off, A = some ⟨b, off, none⟩ ∧ b < B ∧ w.cell? ⟨b, off + j, none⟩ = some (.int k (zs[j]?.getD 0)) := by
  rcases h with ⟨A, c, rfl, -, rfl⟩ | ⟨b, off, cap, rfl, hb, hc⟩
  · exact ⟨A, c, rfl, fun k hk => absurd hk (Nat.not_lt_zero _)⟩
  · exact ⟨_, cap, rfl, fun k hk => ⟨b, off, rfl, hb, hc k hk⟩⟩
theorem made_yes {r v : Int} (h : r % 2 = 1) (hv : 1 + r / 2 % 8 = v) : madeU r = -v := by unfold madeU; rw [if_pos h, hv]
theorem made_no {r v : Int} (h : ¬ r % 2 = 1) (hv : 1 + r / 2 % 8 = v) : madeU r = v := by unfold madeU; rw [if_neg h, hv]

/-- The bit of a number at a place. -/
def mbit (n : Int) (k : Nat) : Bool := bits BinOp.and IntKind.u8 (n / 2 ^ k) 1 == 1
def mlit (n : Int) (k : Nat) : Int := if mbit n k then -((k : Int) + 1) else (k : Int) + 1
def modelL (n : Int) : List Int := (List.range 8).map (mlit n)
def ModelRel (n : Int) (w : World) (o i : Value) (wr : World) : Prop :=
  ∃ (k : Nat) (v : Value), v = o ∧ k ≤ 8 ∧ i = .int .i64 k ∧ RowKit.Below w.heap.size w wr ∧ wr.ownsRow w.heap.size 35 1 v k (((List.range k).map (mlit n)).map (Value.int .i64))
theorem mlit_yes {n : Int} {k : Nat} (h : (bits BinOp.and IntKind.u8 (n / 2 ^ k) 1 == 1) = true) : mlit n k = -((k : Int) + 1) := by unfold mlit; rw [if_pos (show mbit n k = true from h)]
theorem mlit_no {n : Int} {k : Nat} (h : (bits BinOp.and IntKind.u8 (n / 2 ^ k) 1 == 1) = false) : mlit n k = (k : Int) + 1 := by unfold mlit; rw [if_neg (by rw [show mbit n k = false from h]; decide)]

end Go.Proofs.YtgoflapolglfcaaGreat
