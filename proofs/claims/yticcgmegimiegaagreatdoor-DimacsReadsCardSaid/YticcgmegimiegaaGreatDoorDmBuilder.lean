/- strings.Builder's WriteString in seats where the tool leaves it out: out of what strings.Replace's contract lays. -/
import Derived.Test.YticcgmegimiegaaGreatDoorLits
import Derived.Test.YticcgmegimiegaaGreatDoorShelf
import Derived.Shelf.Strings.Builder1
namespace Go.Proofs.YticcgmegimiegaaGreatDoor
open Go.RowKit Go.Shelf

theorem layWrite : Go.Proofs.Lays.n166 Tryz.prog Tryz.lays154_ren where
  mixed := Tryz.lays154.mixed
  f166 := Tryz.lays154.f166
  f240 := Tryz.lays154.f240
  f276 := Tryz.lays154.f276
  t0 := Tryz.lays154.t0
  a0 := Tryz.lays154.a0
  z0 := Tryz.lays154.z0
  v0 := Tryz.lays154.v0
  t3 := Tryz.lays154.t3
  a3 := Tryz.lays154.a3
  z3 := Tryz.lays154.z3
  v3 := Tryz.lays154.v3
  t4 := Tryz.lays154.t4
  a4 := Tryz.lays154.a4
  z4 := Tryz.lays154.z4
  v4 := Tryz.lays154.v4
  t9 := Tryz.lays154.t9
  a9 := Tryz.lays154.a9
  z9 := Tryz.lays154.z9
  v9 := Tryz.lays154.v9
  t20 := Tryz.lays154.t20
  a20 := Tryz.lays154.a20
  z20 := Tryz.lays154.z20
  v20 := Tryz.lays154.v20
  t37 := Tryz.lays154.t37
  a37 := Tryz.lays154.a37
  z37 := Tryz.lays154.z37
  v37 := Tryz.lays154.v37
  t70 := Tryz.lays154.t70
  a70 := Tryz.lays154.a70
  z70 := Tryz.lays154.z70
  v70 := Tryz.lays154.v70
  t72 := Tryz.lays154.t72
  a72 := Tryz.lays154.a72
  z72 := Tryz.lays154.z72
  v72 := Tryz.lays154.v72
  t75 := Tryz.lays154.t75
  a75 := Tryz.lays154.a75
  z75 := Tryz.lays154.z75
  v75 := Tryz.lays154.v75
  t164 := Tryz.lays154.t164
  a164 := Tryz.lays154.a164
  z164 := Tryz.lays154.z164
  v164 := Tryz.lays154.v164
theorem writeString_any (B b : Nat) (bs : List Value) (s : ByteArray) (w : World) (h : Lib.IsBuilder 90 5 B b bs w) (hlen : bs.length + s.size ≤ 140737488355328) (hBw : B ≤ w.heap.size) :
    Calls Tryz.prog 49 #[.pointer (some ⟨b, 0, none⟩), .string s] w fun e w' => e = .returned (.tuple #[.int .i64 s.size, .nilIface]) ∧ (Lib.BuilderAt 90 5 B b (.pointer (some ⟨b, 0, none⟩)) (bs ++ Lib.strCells s) w' ∧ Below B w w') :=
  Any.Builder_WriteString layWrite Tryz.Builder_Extra_154 B b bs s w h hlen hBw
end Go.Proofs.YticcgmegimiegaaGreatDoor
