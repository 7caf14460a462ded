/- The law DimacsReads: its walk. -/
import Derived.Test.YticcgmegimiegaaGreatDoorDmRds
import Derived.Test.YticcgmegimiegaaGreatDoorDmAwakeWalk
namespace Go.Proofs.YticcgmegimiegaaGreatDoor.dimacsReads
open Go.RowKit Go.ChangeAt Go.ChangeShapes Go.WideShapes Go.Shelf Go.Sort

set_option maxRecDepth 100000 in
set_option maxHeartbeats 2000000 in
theorem dimacsReads_walk (s : ByteArray) (_hs : s.size ≤ maxLen) (w : World) (he : Env w) :
    Calls Tryz.prog 4 #[.string s] w fun e w' => e = .returned (.bool true) ∧ Below w.heap.size w w' := by
  obtain ⟨S, rfl⟩ : ∃ S : List UInt8, s = ⟨S.toArray⟩ := ⟨s.data.toList, (str_back s).symm⟩
  have hrd := fun (h : S.length ≤ 2000) => reads_any S (by omega) w he
  have haw := fun (W : World) (hb : Below w.heap.size w W) => awake_any W (he.below hb)
  have HRd := Lib.hid hrd; have HAw := Lib.hid haw
  clear hrd haw he
  by_cases hl : 2000 < S.length
  · have hli : (2000 : Int) < (S.length : Int) := by omega
    go_enter Tryz.func4, Tryz.ntmps4
    go_wp2_with fail
    refine (HAw.out w (Below.refl _ _)).mono ?_
    rintro e w3 ⟨rfl, hb3⟩
    have HB3 := Lib.hid hb3
    clear hb3
    go_wp2_with fail
    go_ret
    exact ⟨by trivial, HB3.out⟩
  · have hli : ¬ (2000 : Int) < (S.length : Int) := by omega
    have HL := Lib.hid hl
    go_enter Tryz.func4, Tryz.ntmps4
    go_wp2_with fail
    refine (HRd.out (by have := HL.out; omega)).mono ?_
    rintro e w2 ⟨rfl, hb2⟩
    have HB2 := Lib.hid hb2
    clear hb2
    go_wp2_with fail
    refine (HAw.out w2 HB2.out).mono ?_
    rintro e w3 ⟨rfl, hb3⟩
    have HB3 := Lib.hid (HB2.out.trans (hb3.mono HB2.out.size))
    clear hb3
    go_wp2_with fail
    go_ret
    exact ⟨by trivial, HB3.out⟩
end Go.Proofs.YticcgmegimiegaaGreatDoor.dimacsReads
