/- The walk of TrailPlays. -/
import Derived.Test.YtdeedmfofjdbjaaTrPlays
import Derived.Test.YtdeedmfofjdbjaaTrAwake
namespace Go.Proofs.Ytdeedmfofjdbjaa.trailPlays
open Go.RowKit Go.ChangeAt Go.ChangeShapes Go.WideShapes Go.Sort

set_option maxRecDepth 100000 in
set_option maxHeartbeats 1000000 in
theorem trailPlays_walk (vars : Int) (_wv : (Lit.int .i64 vars).wf = true) (v : Value) (l : List Act4) (_hl : l.length ≤ maxLen) (ho : ∀ x ∈ l, ActOk x) (w : World) (hA : Acts w.heap.size w v l) :
    Calls Try.prog 3 #[.int .i64 vars, v] w fun e w' => e = .returned (.bool true) ∧ Below w.heap.size w w' := by
  have hpl : l.length ≤ 150 → Calls Try.prog 10 #[.int .i64 vars, v] w fun r w' => r = .returned (.bool true) ∧ Below w.heap.size w w' := fun h => plays_any vars v l w hA ho (by omega)
  obtain ⟨A, cap, rfl, -⟩ := hA.shape
  by_cases hb : l.length ≤ 150
  · have HPl := Lib.hid (hpl hb)
    have hb1 : ¬ (150 : Int) < (l.length : Int) := by omega
    clear hpl hA ho hb
    go_enter Try.func3, Try.ntmps3
    go_wp2_with fail
    refine (HPl.out).mono ?_
    rintro r w1 ⟨rfl, hb1⟩
    have HB1 := Lib.hid hb1
    clear hb1 HPl
    go_wp2_with fail
    refine (trawake_any w1).mono ?_
    rintro r w2 ⟨rfl, hb2⟩
    have HB2 := Lib.hid (HB1.out.trans (hb2.mono HB1.out.size))
    clear hb2 HB1
    go_wp2_with fail
    go_ret
    exact ⟨rfl, HB2.out⟩
  · have hb1 : (150 : Int) < (l.length : Int) := by omega
    clear hpl hA ho hb
    go_enter Try.func3, Try.ntmps3
    go_wp2_with fail
    refine (trawake_any w).mono ?_
    rintro r w2 ⟨rfl, hb2⟩
    have HB2 := Lib.hid hb2
    clear hb2
    go_wp2_with fail
    go_ret
    exact ⟨rfl, HB2.out⟩
end Go.Proofs.Ytdeedmfofjdbjaa.trailPlays
