/- The walk of ArenaPlays. -/
import Derived.Test.YtjkhhnfmefbohaaPlays
namespace Go.Proofs.Ytjkhhnfmefbohaa.arenaPlays
open Go.RowKit Go.ChangeAt Go.ChangeShapes Go.WideShapes Go.Sort

set_option maxRecDepth 100000 in
set_option maxHeartbeats 1000000 in
theorem arenaPlays_walk (v : Value) (l : List Act3) (hl : l.length ≤ maxLen) (ho : ∀ x ∈ l, ActOk x) (w : World) (hA : Acts w.heap.size w v l) :
    Calls Try.prog 3 #[v] w fun e w' => e = .returned (.bool true) ∧ Below w.heap.size w w' := by
  have hfew := few_any v l w hA hl ho
  obtain ⟨A, cap, rfl, -⟩ := hA.shape
  cases hb : fewB l
  · rw [hb] at hfew
    have HF := Lib.hid hfew
    clear hfew hb hA ho
    go_enter Try.func3, Try.ntmps3
    go_wp2_with fail
    refine (HF.out).mono ?_
    rintro r w1 ⟨rfl, hb1⟩
    have HB1 := Lib.hid hb1
    clear hb1 HF
    go_wp2_with fail
    refine (arawake_any w1).mono ?_
    rintro r w2 ⟨rfl, hb2⟩
    have HB2 := Lib.hid (HB1.out.trans (hb2.mono HB1.out.size))
    clear hb2 HB1
    go_wp2_with fail
    go_ret
    exact ⟨rfl, HB2.out⟩
  · obtain ⟨h1, h2⟩ := fewB_of hb
    have hs : ∀ x ∈ l, x.2.2.length ≤ 3000 := fun x hx => by
      have := sumA_mem hx
      omega
    rw [hb] at hfew
    have hpl : ∀ w1, Below w.heap.size w w1 → Calls Try.prog 11 #[.slice A l.length cap] w1 fun r w' => r = .returned (.bool true) ∧ Below w1.heap.size w1 w' := fun w1 hb1 =>
      plays_any _ l w1 ((hA.below hb1).more hb1.size) ho (by omega) hs
    have HF := Lib.hid hfew; have HPl := Lib.hid hpl
    clear hfew hb hA ho hpl hs h1 h2
    go_enter Try.func3, Try.ntmps3
    go_wp2_with fail
    refine (HF.out).mono ?_
    rintro r w1 ⟨rfl, hb1⟩
    have HB1 := Lib.hid hb1
    clear hb1 HF
    go_wp2_with fail
    refine (HPl.out w1 HB1.out).mono ?_
    rintro r w2 ⟨rfl, hb2⟩
    have HB2 := Lib.hid (HB1.out.trans (hb2.mono HB1.out.size))
    clear hb2 HB1 HPl
    go_wp2_with fail
    refine (arawake_any w2).mono ?_
    rintro r w3 ⟨rfl, hb3⟩
    have HB3 := Lib.hid (HB2.out.trans (hb3.mono HB2.out.size))
    clear hb3 HB2
    go_wp2_with fail
    go_ret
    exact ⟨rfl, HB3.out⟩
end Go.Proofs.Ytjkhhnfmefbohaa.arenaPlays
