/- The walks of ClausesOne and ClausesPairs. -/
import Derived.Test.YtngjcacodoihdaaClPair
namespace Go.Proofs.Ytngjcacodoihdaa
open Go.RowKit Go.ChangeAt Go.ChangeShapes Go.WideShapes

set_option maxRecDepth 100000 in
set_option maxHeartbeats 2000000 in
theorem clausesOne.clausesOne_walk (cv : Value) (c : List Int) (hlc : c.length ≤ maxLen) (_ : ∀ x ∈ c, (Lit.int .i64 x).wf = true) (l : Int) (_ : (Lit.int .i64 l).wf = true) (sv : Value) (sm : List Int) (hls : sm.length ≤ maxLen) (_ : ∀ x ∈ sm, (Lit.int .i64 x).wf = true)
    (w : World) (hIc : IntsK .i64 w.heap.size w cv c) (hIs : IntsK .i64 w.heap.size w sv sm) :
    Calls Try.prog 3 #[cv, .int .i64 l, sv] w fun e w' => e = .returned (.bool true) ∧ Below w.heap.size w w' := by
  unfold maxLen at hlc hls
  obtain ⟨Ac, cc, rfl, -⟩ := ints_shape hIc
  obtain ⟨As, cs, rfl, -⟩ := ints_shape hIs
  have HA : Hid (∀ W, Calls Try.prog 13 #[] W fun e w' => e = .returned (.bool true) ∧ Below W.heap.size W w') := clawake_any
  have HIc := Lib.hid hIc; have HIs := Lib.hid hIs; clear hIc hIs
  by_cases h1 : 200 < c.length
  · go_enter Try.func3, Try.ntmps3
    go_wp2_with fail
    refine (HA.out _).mono ?_
    rintro e w1 ⟨rfl, hb1⟩
    go_wp2_with fail
    go_ret
    exact ⟨rfl, hb1⟩
  · by_cases h2 : 100 < sm.length
    · go_enter Try.func3, Try.ntmps3
      go_wp2_with fail
      refine (HA.out _).mono ?_
      rintro e w1 ⟨rfl, hb1⟩
      go_wp2_with fail
      go_ret
      exact ⟨rfl, hb1⟩
    · have HO := Lib.hid (one_any _ _ c sm l (by omega) (by omega) w HIc.out HIs.out)
      go_enter Try.func3, Try.ntmps3
      go_wp2_with fail
      refine HO.out.mono ?_
      rintro e w1 ⟨rfl, hb1⟩
      go_wp2_with fail
      refine (HA.out _).mono ?_
      rintro e w2 ⟨rfl, hb2⟩
      go_wp2_with fail
      go_ret
      exact ⟨rfl, hb1.trans (hb2.mono hb1.size)⟩

set_option maxRecDepth 100000 in
set_option maxHeartbeats 2000000 in
theorem clausesPairs.clausesPairs_walk (av : Value) (a : List Int) (hla : a.length ≤ maxLen) (_ : ∀ x ∈ a, (Lit.int .i64 x).wf = true) (bv : Value) (b : List Int) (hlb : b.length ≤ maxLen) (_ : ∀ x ∈ b, (Lit.int .i64 x).wf = true) (l : Int) (_ : (Lit.int .i64 l).wf = true)
    (w : World) (hIa : IntsK .i64 w.heap.size w av a) (hIb : IntsK .i64 w.heap.size w bv b) :
    Calls Try.prog 4 #[av, bv, .int .i64 l] w fun e w' => e = .returned (.bool true) ∧ Below w.heap.size w w' := by
  unfold maxLen at hla hlb
  obtain ⟨Aa, ca, rfl, -⟩ := ints_shape hIa
  obtain ⟨Ab, cb, rfl, -⟩ := ints_shape hIb
  have HA : Hid (∀ W, Calls Try.prog 13 #[] W fun e w' => e = .returned (.bool true) ∧ Below W.heap.size W w') := clawake_any
  have HIa := Lib.hid hIa; have HIb := Lib.hid hIb; clear hIa hIb
  by_cases h1 : 200 < a.length
  · go_enter Try.func4, Try.ntmps4
    go_wp2_with fail
    refine (HA.out _).mono ?_
    rintro e w1 ⟨rfl, hb1⟩
    go_wp2_with fail
    go_ret
    exact ⟨rfl, hb1⟩
  · by_cases h2 : 200 < b.length
    · go_enter Try.func4, Try.ntmps4
      go_wp2_with fail
      refine (HA.out _).mono ?_
      rintro e w1 ⟨rfl, hb1⟩
      go_wp2_with fail
      go_ret
      exact ⟨rfl, hb1⟩
    · have HO := Lib.hid (pair_any _ _ a b l (by omega) (by omega) w HIa.out HIb.out)
      go_enter Try.func4, Try.ntmps4
      go_wp2_with fail
      refine HO.out.mono ?_
      rintro e w1 ⟨rfl, hb1⟩
      go_wp2_with fail
      refine (HA.out _).mono ?_
      rintro e w2 ⟨rfl, hb2⟩
      go_wp2_with fail
      go_ret
      exact ⟨rfl, hb1.trans (hb2.mono hb1.size)⟩
end Go.Proofs.Ytngjcacodoihdaa
