/- The laws' pair: what is done with two clauses, and a literal. -/
import Derived.Test.YtngjcacodoihdaaClOne
namespace Go.Proofs.Ytngjcacodoihdaa
open Go.RowKit Go.ChangeAt Go.ChangeShapes Go.WideShapes

theorem cmpLL_zero : ∀ {xs ys : List Int}, cmpLL xs ys = 0 ↔ xs = ys
  | [], [] => by simp [cmpLL]
  | [], y :: ys => by simp [cmpLL]
  | x :: xs, [] => by simp [cmpLL]
  | x :: xs, y :: ys => by
    rw [cmpLL]
    by_cases h : compareI x y = 0
    · rw [if_pos h, cmpLL_zero, compareI_zero.1 h]
      simp
    · rw [if_neg h]
      constructor
      · intro e; exact (h e).elim
      · intro e
        have : x = y := by injection e
        exact (h (compareI_zero.2 this)).elim
theorem clCmp_zero {xs ys : List Int} : clCmp xs ys = 0 ↔ normL xs = normL ys := by
  unfold clCmp
  split
  · rename_i h
    constructor
    · intro e; omega
    · intro e; rw [e] at h; omega
  · split
    · rename_i h
      constructor
      · intro e; omega
      · intro e; rw [e] at h; omega
    · exact cmpLL_zero
theorem clCmp_same (xs ys : List Int) : (clCmp xs ys == 0) = (withB xs ys && withB ys xs) := by
  rw [Bool.eq_iff_iff, beq_iff_eq, clCmp_zero, norm_iff, Bool.and_eq_true, withB_iff, withB_iff]
  exact ⟨fun h => ⟨fun x hx => (h x).1 hx, fun x hx => (h x).2 hx⟩, fun h x => ⟨h.1 x, h.2 x⟩⟩


set_option maxRecDepth 100000 in
set_option maxHeartbeats 16000000 in
theorem pair_no1 (av bv : Value) (a b : List Int) (l : Int) (ha : a.length ≤ 1000) (hb : b.length ≤ 1000) (w : World) (hIa : Ints w.heap.size w av a) (hIb : Ints w.heap.size w bv b) (hra : rightB a = false) :
    Calls Try.prog 14 #[av, bv, .int .i64 l] w fun e w' => e = .returned (.bool true) ∧ Below w.heap.size w w' := by
  obtain ⟨Aa, ca, rfl, -⟩ := ints_shape hIa
  obtain ⟨Ab, cb, rfl, -⟩ := ints_shape hIb
  have Ha0 := Lib.hid hIa; have Hb0 := Lib.hid hIb; clear hIa hIb

  have hR : (rightB a && rightB b) = false := by rw [hra, Bool.false_and]
  have HRa := Lib.hid hra; clear hra
  have hrl : clResL a b l = [] := by unfold clResL; rw [hR, if_neg (by decide)]
  have hre : clResE a b l = 20 := by unfold clResE; rw [hR, if_neg (by decide)]
  have hwi : withinB a b = false := by unfold withinB; rw [← Bool.and_assoc, hR, Bool.false_and]
  have HR := Lib.hid hR; have HRL := Lib.hid hrl; have HRE := Lib.hid hre; have HWi := Lib.hid hwi; clear hR hrl hre hwi
  go_enter Try.func14, Try.ntmps14
  go_wp2_with fail
  refine (clause_any _ _ a (by omega) _ (Nat.le_refl _) Ha0.out).mono ?_
  rintro e w1 ⟨vx, rfl, hr, hB⟩
  have hx1 := lits_own hr
  have hbw1 := hB
  have ha1 := Ha0.out.on hB
  have hb1 := Hb0.out.on hB
  have Ha1 := Lib.hid ha1; clear ha1 Ha0
  have Hb1 := Lib.hid hb1; clear hb1 Hb0
  have Hx1 := Lib.hid hx1; clear hx1
  clear hr
  go_wp2_with fail
  refine (clause_any _ _ b (by omega) _ (Nat.le_refl _) Hb1.out).mono ?_
  rintro e w2 ⟨vy, rfl, hr, hB⟩
  have hy2 := lits_own hr
  have hbw2 := hbw1.trans (hB.mono hbw1.size)
  have ha2 := Ha1.out.on hB
  have hb2 := Hb1.out.on hB
  have hx2 := Hx1.out.on hB
  have Ha2 := Lib.hid ha2; clear ha2 Ha1
  have Hb2 := Lib.hid hb2; clear hb2 Hb1
  have Hx2 := Lib.hid hx2; clear hx2 Hx1
  have Hy2 := Lib.hid hy2; clear hy2
  clear hr
  go_wp2_with fail
  refine (clunion_any _ _ _ a b (by omega) (by omega) _ (Nat.le_refl _) Hx2.out Hy2.out).mono ?_
  rintro e w3 ⟨vu, rfl, hr, hB⟩
  rw [HR.out, if_neg (by decide)] at hr
  rw [HR.out, if_neg (by decide)]
  obtain ⟨Au, cu, rfl⟩ := own_shape hr
  have hbw3 := hbw2.trans (hB.mono hbw2.size)
  have ha3 := Ha2.out.on hB
  have hb3 := Hb2.out.on hB
  have hx3 := Hx2.out.on hB
  have hy3 := Hy2.out.on hB
  have Ha3 := Lib.hid ha3; clear ha3 Ha2
  have Hb3 := Lib.hid hb3; clear hb3 Hb2
  have Hx3 := Lib.hid hx3; clear hx3 Hx2
  have Hy3 := Lib.hid hy3; clear hy3 Hy2
  clear hr
  go_wp2_with fail
  refine (clashes_any _ _ _ a b (by omega) (by omega) _ (Nat.le_refl _) Hx3.out Hy3.out).mono ?_
  rintro e w4 ⟨vk, rfl, hr, hB⟩
  rw [HR.out, if_neg (by decide)] at hr
  rw [HR.out, if_neg (by decide)]
  obtain ⟨Ak, ck, rfl⟩ := own_shape hr
  have hbw4 := hbw3.trans (hB.mono hbw3.size)
  have ha4 := Ha3.out.on hB
  have hb4 := Hb3.out.on hB
  have hx4 := Hx3.out.on hB
  have hy4 := Hy3.out.on hB
  have Ha4 := Lib.hid ha4; clear ha4 Ha3
  have Hb4 := Lib.hid hb4; clear hb4 Hb3
  have Hx4 := Lib.hid hx4; clear hx4 Hx3
  have Hy4 := Lib.hid hy4; clear hy4 Hy3
  clear hr
  go_wp2_with fail
  refine (clresolve_any _ _ _ a b l (by omega) (by omega) _ (Nat.le_refl _) Hx4.out Hy4.out).mono ?_
  rintro e w5 ⟨vr, rfl, hr, hB⟩
  rw [HRL.out] at hr
  rw [HRE.out]
  obtain ⟨Ar, cr, rfl⟩ := own_shape hr
  have hbw5 := hbw4.trans (hB.mono hbw4.size)
  have ha5 := Ha4.out.on hB
  have hb5 := Hb4.out.on hB
  have hx5 := Hx4.out.on hB
  have hy5 := Hy4.out.on hB
  have Ha5 := Lib.hid ha5; clear ha5 Ha4
  have Hb5 := Lib.hid hb5; clear hb5 Hb4
  have Hx5 := Lib.hid hx5; clear hx5 Hx4
  have Hy5 := Lib.hid hy5; clear hy5 Hy4
  clear hr
  go_wp2_with fail
  refine (intsOf_any _ _ a (by omega) _ (Nat.le_refl _) Hx5.out.ints).mono ?_
  rintro e w6 ⟨vi, rfl, hr, hB⟩
  have hi6 := ints_own hr
  have hbw6 := hbw5.trans (hB.mono hbw5.size)
  have ha6 := Ha5.out.on hB
  have hb6 := Hb5.out.on hB
  have hx6 := Hx5.out.on hB
  have hy6 := Hy5.out.on hB
  have Ha6 := Lib.hid ha6; clear ha6 Ha5
  have Hb6 := Lib.hid hb6; clear hb6 Hb5
  have Hx6 := Lib.hid hx6; clear hx6 Hx5
  have Hy6 := Lib.hid hy6; clear hy6 Hy5
  have Hi6 := Lib.hid hi6; clear hi6
  clear hr
  go_wp2_with fail
  refine (equal_is _ (by omega) (by omega) Hi6.out Ha6.out).mono ?_
  rintro e w' ⟨rfl, q, rfl⟩
  rw [beq_self_eq_true]
  have hB := below_drewN (Below.refl w6.heap.size w6) q
  obtain ⟨w7, hw⟩ : ∃ x, w6.drewN q = x := ⟨_, rfl⟩
  rw [hw] at hB ⊢
  clear hw
  have hbw7 := hbw6.trans (hB.mono hbw6.size)
  have ha7 := Ha6.out.on hB
  have hb7 := Hb6.out.on hB
  have hx7 := Hx6.out.on hB
  have hy7 := Hy6.out.on hB
  have hi7 := Hi6.out.on hB
  have Ha7 := Lib.hid ha7; clear ha7 Ha6
  have Hb7 := Lib.hid hb7; clear hb7 Hb6
  have Hx7 := Lib.hid hx7; clear hx7 Hx6
  have Hy7 := Lib.hid hy7; clear hy7 Hy6
  have Hi7 := Lib.hid hi7; clear hi7 Hi6
  clear Hi7
  go_wp2_with fail
  refine (intsOf_any _ _ b (by omega) _ (Nat.le_refl _) Hy7.out.ints).mono ?_
  rintro e w8 ⟨vi, rfl, hr, hB⟩
  have hi8 := ints_own hr
  have hbw8 := hbw7.trans (hB.mono hbw7.size)
  have ha8 := Ha7.out.on hB
  have hb8 := Hb7.out.on hB
  have hx8 := Hx7.out.on hB
  have hy8 := Hy7.out.on hB
  have Ha8 := Lib.hid ha8; clear ha8 Ha7
  have Hb8 := Lib.hid hb8; clear hb8 Hb7
  have Hx8 := Lib.hid hx8; clear hx8 Hx7
  have Hy8 := Lib.hid hy8; clear hy8 Hy7
  have Hi8 := Lib.hid hi8; clear hi8
  clear hr
  go_wp2_with fail
  refine (equal_is _ (by omega) (by omega) Hi8.out Hb8.out).mono ?_
  rintro e w' ⟨rfl, q, rfl⟩
  rw [beq_self_eq_true]
  have hB := below_drewN (Below.refl w8.heap.size w8) q
  obtain ⟨w9, hw⟩ : ∃ x, w8.drewN q = x := ⟨_, rfl⟩
  rw [hw] at hB ⊢
  clear hw
  have hbw9 := hbw8.trans (hB.mono hbw8.size)
  have ha9 := Ha8.out.on hB
  have hb9 := Hb8.out.on hB
  have hx9 := Hx8.out.on hB
  have hy9 := Hy8.out.on hB
  have hi9 := Hi8.out.on hB
  have Ha9 := Lib.hid ha9; clear ha9 Ha8
  have Hb9 := Lib.hid hb9; clear hb9 Hb8
  have Hx9 := Lib.hid hx9; clear hx9 Hx8
  have Hy9 := Lib.hid hy9; clear hy9 Hy8
  have Hi9 := Lib.hid hi9; clear hi9 Hi8
  clear Hi9
  go_wp2_with fail
  refine (ref02_right _ _ a (by omega) _ Ha9.out).mono ?_
  rintro e w' ⟨rfl, rfl⟩
  rw [HRa.out]
  go_wp2_with fail
  refine (same_any _ _ _ a b (by omega) (by omega) _ (Nat.le_refl _) Hx9.out Hy9.out).mono ?_
  rintro e w10 ⟨rfl, hB⟩
  rw [HWi.out, Bool.false_and]
  have hbw10 := hbw9.trans (hB.mono hbw9.size)
  have ha10 := Ha9.out.on hB
  have hb10 := Hb9.out.on hB
  have hx10 := Hx9.out.on hB
  have hy10 := Hy9.out.on hB
  have Ha10 := Lib.hid ha10; clear ha10 Ha9
  have Hb10 := Lib.hid hb10; clear hb10 Hb9
  have Hx10 := Lib.hid hx10; clear hx10 Hx9
  have Hy10 := Lib.hid hy10; clear hy10 Hy9
  go_wp2_with fail
  refine (within_any _ _ _ a b (by omega) (by omega) _ (Nat.le_refl _) Hx10.out Hy10.out).mono ?_
  rintro e w11 ⟨rfl, hB⟩
  rw [HWi.out]
  have hbw11 := hbw10.trans (hB.mono hbw10.size)
  have ha11 := Ha10.out.on hB
  have hb11 := Hb10.out.on hB
  have hx11 := Hx10.out.on hB
  have hy11 := Hy10.out.on hB
  have Ha11 := Lib.hid ha11; clear ha11 Ha10
  have Hb11 := Lib.hid hb11; clear hb11 Hb10
  have Hx11 := Lib.hid hx11; clear hx11 Hx10
  have Hy11 := Lib.hid hy11; clear hy11 Hy10
  go_wp2_with fail
  refine (clcompare_any _ _ _ a b (by omega) (by omega) _ (Nat.le_refl _) Hx11.out Hy11.out).mono ?_
  rintro e w12 ⟨rfl, hB⟩
  rw [HR.out, if_neg (by decide)]
  have hbw12 := hbw11.trans (hB.mono hbw11.size)
  have ha12 := Ha11.out.on hB
  have hb12 := Hb11.out.on hB
  have hx12 := Hx11.out.on hB
  have hy12 := Hy11.out.on hB
  have Ha12 := Lib.hid ha12; clear ha12 Ha11
  have Hb12 := Lib.hid hb12; clear hb12 Hb11
  have Hx12 := Lib.hid hx12; clear hx12 Hx11
  have Hy12 := Lib.hid hy12; clear hy12 Hy11
  go_wp2_with fail
  go_ret
  exact ⟨rfl, hbw12⟩


set_option maxRecDepth 100000 in
set_option maxHeartbeats 16000000 in
theorem pair_no2 (av bv : Value) (a b : List Int) (l : Int) (ha : a.length ≤ 1000) (hb : b.length ≤ 1000) (w : World) (hIa : Ints w.heap.size w av a) (hIb : Ints w.heap.size w bv b) (hra : rightB a = true) (hrb : rightB b = false) :
    Calls Try.prog 14 #[av, bv, .int .i64 l] w fun e w' => e = .returned (.bool true) ∧ Below w.heap.size w w' := by
  obtain ⟨Aa, ca, rfl, -⟩ := ints_shape hIa
  obtain ⟨Ab, cb, rfl, -⟩ := ints_shape hIb
  have Ha0 := Lib.hid hIa; have Hb0 := Lib.hid hIb; clear hIa hIb

  have hR : (rightB a && rightB b) = false := by rw [hrb, Bool.and_false]
  have HRa := Lib.hid hra; have HRb := Lib.hid hrb; clear hra hrb
  have hrl : clResL a b l = [] := by unfold clResL; rw [hR, if_neg (by decide)]
  have hre : clResE a b l = 20 := by unfold clResE; rw [hR, if_neg (by decide)]
  have hwi : withinB a b = false := by unfold withinB; rw [← Bool.and_assoc, hR, Bool.false_and]
  have HR := Lib.hid hR; have HRL := Lib.hid hrl; have HRE := Lib.hid hre; have HWi := Lib.hid hwi; clear hR hrl hre hwi
  go_enter Try.func14, Try.ntmps14
  go_wp2_with fail
  refine (clause_any _ _ a (by omega) _ (Nat.le_refl _) Ha0.out).mono ?_
  rintro e w1 ⟨vx, rfl, hr, hB⟩
  have hx1 := lits_own hr
  have hbw1 := hB
  have ha1 := Ha0.out.on hB
  have hb1 := Hb0.out.on hB
  have Ha1 := Lib.hid ha1; clear ha1 Ha0
  have Hb1 := Lib.hid hb1; clear hb1 Hb0
  have Hx1 := Lib.hid hx1; clear hx1
  clear hr
  go_wp2_with fail
  refine (clause_any _ _ b (by omega) _ (Nat.le_refl _) Hb1.out).mono ?_
  rintro e w2 ⟨vy, rfl, hr, hB⟩
  have hy2 := lits_own hr
  have hbw2 := hbw1.trans (hB.mono hbw1.size)
  have ha2 := Ha1.out.on hB
  have hb2 := Hb1.out.on hB
  have hx2 := Hx1.out.on hB
  have Ha2 := Lib.hid ha2; clear ha2 Ha1
  have Hb2 := Lib.hid hb2; clear hb2 Hb1
  have Hx2 := Lib.hid hx2; clear hx2 Hx1
  have Hy2 := Lib.hid hy2; clear hy2
  clear hr
  go_wp2_with fail
  refine (clunion_any _ _ _ a b (by omega) (by omega) _ (Nat.le_refl _) Hx2.out Hy2.out).mono ?_
  rintro e w3 ⟨vu, rfl, hr, hB⟩
  rw [HR.out, if_neg (by decide)] at hr
  rw [HR.out, if_neg (by decide)]
  obtain ⟨Au, cu, rfl⟩ := own_shape hr
  have hbw3 := hbw2.trans (hB.mono hbw2.size)
  have ha3 := Ha2.out.on hB
  have hb3 := Hb2.out.on hB
  have hx3 := Hx2.out.on hB
  have hy3 := Hy2.out.on hB
  have Ha3 := Lib.hid ha3; clear ha3 Ha2
  have Hb3 := Lib.hid hb3; clear hb3 Hb2
  have Hx3 := Lib.hid hx3; clear hx3 Hx2
  have Hy3 := Lib.hid hy3; clear hy3 Hy2
  clear hr
  go_wp2_with fail
  refine (clashes_any _ _ _ a b (by omega) (by omega) _ (Nat.le_refl _) Hx3.out Hy3.out).mono ?_
  rintro e w4 ⟨vk, rfl, hr, hB⟩
  rw [HR.out, if_neg (by decide)] at hr
  rw [HR.out, if_neg (by decide)]
  obtain ⟨Ak, ck, rfl⟩ := own_shape hr
  have hbw4 := hbw3.trans (hB.mono hbw3.size)
  have ha4 := Ha3.out.on hB
  have hb4 := Hb3.out.on hB
  have hx4 := Hx3.out.on hB
  have hy4 := Hy3.out.on hB
  have Ha4 := Lib.hid ha4; clear ha4 Ha3
  have Hb4 := Lib.hid hb4; clear hb4 Hb3
  have Hx4 := Lib.hid hx4; clear hx4 Hx3
  have Hy4 := Lib.hid hy4; clear hy4 Hy3
  clear hr
  go_wp2_with fail
  refine (clresolve_any _ _ _ a b l (by omega) (by omega) _ (Nat.le_refl _) Hx4.out Hy4.out).mono ?_
  rintro e w5 ⟨vr, rfl, hr, hB⟩
  rw [HRL.out] at hr
  rw [HRE.out]
  obtain ⟨Ar, cr, rfl⟩ := own_shape hr
  have hbw5 := hbw4.trans (hB.mono hbw4.size)
  have ha5 := Ha4.out.on hB
  have hb5 := Hb4.out.on hB
  have hx5 := Hx4.out.on hB
  have hy5 := Hy4.out.on hB
  have Ha5 := Lib.hid ha5; clear ha5 Ha4
  have Hb5 := Lib.hid hb5; clear hb5 Hb4
  have Hx5 := Lib.hid hx5; clear hx5 Hx4
  have Hy5 := Lib.hid hy5; clear hy5 Hy4
  clear hr
  go_wp2_with fail
  refine (intsOf_any _ _ a (by omega) _ (Nat.le_refl _) Hx5.out.ints).mono ?_
  rintro e w6 ⟨vi, rfl, hr, hB⟩
  have hi6 := ints_own hr
  have hbw6 := hbw5.trans (hB.mono hbw5.size)
  have ha6 := Ha5.out.on hB
  have hb6 := Hb5.out.on hB
  have hx6 := Hx5.out.on hB
  have hy6 := Hy5.out.on hB
  have Ha6 := Lib.hid ha6; clear ha6 Ha5
  have Hb6 := Lib.hid hb6; clear hb6 Hb5
  have Hx6 := Lib.hid hx6; clear hx6 Hx5
  have Hy6 := Lib.hid hy6; clear hy6 Hy5
  have Hi6 := Lib.hid hi6; clear hi6
  clear hr
  go_wp2_with fail
  refine (equal_is _ (by omega) (by omega) Hi6.out Ha6.out).mono ?_
  rintro e w' ⟨rfl, q, rfl⟩
  rw [beq_self_eq_true]
  have hB := below_drewN (Below.refl w6.heap.size w6) q
  obtain ⟨w7, hw⟩ : ∃ x, w6.drewN q = x := ⟨_, rfl⟩
  rw [hw] at hB ⊢
  clear hw
  have hbw7 := hbw6.trans (hB.mono hbw6.size)
  have ha7 := Ha6.out.on hB
  have hb7 := Hb6.out.on hB
  have hx7 := Hx6.out.on hB
  have hy7 := Hy6.out.on hB
  have hi7 := Hi6.out.on hB
  have Ha7 := Lib.hid ha7; clear ha7 Ha6
  have Hb7 := Lib.hid hb7; clear hb7 Hb6
  have Hx7 := Lib.hid hx7; clear hx7 Hx6
  have Hy7 := Lib.hid hy7; clear hy7 Hy6
  have Hi7 := Lib.hid hi7; clear hi7 Hi6
  clear Hi7
  go_wp2_with fail
  refine (intsOf_any _ _ b (by omega) _ (Nat.le_refl _) Hy7.out.ints).mono ?_
  rintro e w8 ⟨vi, rfl, hr, hB⟩
  have hi8 := ints_own hr
  have hbw8 := hbw7.trans (hB.mono hbw7.size)
  have ha8 := Ha7.out.on hB
  have hb8 := Hb7.out.on hB
  have hx8 := Hx7.out.on hB
  have hy8 := Hy7.out.on hB
  have Ha8 := Lib.hid ha8; clear ha8 Ha7
  have Hb8 := Lib.hid hb8; clear hb8 Hb7
  have Hx8 := Lib.hid hx8; clear hx8 Hx7
  have Hy8 := Lib.hid hy8; clear hy8 Hy7
  have Hi8 := Lib.hid hi8; clear hi8
  clear hr
  go_wp2_with fail
  refine (equal_is _ (by omega) (by omega) Hi8.out Hb8.out).mono ?_
  rintro e w' ⟨rfl, q, rfl⟩
  rw [beq_self_eq_true]
  have hB := below_drewN (Below.refl w8.heap.size w8) q
  obtain ⟨w9, hw⟩ : ∃ x, w8.drewN q = x := ⟨_, rfl⟩
  rw [hw] at hB ⊢
  clear hw
  have hbw9 := hbw8.trans (hB.mono hbw8.size)
  have ha9 := Ha8.out.on hB
  have hb9 := Hb8.out.on hB
  have hx9 := Hx8.out.on hB
  have hy9 := Hy8.out.on hB
  have hi9 := Hi8.out.on hB
  have Ha9 := Lib.hid ha9; clear ha9 Ha8
  have Hb9 := Lib.hid hb9; clear hb9 Hb8
  have Hx9 := Lib.hid hx9; clear hx9 Hx8
  have Hy9 := Lib.hid hy9; clear hy9 Hy8
  have Hi9 := Lib.hid hi9; clear hi9 Hi8
  clear Hi9
  go_wp2_with fail
  refine (ref02_right _ _ a (by omega) _ Ha9.out).mono ?_
  rintro e w' ⟨rfl, rfl⟩
  rw [HRa.out]
  go_wp2_with fail
  refine (ref02_right _ _ b (by omega) _ Hb9.out).mono ?_
  rintro e w' ⟨rfl, rfl⟩
  rw [HRb.out]
  go_wp2_with fail
  refine (same_any _ _ _ a b (by omega) (by omega) _ (Nat.le_refl _) Hx9.out Hy9.out).mono ?_
  rintro e w10 ⟨rfl, hB⟩
  rw [HWi.out, Bool.false_and]
  have hbw10 := hbw9.trans (hB.mono hbw9.size)
  have ha10 := Ha9.out.on hB
  have hb10 := Hb9.out.on hB
  have hx10 := Hx9.out.on hB
  have hy10 := Hy9.out.on hB
  have Ha10 := Lib.hid ha10; clear ha10 Ha9
  have Hb10 := Lib.hid hb10; clear hb10 Hb9
  have Hx10 := Lib.hid hx10; clear hx10 Hx9
  have Hy10 := Lib.hid hy10; clear hy10 Hy9
  go_wp2_with fail
  refine (within_any _ _ _ a b (by omega) (by omega) _ (Nat.le_refl _) Hx10.out Hy10.out).mono ?_
  rintro e w11 ⟨rfl, hB⟩
  rw [HWi.out]
  have hbw11 := hbw10.trans (hB.mono hbw10.size)
  have ha11 := Ha10.out.on hB
  have hb11 := Hb10.out.on hB
  have hx11 := Hx10.out.on hB
  have hy11 := Hy10.out.on hB
  have Ha11 := Lib.hid ha11; clear ha11 Ha10
  have Hb11 := Lib.hid hb11; clear hb11 Hb10
  have Hx11 := Lib.hid hx11; clear hx11 Hx10
  have Hy11 := Lib.hid hy11; clear hy11 Hy10
  go_wp2_with fail
  refine (clcompare_any _ _ _ a b (by omega) (by omega) _ (Nat.le_refl _) Hx11.out Hy11.out).mono ?_
  rintro e w12 ⟨rfl, hB⟩
  rw [HR.out, if_neg (by decide)]
  have hbw12 := hbw11.trans (hB.mono hbw11.size)
  have ha12 := Ha11.out.on hB
  have hb12 := Hb11.out.on hB
  have hx12 := Hx11.out.on hB
  have hy12 := Hy11.out.on hB
  have Ha12 := Lib.hid ha12; clear ha12 Ha11
  have Hb12 := Lib.hid hb12; clear hb12 Hb11
  have Hx12 := Lib.hid hx12; clear hx12 Hx11
  have Hy12 := Lib.hid hy12; clear hy12 Hy11
  go_wp2_with fail
  go_ret
  exact ⟨rfl, hbw12⟩


set_option maxRecDepth 100000 in
set_option maxHeartbeats 16000000 in
theorem pair_yes (av bv : Value) (a b : List Int) (l : Int) (ha : a.length ≤ 1000) (hb : b.length ≤ 1000) (w : World) (hIa : Ints w.heap.size w av a) (hIb : Ints w.heap.size w bv b) (hra : rightB a = true) (hrb : rightB b = true) :
    Calls Try.prog 14 #[av, bv, .int .i64 l] w fun e w' => e = .returned (.bool true) ∧ Below w.heap.size w w' := by
  obtain ⟨Aa, ca, rfl, -⟩ := ints_shape hIa
  obtain ⟨Ab, cb, rfl, -⟩ := ints_shape hIb
  have Ha0 := Lib.hid hIa; have Hb0 := Lib.hid hIb; clear hIa hIb

  have hR : (rightB a && rightB b) = true := by rw [hra, hrb]; rfl
  obtain ⟨-, hla⟩ := rightB_of hra
  obtain ⟨-, hlb⟩ := rightB_of hrb
  have hwi : withinB a b = withB a b := by unfold withinB; rw [hra, hrb, Bool.true_and, Bool.true_and]
  have hwj : withinB b a = withB b a := by unfold withinB; rw [hra, hrb, Bool.true_and, Bool.true_and]
  have hsm := clCmp_same a b
  have hrl : clResL a b l = resL a b l := by unfold clResL; rw [hR, if_pos rfl]
  have hre : clResE a b l = resE a b l := by unfold clResE; rw [hR, if_pos rfl]
  have hml : (manyL (a ++ b)).length ≤ 4000 := by
    unfold manyL
    split
    · simp
    · have := norm_length (a ++ b); rw [List.length_append] at this; omega
  have hkl : (normL (a.filter fun x => hasB b (-x))).length ≤ 4000 := by
    have := norm_length (a.filter fun x => hasB b (-x))
    have : (a.filter fun x => hasB b (-x)).length ≤ a.length := List.length_filter_le _ _
    omega
  have hql : (resL a b l).length ≤ 4000 := by
    unfold resL
    split
    · split
      · unfold manyL
        split
        · simp
        · have h1 := norm_length (normL (lessL a l) ++ normL (lessL b (-l)))
          have h2 := norm_length (lessL a l)
          have h3 := norm_length (lessL b (-l))
          have h4 := lessL_length a l
          have h5 := lessL_length b (-l)
          rw [List.length_append] at h1
          omega
      · simp
    · simp
  obtain ⟨us, hus⟩ : ∃ us, manyL (a ++ b) = us := ⟨_, rfl⟩
  obtain ⟨ue, hue⟩ : ∃ ue, manyE (a ++ b) = ue := ⟨_, rfl⟩
  obtain ⟨ks, hks⟩ : ∃ ks, normL (a.filter fun x => hasB b (-x)) = ks := ⟨_, rfl⟩
  obtain ⟨qs, hqs⟩ : ∃ qs, resL a b l = qs := ⟨_, rfl⟩
  obtain ⟨qe, hqe⟩ : ∃ qe, resE a b l = qe := ⟨_, rfl⟩
  obtain ⟨n, hn⟩ : ∃ n, clCmp a b = n := ⟨_, rfl⟩
  obtain ⟨p, hp⟩ : ∃ p, withB a b = p := ⟨_, rfl⟩
  obtain ⟨p', hp'⟩ : ∃ p', withB b a = p' := ⟨_, rfl⟩
  obtain ⟨sm, hsmv⟩ : ∃ sm, (p && p') = sm := ⟨_, rfl⟩
  rw [hp] at hwi
  rw [hp'] at hwj
  rw [hn, hp, hp', hsmv] at hsm
  rw [hqs] at hrl hql
  rw [hqe] at hre
  rw [hus] at hml
  rw [hks] at hkl
  have HR := Lib.hid hR; have HRa := Lib.hid hra; have HRb := Lib.hid hrb; have HRL := Lib.hid hrl; have HRE := Lib.hid hre; have HWi := Lib.hid hwi; have HWj := Lib.hid hwj; have HSv := Lib.hid hsmv; have HP := Lib.hid hp
  have HUs := Lib.hid hus; have HUe := Lib.hid hue; have HKs := Lib.hid hks; have HQs := Lib.hid hqs; have HQe := Lib.hid hqe; have HN := Lib.hid hn; have HLa := Lib.hid hla; have HLb := Lib.hid hlb
  clear hR hra hrb hrl hre hwi hwj hus hue hks hqs hqe hn hp hp' hsmv hla hlb
  go_enter Try.func14, Try.ntmps14
  go_wp2_with fail
  refine (clause_any _ _ a (by omega) _ (Nat.le_refl _) Ha0.out).mono ?_
  rintro e w1 ⟨vx, rfl, hr, hB⟩
  have hx1 := lits_own hr
  have hbw1 := hB
  have ha1 := Ha0.out.on hB
  have hb1 := Hb0.out.on hB
  have Ha1 := Lib.hid ha1; clear ha1 Ha0
  have Hb1 := Lib.hid hb1; clear hb1 Hb0
  have Hx1 := Lib.hid hx1; clear hx1
  clear hr
  go_wp2_with fail
  refine (clause_any _ _ b (by omega) _ (Nat.le_refl _) Hb1.out).mono ?_
  rintro e w2 ⟨vy, rfl, hr, hB⟩
  have hy2 := lits_own hr
  have hbw2 := hbw1.trans (hB.mono hbw1.size)
  have ha2 := Ha1.out.on hB
  have hb2 := Hb1.out.on hB
  have hx2 := Hx1.out.on hB
  have Ha2 := Lib.hid ha2; clear ha2 Ha1
  have Hb2 := Lib.hid hb2; clear hb2 Hb1
  have Hx2 := Lib.hid hx2; clear hx2 Hx1
  have Hy2 := Lib.hid hy2; clear hy2
  clear hr
  go_wp2_with fail
  refine (clunion_any _ _ _ a b (by omega) (by omega) _ (Nat.le_refl _) Hx2.out Hy2.out).mono ?_
  rintro e w3 ⟨vu, rfl, hr, hB⟩
  rw [HR.out, if_pos rfl, HUs.out] at hr
  rw [HR.out, if_pos rfl, HUe.out]
  obtain ⟨Au, cu, rfl⟩ := own_shape hr
  have hu3 := hr
  have hbw3 := hbw2.trans (hB.mono hbw2.size)
  have ha3 := Ha2.out.on hB
  have hb3 := Hb2.out.on hB
  have hx3 := Hx2.out.on hB
  have hy3 := Hy2.out.on hB
  have Ha3 := Lib.hid ha3; clear ha3 Ha2
  have Hb3 := Lib.hid hb3; clear hb3 Hb2
  have Hx3 := Lib.hid hx3; clear hx3 Hx2
  have Hy3 := Lib.hid hy3; clear hy3 Hy2
  have Hu3 := Lib.hid hu3; clear hu3
  clear hr
  go_wp2_with fail
  refine (clashes_any _ _ _ a b (by omega) (by omega) _ (Nat.le_refl _) Hx3.out Hy3.out).mono ?_
  rintro e w4 ⟨vk, rfl, hr, hB⟩
  rw [HR.out, if_pos rfl, HKs.out] at hr
  rw [HR.out, if_pos rfl]
  obtain ⟨Ak, ck, rfl⟩ := own_shape hr
  have hk4 := hr
  have hbw4 := hbw3.trans (hB.mono hbw3.size)
  have ha4 := Ha3.out.on hB
  have hb4 := Hb3.out.on hB
  have hx4 := Hx3.out.on hB
  have hy4 := Hy3.out.on hB
  have hu4 := owns_on Hu3.out hB
  have Ha4 := Lib.hid ha4; clear ha4 Ha3
  have Hb4 := Lib.hid hb4; clear hb4 Hb3
  have Hx4 := Lib.hid hx4; clear hx4 Hx3
  have Hy4 := Lib.hid hy4; clear hy4 Hy3
  have Hu4 := Lib.hid hu4; clear hu4 Hu3
  have Hk4 := Lib.hid hk4; clear hk4
  clear hr
  go_wp2_with fail
  refine (clresolve_any _ _ _ a b l (by omega) (by omega) _ (Nat.le_refl _) Hx4.out Hy4.out).mono ?_
  rintro e w5 ⟨vr, rfl, hr, hB⟩
  rw [HRL.out] at hr
  rw [HRE.out]
  obtain ⟨Ar, cr, rfl⟩ := own_shape hr
  have hr5 := hr
  have hbw5 := hbw4.trans (hB.mono hbw4.size)
  have ha5 := Ha4.out.on hB
  have hb5 := Hb4.out.on hB
  have hx5 := Hx4.out.on hB
  have hy5 := Hy4.out.on hB
  have hu5 := owns_on Hu4.out hB
  have hk5 := owns_on Hk4.out hB
  have Ha5 := Lib.hid ha5; clear ha5 Ha4
  have Hb5 := Lib.hid hb5; clear hb5 Hb4
  have Hx5 := Lib.hid hx5; clear hx5 Hx4
  have Hy5 := Lib.hid hy5; clear hy5 Hy4
  have Hu5 := Lib.hid hu5; clear hu5 Hu4
  have Hk5 := Lib.hid hk5; clear hk5 Hk4
  have Hr5 := Lib.hid hr5; clear hr5
  clear hr
  go_wp2_with fail
  refine (intsOf_any _ _ a (by omega) _ (Nat.le_refl _) Hx5.out.ints).mono ?_
  rintro e w6 ⟨vi, rfl, hr, hB⟩
  have hi6 := ints_own hr
  have hbw6 := hbw5.trans (hB.mono hbw5.size)
  have ha6 := Ha5.out.on hB
  have hb6 := Hb5.out.on hB
  have hx6 := Hx5.out.on hB
  have hy6 := Hy5.out.on hB
  have hu6 := owns_on Hu5.out hB
  have hk6 := owns_on Hk5.out hB
  have hr6 := owns_on Hr5.out hB
  have Ha6 := Lib.hid ha6; clear ha6 Ha5
  have Hb6 := Lib.hid hb6; clear hb6 Hb5
  have Hx6 := Lib.hid hx6; clear hx6 Hx5
  have Hy6 := Lib.hid hy6; clear hy6 Hy5
  have Hu6 := Lib.hid hu6; clear hu6 Hu5
  have Hk6 := Lib.hid hk6; clear hk6 Hk5
  have Hr6 := Lib.hid hr6; clear hr6 Hr5
  have Hi6 := Lib.hid hi6; clear hi6
  clear hr
  go_wp2_with fail
  refine (equal_is _ (by omega) (by omega) Hi6.out Ha6.out).mono ?_
  rintro e w' ⟨rfl, q, rfl⟩
  rw [beq_self_eq_true]
  have hB := below_drewN (Below.refl w6.heap.size w6) q
  obtain ⟨w7, hw⟩ : ∃ x, w6.drewN q = x := ⟨_, rfl⟩
  rw [hw] at hB ⊢
  clear hw
  have hbw7 := hbw6.trans (hB.mono hbw6.size)
  have ha7 := Ha6.out.on hB
  have hb7 := Hb6.out.on hB
  have hx7 := Hx6.out.on hB
  have hy7 := Hy6.out.on hB
  have hu7 := owns_on Hu6.out hB
  have hk7 := owns_on Hk6.out hB
  have hr7 := owns_on Hr6.out hB
  have hi7 := Hi6.out.on hB
  have Ha7 := Lib.hid ha7; clear ha7 Ha6
  have Hb7 := Lib.hid hb7; clear hb7 Hb6
  have Hx7 := Lib.hid hx7; clear hx7 Hx6
  have Hy7 := Lib.hid hy7; clear hy7 Hy6
  have Hu7 := Lib.hid hu7; clear hu7 Hu6
  have Hk7 := Lib.hid hk7; clear hk7 Hk6
  have Hr7 := Lib.hid hr7; clear hr7 Hr6
  have Hi7 := Lib.hid hi7; clear hi7 Hi6
  clear Hi7
  go_wp2_with fail
  refine (intsOf_any _ _ b (by omega) _ (Nat.le_refl _) Hy7.out.ints).mono ?_
  rintro e w8 ⟨vi, rfl, hr, hB⟩
  have hi8 := ints_own hr
  have hbw8 := hbw7.trans (hB.mono hbw7.size)
  have ha8 := Ha7.out.on hB
  have hb8 := Hb7.out.on hB
  have hx8 := Hx7.out.on hB
  have hy8 := Hy7.out.on hB
  have hu8 := owns_on Hu7.out hB
  have hk8 := owns_on Hk7.out hB
  have hr8 := owns_on Hr7.out hB
  have Ha8 := Lib.hid ha8; clear ha8 Ha7
  have Hb8 := Lib.hid hb8; clear hb8 Hb7
  have Hx8 := Lib.hid hx8; clear hx8 Hx7
  have Hy8 := Lib.hid hy8; clear hy8 Hy7
  have Hu8 := Lib.hid hu8; clear hu8 Hu7
  have Hk8 := Lib.hid hk8; clear hk8 Hk7
  have Hr8 := Lib.hid hr8; clear hr8 Hr7
  have Hi8 := Lib.hid hi8; clear hi8
  clear hr
  go_wp2_with fail
  refine (equal_is _ (by omega) (by omega) Hi8.out Hb8.out).mono ?_
  rintro e w' ⟨rfl, q, rfl⟩
  rw [beq_self_eq_true]
  have hB := below_drewN (Below.refl w8.heap.size w8) q
  obtain ⟨w9, hw⟩ : ∃ x, w8.drewN q = x := ⟨_, rfl⟩
  rw [hw] at hB ⊢
  clear hw
  have hbw9 := hbw8.trans (hB.mono hbw8.size)
  have ha9 := Ha8.out.on hB
  have hb9 := Hb8.out.on hB
  have hx9 := Hx8.out.on hB
  have hy9 := Hy8.out.on hB
  have hu9 := owns_on Hu8.out hB
  have hk9 := owns_on Hk8.out hB
  have hr9 := owns_on Hr8.out hB
  have hi9 := Hi8.out.on hB
  have Ha9 := Lib.hid ha9; clear ha9 Ha8
  have Hb9 := Lib.hid hb9; clear hb9 Hb8
  have Hx9 := Lib.hid hx9; clear hx9 Hx8
  have Hy9 := Lib.hid hy9; clear hy9 Hy8
  have Hu9 := Lib.hid hu9; clear hu9 Hu8
  have Hk9 := Lib.hid hk9; clear hk9 Hk8
  have Hr9 := Lib.hid hr9; clear hr9 Hr8
  have Hi9 := Lib.hid hi9; clear hi9 Hi8
  clear Hi9
  go_wp2_with fail
  refine (ref02_right _ _ a (by omega) _ Ha9.out).mono ?_
  rintro e w' ⟨rfl, rfl⟩
  rw [HRa.out]
  go_wp2_with fail
  refine (ref02_right _ _ b (by omega) _ Hb9.out).mono ?_
  rintro e w' ⟨rfl, rfl⟩
  rw [HRb.out]
  go_wp2_with fail
  refine (ref_union _ _ _ a b (by omega) (by omega) HLa.out HLb.out _ (Nat.le_refl _) Ha9.out Hb9.out).mono ?_
  rintro e w10 ⟨vp, rfl, hr, hB⟩
  rw [HUs.out] at hr
  rw [HUe.out]
  have hp10 := ints_own hr
  have hbw10 := hbw9.trans (hB.mono hbw9.size)
  have ha10 := Ha9.out.on hB
  have hb10 := Hb9.out.on hB
  have hx10 := Hx9.out.on hB
  have hy10 := Hy9.out.on hB
  have hu10 := owns_on Hu9.out hB
  have hk10 := owns_on Hk9.out hB
  have hr10 := owns_on Hr9.out hB
  have Ha10 := Lib.hid ha10; clear ha10 Ha9
  have Hb10 := Lib.hid hb10; clear hb10 Hb9
  have Hx10 := Lib.hid hx10; clear hx10 Hx9
  have Hy10 := Lib.hid hy10; clear hy10 Hy9
  have Hu10 := Lib.hid hu10; clear hu10 Hu9
  have Hk10 := Lib.hid hk10; clear hk10 Hk9
  have Hr10 := Lib.hid hr10; clear hr10 Hr9
  have Hp10 := Lib.hid hp10; clear hp10
  clear hr
  go_wp2_with fail
  refine (ref_resolve _ _ _ a b l (by omega) (by omega) HLa.out HLb.out _ (Nat.le_refl _) Ha10.out Hb10.out).mono ?_
  rintro e w11 ⟨vq, rfl, hr, hB⟩
  rw [HQs.out] at hr
  rw [HQe.out]
  have hq11 := ints_own hr
  have hbw11 := hbw10.trans (hB.mono hbw10.size)
  have ha11 := Ha10.out.on hB
  have hb11 := Hb10.out.on hB
  have hx11 := Hx10.out.on hB
  have hy11 := Hy10.out.on hB
  have hu11 := owns_on Hu10.out hB
  have hk11 := owns_on Hk10.out hB
  have hr11 := owns_on Hr10.out hB
  have hp11 := Hp10.out.on hB
  have Ha11 := Lib.hid ha11; clear ha11 Ha10
  have Hb11 := Lib.hid hb11; clear hb11 Hb10
  have Hx11 := Lib.hid hx11; clear hx11 Hx10
  have Hy11 := Lib.hid hy11; clear hy11 Hy10
  have Hu11 := Lib.hid hu11; clear hu11 Hu10
  have Hk11 := Lib.hid hk11; clear hk11 Hk10
  have Hr11 := Lib.hid hr11; clear hr11 Hr10
  have Hp11 := Lib.hid hp11; clear hp11 Hp10
  have Hq11 := Lib.hid hq11; clear hq11
  clear hr
  go_wp2_with fail
  refine (ref_cl_compare _ _ _ a b (by omega) (by omega) HLa.out HLb.out _ (Nat.le_refl _) Ha11.out Hb11.out).mono ?_
  rintro e w12 ⟨rfl, hB⟩
  rw [HN.out]
  have hbw12 := hbw11.trans (hB.mono hbw11.size)
  have ha12 := Ha11.out.on hB
  have hb12 := Hb11.out.on hB
  have hx12 := Hx11.out.on hB
  have hy12 := Hy11.out.on hB
  have hu12 := owns_on Hu11.out hB
  have hk12 := owns_on Hk11.out hB
  have hr12 := owns_on Hr11.out hB
  have hp12 := Hp11.out.on hB
  have hq12 := Hq11.out.on hB
  have Ha12 := Lib.hid ha12; clear ha12 Ha11
  have Hb12 := Lib.hid hb12; clear hb12 Hb11
  have Hx12 := Lib.hid hx12; clear hx12 Hx11
  have Hy12 := Lib.hid hy12; clear hy12 Hy11
  have Hu12 := Lib.hid hu12; clear hu12 Hu11
  have Hk12 := Lib.hid hk12; clear hk12 Hk11
  have Hr12 := Lib.hid hr12; clear hr12 Hr11
  have Hp12 := Lib.hid hp12; clear hp12 Hp11
  have Hq12 := Lib.hid hq12; clear hq12 Hq11
  go_wp2_with fail
  refine (same_any _ _ _ a b (by omega) (by omega) _ (Nat.le_refl _) Hx12.out Hy12.out).mono ?_
  rintro e w13 ⟨rfl, hB⟩
  rw [HWi.out, HWj.out, HSv.out]
  have hbw13 := hbw12.trans (hB.mono hbw12.size)
  have ha13 := Ha12.out.on hB
  have hb13 := Hb12.out.on hB
  have hx13 := Hx12.out.on hB
  have hy13 := Hy12.out.on hB
  have hu13 := owns_on Hu12.out hB
  have hk13 := owns_on Hk12.out hB
  have hr13 := owns_on Hr12.out hB
  have hp13 := Hp12.out.on hB
  have hq13 := Hq12.out.on hB
  have Ha13 := Lib.hid ha13; clear ha13 Ha12
  have Hb13 := Lib.hid hb13; clear hb13 Hb12
  have Hx13 := Lib.hid hx13; clear hx13 Hx12
  have Hy13 := Lib.hid hy13; clear hy13 Hy12
  have Hu13 := Lib.hid hu13; clear hu13 Hu12
  have Hk13 := Lib.hid hk13; clear hk13 Hk12
  have Hr13 := Lib.hid hr13; clear hr13 Hr12
  have Hp13 := Lib.hid hp13; clear hp13 Hp12
  have Hq13 := Lib.hid hq13; clear hq13 Hq12
  go_wp2_with fail
  refine (within_any _ _ _ a b (by omega) (by omega) _ (Nat.le_refl _) Hx13.out Hy13.out).mono ?_
  rintro e w14 ⟨rfl, hB⟩
  rw [HWi.out]
  have hbw14 := hbw13.trans (hB.mono hbw13.size)
  have ha14 := Ha13.out.on hB
  have hb14 := Hb13.out.on hB
  have hx14 := Hx13.out.on hB
  have hy14 := Hy13.out.on hB
  have hu14 := owns_on Hu13.out hB
  have hk14 := owns_on Hk13.out hB
  have hr14 := owns_on Hr13.out hB
  have hp14 := Hp13.out.on hB
  have hq14 := Hq13.out.on hB
  have Ha14 := Lib.hid ha14; clear ha14 Ha13
  have Hb14 := Lib.hid hb14; clear hb14 Hb13
  have Hx14 := Lib.hid hx14; clear hx14 Hx13
  have Hy14 := Lib.hid hy14; clear hy14 Hy13
  have Hu14 := Lib.hid hu14; clear hu14 Hu13
  have Hk14 := Lib.hid hk14; clear hk14 Hk13
  have Hr14 := Lib.hid hr14; clear hr14 Hr13
  have Hp14 := Lib.hid hp14; clear hp14 Hp13
  have Hq14 := Lib.hid hq14; clear hq14 Hq13
  go_wp2_with fail
  refine (ref_within _ _ _ a b (by omega) (by omega) _ Hb14.out Ha14.out).mono ?_
  rintro e w' ⟨rfl, rfl⟩
  rw [HP.out]
  go_wp2_with fail
  refine (clcompare_any _ _ _ a b (by omega) (by omega) _ (Nat.le_refl _) Hx14.out Hy14.out).mono ?_
  rintro e w15 ⟨rfl, hB⟩
  rw [HR.out, if_pos rfl, HN.out]
  have hbw15 := hbw14.trans (hB.mono hbw14.size)
  have ha15 := Ha14.out.on hB
  have hb15 := Hb14.out.on hB
  have hx15 := Hx14.out.on hB
  have hy15 := Hy14.out.on hB
  have hu15 := owns_on Hu14.out hB
  have hk15 := owns_on Hk14.out hB
  have hr15 := owns_on Hr14.out hB
  have hp15 := Hp14.out.on hB
  have hq15 := Hq14.out.on hB
  have Ha15 := Lib.hid ha15; clear ha15 Ha14
  have Hb15 := Lib.hid hb15; clear hb15 Hb14
  have Hx15 := Lib.hid hx15; clear hx15 Hx14
  have Hy15 := Lib.hid hy15; clear hy15 Hy14
  have Hu15 := Lib.hid hu15; clear hu15 Hu14
  have Hk15 := Lib.hid hk15; clear hk15 Hk14
  have Hr15 := Lib.hid hr15; clear hr15 Hr14
  have Hp15 := Lib.hid hp15; clear hp15 Hp14
  have Hq15 := Lib.hid hq15; clear hq15 Hq14
  go_wp2_with fail
  refine (intsOf_any _ _ us (by omega) _ (Nat.le_refl _) (ints_own Hu15.out)).mono ?_
  rintro e w16 ⟨vi, rfl, hr, hB⟩
  have hi16 := ints_own hr
  have hbw16 := hbw15.trans (hB.mono hbw15.size)
  have ha16 := Ha15.out.on hB
  have hb16 := Hb15.out.on hB
  have hx16 := Hx15.out.on hB
  have hy16 := Hy15.out.on hB
  have hu16 := owns_on Hu15.out hB
  have hk16 := owns_on Hk15.out hB
  have hr16 := owns_on Hr15.out hB
  have hp16 := Hp15.out.on hB
  have hq16 := Hq15.out.on hB
  have Ha16 := Lib.hid ha16; clear ha16 Ha15
  have Hb16 := Lib.hid hb16; clear hb16 Hb15
  have Hx16 := Lib.hid hx16; clear hx16 Hx15
  have Hy16 := Lib.hid hy16; clear hy16 Hy15
  have Hu16 := Lib.hid hu16; clear hu16 Hu15
  have Hk16 := Lib.hid hk16; clear hk16 Hk15
  have Hr16 := Lib.hid hr16; clear hr16 Hr15
  have Hp16 := Lib.hid hp16; clear hp16 Hp15
  have Hq16 := Lib.hid hq16; clear hq16 Hq15
  have Hi16 := Lib.hid hi16; clear hi16
  clear hr
  go_wp2_with fail
  refine (equal_is _ (by omega) (by omega) Hi16.out Hp16.out).mono ?_
  rintro e w' ⟨rfl, q, rfl⟩
  rw [beq_self_eq_true]
  have hB := below_drewN (Below.refl w16.heap.size w16) q
  obtain ⟨w17, hw⟩ : ∃ x, w16.drewN q = x := ⟨_, rfl⟩
  rw [hw] at hB ⊢
  clear hw
  have hbw17 := hbw16.trans (hB.mono hbw16.size)
  have ha17 := Ha16.out.on hB
  have hb17 := Hb16.out.on hB
  have hx17 := Hx16.out.on hB
  have hy17 := Hy16.out.on hB
  have hu17 := owns_on Hu16.out hB
  have hk17 := owns_on Hk16.out hB
  have hr17 := owns_on Hr16.out hB
  have hp17 := Hp16.out.on hB
  have hq17 := Hq16.out.on hB
  have hi17 := Hi16.out.on hB
  have Ha17 := Lib.hid ha17; clear ha17 Ha16
  have Hb17 := Lib.hid hb17; clear hb17 Hb16
  have Hx17 := Lib.hid hx17; clear hx17 Hx16
  have Hy17 := Lib.hid hy17; clear hy17 Hy16
  have Hu17 := Lib.hid hu17; clear hu17 Hu16
  have Hk17 := Lib.hid hk17; clear hk17 Hk16
  have Hr17 := Lib.hid hr17; clear hr17 Hr16
  have Hp17 := Lib.hid hp17; clear hp17 Hp16
  have Hq17 := Lib.hid hq17; clear hq17 Hq16
  have Hi17 := Lib.hid hi17; clear hi17 Hi16
  clear Hi17
  clear Hp17
  clear Hu17
  go_wp2_with fail
  refine (intsOf_any _ _ ks (by omega) _ (Nat.le_refl _) (ints_own Hk17.out)).mono ?_
  rintro e w18 ⟨vi, rfl, hr, hB⟩
  have hi18 := ints_own hr
  have hbw18 := hbw17.trans (hB.mono hbw17.size)
  have ha18 := Ha17.out.on hB
  have hb18 := Hb17.out.on hB
  have hx18 := Hx17.out.on hB
  have hy18 := Hy17.out.on hB
  have hk18 := owns_on Hk17.out hB
  have hr18 := owns_on Hr17.out hB
  have hq18 := Hq17.out.on hB
  have Ha18 := Lib.hid ha18; clear ha18 Ha17
  have Hb18 := Lib.hid hb18; clear hb18 Hb17
  have Hx18 := Lib.hid hx18; clear hx18 Hx17
  have Hy18 := Lib.hid hy18; clear hy18 Hy17
  have Hk18 := Lib.hid hk18; clear hk18 Hk17
  have Hr18 := Lib.hid hr18; clear hr18 Hr17
  have Hq18 := Lib.hid hq18; clear hq18 Hq17
  have Hi18 := Lib.hid hi18; clear hi18
  clear hr
  go_wp2_with fail
  refine (ref_clashes _ _ _ a b (by omega) (by omega) HLa.out _ (Nat.le_refl _) Ha18.out Hb18.out).mono ?_
  rintro e w19 ⟨vj, rfl, hr, hB⟩
  rw [HKs.out] at hr
  have hj19 := ints_own hr
  have hbw19 := hbw18.trans (hB.mono hbw18.size)
  have ha19 := Ha18.out.on hB
  have hb19 := Hb18.out.on hB
  have hx19 := Hx18.out.on hB
  have hy19 := Hy18.out.on hB
  have hk19 := owns_on Hk18.out hB
  have hr19 := owns_on Hr18.out hB
  have hq19 := Hq18.out.on hB
  have hi19 := Hi18.out.on hB
  have Ha19 := Lib.hid ha19; clear ha19 Ha18
  have Hb19 := Lib.hid hb19; clear hb19 Hb18
  have Hx19 := Lib.hid hx19; clear hx19 Hx18
  have Hy19 := Lib.hid hy19; clear hy19 Hy18
  have Hk19 := Lib.hid hk19; clear hk19 Hk18
  have Hr19 := Lib.hid hr19; clear hr19 Hr18
  have Hq19 := Lib.hid hq19; clear hq19 Hq18
  have Hi19 := Lib.hid hi19; clear hi19 Hi18
  have Hj19 := Lib.hid hj19; clear hj19
  clear hr
  go_wp2_with fail
  refine (equal_is _ (by omega) (by omega) Hi19.out Hj19.out).mono ?_
  rintro e w' ⟨rfl, q, rfl⟩
  rw [beq_self_eq_true]
  have hB := below_drewN (Below.refl w19.heap.size w19) q
  obtain ⟨w20, hw⟩ : ∃ x, w19.drewN q = x := ⟨_, rfl⟩
  rw [hw] at hB ⊢
  clear hw
  have hbw20 := hbw19.trans (hB.mono hbw19.size)
  have ha20 := Ha19.out.on hB
  have hb20 := Hb19.out.on hB
  have hx20 := Hx19.out.on hB
  have hy20 := Hy19.out.on hB
  have hk20 := owns_on Hk19.out hB
  have hr20 := owns_on Hr19.out hB
  have hq20 := Hq19.out.on hB
  have hi20 := Hi19.out.on hB
  have hj20 := Hj19.out.on hB
  have Ha20 := Lib.hid ha20; clear ha20 Ha19
  have Hb20 := Lib.hid hb20; clear hb20 Hb19
  have Hx20 := Lib.hid hx20; clear hx20 Hx19
  have Hy20 := Lib.hid hy20; clear hy20 Hy19
  have Hk20 := Lib.hid hk20; clear hk20 Hk19
  have Hr20 := Lib.hid hr20; clear hr20 Hr19
  have Hq20 := Lib.hid hq20; clear hq20 Hq19
  have Hi20 := Lib.hid hi20; clear hi20 Hi19
  have Hj20 := Lib.hid hj20; clear hj20 Hj19
  clear Hi20
  clear Hj20
  clear Hk20
  go_wp2_with fail
  refine (intsOf_any _ _ qs (by omega) _ (Nat.le_refl _) (ints_own Hr20.out)).mono ?_
  rintro e w21 ⟨vi, rfl, hr, hB⟩
  have hi21 := ints_own hr
  have hbw21 := hbw20.trans (hB.mono hbw20.size)
  have ha21 := Ha20.out.on hB
  have hb21 := Hb20.out.on hB
  have hx21 := Hx20.out.on hB
  have hy21 := Hy20.out.on hB
  have hr21 := owns_on Hr20.out hB
  have hq21 := Hq20.out.on hB
  have Ha21 := Lib.hid ha21; clear ha21 Ha20
  have Hb21 := Lib.hid hb21; clear hb21 Hb20
  have Hx21 := Lib.hid hx21; clear hx21 Hx20
  have Hy21 := Lib.hid hy21; clear hy21 Hy20
  have Hr21 := Lib.hid hr21; clear hr21 Hr20
  have Hq21 := Lib.hid hq21; clear hq21 Hq20
  have Hi21 := Lib.hid hi21; clear hi21
  clear hr
  go_wp2_with fail
  refine (equal_is _ (by omega) (by omega) Hi21.out Hq21.out).mono ?_
  rintro e w' ⟨rfl, q, rfl⟩
  rw [beq_self_eq_true]
  have hB := below_drewN (Below.refl w21.heap.size w21) q
  obtain ⟨w22, hw⟩ : ∃ x, w21.drewN q = x := ⟨_, rfl⟩
  rw [hw] at hB ⊢
  clear hw
  have hbw22 := hbw21.trans (hB.mono hbw21.size)
  have ha22 := Ha21.out.on hB
  have hb22 := Hb21.out.on hB
  have hx22 := Hx21.out.on hB
  have hy22 := Hy21.out.on hB
  have hr22 := owns_on Hr21.out hB
  have hq22 := Hq21.out.on hB
  have hi22 := Hi21.out.on hB
  have Ha22 := Lib.hid ha22; clear ha22 Ha21
  have Hb22 := Lib.hid hb22; clear hb22 Hb21
  have Hx22 := Lib.hid hx22; clear hx22 Hx21
  have Hy22 := Lib.hid hy22; clear hy22 Hy21
  have Hr22 := Lib.hid hr22; clear hr22 Hr21
  have Hq22 := Lib.hid hq22; clear hq22 Hq21
  have Hi22 := Lib.hid hi22; clear hi22 Hi21
  clear Hi22
  clear Hq22
  clear Hr22
  go_wp2_with fail
  go_ret
  exact ⟨rfl, hbw22⟩

theorem pair_any (av bv : Value) (a b : List Int) (l : Int) (ha : a.length ≤ 1000) (hb : b.length ≤ 1000) (w : World) (hIa : Ints w.heap.size w av a) (hIb : Ints w.heap.size w bv b) :
    Calls Try.prog 14 #[av, bv, .int .i64 l] w fun e w' => e = .returned (.bool true) ∧ Below w.heap.size w w' := by
  cases hra : rightB a
  · exact pair_no1 av bv a b l ha hb w hIa hIb hra
  · cases hrb : rightB b
    · exact pair_no2 av bv a b l ha hb w hIa hIb hra hrb
    · exact pair_yes av bv a b l ha hb w hIa hIb hra hrb
end Go.Proofs.Ytngjcacodoihdaa
