/- salvorlaw06.writes. -/
/- The law DimacsWrites: its walk. -/
import Derived.Test.YticcgmegimiegaaGreatDoorDmWr1
import Derived.Test.YticcgmegimiegaaGreatDoorDmAwakeWalk
namespace Go.Proofs.YticcgmegimiegaaGreatDoor
open Go.RowKit Go.ChangeAt Go.ChangeShapes Go.WideShapes Go.Shelf Go.Sort

theorem writeT_bad {V : Int} {L : List (List Int)} (h : (chkI V L).2 ≠ 0) : writeT V L = ([], (chkI V L).2) := by unfold writeT; rw [if_neg h]
set_option maxRecDepth 100000 in
set_option maxHeartbeats 2000000 in
theorem writes_any {C : Nat} {fv : Value} {L : List (List Int)} (V vars count : Int) (w : World) (hC : C ≤ w.heap.size) (hn1 : L.length ≤ 1000) (hz : ∀ zs ∈ L, zs.length ≤ 1000) (hL : RowsL C w fv L) (ht : Tab w) :
    Calls Tryz.prog 12 #[.agg #[.int .i64 V, fv], .int .i64 vars, .int .i64 count] w fun e w' => e = .returned (.bool true) ∧ Below w.heap.size w w' := by
  obtain ⟨A, cap, rfl, -⟩ := rowsL_shape hL
  obtain ⟨n, hnn⟩ : ∃ n, L.length = n := ⟨_, rfl⟩
  have hb1 := below_b1 w (.cells #[.int .i64 V, .slice A n cap] 24)
  have m1 := Whole.made w 24 #[.int .i64 V, .slice A n cap]
  rw [hnn] at hL hn1 ⊢
  obtain ⟨w1, hw1⟩ : ∃ y, w.alloc (.cells #[.int .i64 V, .slice A n cap] 24) = y := ⟨_, rfl⟩
  rw [hw1] at hb1 m1
  have hL1 := (RowsV.below (hb1.mono hC) hL).more (Nat.le_trans hC hb1.size)
  have hth := theirs_any (L := L) V w1 (Nat.le_refl _) (by omega) (fun zs h => by have := hz zs h; omega) hL1
  have c0 : w1.cell? ⟨w.heap.size, 0, none⟩ = some (.int .i64 V) := m1.cell 0
  have c1 : w1.cell? ⟨w.heap.size, 1, none⟩ = some (.slice A n cap) := m1.cell 1
  have HTh := Lib.hid hth; have HN := Lib.hid hnn; have HZ := Lib.hid hz; have HL1 := Lib.hid hL1; have HM1 := Lib.hid m1; have HW1 := Lib.hid hw1; have HT := Lib.hid (ht.below hb1); have HB1 := Lib.hid hb1; have HN1 := Lib.hid hn1
  clear hth hnn hz hL1 m1 hw1 ht hb1 hL hn1
  go_enter Tryz.func12, Tryz.ntmps12
  go_wp2_with fail
  rw [HW1.out]
  go_wp2_with fail
  refine HTh.out.mono ?_
  rintro e w2 ⟨v2, rfl, ho2, hb2⟩
  have hr2 := OwnI.rowsL ho2
  obtain ⟨A2, c2, rfl, -⟩ := rowsL_shape hr2
  rw [HN.out] at hr2 ⊢
  have hb3 := below_b1 w2 (.cells #[.int .i64 V, .slice A2 n c2] 69)
  have m3 := Whole.made w2 69 #[.int .i64 V, .slice A2 n c2]
  have hB3 := below_cat hb2 hb3
  have k1 := HM1.out.same (hB3.block _ HM1.out.lt)
  have d0 : (w2.alloc (.cells #[.int .i64 V, .slice A2 n c2] 69)).cell? ⟨w.heap.size, 0, none⟩ = some (.int .i64 V) := k1.cell 0
  have d1 : (w2.alloc (.cells #[.int .i64 V, .slice A2 n c2] 69)).cell? ⟨w.heap.size, 1, none⟩ = some (.slice A n cap) := k1.cell 1
  have HB3 := Lib.hid hB3; have HM3 := Lib.hid m3; have HR3 := Lib.hid ((RowsV.below hb3 hr2).more hb3.size); have HK1 := Lib.hid k1
  clear hb2 hb3 hB3 m3 k1 ho2 hr2 c0 c1
  go_wp2_with fail
  obtain ⟨W3, hW3⟩ : ∃ y, w2.alloc (.cells #[.int .i64 V, .slice A2 n c2] 69) = y := ⟨_, rfl⟩
  obtain ⟨p7, hp7⟩ : ∃ y, w2.heap.size = y := ⟨_, rfl⟩
  rw [hW3] at HB3 HM3 HR3 HK1
  rw [hp7] at HM3
  rw [hW3, hp7]
  clear d0 d1 hW3 hp7
  refine (write_any (L := L) V W3 (Nat.le_refl _) (by have := HN.out; have := HN1.out; omega) (fun zs h => by have := HZ.out zs h; omega) ((RowsV.below HB3.out HL1.out).more HB3.out.size) (HT.out.below HB3.out)).mono ?_
  rintro e W4 ⟨rfl, hb4⟩
  rw [writeE_eq]
  obtain ⟨S, hS⟩ : ∃ S, (writeT V L).1 = S := ⟨_, rfl⟩
  obtain ⟨E, hE⟩ : ∃ E, (writeT V L).2 = E := ⟨_, rfl⟩
  rw [hS, hE]
  have k1 := HK1.out.same (hb4.block _ HK1.out.lt)
  have m4 := HM3.out.same (hb4.block _ HM3.out.lt)
  have d0 : W4.cell? ⟨w.heap.size, 0, none⟩ = some (.int .i64 V) := k1.cell 0
  have d1 : W4.cell? ⟨w.heap.size, 1, none⟩ = some (.slice A n cap) := k1.cell 1
  have f0 : W4.cell? ⟨p7, 0, none⟩ = some (.int .i64 V) := m4.cell 0
  have f1 : W4.cell? ⟨p7, 1, none⟩ = some (.slice A2 n c2) := m4.cell 1
  have HB4 := Lib.hid (below_cat HB3.out hb4); have HM4 := Lib.hid m4; have HR4 := Lib.hid ((RowsV.below hb4 HR3.out).more hb4.size); have HS := Lib.hid hS; have HE := Lib.hid hE
  clear hb4 k1 m4 hS hE
  go_wp2_with fail
  refine (lawEqual_any (L := L) (L' := L) V V W4 (Nat.le_refl _) (by have := HN.out; have := HN1.out; omega) (fun zs h => by have := HZ.out zs h; omega) (fun zs h => by have := HZ.out zs h; omega) ((RowsV.below HB4.out HL1.out).more HB4.out.size) HR4.out).mono ?_
  rintro e W5 ⟨rfl, hb5⟩
  rw [decide_eq_true (show V = V ∧ L = L from ⟨rfl, rfl⟩)]
  have m5 := HM4.out.same (hb5.block _ HM4.out.lt)
  have g0 : W5.cell? ⟨p7, 0, none⟩ = some (.int .i64 V) := m5.cell 0
  have g1 : W5.cell? ⟨p7, 1, none⟩ = some (.slice A2 n c2) := m5.cell 1
  have HB5 := Lib.hid (below_cat HB4.out hb5); have HM5 := Lib.hid m5; have HR5 := Lib.hid ((RowsV.below hb5 HR4.out).more hb5.size)
  clear hb5 m5 d0 d1 f0 f1
  go_wp2_with fail
  refine (ref05_check (L := L) V W5 (Nat.le_refl _) (by have := HN.out; have := HN1.out; omega) (fun zs h => by have := HZ.out zs h; omega) (rowsI_of HR5.out)).mono ?_
  rintro e W6 ⟨rfl, hb6⟩
  obtain ⟨I, hI⟩ : ∃ I, (chkI V L).1 = I := ⟨_, rfl⟩
  obtain ⟨D, hD⟩ : ∃ D, (chkI V L).2 = D := ⟨_, rfl⟩
  rw [hI, hD]
  have m6 := HM5.out.same (hb6.block _ HM5.out.lt)
  have g0 : W6.cell? ⟨p7, 0, none⟩ = some (.int .i64 V) := m6.cell 0
  have g1 : W6.cell? ⟨p7, 1, none⟩ = some (.slice A2 n c2) := m6.cell 1
  have HB6 := Lib.hid (below_cat HB5.out hb6); have HM6 := Lib.hid m6; have HR6 := Lib.hid ((RowsV.below hb6 HR5.out).more hb6.size); have HD := Lib.hid hD
  clear hb6 m6 hI hD
  by_cases h0 : D = 0
  · subst h0
    go_wp2_with fail
    refine (write06_any (L := L) V W6 (Nat.le_refl _) HD.out (rowsI_of HR6.out)).mono ?_
    rintro e W7 ⟨rfl, hb7⟩
    rw [HS.out, HE.out]
    have HB7 := Lib.hid (below_cat HB6.out hb7); have HM7 := Lib.hid (HM6.out.same (hb7.block _ HM6.out.lt)); have HR7 := Lib.hid ((RowsV.below hb7 HR6.out).more hb7.size)
    clear hb7 g0 g1
    repeat (first | exact tl_whole (f := Tryz.f12) 6 rfl rfl (wr_loop _ rfl vars count V p7 n c2 A2 L rfl rfl rfl w _ (below_cat HB1.out HB7.out) (HT.out.below HB7.out) HM7.out HR7.out HN.out HN1.out HZ.out) | go_values | go_skip | go_guarded | go_step | go_upon | go_back | go_simp)
  · have hw := writeT_bad (V := V) (L := L) (by rw [HD.out]; exact h0)
    obtain rfl : S = [] := by rw [← HS.out, hw]
    obtain rfl : E = D := by rw [← HE.out, hw]; exact HD.out
    have hDb : (E != 0) = true := by simpa using h0
    clear hw h0 g0 g1
    repeat (first | exact tl_whole (f := Tryz.f12) 6 rfl rfl (wr_loop _ rfl vars count V p7 n c2 A2 L rfl rfl rfl w _ (below_cat HB1.out HB6.out) (HT.out.below HB6.out) HM6.out HR6.out HN.out HN1.out HZ.out) | go_values | go_skip | go_guarded | go_step | go_upon | go_back | go_simp)
end Go.Proofs.YticcgmegimiegaaGreatDoor
namespace Go.Proofs.YticcgmegimiegaaGreatDoor.dimacsWrites
open Go.RowKit Go.ChangeAt Go.ChangeShapes Go.WideShapes Go.Shelf Go.Sort

set_option maxRecDepth 100000 in
set_option maxHeartbeats 2000000 in
theorem dimacsWrites_walk (fv : Value) (L : List (List Int)) (V vars count : Int) (w : World) (hl : L.length ≤ maxLen) (hz : ∀ zs ∈ L, zs.length ≤ 17592186044416) (hF : Fits fv) (hL : RowsL w.heap.size w fv L) (he : Env w) :
    Calls Tryz.prog 3 #[.agg #[.int .i64 V, fv], .int .i64 vars, .int .i64 count] w fun e w' => e = .returned (.bool true) ∧ Below w.heap.size w w' := by
  obtain ⟨A, cap, rfl, -⟩ := rowsL_shape hL
  have hb1 := below_b1 w (.cells #[.int .i64 V, .slice A L.length cap] 24)
  have m1 := Whole.made w 24 #[.int .i64 V, .slice A L.length cap]
  obtain ⟨w1, hw1⟩ : ∃ y, w.alloc (.cells #[.int .i64 V, .slice A L.length cap] 24) = y := ⟨_, rfl⟩
  rw [hw1] at hb1 m1
  have hfew : Calls Tryz.prog 11 #[.agg #[.int .i64 V, .slice A L.length cap]] w1 fun e w' => e = .returned (.bool (fewF L)) ∧ Below w1.heap.size w1 w' := few06_any V w1 hb1.size hl hz hF (RowsV.below hb1 hL)
  have hwr : ∀ W, Below w.heap.size w W → fewF L = true → Calls Tryz.prog 12 #[.agg #[.int .i64 V, .slice A L.length cap], .int .i64 vars, .int .i64 count] W fun e w' => e = .returned (.bool true) ∧ Below W.heap.size W w' := fun W hb hf =>
    writes_any V vars count W hb.size (by have := (fewF_of hf).1; omega) (fun zs h => (fewF_of hf).2 zs h) (RowsV.below hb hL) (he.below hb).tab
  obtain ⟨n, hnl⟩ : ∃ n, L.length = n := ⟨_, rfl⟩
  obtain ⟨q, hq⟩ : ∃ q, fewF L = q := ⟨_, rfl⟩
  rw [hnl, hq] at hfew
  rw [hnl, hq] at hwr
  rw [hnl] at m1 hw1 ⊢
  have c0 : w1.cell? ⟨w.heap.size, 0, none⟩ = some (.int .i64 V) := m1.cell 0
  have c1 : w1.cell? ⟨w.heap.size, 1, none⟩ = some (.slice A n cap) := m1.cell 1
  have HFew := Lib.hid hfew; have HWr := Lib.hid hwr; have HW1 := Lib.hid hw1; have HB1 := Lib.hid hb1; have HM1 := Lib.hid m1; have HE := Lib.hid he
  clear hfew hwr hw1 hb1 m1 hL hF hz hl hnl hq he
  go_enter Tryz.func3, Tryz.ntmps3
  go_wp2_with fail
  rw [HW1.out]
  go_wp2_with fail
  refine HFew.out.mono ?_
  rintro e w2 ⟨rfl, hb2⟩
  have m2 := HM1.out.same (hb2.block _ HM1.out.lt)
  have d0 : w2.cell? ⟨w.heap.size, 0, none⟩ = some (.int .i64 V) := m2.cell 0
  have d1 : w2.cell? ⟨w.heap.size, 1, none⟩ = some (.slice A n cap) := m2.cell 1
  have HB2 := Lib.hid (HB1.out.trans (hb2.mono HB1.out.size))
  clear hb2 m2 c0 c1
  rcases Bool.eq_false_or_eq_true q with rfl | rfl
  · go_wp2_with fail
    refine (HWr.out w2 HB2.out (by trivial)).mono ?_
    rintro e w3 ⟨rfl, hb3⟩
    have HB3 := Lib.hid (HB2.out.trans (hb3.mono HB2.out.size))
    clear hb3 d0 d1
    go_wp2_with fail
    refine (awake_any w3 (HE.out.below HB3.out)).mono ?_
    rintro e w4 ⟨rfl, hb4⟩
    have HB4 := Lib.hid (HB3.out.trans (hb4.mono HB3.out.size))
    clear hb4
    go_wp2_with fail
    go_ret
    exact ⟨by trivial, HB4.out⟩
  · go_wp2_with fail
    refine (awake_any w2 (HE.out.below HB2.out)).mono ?_
    rintro e w3 ⟨rfl, hb3⟩
    have HB3 := Lib.hid (HB2.out.trans (hb3.mono HB2.out.size))
    clear hb3
    go_wp2_with fail
    go_ret
    exact ⟨by trivial, HB3.out⟩
end Go.Proofs.YticcgmegimiegaaGreatDoor.dimacsWrites
