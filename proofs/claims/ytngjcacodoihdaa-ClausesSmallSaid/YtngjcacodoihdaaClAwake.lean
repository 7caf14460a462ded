/- The chapter's examples hold. -/
import Derived.Test.YtngjcacodoihdaaClEx
namespace Go.Proofs.Ytngjcacodoihdaa
open Go.RowKit Go.ChangeAt Go.ChangeShapes Go.WideShapes

set_option maxRecDepth 100000 in
set_option maxHeartbeats 4000000 in
theorem clawake_any (w : World) : Calls Try.prog 13 #[] w fun e w' => e = .returned (.bool true) ∧ Below w.heap.size w w' := by
  go_enter Try.func13, Try.ntmps13
  go_wp2_with fail
  refine (ex_norm w [3, -1, 3] (by decide) _ _ (by decide) n1 (show alwB [3, -1, 3] = false by decide) 34).mono ?_
  rintro e w1 ⟨va, rfl, hnew1, hB1⟩
  have hbw1 := hB1
  have Ha1 := Lib.hid hnew1; clear hnew1
  go_wp2_with fail
  refine (ex_norm w1 [2, -2] (by decide) _ _ (by decide) n2 (show alwB [2, -2] = true by decide) 34).mono ?_
  rintro e w2 ⟨vb, rfl, hnew2, hB2⟩
  have hbw2 := hbw1.trans (hB2.mono hbw1.size)
  have ha2 := Ha1.out.on hB2
  have Ha2 := Lib.hid ha2; clear ha2 Ha1
  have Hb2 := Lib.hid hnew2; clear hnew2
  go_wp2_with fail
  refine (ex_resolve w2 [1, 2] [-1, 3] 1 (by decide) (by decide) _ _ r1.1 r1.2 34 34).mono ?_
  rintro e w3 ⟨vc, rfl, hnew3, hB3⟩
  have hbw3 := hbw2.trans (hB3.mono hbw2.size)
  have ha3 := Ha2.out.on hB3
  have hb3 := Hb2.out.on hB3
  have Ha3 := Lib.hid ha3; clear ha3 Ha2
  have Hb3 := Lib.hid hb3; clear hb3 Hb2
  have Hc3 := Lib.hid hnew3; clear hnew3
  go_wp2_with fail
  refine (ex_resolve w3 [1, 2] [-1, 3] 2 (by decide) (by decide) _ _ r2.1 r2.2 34 34).mono ?_
  rintro e w4 ⟨vz, rfl, hnew4, hB4⟩
  have hbw4 := hbw3.trans (hB4.mono hbw3.size)
  have ha4 := Ha3.out.on hB4
  have hb4 := Hb3.out.on hB4
  have hc4 := Hc3.out.on hB4
  have Ha4 := Lib.hid ha4; clear ha4 Ha3
  have Hb4 := Lib.hid hb4; clear hb4 Hb3
  have Hc4 := Lib.hid hc4; clear hc4 Hc3
  have Hz4 := Lib.hid hnew4; clear hnew4
  clear Hz4
  go_wp2_with fail
  refine (ex_resolve w4 [1, 2] [-1, -2] 1 (by decide) (by decide) _ _ r3.1 r3.2 34 34).mono ?_
  rintro e w5 ⟨vd, rfl, hnew5, hB5⟩
  have hbw5 := hbw4.trans (hB5.mono hbw4.size)
  have ha5 := Ha4.out.on hB5
  have hb5 := Hb4.out.on hB5
  have hc5 := Hc4.out.on hB5
  have Ha5 := Lib.hid ha5; clear ha5 Ha4
  have Hb5 := Lib.hid hb5; clear hb5 Hb4
  have Hc5 := Lib.hid hc5; clear hc5 Hc4
  have Hd5 := Lib.hid hnew5; clear hnew5
  go_wp2_with fail
  refine (ex_clashes w5 [1, 2] [-1, -2] (by decide) (by decide) _ (by decide) (by decide) c1 34 34).mono ?_
  rintro e w6 ⟨vl, rfl, hnew6, hB6⟩
  have hbw6 := hbw5.trans (hB6.mono hbw5.size)
  have ha6 := Ha5.out.on hB6
  have hb6 := Hb5.out.on hB6
  have hc6 := Hc5.out.on hB6
  have hd6 := Hd5.out.on hB6
  have Ha6 := Lib.hid ha6; clear ha6 Ha5
  have Hb6 := Lib.hid hb6; clear hb6 Hb5
  have Hc6 := Lib.hid hc6; clear hc6 Hc5
  have Hd6 := Lib.hid hd6; clear hd6 Hd5
  have Hl6 := Lib.hid hnew6; clear hnew6
  go_wp2_with fail
  have hl : Lits (w6.alloc (.cells #[.int .i64 (-1), .int .i64 3] 34)).heap.size (w6.alloc (.cells #[.int .i64 (-1), .int .i64 3] 34)) (.slice (some ⟨w6.heap.size, 0, none⟩) 2 2) [-1, 3] := lits_laid w6 [-1, 3] 34
  have hv := (Ha6.out.on (below1 w6 (.cells #[.int .i64 (-1), .int .i64 3] 34))).ints
  refine (equal_cl _ (by decide) (by decide) hv hl.ints).mono ?_
  rintro e w' ⟨rfl, q, rfl⟩
  rw [show ([(-1 : Int), 3] == [-1, 3]) = true by decide]
  have hB7 : Below w6.heap.size w6 ((w6.alloc (.cells #[.int .i64 (-1), .int .i64 3] 34)).drewN q) := below_drewN (below1 w6 _) q
  clear hl hv Ha6
  obtain ⟨w7, hw⟩ : ∃ x, (w6.alloc (.cells #[.int .i64 (-1), .int .i64 3] 34)).drewN q = x := ⟨_, rfl⟩
  rw [hw] at hB7 ⊢
  clear hw
  have hbw7 := hbw6.trans (hB7.mono hbw6.size)
  have hb7 := Hb6.out.on hB7
  have hc7 := Hc6.out.on hB7
  have hd7 := Hd6.out.on hB7
  have hl7 := Hl6.out.on hB7
  have Hb7 := Lib.hid hb7; clear hb7 Hb6
  have Hc7 := Lib.hid hc7; clear hc7 Hc6
  have Hd7 := Lib.hid hd7; clear hd7 Hd6
  have Hl7 := Lib.hid hl7; clear hl7 Hl6
  go_wp2_with fail
  have hl : Lits (w7.alloc (.cells #[.int .i64 2, .int .i64 (-2)] 34)).heap.size (w7.alloc (.cells #[.int .i64 2, .int .i64 (-2)] 34)) (.slice (some ⟨w7.heap.size, 0, none⟩) 2 2) [2, -2] := lits_laid w7 [2, -2] 34
  have hv := (Hb7.out.on (below1 w7 (.cells #[.int .i64 2, .int .i64 (-2)] 34))).ints
  refine (equal_cl _ (by decide) (by decide) hv hl.ints).mono ?_
  rintro e w' ⟨rfl, q, rfl⟩
  rw [show ([(2 : Int), -2] == [2, -2]) = true by decide]
  have hB8 : Below w7.heap.size w7 ((w7.alloc (.cells #[.int .i64 2, .int .i64 (-2)] 34)).drewN q) := below_drewN (below1 w7 _) q
  clear hl hv Hb7
  obtain ⟨w8, hw⟩ : ∃ x, (w7.alloc (.cells #[.int .i64 2, .int .i64 (-2)] 34)).drewN q = x := ⟨_, rfl⟩
  rw [hw] at hB8 ⊢
  clear hw
  have hbw8 := hbw7.trans (hB8.mono hbw7.size)
  have hc8 := Hc7.out.on hB8
  have hd8 := Hd7.out.on hB8
  have hl8 := Hl7.out.on hB8
  have Hc8 := Lib.hid hc8; clear hc8 Hc7
  have Hd8 := Lib.hid hd8; clear hd8 Hd7
  have Hl8 := Lib.hid hl8; clear hl8 Hl7
  go_wp2_with fail
  have hl : Lits (w8.alloc (.cells #[.int .i64 2, .int .i64 3] 34)).heap.size (w8.alloc (.cells #[.int .i64 2, .int .i64 3] 34)) (.slice (some ⟨w8.heap.size, 0, none⟩) 2 2) [2, 3] := lits_laid w8 [2, 3] 34
  have hv := (Hc8.out.on (below1 w8 (.cells #[.int .i64 2, .int .i64 3] 34))).ints
  refine (equal_cl _ (by decide) (by decide) hv hl.ints).mono ?_
  rintro e w' ⟨rfl, q, rfl⟩
  rw [show ([(2 : Int), 3] == [2, 3]) = true by decide]
  have hB9 : Below w8.heap.size w8 ((w8.alloc (.cells #[.int .i64 2, .int .i64 3] 34)).drewN q) := below_drewN (below1 w8 _) q
  clear hl hv Hc8
  obtain ⟨w9, hw⟩ : ∃ x, (w8.alloc (.cells #[.int .i64 2, .int .i64 3] 34)).drewN q = x := ⟨_, rfl⟩
  rw [hw] at hB9 ⊢
  clear hw
  have hbw9 := hbw8.trans (hB9.mono hbw8.size)
  have hd9 := Hd8.out.on hB9
  have hl9 := Hl8.out.on hB9
  have Hd9 := Lib.hid hd9; clear hd9 Hd8
  have Hl9 := Lib.hid hl9; clear hl9 Hl8
  go_wp2_with fail
  have hl : Lits (w9.alloc (.cells #[.int .i64 2, .int .i64 (-2)] 34)).heap.size (w9.alloc (.cells #[.int .i64 2, .int .i64 (-2)] 34)) (.slice (some ⟨w9.heap.size, 0, none⟩) 2 2) [2, -2] := lits_laid w9 [2, -2] 34
  have hv := (Hd9.out.on (below1 w9 (.cells #[.int .i64 2, .int .i64 (-2)] 34))).ints
  refine (equal_cl _ (by decide) (by decide) hv hl.ints).mono ?_
  rintro e w' ⟨rfl, q, rfl⟩
  rw [show ([(2 : Int), -2] == [2, -2]) = true by decide]
  have hB10 : Below w9.heap.size w9 ((w9.alloc (.cells #[.int .i64 2, .int .i64 (-2)] 34)).drewN q) := below_drewN (below1 w9 _) q
  clear hl hv Hd9
  obtain ⟨w10, hw⟩ : ∃ x, (w9.alloc (.cells #[.int .i64 2, .int .i64 (-2)] 34)).drewN q = x := ⟨_, rfl⟩
  rw [hw] at hB10 ⊢
  clear hw
  have hbw10 := hbw9.trans (hB10.mono hbw9.size)
  have hl10 := Hl9.out.on hB10
  have Hl10 := Lib.hid hl10; clear hl10 Hl9
  go_wp2_with fail
  have hl : Lits (w10.alloc (.cells #[.int .i64 1, .int .i64 2] 34)).heap.size (w10.alloc (.cells #[.int .i64 1, .int .i64 2] 34)) (.slice (some ⟨w10.heap.size, 0, none⟩) 2 2) [1, 2] := lits_laid w10 [1, 2] 34
  have hv := (Hl10.out.on (below1 w10 (.cells #[.int .i64 1, .int .i64 2] 34))).ints
  refine (equal_ls _ (by decide) (by decide) hv hl.ints).mono ?_
  rintro e w' ⟨rfl, q, rfl⟩
  rw [show ([(1 : Int), 2] == [1, 2]) = true by decide]
  have hB11 : Below w10.heap.size w10 ((w10.alloc (.cells #[.int .i64 1, .int .i64 2] 34)).drewN q) := below_drewN (below1 w10 _) q
  clear hl hv Hl10
  obtain ⟨w11, hw⟩ : ∃ x, (w10.alloc (.cells #[.int .i64 1, .int .i64 2] 34)).drewN q = x := ⟨_, rfl⟩
  rw [hw] at hB11 ⊢
  clear hw
  have hbw11 := hbw10.trans (hB11.mono hbw10.size)
  go_wp2_with fail
  refine (ex_within w11 [1] [2, 1] (by decide) (by decide) true (by decide) 34 34).mono ?_
  rintro e w12 ⟨rfl, hB12⟩
  have hbw12 := hbw11.trans (hB12.mono hbw11.size)
  go_wp2_with fail
  refine (ex_compare w12 [5] [1, 2] (by decide) (by decide) (-1) c2 34 34).mono ?_
  rintro e w13 ⟨rfl, hB13⟩
  have hbw13 := hbw12.trans (hB13.mono hbw12.size)
  go_wp2_with fail
  refine (ex_holds w13 [1, -2] [3, -2] (by decide) (by decide) true (by decide) 34 34).mono ?_
  rintro e w14 ⟨rfl, hB14⟩
  have hbw14 := hbw13.trans (hB14.mono hbw13.size)
  go_wp2_with fail
  refine (ex_holds0 w14 [3, -2] (by decide) 34).mono ?_
  rintro e w15 ⟨rfl, hB15⟩
  have hbw15 := hbw14.trans (hB15.mono hbw14.size)
  go_wp2_with fail
  go_ret
  exact ⟨rfl, hbw15⟩
end Go.Proofs.Ytngjcacodoihdaa
