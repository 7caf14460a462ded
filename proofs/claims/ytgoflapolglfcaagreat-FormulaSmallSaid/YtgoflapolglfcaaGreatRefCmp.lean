/- The reference's Compare of clauses. -/
import Derived.Test.YtgoflapolglfcaaGreatRefMore
namespace Go.Proofs.YtgoflapolglfcaaGreat
open Go.ChangeShapes Go.WideShapes Go.ChangeAt Go.RowKit Go.Shelf Go.Sort

/-- The order of clauses. -/
def clCmp (xs ys : List Int) : Int := if (normL xs).length < (normL ys).length then -1 else if (normL ys).length < (normL xs).length then 1 else cmpLL (normL xs) (normL ys)
theorem cmpLL_nil : cmpLL [] [] = 0 := rfl
def RcRel (w : World) (xs ys : List Int) (i : Value) (wr : World) : Prop := ∃ k q : Nat, k ≤ xs.length ∧ i = .int .i64 k ∧ cmpLL xs ys = cmpLL (xs.drop k) (ys.drop k) ∧ wr = w.drewN q

set_option maxRecDepth 100000 in
set_option maxHeartbeats 4000000 in
theorem ref_cl_compare (B : Nat) (xv yv : Value) (xs ys : List Int) (hz : xs.length ≤ 100000) (hz' : ys.length ≤ 100000) (hl : ∀ x ∈ xs, litB x = true) (hl' : ∀ x ∈ ys, litB x = true) (w : World) (hB : B ≤ w.heap.size) (hI : Ints B w xv xs) (hJ : Ints B w yv ys) :
    Calls Tryz.prog 56 #[xv, yv] w fun e w' => e = .returned (.int .i64 (clCmp xs ys)) ∧ Below w.heap.size w w' := by
  have hn1 := ref_norm w.heap.size xv xs (by omega) hl w (Nat.le_refl _) (hI.more hB)
  have hn2 := fun W (h : Below w.heap.size w W) => ref_norm w.heap.size yv ys (by omega) hl' W h.size ((hJ.more hB).below h)
  have l1 := norm_length xs
  have l2 := norm_length ys
  have hc : ∀ X Y, normL xs = X → normL ys = Y → clCmp xs ys = if X.length < Y.length then -1 else if Y.length < X.length then 1 else cmpLL X Y := fun X Y hX hY => by rw [← hX, ← hY]; rfl
  obtain ⟨X, hX⟩ : ∃ X, normL xs = X := ⟨_, rfl⟩
  obtain ⟨Y, hY⟩ : ∃ Y, normL ys = Y := ⟨_, rfl⟩
  have hcc := hc X Y hX hY
  rw [hX] at hn1 l1
  rw [hY] at hn2 l2
  obtain ⟨r, hr⟩ : ∃ r, clCmp xs ys = r := ⟨_, rfl⟩
  rw [hr] at hcc ⊢
  have HC := Lib.hid hcc; have HN1 := Lib.hid hn1; have HN2 := Lib.hid hn2
  obtain ⟨A1, c1, rfl, -⟩ := ints_shape hI
  obtain ⟨A2, c2, rfl, -⟩ := ints_shape hJ
  clear hcc hn1 hn2 hX hY hr hc hl hl' hI hJ
  go_enter Tryz.func56, Tryz.ntmps56
  go_wp2_with fail
  refine HN1.out.mono ?_
  rintro e w1 ⟨v1, rfl, hr1, hb1⟩
  go_wp2_with fail
  refine (HN2.out w1 hb1).mono ?_
  rintro e w2 ⟨v2, rfl, hr2, hb2⟩
  have hi1 : Ints w2.heap.size w2 v1 X := (ints_own hr1).on hb2
  have hi2 : Ints w2.heap.size w2 v2 Y := ints_own hr2
  have hbw : Below w.heap.size w w2 := hb1.trans (hb2.mono hb1.size)
  clear hr1 hr2 hb1 hb2
  obtain ⟨A3, c3, rfl, hc3⟩ := ints_shape hi1
  obtain ⟨A4, c4, rfl, hc4⟩ := ints_shape hi2
  have H3 := Lib.hid hc3; have H4 := Lib.hid hc4; clear hc3 hc4 hi1 hi2
  by_cases t1 : X.length < Y.length
  · go_wp2_with fail
    go_ret
    exact ⟨ret_i (by rw [HC.out, if_pos t1]), hbw⟩
  · by_cases t2 : Y.length < X.length
    · go_wp2_with fail
      go_ret
      exact ⟨ret_i (by rw [HC.out, if_neg t1, if_pos t2]), hbw⟩
    · have hXY : Y.length = X.length := by omega
      rw [hXY] at t1 t2 ⊢
      have HXY := Lib.hid hXY; clear hXY t1 t2
      go_wp2_with fail
      go_loopw [7] (fun i wr => RcRel w2 X Y i wr) (fun i _ => X.length - (intOf i).toNat)
      case atStart => exact ⟨0, 0, Nat.zero_le _, rfl, rfl, rfl⟩
      case round =>
        obtain ⟨k, q, hk, rfl, he, hwr⟩ := hrel
        have HE := Lib.hid he; clear he
        by_cases hlt : k < X.length
        · obtain ⟨b1, o1, rfl, -, hck1⟩ := H3.out k hlt
          obtain ⟨b2, o2, rfl, -, hck2⟩ := H4.out k (by rw [HXY.out]; exact hlt)
          have hck1 : wr.cell? ⟨b1, o1 + k, none⟩ = some (.int .i64 (X[k]?.getD 0)) := by rw [hwr]; exact hck1
          have hck2 : wr.cell? ⟨b2, o2 + k, none⟩ = some (.int .i64 (Y[k]?.getD 0)) := by rw [hwr]; exact hck2
          have hd1 := drop_one X hlt
          have hd2 := drop_one Y (by rw [HXY.out]; exact hlt)
          obtain ⟨x, hx⟩ : ∃ x, X[k]?.getD 0 = x := ⟨_, rfl⟩
          obtain ⟨y, hy⟩ : ∃ y, Y[k]?.getD 0 = y := ⟨_, rfl⟩
          rw [hx] at hck1 hd1
          rw [hy] at hck2 hd2
          clear hx hy
          have HD1 := Lib.hid hd1; have HD2 := Lib.hid hd2; clear hd1 hd2
          obtain ⟨c, ec⟩ : ∃ c, compareI x y = c := ⟨_, rfl⟩
          have hcmp := fun W => ref_compare x y W
          rw [ec] at hcmp
          have HEc := Lib.hid ec; have HCm := Lib.hid hcmp; clear ec hcmp
          have hbr : Below w.heap.size w wr := by rw [hwr]; exact below_drewN hbw q
          have HW := Lib.hid hwr; clear hwr
          have hend : ∀ n, ∃ m, wr.drewN n = w2.drewN m := fun n => ⟨q + n, by rw [HW.out, World.drewN_drewN]⟩
          have HEn := Lib.hid hend; clear hend
          by_cases h0 : c = 0
          · subst h0
            go_wp2_with fail
            go_quiet ((go_at_call 75; exact Calls.quiet_of_same ((HCm.out _).mono fun _ _ ⟨he, hw⟩ => ⟨he, hw.symm⟩)))
            go_wp2_with fail
            go_roundw
            case rel =>
              obtain ⟨m, hm⟩ := HEn.out nq
              exact ⟨k + 1, m, by omega, by go_num, by rw [HE.out, HD1.out, HD2.out, cmpLL, if_pos HEc.out], hm⟩
            case measure => simp [intOf]; omega
          · go_wp2_with fail
            go_quiet ((go_at_call 75; exact Calls.quiet_of_same ((HCm.out _).mono fun _ _ ⟨he, hw⟩ => ⟨he, hw.symm⟩)))
            go_wp2_with fail
            go_ret
            exact ⟨ret_i (by rw [HC.out, HXY.out, if_neg (by omega), if_neg (by omega), HE.out, HD1.out, HD2.out, cmpLL, HEc.out, if_neg h0]), below_drewN hbr nq⟩
        · obtain rfl : k = X.length := by omega
          have hd : cmpLL (X.drop X.length) (Y.drop X.length) = 0 := by rw [List.drop_length, ← HXY.out, List.drop_length]; rfl
          have HD := Lib.hid hd; clear hd
          have hbr : Below w.heap.size w wr := by rw [hwr]; exact below_drewN hbw q
          have HW := Lib.hid hwr; clear hwr
          go_wp2_with fail
          go_ret
          exact ⟨ret_i (by rw [HC.out, HXY.out, if_neg (by omega), if_neg (by omega), HE.out, HD.out]), hbr⟩
end Go.Proofs.YtgoflapolglfcaaGreat
