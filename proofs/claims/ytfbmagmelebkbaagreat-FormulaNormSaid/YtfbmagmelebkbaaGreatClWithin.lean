/- clauses.Within, Same, Has, Normal. -/
import Derived.Test.YtfbmagmelebkbaaGreatClHaving
namespace Go.Proofs.YtfbmagmelebkbaaGreat
open Go.ChangeShapes Go.WideShapes Go.ChangeAt Go.RowKit Go.Shelf Go.Sort

theorem hasB_norm (zs : List Int) (x : Int) : hasB (normL zs) x = hasB zs x := by
  unfold hasB
  rw [Bool.eq_iff_iff, decide_eq_true_iff, decide_eq_true_iff, norm_mem]
/-- The answer of Within. -/
def withinB (xs ys : List Int) : Bool := rightB xs && (rightB ys && withB xs ys)
def WiRel (w : World) (xs ys : List Int) (i : Value) (wr : World) : Prop := ∃ k : Nat, k ≤ xs.length ∧ i = .int .i64 k ∧ (∀ x ∈ xs.take k, hasB ys x = true) ∧ RowKit.Below w.heap.size w wr

set_option maxRecDepth 100000 in
set_option maxHeartbeats 2000000 in
theorem within_any (B : Nat) (xv yv : Value) (xs ys : List Int) (hx : xs.length ≤ 1000000) (hy : ys.length ≤ 1000000) (w : World) (hB : B ≤ w.heap.size) (hI : Lits B w xv xs) (hJ : Lits B w yv ys) :
    Calls Tryz.prog 84 #[xv, yv] w fun e w' => e = .returned (.bool (withinB xs ys)) ∧ RowKit.Below w.heap.size w w' := by
  have hR1 := clright_any B xv xs (by omega) w hI.ints
  have hR2 := clright_any B yv ys (by omega) w hJ.ints
  have hH := having_any B yv ys hy w hB hJ
  obtain ⟨A1, c1, rfl, hc1⟩ := ints_shape (hI.more hB).ints
  obtain ⟨A2, c2, rfl, -⟩ := ints_shape hJ.ints
  have H1 := Lib.hid hR1; have H2 := Lib.hid hR2; have HH := Lib.hid hH; have HC := Lib.hid hc1
  clear hR1 hR2 hH hI hJ hc1
  unfold withinB
  cases r1 : rightB xs
  · rw [r1] at H1
    rw [Bool.false_and]
    clear r1
    go_enter Tryz.func84, Tryz.ntmps84
    go_wp2_with fail
    refine H1.out.mono ?_
    rintro e w' ⟨rfl, rfl⟩
    go_wp2_with fail
    go_ret
    exact ⟨rfl, RowKit.Below.refl _ _⟩
  · rw [r1] at H1
    rw [Bool.true_and]
    clear r1
    cases r2 : rightB ys
    · rw [r2] at H2
      rw [Bool.false_and]
      clear r2
      go_enter Tryz.func84, Tryz.ntmps84
      go_wp2_with fail
      refine H1.out.mono ?_
      rintro e w' ⟨rfl, rfl⟩
      go_wp2_with fail
      refine H2.out.mono ?_
      rintro e w' ⟨rfl, rfl⟩
      go_wp2_with fail
      go_ret
      exact ⟨rfl, RowKit.Below.refl _ _⟩
    · rw [r2] at H2
      rw [Bool.true_and]
      clear r2
      go_enter Tryz.func84, Tryz.ntmps84
      go_wp2_with fail
      refine H1.out.mono ?_
      rintro e w' ⟨rfl, rfl⟩
      go_wp2_with fail
      refine H2.out.mono ?_
      rintro e w' ⟨rfl, rfl⟩
      go_wp2_with fail
      refine HH.out.mono ?_
      rintro e w1 ⟨Bh, v, rfl, hBh, hbx, hl, hb1⟩
      have hBl : Bh < w1.heap.size := (Array.getElem?_eq_some_iff.1 hbx).1
      have hcall : ∀ x W, RowKit.Below w1.heap.size w1 W → Calls Tryz.prog 121 #[.int .i64 x, .pointer (some ⟨Bh, 0, none⟩)] W fun e W' => e = .returned (.bool (hasB ys x)) ∧ RowKit.Below W.heap.size W W' := by
        intro x W hb
        have h := has1_any w1.heap.size Bh v (normL ys) x (by have := norm_length ys; omega) (norm_inc ys) W hb.size ((hb.cell (p := ⟨Bh, 0, none⟩) hBl).trans hbx.cell) (hl.below hb)
        rw [hasB_norm] at h
        exact h
      have HCa := Lib.hid hcall
      clear hcall hl hbx hBl hBh
      go_wp2_with fail
      go_loopw [20] (fun i wr => WiRel w1 xs ys i wr) (fun i _ => xs.length - (intOf i).toNat)
      case atStart => exact ⟨0, Nat.zero_le _, rfl, (fun x hx => by simp at hx), RowKit.Below.refl _ _⟩
      case round =>
        obtain ⟨k, hk, rfl, hall, hbw⟩ := hrel
        have HA := Lib.hid hall; clear hall
        have hbw0 : RowKit.Below w.heap.size w wr := hb1.trans (hbw.mono hb1.size)
        by_cases hlt : k < xs.length
        · obtain ⟨b, off, rfl, hb, hck⟩ := HC.out k hlt
          have hck : wr.cell? ⟨b, off + k, none⟩ = some (.int .i64 (xs[k]?.getD 0)) := (hbw0.cell (p := ⟨b, off + k, none⟩) hb).trans hck
          have htk := take_one xs hlt
          have hmem := get_mem hlt
          obtain ⟨x, hx⟩ : ∃ x, xs[k]?.getD 0 = x := ⟨_, rfl⟩
          rw [hx] at hck htk hmem
          clear hx
          have HT := Lib.hid htk; have HM := Lib.hid hmem; clear htk hmem
          have HX := Lib.hid (HCa.out x wr hbw)
          cases hv : hasB ys x
          · rw [hv] at HX
            have HV := Lib.hid hv; clear hv
            go_wp2_with fail
            refine HX.out.mono ?_
            rintro e w2 ⟨rfl, hb2⟩
            go_wp2_with fail
            go_ret
            exact ⟨ret_bool (withB_no HM.out HV.out).symm, hbw0.trans (hb2.mono hbw0.size)⟩
          · rw [hv] at HX
            have HV := Lib.hid hv; clear hv
            go_wp2_with fail
            refine HX.out.mono ?_
            rintro e w2 ⟨rfl, hb2⟩
            have hbn := hbw.trans (hb2.mono hbw.size)
            go_wp2_with fail
            go_roundw
            case rel => exact ⟨k + 1, by omega, by go_num, all_more HT.out HA.out HV.out, hbn⟩
            case measure => simp [intOf]; omega
        · obtain rfl : k = xs.length := by omega
          go_wp2_with fail
          go_ret
          exact ⟨ret_bool (by rw [withB_iff.2]; intro x hx; have := HA.out; rw [List.take_length] at this; exact hasB_iff.1 (this x hx)), hbw0⟩

set_option maxHeartbeats 1000000 in
theorem same_any (B : Nat) (xv yv : Value) (xs ys : List Int) (hx : xs.length ≤ 1000000) (hy : ys.length ≤ 1000000) (w : World) (hB : B ≤ w.heap.size) (hI : Lits B w xv xs) (hJ : Lits B w yv ys) :
    Calls Tryz.prog 36 #[xv, yv] w fun e w' => e = .returned (.bool (withinB xs ys && withinB ys xs)) ∧ RowKit.Below w.heap.size w w' := by
  have h1 := within_any B xv yv xs ys hx hy w hB hI hJ
  have h2 := fun W (hb : RowKit.Below w.heap.size w W) => within_any B yv xv ys xs hy hx W (Nat.le_trans hB hb.size) (hJ.below (hb.mono hB)) (hI.below (hb.mono hB))
  obtain ⟨A1, c1, rfl, -⟩ := ints_shape hI.ints
  obtain ⟨A2, c2, rfl, -⟩ := ints_shape hJ.ints
  have H1 := Lib.hid h1; have H2 := Lib.hid h2
  clear h1 h2 hI hJ
  cases r1 : withinB xs ys
  · rw [r1] at H1
    rw [Bool.false_and]
    clear r1
    go_enter Tryz.func36, Tryz.ntmps36
    go_wp2_with fail
    refine H1.out.mono ?_
    rintro e w1 ⟨rfl, hb1⟩
    go_wp2_with fail
    go_ret
    exact ⟨rfl, hb1⟩
  · rw [r1] at H1
    rw [Bool.true_and]
    clear r1
    go_enter Tryz.func36, Tryz.ntmps36
    go_wp2_with fail
    refine H1.out.mono ?_
    rintro e w1 ⟨rfl, hb1⟩
    go_wp2_with fail
    refine (H2.out w1 hb1).mono ?_
    rintro e w2 ⟨rfl, hb2⟩
    go_wp2_with fail
    go_ret
    exact ⟨rfl, hb1.trans (hb2.mono hb1.size)⟩

theorem contains_lits {B : Nat} {v : Value} {xs : List Int} (x : Int) (w : World) (hx : xs.length ≤ 1000000) (h : Ints B w v xs) :
    Calls Tryz.prog 62 #[v, .int .i64 x] w fun e w' => e = .returned (.bool (hasB xs x)) ∧ w = w' := by
  rcases h with ⟨A, c, rfl, -, rfl⟩ | ⟨b, off, cap, rfl, -, hc⟩
  · exact (Tryz.slices_Contains_int_empty_f62 A c x w).mono fun e w' ⟨he, hw⟩ => ⟨he, hw.symm⟩
  · refine (Tryz.slices_Contains_int_f62 b off xs.length cap xs x w (Nat.le_refl _) (by omega) (fun j hj => by rw [List.getD_eq_getElem?_getD]; exact hc j hj)).mono fun e w' ⟨he, hw⟩ => ⟨?_, hw.symm⟩
    rw [he, List.take_length]
    congr 2
    unfold hasB
    rw [Bool.eq_iff_iff, List.contains_iff_mem, decide_eq_true_iff]

set_option maxHeartbeats 1000000 in
theorem clhas_any (B : Nat) (sv : Value) (zs : List Int) (x : Int) (hz : zs.length ≤ 1000000) (w : World) (hI : Ints B w sv zs) :
    Calls Tryz.prog 87 #[sv, .int .i64 x] w fun e w' => e = .returned (.bool (rightB zs && hasB zs x)) ∧ w = w' := by
  have h1 := clright_any B sv zs (by omega) w hI
  have h2 := contains_lits x w hz hI
  obtain ⟨A1, c1, rfl, -⟩ := ints_shape hI
  have H1 := Lib.hid h1; have H2 := Lib.hid h2
  clear h1 h2 hI
  cases r1 : rightB zs
  · rw [r1] at H1
    rw [Bool.false_and]
    clear r1
    go_enter Tryz.func87, Tryz.ntmps87
    go_wp2_with fail
    refine H1.out.mono ?_
    rintro e w1 ⟨rfl, rfl⟩
    go_wp2_with fail
    go_ret
    exact ⟨rfl, rfl⟩
  · rw [r1] at H1
    rw [Bool.true_and]
    clear r1
    go_enter Tryz.func87, Tryz.ntmps87
    go_wp2_with fail
    refine H1.out.mono ?_
    rintro e w1 ⟨rfl, rfl⟩
    go_wp2_with fail
    refine H2.out.mono ?_
    rintro e w2 ⟨rfl, rfl⟩
    go_wp2_with fail
    go_ret
    exact ⟨rfl, rfl⟩

set_option maxHeartbeats 1000000 in
theorem clnormal_any (B : Nat) (sv : Value) (zs : List Int) (hz : zs.length ≤ 1000000) (w : World) (hI : Ints B w sv zs) :
    Calls Tryz.prog 32 #[sv] w fun e w' => e = .returned (.bool (rightB zs && incB zs)) ∧ ∃ q, w' = w.drewN q := by
  have h1 := clright_any B sv zs (by omega) w hI
  have h2 := incr_any B sv zs (by omega) w hI
  obtain ⟨A1, c1, rfl, -⟩ := ints_shape hI
  have H1 := Lib.hid h1; have H2 := Lib.hid h2
  clear h1 h2 hI
  cases r1 : rightB zs
  · rw [r1] at H1
    rw [Bool.false_and]
    clear r1
    go_enter Tryz.func32, Tryz.ntmps32
    go_wp2_with fail
    refine H1.out.mono ?_
    rintro e w1 ⟨rfl, rfl⟩
    go_wp2_with fail
    go_ret
    exact ⟨rfl, 0, rfl⟩
  · rw [r1] at H1
    rw [Bool.true_and]
    clear r1
    go_enter Tryz.func32, Tryz.ntmps32
    go_wp2_with fail
    refine H1.out.mono ?_
    rintro e w1 ⟨rfl, rfl⟩
    go_wp2_with fail
    refine H2.out.mono ?_
    rintro e w2 ⟨rfl, q, rfl⟩
    go_wp2_with fail
    go_ret
    exact ⟨rfl, q, rfl⟩
end Go.Proofs.YtfbmagmelebkbaaGreat
