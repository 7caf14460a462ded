/- clauses.Compare. -/
import Derived.Test.YtgoflapolglfcaaGreatClUnion
import Derived.Test.YtgoflapolglfcaaGreatRefCmp
namespace Go.Proofs.YtgoflapolglfcaaGreat
open Go.RowKit Go.ChangeAt Go.ChangeShapes Go.WideShapes

set_option maxRecDepth 100000 in
set_option maxHeartbeats 2000000 in
theorem clcompare_any (B : Nat) (xv yv : Value) (xs ys : List Int) (hx : xs.length ≤ 1000000) (hy : ys.length ≤ 1000000) (w : World) (hB : B ≤ w.heap.size) (hI : Lits B w xv xs) (hJ : Lits B w yv ys) :
    Calls Tryz.prog 49 #[xv, yv] w fun e w' => e = .returned (.int .i64 (if rightB xs && rightB ys then clCmp xs ys else 0)) ∧ Below w.heap.size w w' := by
  have h1 := clright_any B xv xs (by omega) w hI.ints
  have h2 := clright_any B yv ys (by omega) w hJ.ints
  have h3 := clsorted_any B xv xs hx w hB hI
  have h4 := fun W (hb : Below w.heap.size w W) => clsorted_any w.heap.size yv ys hy W hb.size ((hJ.more hB).below hb)
  obtain ⟨A1, c1, rfl, -⟩ := ints_shape hI.ints
  obtain ⟨A2, c2, rfl, -⟩ := ints_shape hJ.ints
  clear hI hJ
  cases r1 : rightB xs
  · rw [r1] at h1
    rw [Bool.false_and, if_neg (by decide)]
    have H1 := Lib.hid h1
    clear r1 h1 h2 h3 h4
    go_enter Tryz.func49, Tryz.ntmps49
    go_wp2_with fail
    refine H1.out.mono ?_
    rintro e w' ⟨rfl, rfl⟩
    go_wp2_with fail
    go_ret
    exact ⟨rfl, Below.refl _ _⟩
  · rw [r1] at h1
    rw [Bool.true_and]
    cases r2 : rightB ys
    · rw [r2] at h2
      rw [if_neg (by decide)]
      have H1 := Lib.hid h1; have H2 := Lib.hid h2
      clear r1 r2 h1 h2 h3 h4
      go_enter Tryz.func49, Tryz.ntmps49
      go_wp2_with fail
      refine H1.out.mono ?_
      rintro e w' ⟨rfl, rfl⟩
      go_wp2_with fail
      refine H2.out.mono ?_
      rintro e w' ⟨rfl, rfl⟩
      go_wp2_with fail
      go_ret
      exact ⟨rfl, Below.refl _ _⟩
    · rw [r2] at h2
      rw [if_pos rfl]
      have l1 := norm_length xs
      have l2 := norm_length ys
      have hc : ∀ X Y, normL xs = X → normL ys = Y → clCmp xs ys = if X.length < Y.length then -1 else if Y.length < X.length then 1 else cmpLL X Y := fun X Y hX hY => by rw [← hX, ← hY]; rfl
      obtain ⟨X, hX⟩ : ∃ X, normL xs = X := ⟨_, rfl⟩
      obtain ⟨Y, hY⟩ : ∃ Y, normL ys = Y := ⟨_, rfl⟩
      have hcc := hc X Y hX hY
      rw [hX] at h3 l1
      rw [hY] at h4 l2
      obtain ⟨r, hr⟩ : ∃ r, clCmp xs ys = r := ⟨_, rfl⟩
      rw [hr] at hcc ⊢
      have H1 := Lib.hid h1; have H2 := Lib.hid h2; have H3 := Lib.hid h3; have H4 := Lib.hid h4; have HC := Lib.hid hcc
      clear r1 r2 h1 h2 h3 h4 hcc hX hY hr hc
      go_enter Tryz.func49, Tryz.ntmps49
      go_wp2_with fail
      refine H1.out.mono ?_
      rintro e w' ⟨rfl, rfl⟩
      go_wp2_with fail
      refine H2.out.mono ?_
      rintro e w' ⟨rfl, rfl⟩
      go_wp2_with fail
      refine H3.out.mono ?_
      rintro e w1 ⟨v1, rfl, hl1, hb1⟩
      go_wp2_with fail
      refine (H4.out w1 hb1).mono ?_
      rintro e w2 ⟨v2, rfl, hl2, hb2⟩
      have hi1 : Ints w2.heap.size w2 v1 X := (hl1.on hb2).ints
      have hi2 : Ints w2.heap.size w2 v2 Y := hl2.ints
      have hbw : Below w.heap.size w w2 := hb1.trans (hb2.mono hb1.size)
      have HF := Lib.hid (cmpFunc_any w2.heap.size v1 v2 X Y (by omega) w2 hi1 hi2)
      obtain ⟨A3, c3, rfl, -⟩ := ints_shape hi1
      obtain ⟨A4, c4, rfl, -⟩ := ints_shape hi2
      clear hl1 hl2 hi1 hi2 hb1 hb2
      by_cases t : X.length = Y.length
      · rw [← t] at HF ⊢
        have HT := Lib.hid t; clear t
        go_wp2_with fail
        refine HF.out.mono ?_
        rintro e w' ⟨rfl, rfl⟩
        go_wp2_with fail
        go_ret
        exact ⟨ret_i (by rw [HC.out, HT.out, if_neg (by omega), if_neg (by omega)]), hbw⟩
      · have hq : ((X.length : Int) == (Y.length : Int)) = false := by rw [beq_eq_false_iff_ne]; omega
        have hc2 := fun W => cmp2 (X.length : Int) (Y.length : Int) W
        have hv : cmpI (X.length : Int) (Y.length : Int) = r := by
          rw [HC.out]
          unfold cmpI
          split
          · rw [if_pos (by omega)]
          · split
            · rw [if_neg (by omega), if_pos (by omega)]
            · omega
        rw [hv] at hc2
        have HC2 := Lib.hid hc2; clear hc2 hv
        go_wp2_with fail
        refine (HC2.out _).mono ?_
        rintro e w' ⟨rfl, rfl⟩
        go_wp2_with fail
        go_ret
        exact ⟨rfl, hbw⟩
end Go.Proofs.YtgoflapolglfcaaGreat
