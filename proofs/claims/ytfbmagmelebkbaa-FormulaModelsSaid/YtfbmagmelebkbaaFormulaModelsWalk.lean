/- The law FormulaModels: its walk. -/
import Derived.Test.YtfbmagmelebkbaaFoModelsMath
namespace Go.Proofs.Ytfbmagmelebkbaa.formulaModels
open Go.RowKit Go.ChangeAt Go.ChangeShapes Go.WideShapes Go.Shelf Go.Sort

theorem ints_cells {B : Nat} {W : World} {A : Option Addr} {n c : Nat} {zs : List Int} (h : Ints B W (.slice A n c) zs) : ∀ k, k < zs.length → ∃ b off, A = some ⟨b, off, none⟩ ∧ b < B ∧ W.cell? ⟨b, off + k, none⟩ = some (.int .i64 (zs[k]?.getD 0)) := by
  obtain ⟨A', c', e, hc⟩ := ints_shape h
  injection e with e1 e2 e3
  subst e1
  exact hc
def WantRel (w : World) (bs : List Bool) (own i : Value) (wr : World) : Prop :=
  ∃ (k : Nat) (o : Value), o = own ∧ k ≤ bs.length ∧ i = .int .i64 k ∧ wr.ownsRow w.heap.size 3 1 o k (((litsM bs).take k).map (Value.int .i64)) ∧ Below w.heap.size w wr
set_option maxRecDepth 100000 in
set_option maxHeartbeats 4000000 in
theorem early (cv : Value) (cs : List Int) (mv : Value) (bs : List Bool) (vars : Int) (lv : Value) (ls : List Int) (W : World) (hc : Ints W.heap.size W cv cs) (hm : Bools W.heap.size W mv bs) (hl : Ints W.heap.size W lv ls) (h : 100 < cs.length ∨ 300 < bs.length ∨ 100 < ls.length ∨ (1000 < vars ∧ vars ≤ 1048576)) :
    Calls Try.prog 3 #[cv, mv, .int .i64 vars, lv] W fun e w' => e = .returned (.bool true) ∧ Below W.heap.size W w' := by
  obtain ⟨A1, c1, rfl, -⟩ := ints_shape hc
  obtain ⟨A2, c2, rfl, -⟩ := bools_shape hm
  obtain ⟨A3, c3, rfl, -⟩ := ints_shape hl
  clear hc hm hl
  have HAw := Lib.hid (awake_any W)
  by_cases h1 : 100 < cs.length
  · go_enter Try.func3, Try.ntmps3
    go_wp2_with fail
    refine HAw.out.mono ?_
    rintro e w' ⟨rfl, hb⟩
    go_wp2_with fail
    go_ret
    exact ⟨rfl, hb⟩
  · by_cases h2 : 300 < bs.length
    · go_enter Try.func3, Try.ntmps3
      go_wp2_with fail
      refine HAw.out.mono ?_
      rintro e w' ⟨rfl, hb⟩
      go_wp2_with fail
      go_ret
      exact ⟨rfl, hb⟩
    · by_cases h3 : 100 < ls.length
      · go_enter Try.func3, Try.ntmps3
        go_wp2_with fail
        refine HAw.out.mono ?_
        rintro e w' ⟨rfl, hb⟩
        go_wp2_with fail
        go_ret
        exact ⟨rfl, hb⟩
      · have h4 : 1000 < vars := by omega
        have h5 : vars ≤ 1048576 := by omega
        clear h
        go_enter Try.func3, Try.ntmps3
        go_wp2_with fail
        refine HAw.out.mono ?_
        rintro e w' ⟨rfl, hb⟩
        go_wp2_with fail
        go_ret
        exact ⟨rfl, hb⟩
set_option maxRecDepth 100000 in
set_option maxHeartbeats 4000000 in
theorem late (cv : Value) (cs : List Int) (mv : Value) (bs : List Bool) (hf : Fits mv) (vars : Int) (lv : Value) (ls : List Int) (hfl : Fits lv) (W : World) (hc : Ints W.heap.size W cv cs) (hm : Bools W.heap.size W mv bs) (hl : Ints W.heap.size W lv ls) (h1 : ¬ 100 < cs.length) (h2 : ¬ 300 < bs.length) (h3 : ¬ 100 < ls.length) (h4 : ¬ (1000 < vars ∧ vars ≤ 1048576)) :
    Calls Try.prog 3 #[cv, mv, .int .i64 vars, lv] W fun e w' => e = .returned (.bool true) ∧ Below W.heap.size W w' := by
  obtain ⟨i0, hi, hz0, hz1, hz2⟩ := info_parts infoInt
  have HC := Lib.hid hc; have HM := Lib.hid hm; have HL := Lib.hid hl; have HF := Lib.hid hf; have HFl := Lib.hid hfl
  obtain ⟨A1, c1, rfl, -⟩ := ints_shape hc
  obtain ⟨A2, c2, rfl, -⟩ := bools_shape hm
  obtain ⟨A3, c3, rfl, -⟩ := ints_shape hl
  clear hc hm hl hf hfl
  obtain ⟨er, her⟩ : ∃ er, mdlE vars ls = er := ⟨_, rfl⟩
  obtain ⟨R, hR⟩ : ∃ R, (if er = 0 then modB vars.toNat ls else []) = R := ⟨_, rfl⟩
  obtain ⟨S, hS⟩ : ∃ S, (if er = 0 then modL vars.toNat ls else []) = S := ⟨_, rfl⟩
  have hRS : R.map b2i = S := by
    rw [← hR, ← hS]
    split
    · exact modB_bits _ _
    · rfl
  have hRl : R.length ≤ 1000 := by
    rw [← hR]
    split
    · rename_i h0
      rw [modB_len]
      have : ¬ (vars < 0 ∨ 1048576 < vars) := fun h => by
        unfold mdlE at her
        rw [if_pos h] at her
        omega
      omega
    · exact Nat.zero_le _
  have HE := Lib.hid her; have HRr := Lib.hid hR; have HSs := Lib.hid hS; have HRS := Lib.hid hRS; have HRl := Lib.hid hRl
  clear her hR hS hRS hRl
  rcases (Decidable.em (1000 < vars)) with h5 | h5
  all_goals
    try (have h6 : ¬ vars ≤ 1048576 := fun h => h4 ⟨h5, h⟩)
    clear h4
    go_enter Try.func3, Try.ntmps3
    go_wp2_with fail
    refine (bits_any (by omega) W (Nat.le_refl _) HM.out).mono ?_
    rintro e w1 ⟨bv, rfl, hr1, hb1⟩
    obtain ⟨Ab, cb, rfl⟩ := own_shape0 hr1
    have hIb : Ints w1.heap.size w1 (.slice Ab (bs.map b2i).length cb) (bs.map b2i) := (rowV_lits.1 (rowV_own hr1)).ints
    have HCb := Lib.hid (ints_cells hIb)
    have HIb := Lib.hid hIb; have HB1 := Lib.hid hb1
    have hlm : (bs.map b2i).length = bs.length := List.length_map _
    rw [hlm] at HIb ⊢
    clear hr1 hb1 hIb hlm
    go_wp2_with fail
    go_loopw [10, 43] (fun own i wr => WantRel w1 bs own i wr) (fun _ i _ => bs.length - (intOf i).toNat)
    case atStart => exact ⟨0, _, rfl, by omega, rfl, World.ownsRow_nil _ _ _ _, Below.refl _ _⟩
    case round =>
      obtain ⟨k, own, rfl, hk, rfl, hrow, hbw⟩ := hrel
      by_cases hlt : k < bs.length
      · obtain ⟨b, off, rfl, hb, hck⟩ := HCb.out k (by rw [List.length_map]; exact hlt)
        have hck := (hbw.cell (p := ⟨b, off + k, none⟩) hb).trans hck
        have hwa := want_at hlt
        have hla := litAt_abs bs k
        have htk : ((litsM bs).take (k + 1)).map (Value.int .i64) = ((litsM bs).take k).map (Value.int .i64) ++ [Value.int .i64 (litAt bs k)] := by
          rw [List.take_add_one, litAt_get hlt]
          simp
        have hyy : (bs.map b2i)[k]?.getD 0 = 0 ∨ (bs.map b2i)[k]?.getD 0 = 1 := by
          rw [List.getElem?_map, List.getElem?_eq_getElem hlt]
          cases bs[k] <;> simp [b2i]
        obtain ⟨y, hy⟩ : ∃ y, (bs.map b2i)[k]?.getD 0 = y := ⟨_, rfl⟩
        obtain ⟨x, hx⟩ : ∃ x, litAt bs k = x := ⟨_, rfl⟩
        rw [hy] at hck hwa hyy
        rw [hx] at hwa htk hla
        obtain ⟨z, hzz⟩ : ∃ z, 2 * y - 1 = z := ⟨_, rfl⟩
        have s1 : IntKind.i64.wrap ((k : Int) + 1) = (k : Int) + 1 := IntWalk.i64_in _ (by omega)
        have s2 : IntKind.i64.wrap (2 * y) = 2 * y := IntWalk.i64_in _ (by omega)
        have s3 : IntKind.i64.wrap (2 * y - 1) = z := by rw [hzz]; exact IntWalk.i64_in _ (by omega)
        have s4 : IntKind.i64.wrap (((k : Int) + 1) * z) = x := by rw [← hzz, hwa]; exact IntWalk.i64_in _ (by omega)
        have hki : (k : Int) < (bs.length : Int) := by omega
        have HR := Lib.hid hrow; have HT := Lib.hid htk
        clear hrow htk hx hy hwa hla hyy hzz HCb
        go_wp2_with (at_builtin; refine wpList_append_own _ rfl _ _ 22 rfl w1.heap.size 3 i0 (.int .i64 0) 1 8 Try.underlying22 hi hz0 hz1 hz2 rfl (by decide) _ _ _ rfl (HR.out.alloc _) ⟨wr.heap.size, 0, none⟩ 1 1 [.int .i64 x] rfl rfl (cell_one_new _ _ _) (by simp [Value.oneCell']) (by unfold maxLen; omega) (by omega) (by have := hbw.size; simp; omega) ?_; intro v' w2 hown' hgrow _)
        have hbn : Below w1.heap.size w1 w2 := by
          refine (hbw.alloc hbw.size _).grown hgrow (by have := hbw.size; simp; omega) (fun k e => ?_)
          exact (HR.out.lt k e).1
        refine ⟨⟨k + 1, _, rfl, by omega, by go_num, ?_, hbn⟩, ?_⟩
        · rw [HT.out]; exact hown'
        · simp [intOf]; omega
      · obtain rfl : k = bs.length := by omega
        rw [List.take_of_length_le (by rw [litsM_len]; exact Nat.le_refl _)] at hrow
        obtain ⟨Aw1, cw1, rfl⟩ := own_shape0 hrow
        have HR := Lib.hid hrow; have HBr := Lib.hid (below_cat HB1.out hbw); have HBb := Lib.hid hbw
        clear hrow hbw HCb
        go_wp2_with fail
        refine (clause_any W.heap.size _ ls (by omega) wr HBr.out.size (IntsK.below HBr.out HL.out)).mono ?_
        rintro e w3 ⟨v3, rfl, hr3, hb3⟩
        obtain ⟨A4, c4, rfl⟩ := own_shape0 hr3
        have hI3 : Ints w3.heap.size w3 (.slice A4 ls.length c4) ls := (rowV_lits.1 (rowV_own hr3)).ints
        have HB3 := Lib.hid (below_cat HBr.out hb3); have HBb3 := Lib.hid (HBb.out.trans (hb3.mono HBb.out.size))
        have HR3 := Lib.hid (owns_on0 HR.out hb3); have HI3 := Lib.hid hI3
        clear hr3 hb3 hI3 HR HBr HBb
        go_wp2_with fail
        refine (model_any vars (by omega) w3 (Nat.le_refl _) HI3.out).mono ?_
        rintro e w4 ⟨v4, rfl, hr4, hb4⟩
        rw [HE.out] at hr4 ⊢
        rw [HRr.out] at hr4
        obtain ⟨A5, c5, rfl⟩ := own_shape0 hr4
        have HB4 := Lib.hid (below_cat HB3.out hb4); have HBb4 := Lib.hid (HBb3.out.trans (hb4.mono HBb3.out.size))
        have HR4 := Lib.hid (owns_on0 HR3.out hb4); have HV4 := Lib.hid (rowV_own hr4)
        clear hr4 hb4 HR3 HI3 HB3 HBb3
        go_wp2_with fail
        refine (ref05_model vars (by omega) w4 HB4.out.size (IntsK.below HB4.out HL.out) HFl.out).mono ?_
        rintro e w5 ⟨v5, rfl, hr5, hb5⟩
        rw [HE.out] at hr5 ⊢
        rw [HSs.out] at hr5
        obtain ⟨A6, c6, rfl⟩ := own_shape0 hr5
        have HB5 := Lib.hid (below_cat HB4.out hb5); have HBb5 := Lib.hid (HBb4.out.trans (hb5.mono HBb4.out.size))
        have HR5 := Lib.hid (owns_on0 HR4.out hb5); have HV5 := Lib.hid ((HV4.out.below hb5).more hb5.size); have HM5 := Lib.hid (rowV_lits.1 (rowV_own hr5)).ints
        clear hr5 hb5 HR4 HV4 HB4 HBb4
        go_wp2_with fail
        obtain ⟨t, ht⟩ : ∃ t, holdP cs bs = t := ⟨_, rfl⟩
        have hbt := hold_bits cs bs
        rw [ht] at hbt
        have HT := Lib.hid (And.intro ht hbt)
        clear ht hbt
        refine (clause_any W.heap.size _ cs (by omega) w5 HB5.out.size (IntsK.below HB5.out HC.out)).mono ?_
        rintro e w6 ⟨v6, rfl, hr6, hb6⟩
        obtain ⟨A7, c7, rfl⟩ := own_shape0 hr6
        have HL6 := Lib.hid (rowV_lits.1 (rowV_own hr6))
        have HB6 := Lib.hid (below_cat HB5.out hb6); have HBb6 := Lib.hid (HBb5.out.trans (hb6.mono HBb5.out.size))
        have HR6 := Lib.hid (owns_on0 HR5.out hb6); have HV6 := Lib.hid ((HV5.out.below hb6).more hb6.size); have HM6 := Lib.hid (IntsK.on hb6 HM5.out)
        clear hr6 hb6 HR5 HV5 HM5 HB5 HBb5
        go_wp2_with fail
        refine (foholds_any w6 (Nat.le_refl _) (by omega) (by omega) HL6.out ((RowV.below HB6.out HM.out).more HB6.out.size)).mono ?_
        rintro e w7 ⟨rfl, hb7⟩
        rw [HT.out.1]
        have HB7 := Lib.hid (below_cat HB6.out hb7); have HBb7 := Lib.hid (HBb6.out.trans (hb7.mono HBb6.out.size))
        have HR7 := Lib.hid (owns_on0 HR6.out hb7); have HV7 := Lib.hid ((HV6.out.below hb7).more hb7.size); have HM7 := Lib.hid (IntsK.on hb7 HM6.out)
        clear hb7 HR6 HV6 HM6 HB6 HBb6 HL6
        go_wp2_with fail
        refine (ref05_holds (C := w7.heap.size) (zs := cs) (ms := bs.map b2i) w7 (by omega) ((IntsK.below HB7.out HC.out).more HB7.out.size) (IntsK.on HBb7.out HIb.out)).mono ?_
        rintro e w' ⟨rfl, rfl⟩
        rw [HT.out.2]
        cases t
        all_goals
          go_wp2_with fail
          refine (folits_any (by omega) w7 HB7.out.size (RowV.below HB7.out HM.out) HF.out).mono ?_
          rintro e w8 ⟨v8, rfl, hr8, hb8⟩
          rw [litsM_len] at hr8
          obtain ⟨A8, c8, rfl⟩ := own_shape0 hr8
          have hI8 : Ints w8.heap.size w8 (.slice A8 bs.length c8) (litsM bs) := (rowV_lits.1 (rowV_own hr8)).ints
          have HI8 := Lib.hid hI8
          have HB8 := Lib.hid (below_cat HB7.out hb8)
          have HR8 := Lib.hid (owns_on0 HR7.out hb8); have HV8 := Lib.hid ((HV7.out.below hb8).more hb8.size); have HM8 := Lib.hid (IntsK.on hb8 HM7.out)
          clear hr8 hb8 hI8
          go_wp2_with fail
          refine (intsOf_any _ _ (litsM bs) (by rw [litsM_len]; omega) w8 (Nat.le_refl _) HI8.out).mono ?_
          rintro e w9 ⟨v9, rfl, hr9, hb9⟩
          rw [litsM_len] at hr9
          obtain ⟨A9, c9, rfl⟩ := own_shape0 hr9
          have hI9 : Ints w9.heap.size w9 (.slice A9 bs.length c9) (litsM bs) := (rowV_lits.1 (rowV_own hr9)).ints
          have hW9 : Ints w9.heap.size w9 (.slice Aw1 bs.length cw1) (litsM bs) := (rowV_lits.1 (rowV_own (owns_on0 HR8.out hb9))).ints
          have HB9 := Lib.hid (below_cat HB8.out hb9)
          have HV9 := Lib.hid ((HV8.out.below hb9).more hb9.size); have HM9 := Lib.hid (IntsK.on hb9 HM8.out)
          have heq := equal_int w9 (by rw [litsM_len]; omega) (by rw [litsM_len]; omega) hI9 hW9
          rw [beq_self_eq_true] at heq
          have HEq := Lib.hid heq
          clear hr9 hb9 hI9 hW9 heq HI8 HB8
          go_wp2_with fail
          refine HEq.out.mono ?_
          rintro e wa ⟨rfl, qa, hwa⟩
          have hba : Below w9.heap.size w9 wa := by rw [hwa]; exact below_dN _ _
          have HBa := Lib.hid (below_cat HB9.out hba)
          have HVa := Lib.hid ((HV9.out.below hba).more hba.size); have HMa := Lib.hid (IntsK.on hba HM9.out)
          clear hwa hba HEq
          go_wp2_with fail
          refine (bits_any (by have := HRl.out; omega) wa (Nat.le_refl _) HVa.out).mono ?_
          rintro e wb ⟨vb, rfl, hrb, hbb⟩
          rw [HRS.out] at hrb
          obtain ⟨Abb, cbb, rfl⟩ := own_shape0 hrb
          have hSl : S.length ≤ 1000 := by rw [← HRS.out, List.length_map]; exact HRl.out
          have hIB : Ints wb.heap.size wb (.slice Abb S.length cbb) S := (rowV_lits.1 (rowV_own hrb)).ints
          have heq := equal_int wb (by omega) (by omega) hIB (IntsK.on hbb HMa.out)
          rw [beq_self_eq_true] at heq
          have HEq := Lib.hid heq; have HBb := Lib.hid (below_cat HBa.out hbb)
          clear hrb hbb hIB heq
          go_wp2_with fail
          refine HEq.out.mono ?_
          rintro e wc ⟨rfl, qc, hwc⟩
          have hbc : Below wb.heap.size wb wc := by rw [hwc]; exact below_dN _ _
          have HBc := Lib.hid (below_cat HBb.out hbc)
          clear hwc hbc HEq
          go_wp2_with fail
          refine (awake_any wc).mono ?_
          rintro e w' ⟨rfl, hbz⟩
          go_wp2_with fail
          go_ret
          exact ⟨rfl, below_cat HBc.out hbz⟩
theorem formulaModels_walk (cv : Value) (cs : List Int) (_ : cs.length ≤ maxLen) (_ : ∀ x ∈ cs, (Lit.int .i64 x).wf = true) (mv : Value) (bs : List Bool) (_ : bs.length ≤ maxLen) (hf : Fits mv) (vars : Int) (_ : (Lit.int .i64 vars).wf = true) (lv : Value) (ls : List Int) (_ : ls.length ≤ maxLen) (_ : ∀ x ∈ ls, (Lit.int .i64 x).wf = true) (hfl : Fits lv) (W : World) (hc : Ints W.heap.size W cv cs) (hm : Bools W.heap.size W mv bs) (hl : Ints W.heap.size W lv ls) :
    Calls Try.prog 3 #[cv, mv, .int .i64 vars, lv] W fun e w' => e = .returned (.bool true) ∧ Below W.heap.size W w' := by
  by_cases h : 100 < cs.length ∨ 300 < bs.length ∨ 100 < ls.length ∨ (1000 < vars ∧ vars ≤ 1048576)
  · exact early cv cs mv bs vars lv ls W hc hm hl h
  · exact late cv cs mv bs hf vars lv ls hfl W hc hm hl (by omega) (by omega) (by omega) (by omega)
end Go.Proofs.Ytfbmagmelebkbaa.formulaModels
