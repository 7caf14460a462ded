/- The trail's Assign. -/
import Derived.Test.YtdeedmfofjdbjaaTrOps
namespace Go.Proofs.Ytdeedmfofjdbjaa
open Go.RowKit Go.ChangeAt Go.ChangeShapes Go.WideShapes

/-- Behind the first part of Assign: the variable is written, the literal is not yet placed. -/
def AsCut (K : Nat → Prop) (w : World) (g b nv : Nat) (cs : Array Value) (pv sv : Value) (its : List It) (st : List Nat) (wx : World) : Prop :=
  Whole wx g 41 (trC b nv pv sv) ∧ Whole wx b 80 cs ∧ wx.ownsRow 0 36 1 pv its.length ((litsOf its).map (Value.int .i64)) ∧ wx.ownsRow 0 3 1 sv st.length ((stI st).map (Value.int .i64)) ∧ Turn K w K wx
set_option maxRecDepth 100000 in
set_option maxHeartbeats 2000000 in
theorem assign_tr {K : Nat → Prop} {g nv : Nat} {its : List It} {st : List Nat} (l r : Int) (hl1 : 1 ≤ l.natAbs) (hl2 : l.natAbs ≤ nv) (hn : ∀ x ∈ its, x.vr ≠ l.natAbs) (hr0 : 0 ≤ r) (hr1 : r ≤ 1073741824) (w : World) (h : Trl K w g nv its st) :
    Calls Try.prog 16 #[.pointer (some ⟨g, 0, none⟩), .int .i64 l, .int .i64 r] w fun e w' => ∃ K', e = .returned (.int .i64 0) ∧ Trl K' w' g nv (its ++ [⟨l, st.length, r⟩]) st ∧ Turn K w K' w' := by
  have HA := Lib.hid h
  have hlen := h.good.len
  have hnv := h.good.nvmax
  have hvl := value_tr l w h
  rw [valI_no hn] at hvl
  have hva := varI_nat (l := l) (litB_yes (by omega) (by omega) (by omega))
  have hgood := Lib.hid (h.good.assign hl1 hl2 hn hr0 hr1)
  have hhas := decide_eq_true (p := 1 ≤ (l.natAbs : Int) ∧ (l.natAbs : Int) ≤ nv) ⟨by omega, by omega⟩
  obtain ⟨b, cs, m, pv, sv, h1, h2, h3, h4, h5, h6, h7, h8, h9, h10, h11, h12⟩ := h
  have hms : Maps (upd m l.natAbs (some (its.length, ⟨l, st.length, r⟩))) (its ++ [⟨l, st.length, r⟩]) := h4.add ⟨l, st.length, r⟩ hn
  have hold := h3.2 l.natAbs
  have hvs := h3.set hl2 (some (its.length, ⟨l, st.length, r⟩))
  obtain ⟨Ap, cP, rfl⟩ := own_shape1 h5
  have HW := Lib.hid h1; have HB := Lib.hid h2; have HV := Lib.hid hvs; have HM := Lib.hid hms; have HP := Lib.hid h5; have HS := Lib.hid h6; have HKp := Lib.hid h10; have HKs := Lib.hid h11; have HVl := Lib.hid hvl; have HVa := Lib.hid hva; have HHas := Lib.hid hhas; have HLen := Lib.hid hlen; have HNv := Lib.hid hnv
  clear h1 h2 h3 h4 h5 h6 h7 h10 h11 h12 hms hvs hvl hva hhas
  obtain ⟨i1, hi1, hy0, hy1, hy2⟩ := info_parts infoLit
  obtain ⟨u, hu⟩ : ∃ u, l.natAbs = u := ⟨_, rfl⟩
  have HU := Lib.hid hu
  rw [hu] at HVa HHas hl2 hold HV HM
  go_enter Try.func16, Try.ntmps16
  clear hlen hnv hu hn hl1
  go_upto_region 10 with (first
    | (go_at_call 31; refine (var_any _ _).mono ?_; rintro e w' ⟨rfl, rfl⟩; rw [HVa.out])
    | (go_at_call 39; refine (exists_tr _ HA.out).mono ?_; rintro e w' ⟨rfl, rfl⟩)
    | (go_at_call 42; refine (has_tr _ _ HA.out).mono ?_; rintro e w' ⟨rfl, rfl⟩; rw [HHas.out])
    | (go_at_call 26; refine (HVl.out).mono ?_; rintro e w1 ⟨rfl, hB⟩))
  have hA1 := HA.out.on hB
  have hW1 := HW.out.same (hB.block g HW.out.lt)
  have hB1 := HB.out.same (hB.block b HB.out.lt)
  have hP1 := owns_on0 HP.out hB
  have hS1 := owns_on0 HS.out hB
  have hc0 : w1.cell? ⟨g, 0, none⟩ = some (.slice (some ⟨b, 0, none⟩) (nv + 1) (nv + 1)) := hW1.cell 0
  have hgl := hW1.lt
  have hbl := hB1.lt
  have d0 : w1.cell? ⟨b, u * 4, none⟩ = some (.int .i64 (fld (m u) 0)) := (hB1.cell _).trans (hold 0 hl2 (by omega))
  have d1 : w1.cell? ⟨b, u * 4 + 1, none⟩ = some (.int .i64 (fld (m u) 1)) := (hB1.cell _).trans (hold 1 hl2 (by omega))
  have d2 : w1.cell? ⟨b, u * 4 + 2, none⟩ = some (.int .i64 (fld (m u) 2)) := (hB1.cell _).trans (hold 2 hl2 (by omega))
  have d3 : w1.cell? ⟨b, u * 4 + 3, none⟩ = some (.int .i64 (fld (m u) 3)) := (hB1.cell _).trans (hold 3 hl2 (by omega))
  clear hold
  have e0 := hB1.frozen (u * 4)
  have e1 := hB1.frozen (u * 4 + 1)
  have e2 := hB1.frozen (u * 4 + 2)
  have e3 := hB1.frozen (u * 4 + 3)
  have s1 : (u : Int) < (nv : Int) + 1 := by omega
  have HA1 := Lib.hid hA1; have HW1 := Lib.hid hW1; have HB1 := Lib.hid hB1; have HP1 := Lib.hid hP1; have HS1 := Lib.hid hS1; have HBl := Lib.hid hB
  clear hA1 hW1 hB1 hP1 hS1 hB HA HW HB HP HS
  go_cut [] (fun wx => AsCut K w g b nv (set4 cs u (some (its.length, ⟨l, st.length, r⟩))) (.slice Ap its.length cP) sv its st wx)
  case first =>
    go_region_law (first
      | (go_simp; go_at_call 15; refine (now_tr _ (HA1.out.on (Below.refl _ _).drew)).mono ?_; rintro e w' ⟨rfl, rfl⟩)
      | (go_simp; go_at_call 18; refine (len_tr _ (HA1.out.on (Below.refl _ _).drew)).mono ?_; rintro e w' ⟨rfl, rfl⟩))
    all_goals
      obtain ⟨w2, hw2, a1, a2, a3, a4, a5⟩ := after_var (K := K) HW1.out HB1.out HP1.out HS1.out h9 u (some (its.length, ⟨l, st.length, r⟩))
      have hfin : AsCut K w g b nv (set4 cs u (some (its.length, ⟨l, st.length, r⟩))) (.slice Ap its.length cP) sv its st w2.drew := ⟨a1, a2, a3.drew, a4.drew, (Turn.of_below HBl.out).trans (a5.trans (Turn.of_below (Below.refl _ _).drew))⟩
      rw [hw2] at hfin
      have HF := Lib.hid hfin
      clear hw2 a1 a2 a3 a4 a5 hfin
      go_simp
      go_wp2_with fail
      go_meet
      exact HF.out
  case rest =>
    obtain ⟨c1, c2, c3, c4, c5⟩ := hcut
    clear hc0 hgl hbl d0 d1 d2 d3 e0 e1 e2 e3 HA1 HW1 HB1 HP1 HS1 HBl
    have hc1 : wc.cell? ⟨g, 1, none⟩ = some (.slice Ap its.length cP) := c1.cell 1
    have hf1 := c1.frozen 1
    have hgl := c1.lt
    have hne : (Value.slice Ap its.length cP).ownBlock ≠ some g := c1.row_ne c3 (by decide)
    have HC1 := Lib.hid c1; have HC2 := Lib.hid c2; have HC3 := Lib.hid c3; have HC4 := Lib.hid c4; have HC5 := Lib.hid c5
    clear c1 c2 c3 c4 c5
    go_wp2_with (at_builtin; refine wpList_append_lies rfl _ _ 39 rfl 0 36 i1 _ 1 8 Try.underlying39 hi1 hy0 hy1 hy2 rfl (by omega) (.slice Ap its.length cP) its.length _ rfl (HC3.out.alloc _) ⟨wc.heap.size, 0, none⟩ 1 1 [.int .i64 l] rfl rfl (cell_one_new _ _ _) (by simp [Value.oneCell']) (by omega) (by have := HLen.out; have := HNv.out; unfold maxLen; omega) (by have := HLen.out; have := HNv.out; omega) (Nat.zero_le _) (wc.heap.size + 1) (by simp) ?_; intro gg cap w3 hown3 hgrow hat hlt; have hc3 := (hgrow.cell_far ⟨g, 1, none⟩ (by simp; omega) (Ne.symm hne)).trans (((below1a wc _).cell (p := ⟨g, 1, none⟩) hgl).trans hc1); have hf3 := (hgrow.frozen_far ⟨g, 1, none⟩ (by simp; omega) (Ne.symm hne)).trans (((below1a wc _).frozen (p := ⟨g, 1, none⟩) hgl).trans hf1))
    have hgrow' : (wc.alloc (.cells #[.int .i64 l] 36)).grownBy w3 (Value.slice Ap its.length cP).ownBlock := ⟨hgrow.os, hgrow.tape, hgrow.output, hgrow.size, hgrow.block⟩
    obtain ⟨a1, a2, a3, a4, a5⟩ := after_row (K := K) 1 (HC1.out.same ((below1a wc _).block g hgl)) (HC2.out.same ((below1a wc _).block b HC2.out.lt)) (HC3.out.alloc _) (HC4.out.alloc _) (by decide) (by decide) (by decide) (by decide) hgrow' hown3 (gg := gg) (fun j e => by simpa [Value.ownBlock] using e.symm) (hat.imp id (fun x => by rw [x]; simp)) h8 HKp.out
    obtain ⟨K', hA, hT⟩ := trl_of (w := w) (its := its ++ [⟨l, st.length, r⟩]) a1 a2 HV.out HM.out (by rw [show (its ++ [(⟨l, st.length, r⟩ : It)]).length = its.length + 1 by simp, litsOf_snoc, List.map_append]; exact a4) a3 hgood.out (HC5.out.trans ((Turn.of_below (below1a wc _)).trans a5)) (.inl h8) (.inl h9) (fun j e => .inr (by simpa [Value.ownBlock] using e.symm)) (fun j e => .inl (HKs.out j e))
    go_ret
    exact ⟨K', rfl, hA, hT⟩

/-- What Assign answers. -/
def assE (nv : Nat) (its : List It) (l r : Int) : Int := if 1 ≤ l.natAbs ∧ l.natAbs ≤ nv then (if 0 ≤ r ∧ r ≤ 1073741824 then (if valI its l = 0 then 0 else 41) else 2) else 40
theorem valI_zero {its : List It} {l : Int} (h : valI its l = 0) : ∀ x ∈ its, x.vr ≠ l.natAbs := fun x hx e => by
  have he : x.lit.natAbs = l.natAbs := e
  unfold valI at h
  by_cases h1 : x.lit = l
  · rw [if_pos ⟨x, hx, h1⟩] at h; exact absurd h (by decide)
  · have h2 : x.lit = -l := by omega
    split at h
    · exact absurd h (by decide)
    · rw [if_pos ⟨x, hx, h2⟩] at h; exact absurd h (by decide)
set_option maxRecDepth 100000 in
set_option maxHeartbeats 2000000 in
theorem assign_no {K : Nat → Prop} {g nv : Nat} {its : List It} {st : List Nat} (l r : Int) (hn : assE nv its l r ≠ 0) (w : World) (h : Trl K w g nv its st) :
    Calls Try.prog 16 #[.pointer (some ⟨g, 0, none⟩), .int .i64 l, .int .i64 r] w fun e w' => e = .returned (.int .i64 (assE nv its l r)) ∧ Below w.heap.size w w' := by
  have HA := Lib.hid h
  have hnv := h.good.nvmax
  have hvl := value_tr l w h
  have hhas : decide (1 ≤ varI l ∧ varI l ≤ (nv : Int)) = decide (1 ≤ l.natAbs ∧ l.natAbs ≤ nv) := by
    rw [Bool.eq_iff_iff, decide_eq_true_iff, decide_eq_true_iff]
    cases hl : litB l
    · have h1 : varI l = 0 := by unfold varI; rw [hl]; rfl
      rw [h1]
      have := litB_no hl
      constructor
      · rintro ⟨h, -⟩; omega
      · rintro ⟨h2, h3⟩; exact absurd ⟨by omega, by omega, by omega⟩ this
    · rw [varI_nat hl]; omega
  have HVl := Lib.hid hvl
  clear h hvl
  by_cases h1 : 1 ≤ l.natAbs ∧ l.natAbs ≤ nv
  · rw [decide_eq_true h1] at hhas
    by_cases h2 : 0 ≤ r ∧ r ≤ 1073741824
    · have h3 : valI its l ≠ 0 := fun x => hn (by unfold assE; rw [if_pos h1, if_pos h2, if_pos x])
      have hq : assE nv its l r = 41 := by unfold assE; rw [if_pos h1, if_pos h2, if_neg h3]
      have HQ := Lib.hid hq; have HHas := Lib.hid hhas
      obtain ⟨y, hy⟩ : ∃ y, valI its l = y := ⟨_, rfl⟩
      rw [hy] at HVl h3
      obtain ⟨h20, h21⟩ := h2
      clear hq hhas hn h1 hnv hy
      go_enter Try.func16, Try.ntmps16
      go_wp2_with (first
        | (go_at_call 31; refine (var_any _ _).mono ?_; rintro e w' ⟨rfl, rfl⟩)
        | (go_at_call 39; refine (exists_tr _ HA.out).mono ?_; rintro e w' ⟨rfl, rfl⟩)
        | (go_at_call 42; refine (has_tr _ _ HA.out).mono ?_; rintro e w' ⟨rfl, rfl⟩; rw [HHas.out])
        | (go_at_call 26; refine (HVl.out).mono ?_; rintro e w1 ⟨rfl, hB⟩))
      go_ret
      exact ⟨ret_i HQ.out.symm, hB⟩
    · have hq : assE nv its l r = 2 := by unfold assE; rw [if_pos h1, if_neg h2]
      have HQ := Lib.hid hq; have HHas := Lib.hid hhas
      clear hq hhas hn h1 hnv
      rcases Int.lt_or_le r 0 with h0 | h0
      all_goals
        first | have hr' : 1073741824 < r := by omega | skip
        clear h2
        go_enter Try.func16, Try.ntmps16
        go_wp2_with (first
          | (go_at_call 31; refine (var_any _ _).mono ?_; rintro e w' ⟨rfl, rfl⟩)
          | (go_at_call 39; refine (exists_tr _ HA.out).mono ?_; rintro e w' ⟨rfl, rfl⟩)
          | (go_at_call 42; refine (has_tr _ _ HA.out).mono ?_; rintro e w' ⟨rfl, rfl⟩; rw [HHas.out]))
        go_ret
        exact ⟨ret_i HQ.out.symm, Below.refl _ _⟩
  · rw [decide_eq_false h1] at hhas
    have hq : assE nv its l r = 40 := by unfold assE; rw [if_neg h1]
    have HQ := Lib.hid hq; have HHas := Lib.hid hhas
    clear hq hhas hn h1 hnv
    go_enter Try.func16, Try.ntmps16
    go_wp2_with (first
      | (go_at_call 31; refine (var_any _ _).mono ?_; rintro e w' ⟨rfl, rfl⟩)
      | (go_at_call 39; refine (exists_tr _ HA.out).mono ?_; rintro e w' ⟨rfl, rfl⟩)
      | (go_at_call 42; refine (has_tr _ _ HA.out).mono ?_; rintro e w' ⟨rfl, rfl⟩; rw [HHas.out]))
    go_ret
    exact ⟨ret_i HQ.out.symm, Below.refl _ _⟩
end Go.Proofs.Ytdeedmfofjdbjaa
