/- The law DimacsWrong: its walk. -/
import Derived.Test.YtiicffceopiooaaGreatDoorDmWrong
namespace Go.Proofs.YtiicffceopiooaaGreatDoor.dimacsWrong
open Go.RowKit Go.ChangeAt Go.ChangeShapes Go.WideShapes Go.Shelf Go.Sort

/-- Clone of a row of texts that lies in a block. -/
theorem clone_any {b : Nat} {T : TypeId} {Ls : List (List UInt8)} {N : Nat} (hN : Ls.length = N) (h1 : 1 ≤ N) (h2 : N ≤ 1000) (w : World) (hw : Whole w b T (Ls.map str).toArray) :
    Calls Tryz.prog 34 #[.slice (some ⟨b, 0, none⟩) N N] w fun e w' => ∃ g cap, e = .returned (.slice (some ⟨g, 0, none⟩) N cap) ∧ N ≤ cap ∧ w'.ownsRow w.heap.size 9 1 (.slice (some ⟨g, 0, none⟩) N cap) N (Ls.map str) ∧ Below w.heap.size w w' := by
  subst hN
  have h := Tryz.slices_Clone_string_f34 b 0 Ls.length Ls.length (Ls.map fun x => (⟨x.toArray⟩ : ByteArray)) w (by simp) (by omega) (fun j hj => by
    rw [List.length_map] at hj
    rw [Nat.zero_add, hw.cell j]
    simp [hj])
  refine h.mono ?_
  rintro e w' ⟨v', he, ho, hne, hb⟩
  rw [show ((Ls.map fun x => (⟨x.toArray⟩ : ByteArray)).take Ls.length).map Value.string = Ls.map str by
    rw [List.take_of_length_le (by simp), List.map_map]; rfl] at ho
  rcases ho.2 with ⟨h0, h00⟩ | ⟨g, cap, cur, hv, -, -, hn, -⟩
  · omega
  · subst hv
    exact ⟨g, cap, he, by omega, ho, hb⟩
theorem dm_itoa {w W : World} {fs : List (Value × List (List Int))} {ss : List (Nat × Int × Value)} (m : Int) (h0 : -9223372036854775808 ≤ m) (h1 : m ≤ 9223372036854775807) (h : Dm w W fs ss) :
    Calls Tryz.prog 33 #[.int .i64 m] W fun e w' => e = .returned (str (Lib.itoa m)) ∧ Below W.heap.size W w' ∧ Dm w w' fs ss :=
  (Tryz.strconv_Itoa_f33 m (by omega) (by omega) W h.env.tab).mono fun _ _ ⟨he, k, os, hw⟩ => ⟨he, by rw [hw]; exact below_grow W k os, h.on (by rw [hw]; exact below_grow W k os)⟩
theorem trim_any (S p R : List UInt8) (hS : S.length ≤ 4000000000) (hR : Lib.trimSuffix S p = R) (w : World) :
    Calls Tryz.prog 32 #[str S, str p] w fun e w' => e = .returned (str R) ∧ w' = w :=
  (Tryz.strings_TrimSuffix_f32 ⟨S.toArray⟩ ⟨p.toArray⟩ w (by rw [str_size]; omega)).mono fun _ _ ⟨he, hw⟩ => ⟨by rw [he, str_list, str_list, hR], hw⟩
theorem trim3_any (a y x : List UInt8) (ha : a.length ≤ 30) (hy : y.length ≤ 20000) (hx : Lib.trimSuffix (a ++ [32] ++ y) [32] = x) (w : World) :
    Calls Tryz.prog 32 #[.string ((⟨a.toArray⟩ : ByteArray) ++ ⟨#[32]⟩ ++ ⟨y.toArray⟩), str [32]] w fun e w' => e = .returned (str x) ∧ w' = w := by
  have e : (⟨a.toArray⟩ : ByteArray) ++ ⟨#[32]⟩ ++ ⟨y.toArray⟩ = ⟨(a ++ [32] ++ y).toArray⟩ := by rw [← str_app, ← str_app]
  have hl : (a ++ [32] ++ y).length ≤ 30031 := by simp only [List.length_append, List.length_cons, List.length_nil]; omega
  rw [e]
  exact trim_any _ _ _ (Nat.le_trans hl (by omega)) hx w
/-- A cell of a row is written that lies behind w. -/
theorem dm_store {w W : World} {g i : Nat} (h : Dm w W [] []) (he : Env w) (hg : w.heap.size ≤ g) (u : Value) : Dm w (W.setCell ⟨g, i, none⟩ u) [] [] := by
  have hb := h.below.setCell (p := ⟨g, i, none⟩) hg u
  exact ⟨hb, he.below hb, fun _ h => by simp at h, fun _ h => by simp at h⟩
theorem row_cells {W : World} {B g n cap : Nat} {T : TypeId} {Ls : List (List UInt8)} (hn : Ls.length = n) (h : W.ownsRow B T 1 (.slice (some ⟨g, 0, none⟩) n cap) n (Ls.map str)) : ∀ (j : Nat) x, Ls[j]? = some x → W.cell? ⟨g, 0 + j, none⟩ = some (str x) := fun j x hx => by
  have hj := (List.getElem?_eq_some_iff.1 hx).1
  rw [Nat.zero_add, h.cellAt j (by omega), List.getElem?_map, hx]; rfl
theorem whole_cells {W : World} {b : Nat} {T : TypeId} {Ls : List (List UInt8)} (h : Whole W b T (Ls.map str).toArray) : ∀ (j : Nat) x, Ls[j]? = some x → W.cell? ⟨b, 0 + j, none⟩ = some (str x) := fun j x hx => by
  rw [Nat.zero_add, h.cell j]
  simp [hx]
set_option maxRecDepth 100000 in
set_option maxHeartbeats 8000000 in
theorem dimacsWrong_walk (v0 : Value) (z0 : List (List Int)) (_hl0 : z0.length ≤ maxLen) (hw0 : ∀ zs ∈ z0, zs.length ≤ maxLen ∧ ∀ x ∈ zs, (Lit.int .u8 x).wf = true) (at_ : Int) (wa : (Lit.int .u8 at_).wf = true) (wh : Int) (ww : (Lit.int .u8 wh).wf = true) (n : Int) (wn : (Lit.int .i64 n).wf = true)
    (W : World) (hz0 : Rows2 .u8 W.heap.size W v0 z0) (he : Env W) (hm : ∃ m, W.cell? ⟨2, 0, none⟩ = some (.int .i64 m)) :
    Calls Tryz.prog 10 #[v0, .int .u8 at_, .int .u8 wh, .int .i64 n] W fun e W' => e = .returned (.bool true) ∧ Below W.heap.size W W' := by
  have m0 := fun w fs ss h => dm_made (v := v0) (w := W) (W := w) (fs := fs) (ss := ss) h hw0 hz0
  obtain ⟨L, T, Ls, eL, hn, hz, hw, hT, hseg, hN, hwr, hhd⟩ := wrong_facts z0
  simp only [eL] at m0
  have hsp := fun (w : World) (hb : Below W.heap.size W w) => split_any 10 T (by omega) w (by obtain ⟨m, hm⟩ := hm; exact ⟨m, (hb.cell (World.block_lt_of_cell? _ _ hm)).trans hm⟩)
  rw [hseg] at hsp
  obtain ⟨N, hNn⟩ : ∃ N, Ls.length = N := ⟨_, rfl⟩
  rw [hNn] at hN
  simp only [hNn] at hsp
  have ha := u8_wf wa
  have hb := u8_wf ww
  have hc := i64_wf wn
  obtain ⟨y0, hy0⟩ : ∃ y, Ls[0]? = some y := ⟨_, List.getElem?_eq_getElem (by omega)⟩
  have HY0 := Lib.hid hy0
  clear hy0
  obtain ⟨t, ht⟩ : ∃ t : Nat, at_.tmod (N : Int) = (t : Int) ∧ t < N := ⟨(at_.tmod N).toNat, by rw [Int.tmod_eq_emod_of_nonneg ha.1]; have h1 := Int.emod_nonneg at_ (b := N) (by omega); omega, by
    rw [Int.tmod_eq_emod_of_nonneg ha.1]; have h1 := Int.emod_nonneg at_ (b := N) (by omega); have h2 := Int.emod_lt_of_pos at_ (b := N) (by omega); omega⟩
  obtain ⟨j, hj⟩ : ∃ j : Nat, wh.tmod 8 = (j : Int) ∧ j < 8 := ⟨(wh.tmod 8).toNat, by rw [Int.tmod_eq_emod_of_nonneg hb.1]; omega, by rw [Int.tmod_eq_emod_of_nonneg hb.1]; omega⟩
  obtain ⟨q, hq⟩ : ∃ q : Nat, wh.tmod 6 = (q : Int) ∧ q < 6 := ⟨(wh.tmod 6).toNat, by rw [Int.tmod_eq_emod_of_nonneg hb.1]; omega, by rw [Int.tmod_eq_emod_of_nonneg hb.1]; omega⟩
  obtain ⟨M, hM⟩ : ∃ M, max n 9 = M := ⟨_, rfl⟩
  obtain ⟨P, hP⟩ : ∃ P, min n (-1) = P := ⟨_, rfl⟩
  obtain ⟨Q, hQ⟩ : ∃ Q, max n 262145 = Q := ⟨_, rfl⟩
  have hMb : 9 ≤ M ∧ M ≤ 9223372036854775807 := by omega
  have hPb : -9223372036854775808 ≤ P ∧ P ≤ -1 := by omega
  have hQb : 262145 ≤ Q ∧ Q ≤ 9223372036854775807 := by omega
  have M0 := Lib.hid m0; have HZ := Lib.hid hz; have HW := Lib.hid hw; have HSp := Lib.hid hsp; have HWr := Lib.hid hwr; have HHd := Lib.hid hhd; have H0 := Lib.hid (Dm.start W he); have HNn := Lib.hid hNn; have HN := Lib.hid hN
  have HTl := Lib.hid hT; have HEnv := Lib.hid he
  clear m0 hz hw hsp hwr hhd he hm hw0 eL hT hNn wa ww wn hseg
  obtain ⟨A', c', rfl, -⟩ := Rows2.shape hz0
  clear hz0
  obtain ⟨ht1, ht2⟩ := ht
  obtain ⟨hj1, hj2⟩ := hj
  obtain ⟨hq1, hq2⟩ := hq
  have ht3 := ht1; have hj3 := hj1; have hq3 := hq1
  rw [Int.tmod_eq_emod_of_nonneg (by omega)] at ht3 hj3 hq3
  have hN32 : N ≤ 32 := by omega
  clear hN
  obtain ⟨ha0, ha1⟩ := ha
  obtain ⟨hb0, hb1⟩ := hb
  obtain ⟨hc0, hc1⟩ := hc
  obtain ⟨hM0, hM1⟩ := hMb
  obtain ⟨hP0, hP1⟩ := hPb
  obtain ⟨hQ0, hQ1⟩ := hQb
  go_enter Tryz.func10, Tryz.ntmps10
  go_wp2_with fail
  refine (M0.out _ _ _ H0.out).mono ?_
  rintro e w1 ⟨A1, c1, rfl, h1⟩
  have h1b := h1.box 8 (.slice A1 L.length c1)
  have H1 := Lib.hid h1b; clear h1 H0 h1b
  go_wp2_with fail
  refine (dm_write 8 H1.out (v := .slice A1 L.length c1) (L := L) (by simp) (by omega) HZ.out HW.out).mono ?_
  rintro e w2 ⟨rfl, h2⟩
  have H2 := Lib.hid h2.bare; clear h2 H1
  go_wp2_with fail
  refine (HSp.out w2 H2.out.below).mono ?_
  rintro e w3 ⟨rfl, hw3⟩
  have hW3 : Whole w3 w2.heap.size 9 (Ls.map str).toArray := by rw [hw3]; exact Whole.made _ _ _
  have h3 := H2.out.on (show Below w2.heap.size w2 w3 by rw [hw3]; exact below1a _ _)
  obtain ⟨b, hb⟩ : ∃ b, w2.heap.size = b := ⟨_, rfl⟩
  rw [hb] at hW3 ⊢
  have HBg : Hid (W.heap.size ≤ b) := Lib.hid (by rw [← hb]; exact H2.out.below.size)
  have H3 := Lib.hid h3; have HW3 := Lib.hid hW3
  clear h3 hW3 hw3 H2 hb
  obtain ⟨hd, hdA, hdm⟩ : ∃ x, hds[q]? = some x ∧ x ∈ hds := ⟨_, List.getElem?_eq_getElem hq2, List.getElem_mem hq2⟩
  have d6 : [Value.string ⟨#[112, 32, 99, 110, 102, 32, 56]⟩, .string ⟨#[99, 110, 102, 32, 56, 32, 49]⟩, .string ⟨#[112, 32, 99, 110, 102, 32, 56, 32, 45, 49]⟩, .string ⟨#[112, 32, 99, 110, 102, 32, 56, 32, 49, 32]⟩, .string ⟨#[80, 32, 99, 110, 102, 32, 56, 32, 49]⟩, .string ⟨#[112, 32, 99, 110, 102, 32, 48, 56, 32, 49]⟩][q]? = some (str hd) := by
    show (hds.map str)[q]? = _
    rw [List.getElem?_map, hdA]; rfl
  have d6' := (List.getElem?_eq_some_iff.1 d6).2
  obtain ⟨hhl, hhj, hhr⟩ := HHd.out hd hdm
  have hhr := rd_no hhr
  have HHR := Lib.hid hhr; have HHJ := Lib.hid hhj
  clear hdA hdm hhl hhj hhr HHd
  by_cases hlt : 1 + t < N
  · obtain ⟨wd, hwA, hbad⟩ := word_bad hj2 hM0 hM1
    obtain ⟨y, x, hy, hyl, htr, hxl, hjl, hrd⟩ := HWr.out t wd (wantE j M) (by have := HN.out; omega) hbad (wantE_ne j M)
    have hrd := rd_no hrd
    have hrd : rsV (Lib.join (Ls.set (t + 1) x) [10]) = 0 ∧ rsL (Lib.join (Ls.set (t + 1) x) [10]) = [] ∧ rsN (Lib.join (Ls.set (t + 1) x) [10]) = 1 + (t : Int) + 1 ∧ rsE (Lib.join (Ls.set (t + 1) x) [10]) = wantE j M := ⟨hrd.1, hrd.2.1, by rw [hrd.2.2.1]; omega, hrd.2.2.2⟩
    have d8 : [Value.string ⟨#[120]⟩, .string ⟨#[48, 48]⟩, .string ⟨#[45, 48]⟩, .string ⟨#[43, 49]⟩, .string ⟨#[49, 46]⟩, .string ⟨#[57]⟩, .string ⟨#[45, 57]⟩, .string ⟨(Lib.itoa M).toArray⟩][j]? = some (str wd) := by
      show ((wordsA M).map str)[j]? = _
      rw [List.getElem?_map, hwA]; rfl
    have d8' := (List.getElem?_eq_some_iff.1 d8).2
    have hwl := hbad.len
    have htl : (1 : Int) + (t : Int) < (N : Int) := by omega
    have HY := Lib.hid hy; have HTr := Lib.hid htr; have HJl := Lib.hid hjl; have HRd := Lib.hid hrd
    clear hwA hbad hy htr hjl hrd HWr
    obtain ⟨E, hE⟩ : ∃ E, wantE j M = E := ⟨_, rfl⟩
    have hcase : ((4 : Int) < (j : Int) ∧ M ≤ 1048576 ∧ E = 62) ∨ ((4 : Int) < (j : Int) ∧ ¬ M ≤ 1048576 ∧ ((j : Int) == 5) = true ∧ E = 62) ∨ ((4 : Int) < (j : Int) ∧ ¬ M ≤ 1048576 ∧ ((j : Int) == 5) = false ∧ ((j : Int) == 6) = true ∧ E = 62) ∨
        ((4 : Int) < (j : Int) ∧ ¬ M ≤ 1048576 ∧ ((j : Int) == 5) = false ∧ ((j : Int) == 6) = false ∧ E = 61) ∨ (¬ (4 : Int) < (j : Int) ∧ ((j : Int) == 5) = false ∧ ((j : Int) == 6) = false ∧ E = 61) := by
      simp only [beq_iff_eq, beq_eq_false_iff_ne]
      unfold wantE at hE
      by_cases h4 : 4 < j
      · by_cases hm : M ≤ 1048576
        · exact .inl ⟨by omega, hm, by rw [← hE, if_pos (by omega)]⟩
        · by_cases h5 : j = 5
          · exact .inr (.inl ⟨by omega, hm, by omega, by rw [← hE, if_pos (by omega)]⟩)
          · by_cases h6 : j = 6
            · exact .inr (.inr (.inl ⟨by omega, hm, by omega, by omega, by rw [← hE, if_pos (by omega)]⟩))
            · exact .inr (.inr (.inr (.inl ⟨by omega, hm, by omega, by omega, by rw [← hE, if_neg (by omega)]⟩)))
      · exact .inr (.inr (.inr (.inr ⟨by omega, by omega, by omega, by rw [← hE, if_neg (by omega)]⟩)))
    rw [hE] at HRd
    have hge : 0 ≤ (j : Int) := by omega
    clear hE hj2
    rcases hcase with ⟨k1, k2, rfl⟩ | ⟨k1, k2, k3, rfl⟩ | ⟨k1, k2, k3, k4, rfl⟩ | ⟨k1, k2, k3, k4, rfl⟩ | ⟨k1, k3, k4, rfl⟩
    all_goals
      go_wp2_with fail
      refine (dm_itoa M (by omega) (by omega) H3.out).mono ?_
      rintro e w4 ⟨rfl, hb4, h4⟩
      have H4 := Lib.hid h4; have HW4 := Lib.hid (HW3.out.same (hb4.block _ HW3.out.lt))
      clear h4 H3 HW3 hb4
      go_wp2_with fail
      refine (clone_any HNn.out (by omega) (by omega) _ (whole_alloc HW4.out _)).mono ?_
      rintro e w5 ⟨g, cap, rfl, hcap, hr5, hb5⟩
      have h5 := (H4.out.on (below1a w4 _)).on hb5
      have hw5 := (whole_alloc HW4.out _).same (hb5.block _ (whole_alloc HW4.out _).lt)
      have hg5 : b < g := Nat.lt_of_lt_of_le (whole_alloc HW4.out _).lt (hr5.lt g rfl).1
      have c5 : w5.cell? ⟨g, 1 + t, none⟩ = some (str y) := by have := row_cells HNn.out hr5 (1 + t) y (by rw [Nat.add_comm]; exact HY.out); rwa [Nat.zero_add] at this
      have f5 : w5.frozen? ⟨g, 1 + t, none⟩ = false := hr5.frozenAt _
      have H5 := Lib.hid h5; have HW5 := Lib.hid hw5; have HR5 := Lib.hid hr5; have HG := Lib.hid hg5
      clear h5 H4 hw5 HW4 hr5 hb5 hg5
      go_wp2_with fail
      refine (trim3_any wd y x hwl hyl HTr.out w5).mono ?_
      rintro e w6 ⟨rfl, rfl⟩
      go_wp2_with fail
      have hg6 : W.heap.size ≤ g := by have := HBg.out; have := HG.out; omega
      have h6 := dm_store (i := 1 + t) H5.out.bare HEnv.out hg6 (str x)
      have hw6 := HW5.out.beside (b := g) (i := 1 + t) (by have := HG.out; omega) (str x)
      have hr6 := (HR5.out.stored (1 + t) (str x)).1
      rw [show (Ls.map str).set (1 + t) (str x) = (Ls.set (t + 1) x).map str by rw [List.map_set, Nat.add_comm]] at hr6
      have hl6 := (hr6.lt g rfl).2
      have H6 := Lib.hid h6; have HW6 := Lib.hid hw6; have HR6 := Lib.hid hr6
      clear h6 H5 hw6 HW5 hr6 HR5 c5 f5
      refine (join_any 10 (Ls.set (t + 1) x) (by rw [List.length_set]; exact HNn.out) _ (row_cells (by rw [List.length_set]; exact HNn.out) HR6.out) hl6 (by omega) hcap (by have := HJl.out; omega)).mono ?_
      rintro e w7 ⟨rfl, hb7⟩
      have H7 := Lib.hid (H6.out.on hb7); have HW7 := Lib.hid (HW6.out.same (hb7.block _ HW6.out.lt))
      clear H6 HW6 HR6 hb7 hl6
      go_wp2_with fail
      refine (dm_read _ (by have := HJl.out; omega) (Dm.start w7 H7.out.env) HRd.out).mono ?_
      rintro e w8 ⟨A8, c8, rfl, h8⟩
      obtain ⟨w9, hw9⟩ : ∃ x, w8.alloc (.cells #[.int .i64 0, .slice A8 0 c8] 24) = x := ⟨_, rfl⟩
      have H9 : Hid (Dm W w9 [] []) := Lib.hid (by rw [← hw9]; exact (H7.out.on h8.below).on (below1a _ _))
      have HW9 : Hid (Whole w9 b 9 (Ls.map str).toArray) := Lib.hid (by rw [← hw9]; exact whole_alloc (HW7.out.same (h8.below.block _ HW7.out.lt)) _)
      clear h8 H7 HW7
      have p1 : ∀ o, (w9.alloc o).cell? ⟨b, 0, none⟩ = some (str y0) := fun o => by have := whole_cells (whole_alloc HW9.out o) 0 y0 HY0.out; rwa [Nat.zero_add] at this
      have p2 : ∀ o, (w9.alloc o).frozen? ⟨b, 0, none⟩ = false := fun o => (whole_alloc HW9.out o).frozen 0
      go_wp2_with fail
      have h10 := dm_store (i := 0) (H9.out.on (below1a w9 (.cells (hds.map str).toArray 9))) HEnv.out HBg.out (str hd)
      have hw10 := (whole_alloc HW9.out (.cells (hds.map str).toArray 9)).store 0 (str hd)
      rw [show (Ls.map str).toArray.setIfInBounds 0 (str hd) = ((Ls.set 0 hd).map str).toArray by simp] at hw10
      have H10 := Lib.hid h10; have HW10 := Lib.hid hw10
      clear h10 hw10 H9 HW9 p1 p2
      refine (join_any 10 (Ls.set 0 hd) (by rw [List.length_set]; exact HNn.out) _ (whole_cells HW10.out) HW10.out.lt (by omega) (Nat.le_refl _) (by have := HHJ.out; omega)).mono ?_
      rintro e w11 ⟨rfl, hb11⟩
      have H11 := Lib.hid (H10.out.on hb11)
      clear H10 HW10 hb11
      go_wp2_with fail
      refine (dm_read _ (by have := HHJ.out; omega) H11.out HHR.out).mono ?_
      rintro e w12 ⟨A12, c12, rfl, h12⟩
      have H12 := Lib.hid ((h12.bare.on (below1a w12 (.cells #[.int .i64 0, .slice A12 0 c12] 24))).addF (rows_none _ _))
      clear h12 H11
      go_wp2_with fail
      refine (dm_write P H12.out (v := .slice none 0 0) (L := []) (by simp) (by simp) (by simp) (T := []) (E := 50) (by unfold writeT; rw [chkI_vars (.inl (by omega))]; rfl)).mono ?_
      rintro e w13 ⟨rfl, h13⟩
      have H13 := Lib.hid h13.bare
      clear h13 H12
      have hli := fun U => line_bad (.slice (some ⟨w13.heap.size, 0, none⟩) 2 2) [1, 0] (by simp) (by decide) (w13.alloc (.cells #[.int .i64 1, .int .i64 0] U)) ((lits_block [1, 0] (Whole.made w13 U #[.int .i64 1, .int .i64 0]) (by simp)).ints)
      have HLi := Lib.hid hli
      clear hli
      go_wp2_with fail
      refine (HLi.out _).mono ?_
      rintro e w14 ⟨rfl, rfl⟩
      have H14 := Lib.hid (H13.out.on (below1a w13 (.cells #[.int .i64 1, .int .i64 0] 39)))
      clear H13 HLi
      go_wp2_with fail
      refine (header_vars P (-1) (.inl (by omega)) _).mono ?_
      rintro e w15 ⟨rfl, rfl⟩
      go_wp2_with fail
      refine (header_many 1 Q (by omega) (by omega) (.inr (by omega)) _).mono ?_
      rintro e w16 ⟨rfl, rfl⟩
      go_wp2_with fail
      refine (dm_awake H14.out).mono ?_
      rintro e w17 ⟨rfl, h17⟩
      have HB := Lib.hid h17.below
      clear h17 H14
      go_wp2_with fail
      go_ret
      exact ⟨rfl, HB.out⟩
  · have htl : ¬ (1 : Int) + (t : Int) < (N : Int) := by omega
    have H9 : Hid (Dm W w3 [] []) := H3
    have HW9 : Hid (Whole w3 b 9 (Ls.map str).toArray) := HW3
    obtain ⟨w9, hw9⟩ : ∃ x, w3 = x := ⟨_, rfl⟩
    subst hw9
    clear H3 HW3
    have p1 : ∀ o, (w3.alloc o).cell? ⟨b, 0, none⟩ = some (str y0) := fun o => by have := whole_cells (whole_alloc HW9.out o) 0 y0 HY0.out; rwa [Nat.zero_add] at this
    have p2 : ∀ o, (w3.alloc o).frozen? ⟨b, 0, none⟩ = false := fun o => (whole_alloc HW9.out o).frozen 0
    go_wp2_with fail
    have h10 := dm_store (i := 0) (H9.out.on (below1a w3 (.cells (hds.map str).toArray 9))) HEnv.out HBg.out (str hd)
    have hw10 := (whole_alloc HW9.out (.cells (hds.map str).toArray 9)).store 0 (str hd)
    rw [show (Ls.map str).toArray.setIfInBounds 0 (str hd) = ((Ls.set 0 hd).map str).toArray by simp] at hw10
    have H10 := Lib.hid h10; have HW10 := Lib.hid hw10
    clear h10 hw10 H9 HW9 p1 p2
    refine (join_any 10 (Ls.set 0 hd) (by rw [List.length_set]; exact HNn.out) _ (whole_cells HW10.out) HW10.out.lt (by omega) (Nat.le_refl _) (by have := HHJ.out; omega)).mono ?_
    rintro e w11 ⟨rfl, hb11⟩
    have H11 := Lib.hid (H10.out.on hb11)
    clear H10 HW10 hb11
    go_wp2_with fail
    refine (dm_read _ (by have := HHJ.out; omega) H11.out HHR.out).mono ?_
    rintro e w12 ⟨A12, c12, rfl, h12⟩
    have H12 := Lib.hid ((h12.bare.on (below1a w12 (.cells #[.int .i64 0, .slice A12 0 c12] 24))).addF (rows_none _ _))
    clear h12 H11
    go_wp2_with fail
    refine (dm_write P H12.out (v := .slice none 0 0) (L := []) (by simp) (by simp) (by simp) (T := []) (E := 50) (by unfold writeT; rw [chkI_vars (.inl (by omega))]; rfl)).mono ?_
    rintro e w13 ⟨rfl, h13⟩
    have H13 := Lib.hid h13.bare
    clear h13 H12
    have hli := fun U => line_bad (.slice (some ⟨w13.heap.size, 0, none⟩) 2 2) [1, 0] (by simp) (by decide) (w13.alloc (.cells #[.int .i64 1, .int .i64 0] U)) ((lits_block [1, 0] (Whole.made w13 U #[.int .i64 1, .int .i64 0]) (by simp)).ints)
    have HLi := Lib.hid hli
    clear hli
    go_wp2_with fail
    refine (HLi.out _).mono ?_
    rintro e w14 ⟨rfl, rfl⟩
    have H14 := Lib.hid (H13.out.on (below1a w13 (.cells #[.int .i64 1, .int .i64 0] 39)))
    clear H13 HLi
    go_wp2_with fail
    refine (header_vars P (-1) (.inl (by omega)) _).mono ?_
    rintro e w15 ⟨rfl, rfl⟩
    go_wp2_with fail
    refine (header_many 1 Q (by omega) (by omega) (.inr (by omega)) _).mono ?_
    rintro e w16 ⟨rfl, rfl⟩
    go_wp2_with fail
    refine (dm_awake H14.out).mono ?_
    rintro e w17 ⟨rfl, h17⟩
    have HB := Lib.hid h17.below
    clear h17 H14
    go_wp2_with fail
    go_ret
    exact ⟨rfl, HB.out⟩
end Go.Proofs.YtiicffceopiooaaGreatDoor.dimacsWrong
