/- The law DimacsCounts: its walk. -/
import Derived.Test.YtiicffceopiooaaGreatDoorDmAwakeWalk
import Derived.Test.YtiicffceopiooaaGreatDoorDmCut
namespace Go.Proofs.YtiicffceopiooaaGreatDoor.dimacsCounts
open Go.RowKit Go.ChangeAt Go.ChangeShapes Go.WideShapes Go.Shelf Go.Sort

theorem trim_app (a p : List UInt8) : Lib.trimSuffix (a ++ p) p = a := by
  unfold Lib.trimSuffix Lib.hasSuffix
  rw [if_pos (by simp), List.length_append, Nat.add_sub_cancel, List.take_left]
theorem made_okC {zss : List (List Int)} : ∀ c ∈ madeF zss, OkC 8 c := fun c hc => cl_okC (madeF_cl c hc)
theorem count_facts (zss : List (List Int)) : ∃ L T H R M, madeF zss = L ∧ L.length ≤ 30 ∧ (∀ zs ∈ L, zs.length ≤ 1000000) ∧ writeT 8 L = (T, 0) ∧ T = H ++ 10 :: R ∧ (10 : UInt8) ∉ H ∧ T.length ≤ 20000 ∧ R.length ≤ 20000 ∧ H ≠ [] ∧ hdrL 8 ((L.length : Int) + 1) = M ∧ M.length ≤ 100 ∧
    (rsV (M ++ [10] ++ R) = 0 ∧ rsL (M ++ [10] ++ R) = [] ∧ rsN (M ++ [10] ++ R) = (L.length : Int) + 3 ∧ rsE (M ++ [10] ++ R) = 63) ∧
    (L ≠ [] → ∃ M' R', hdrL 8 ((L.length : Int) - 1) = M' ∧ M'.length ≤ 100 ∧ (rsV (M' ++ [10] ++ R) = 0 ∧ rsL (M' ++ [10] ++ R) = [] ∧ rsN (M' ++ [10] ++ R) = (L.length : Int) + 1 ∧ rsE (M' ++ [10] ++ R) = 63) ∧
      Lib.trimSuffix T [48, 10] = R' ∧ R'.length ≤ 20000 ∧ (rsV R' = 0 ∧ rsL R' = [] ∧ rsN R' = (L.length : Int) + 2 ∧ rsE R' = 63)) := by
  have hok := made_okC (zss := zss)
  have hlen := madeF_len zss
  have hT := made_len zss
  have hw := made_write zss
  have hsh := short_made (zss := zss)
  obtain ⟨L, hL⟩ : ∃ L, madeF zss = L := ⟨_, rfl⟩
  rw [hL] at hok hlen hT hw hsh
  have hH := hdr_len (v := 8) (n := (L.length : Int)) (by omega) (by omega) (by omega) (by omega)
  have hM := hdr_len (v := 8) (n := (L.length : Int) + 1) (by omega) (by omega) (by omega) (by omega)
  have hR : (linesF L).length ≤ 20000 := by
    unfold textF at hT
    simp only [List.length_append, List.length_cons, List.length_nil] at hT
    omega
  refine ⟨L, textF 8 L, hdrL 8 L.length, linesF L, hdrL 8 ((L.length : Int) + 1), hL, hlen, hsh, hw, by unfold textF; simp, hdr_free _ _, hT, hR, by unfold hdrL; simp, rfl, hM, ?_, fun hne => ?_⟩
  · have h := rd_no (read_more (V := 8) (m := (L.length : Int) + 1) (L := L) (by omega) (by omega) (by omega) (by omega) hok (by
      unfold textH
      simp only [List.length_append, List.length_cons, List.length_nil]
      omega))
    unfold textH at h
    rw [List.append_nil] at h
    exact ⟨h.1, h.2.1, by rw [h.2.2.1]; omega, h.2.2.2⟩
  · obtain ⟨L', c, rfl⟩ : ∃ L' c, L = L' ++ [c] := ⟨L.dropLast, L.getLast hne, (List.dropLast_concat_getLast hne).symm⟩
    have hl1 : (L' ++ [c]).length = L'.length + 1 := by simp
    rw [hl1] at hlen hH
    have hM' := hdr_len (v := 8) (n := (L'.length : Int)) (by omega) (by omega) (by omega) (by omega)
    have hcl := hok c (by simp)
    have hokL : ∀ c ∈ L', OkC 8 c := fun x hx => hok x (by simp [hx])
    have eT : textF 8 (L' ++ [c]) = textH 8 ((L'.length : Int) + 1) L' (wordsL c) ++ [48, 10] := by
      unfold textF textH
      rw [linesF_snoc, hl1]
      unfold lineL
      simp
    refine ⟨hdrL 8 L'.length, textH 8 ((L'.length : Int) + 1) L' (wordsL c), by rw [hl1]; congr 1; omega, hM', ?_, by rw [eT, trim_app], ?_, ?_⟩
    · have h := rd_no (read_less (V := 8) (L := L') (c := c) (by omega) (by omega) (by omega) hokL hcl (by
        unfold textH
        simp only [List.length_append, List.length_cons, List.length_nil] at hR ⊢
        omega))
      unfold textH at h
      rw [List.append_nil] at h
      exact ⟨h.1, h.2.1, by rw [h.2.2.1, hl1]; omega, h.2.2.2⟩
    · have := congrArg List.length eT
      rw [List.length_append] at this
      omega
    · have hlt : (textH 8 ((L'.length : Int) + 1) L' (wordsL c)).length ≤ 4194304 := by
        have := congrArg List.length eT
        rw [List.length_append] at this
        omega
      have h := rd_no (read_open (V := 8) (L := L') (c := c) (by omega) (by omega) (by omega) hokL hcl hlt)
      exact ⟨h.1, h.2.1, by rw [h.2.2.1, hl1]; omega, h.2.2.2⟩
theorem dm_read3 {w W : World} {fs : List (Value × List (List Int))} {ss : List (Nat × Int × Value)} (M R : List UInt8) (hM : M.length ≤ 100) (hR : R.length ≤ 20000) (h : Dm w W fs ss) {V n E : Int} {L : List (List Int)} (hr : rsV (M ++ [10] ++ R) = V ∧ rsL (M ++ [10] ++ R) = L ∧ rsN (M ++ [10] ++ R) = n ∧ rsE (M ++ [10] ++ R) = E) :
    Calls Tryz.prog 17 #[.string ((⟨M.toArray⟩ : ByteArray) ++ ⟨#[10]⟩ ++ ⟨R.toArray⟩)] W fun e w' => ∃ A c, e = .returned (.tuple #[.agg #[.int .i64 V, .slice A L.length c], .int .i64 n, .int .i64 E]) ∧ Dm w w' ((.slice A L.length c, L) :: fs) ss := by
  rw [show (⟨#[10]⟩ : ByteArray) = ⟨[10].toArray⟩ from rfl, str_app, str_app]
  exact dm_read (M ++ [10] ++ R) (by simp only [List.length_append, List.length_cons, List.length_nil]; omega) h hr
set_option maxRecDepth 100000 in
set_option maxHeartbeats 1000000 in
theorem dimacsCounts_walk (v0 : Value) (z0 : List (List Int)) (_hl0 : z0.length ≤ maxLen) (hw0 : ∀ zs ∈ z0, zs.length ≤ maxLen ∧ ∀ x ∈ zs, (Lit.int .u8 x).wf = true) (W : World) (hz0 : Rows2 .u8 W.heap.size W v0 z0) (he : Env W) :
    Calls Tryz.prog 9 #[v0] W fun e W' => e = .returned (.bool true) ∧ Below W.heap.size W W' := by
  have m0 := fun w fs ss h => dm_made (v := v0) (w := W) (W := w) (fs := fs) (ss := ss) h hw0 hz0
  obtain ⟨L, T, H, R, M, eL, hn, hz, hw, eT, hf, hT, hR, hne, eM, hM, hrd, hmore⟩ := count_facts z0
  simp only [eL] at m0
  have M0 := Lib.hid m0; have HZ := Lib.hid hz; have HW := Lib.hid hw; have HCut := Lib.hid (And.intro eT hf); have HM := Lib.hid eM; have HRd := Lib.hid hrd; have HMore := Lib.hid hmore; have H0 := Lib.hid (Dm.start W he)
  have hHe : (H == []) = false := beq_eq_false_iff_ne.2 hne
  have HTl := Lib.hid hT
  clear m0 hz hw eT hf eM hrd hmore he hne hw0 eL hT
  obtain ⟨A', c', rfl, -⟩ := Rows2.shape hz0
  clear hz0
  go_enter Tryz.func9, Tryz.ntmps9
  go_wp2_with fail
  refine (M0.out _ _ _ H0.out).mono ?_
  rintro e w1 ⟨A1, c1, rfl, h1⟩
  have h1b := h1.box 8 (.slice A1 L.length c1)
  have H1 := Lib.hid h1b; clear h1 H0 h1b
  go_wp2_with fail
  refine (dm_write 8 H1.out (v := .slice A1 L.length c1) (L := L) (by simp) (by omega) HZ.out HW.out).mono ?_
  rintro e w2 ⟨rfl, h2⟩
  have H2 := Lib.hid h2.bare; clear h2 H1
  go_wp2_with fail
  refine (dm_cut 10 H R HCut.out.2 (by have := HTl.out; rw [HCut.out.1] at this; omega) H2.out HCut.out.1).mono ?_
  rintro e w3 ⟨rfl, h3⟩
  have H3 := Lib.hid h3; clear h3 H2
  go_wp2_with fail
  refine (dm_header 8 ((L.length : Int) + 1) (by omega) (by omega) (by omega) (by omega) H3.out HM.out).mono ?_
  rintro e w4 ⟨rfl, h4⟩
  have H4 := Lib.hid h4; clear h4 H3
  go_wp2_with fail
  refine (dm_read3 M R hM hR H4.out HRd.out).mono ?_
  rintro e w5 ⟨A5, c5, rfl, h5⟩
  have H5 := Lib.hid (h5.bare.on (below1a w5 (.cells #[.int .i64 0, .slice A5 0 c5] 24))); clear h5 H4
  by_cases hl : L.length = 0
  · have hq : ((L.length : Int) == 0) = true := by rw [hl]; rfl
    clear hl
    go_wp2_with fail
    refine (dm_awake H5.out).mono ?_
    rintro e w6 ⟨rfl, h6⟩
    have HB := Lib.hid h6.below
    clear h6 H5
    go_wp2_with fail
    go_ret
    exact ⟨rfl, HB.out⟩
  · obtain ⟨M', R', eM', hM', hrd', eR, hR', hrd2⟩ := HMore.out (fun e => hl (by rw [e]; rfl))
    have hq : ((L.length : Int) == 0) = false := by rw [beq_eq_false_iff_ne]; omega
    have hl1 : (1 : Int) ≤ (L.length : Int) := by omega
    have HM' := Lib.hid eM'; have HRd' := Lib.hid hrd'; have HR' := Lib.hid eR; have HRd2 := Lib.hid hrd2
    clear eM' hrd' eR hrd2 HMore hl
    go_wp2_with fail
    refine (dm_header 8 ((L.length : Int) - 1) (by omega) (by omega) (by omega) (by omega) H5.out HM'.out).mono ?_
    rintro e w6 ⟨rfl, h6⟩
    have H6 := Lib.hid h6; clear h6 H5
    go_wp2_with fail
    refine (dm_read3 M' R hM' hR H6.out HRd'.out).mono ?_
    rintro e w7 ⟨A7, c7, rfl, h7⟩
    have H7 := Lib.hid (h7.bare.on (below1a w7 (.cells #[.int .i64 0, .slice A7 0 c7] 24))); clear h7 H6
    go_wp2_with fail
    refine (dm_trim T [48, 10] R' (by have := HTl.out; omega) H7.out HR'.out).mono ?_
    rintro e w8 ⟨rfl, h8⟩
    have H8 := Lib.hid h8; clear h8 H7
    go_wp2_with fail
    refine (dm_read R' (by omega) H8.out HRd2.out).mono ?_
    rintro e w9 ⟨A9, c9, rfl, h9⟩
    have H9 := Lib.hid (h9.bare.on (below1a w9 (.cells #[.int .i64 0, .slice A9 0 c9] 24))); clear h9 H8
    go_wp2_with fail
    refine (dm_awake H9.out).mono ?_
    rintro e w10 ⟨rfl, h10⟩
    have HB := Lib.hid h10.below
    clear h10 H9
    go_wp2_with fail
    go_ret
    exact ⟨rfl, HB.out⟩
end Go.Proofs.YtiicffceopiooaaGreatDoor.dimacsCounts
