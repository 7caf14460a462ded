/- The law DimacsBack: its walk. -/
import Derived.Test.YtiicffceopiooaaGreatDoorDmAwakeWalk
namespace Go.Proofs.YtiicffceopiooaaGreatDoor.dimacsBack
open Go.RowKit Go.ChangeAt Go.ChangeShapes Go.WideShapes Go.Shelf Go.Sort

/-- What is known of a made formula. -/
theorem made_facts (zss : List (List Int)) : ∃ L T, madeF zss = L ∧ textF 8 L = T ∧ L.length ≤ 30 ∧ (∀ zs ∈ L, zs.length ≤ 1000000) ∧ writeT 8 L = (T, 0) ∧ T.length ≤ 20000 ∧ (rsV T = 8 ∧ rsL T = L ∧ rsN T = 0 ∧ rsE T = 0) ∧ canT T = (T, 0, 0) :=
  ⟨madeF zss, textF 8 (madeF zss), rfl, rfl, madeF_len zss, short_made, made_write zss, made_len zss, rd_ok (made_read zss), made_canon zss⟩
/-- What is known of what is read of a text that is not long. -/
theorem any_facts {S : List UInt8} (hS : S.length ≤ 1000) {V : Int} {L : List (List Int)} (h : readAll S = .inr (V, L)) : ∃ T, canT S = (T, 0, 0) ∧ T.length ≤ 4194304 ∧ chkI V L = (-1, 0) ∧ (rsV S = V ∧ rsL S = L ∧ rsN S = 0 ∧ rsE S = 0) ∧ (rsV T = V ∧ rsL T = L ∧ rsN T = 0 ∧ rsE T = 0) ∧ L.length ≤ 262144 ∧ ∀ zs ∈ L, zs.length ≤ 1000000 := by
  obtain ⟨h1, h2, h3, h4, h5⟩ := readAll_ok h
  have hh := hdr_len (v := V) (n := (L.length : Int)) h1 h2 (by omega) (by omega)
  have hl : (textF V L).length ≤ 4194304 := by
    unfold textF
    simp only [List.length_append, List.length_cons, List.length_nil]
    omega
  have hc := chk_okC h1 h2 h3 h4
  have hw : writeT V L = (textF V L, 0) := by unfold writeT; rw [hc, if_pos rfl, if_neg (by omega)]
  refine ⟨textF V L, ?_, hl, hc, rd_ok h, rd_ok (read_back h1 h2 h3 (fun c hc => h4 c hc) hl), h3, fun zs hz => by have := (h4 zs hz).1; omega⟩
  unfold canT
  rw [h]
  dsimp only
  rw [hw]
set_option maxRecDepth 100000 in
set_option maxHeartbeats 1000000 in
theorem dimacsBack_walk (v0 : Value) (z0 : List (List Int)) (_hl0 : z0.length ≤ maxLen) (hw0 : ∀ zs ∈ z0, zs.length ≤ maxLen ∧ ∀ x ∈ zs, (Lit.int .u8 x).wf = true) (v1 : Value) (z1 : List (List Int)) (_hl1 : z1.length ≤ maxLen) (hw1 : ∀ zs ∈ z1, zs.length ≤ maxLen ∧ ∀ x ∈ zs, (Lit.int .u8 x).wf = true)
    (s : ByteArray) (hs : s.size ≤ maxLen) (W : World) (hz0 : Rows2 .u8 W.heap.size W v0 z0) (hz1 : Rows2 .u8 W.heap.size W v1 z1) (he : Env W) :
    Calls Tryz.prog 6 #[v0, v1, .string s] W fun e W' => e = .returned (.bool true) ∧ Below W.heap.size W W' := by
  obtain ⟨S, rfl⟩ : ∃ S : List UInt8, s = ⟨S.toArray⟩ := ⟨s.data.toList, (str_back s).symm⟩
  rw [str_size] at hs
  have m0 := fun w fs ss h => dm_made (v := v0) (w := W) (W := w) (fs := fs) (ss := ss) h hw0 hz0
  have m1 := fun w fs ss h => dm_made (v := v1) (w := W) (W := w) (fs := fs) (ss := ss) h hw1 hz1
  have hinj : (textF 8 (madeF z0) == textF 8 (madeF z1)) = decide ((8 : Int) = 8 ∧ madeF z0 = madeF z1) := by
    by_cases h : madeF z0 = madeF z1
    · rw [h]; simp
    · rw [decide_eq_false fun e => h e.2]
      exact beq_eq_false_iff_ne.2 fun e => h (made_inj e)
  obtain ⟨L0, T0, e0, t0, n0, z0', w0, l0, r0, c0⟩ := made_facts z0
  obtain ⟨L1, T1, e1, t1, n1, z1', w1, l1, r1, c1⟩ := made_facts z1
  rw [e0, e1, t0, t1] at hinj
  simp only [e0] at m0
  simp only [e1] at m1
  obtain ⟨q, hq⟩ : ∃ q, (T0 == T1) = q := ⟨_, rfl⟩
  rw [hq] at hinj
  have hinj := hinj.symm
  have M0 := Lib.hid m0; have M1 := Lib.hid m1; have HJ := Lib.hid hinj; have HN := Lib.hid (And.intro n0 n1); have HZ0 := Lib.hid z0'; have HZ1 := Lib.hid z1'
  have HW0 := Lib.hid w0; have HW1 := Lib.hid w1; have HL := Lib.hid (And.intro l0 l1); have HR := Lib.hid r0; have HC := Lib.hid c0; have H0 := Lib.hid (Dm.start W he)
  clear m0 m1 hinj n0 n1 z0' z1' w0 w1 l0 l1 r0 c0 r1 c1 he e0 e1 t0 t1 hw0 hw1
  obtain ⟨A', c', rfl, -⟩ := Rows2.shape hz0
  obtain ⟨A'', c'', rfl, -⟩ := Rows2.shape hz1
  clear hz0 hz1
  go_enter Tryz.func6, Tryz.ntmps6
  go_wp2_with fail
  refine (M0.out _ _ _ H0.out).mono ?_
  rintro e w1 ⟨A1, c1, rfl, h1⟩
  have H1 := Lib.hid h1; clear h1 H0
  go_wp2_with fail
  refine (M1.out _ _ _ H1.out).mono ?_
  rintro e w2 ⟨A2, c2, rfl, h2⟩
  have h2b := (h2.box 8 (.slice A1 L0.length c1)).box 8 (.slice A2 L1.length c2)
  rw [World.size_alloc] at h2b
  have H2 := Lib.hid h2b; clear h2 H1 h2b
  go_wp2_with fail
  obtain ⟨g1, hg1⟩ : ∃ x, w2.heap.size = x := ⟨_, rfl⟩
  obtain ⟨g2, hg2⟩ : ∃ x, g1 + 1 = x := ⟨_, rfl⟩
  obtain ⟨W2, hW2⟩ : ∃ x, (w2.alloc (.cells #[.int .i64 8, .slice A1 L0.length c1] 24)).alloc (.cells #[.int .i64 8, .slice A2 L1.length c2] 24) = x := ⟨_, rfl⟩
  rw [hg1, hg2, hW2] at H2
  rw [hg1, hg2, hW2]
  clear hg1 hg2 hW2
  refine (dm_write 8 H2.out (v := .slice A1 L0.length c1) (L := L0) (by simp) (by have := HN.out; omega) HZ0.out HW0.out).mono ?_
  rintro e w3 ⟨rfl, h3⟩
  obtain ⟨p1, p2⟩ := h3.s g2 8 (.slice A2 L1.length c2) (by simp)
  have H3 := Lib.hid h3; clear h3 H2
  go_wp2_with fail
  refine (dm_write 8 H3.out (v := .slice A2 L1.length c2) (L := L1) (by simp) (by have := HN.out; omega) HZ1.out HW1.out).mono ?_
  rintro e w4 ⟨rfl, h4⟩
  have H4 := Lib.hid h4; clear h4 H3 p1 p2
  go_wp2_with fail
  refine (dm_read T0 (by have := HL.out; omega) H4.out HR.out).mono ?_
  rintro e w5 ⟨A5, c5, rfl, h5⟩
  have h5b := h5.box 8 (.slice A5 L0.length c5)
  have H5 := Lib.hid h5b; clear h5 H4 h5b
  go_wp2_with fail
  obtain ⟨g5, hg5⟩ : ∃ x, w5.heap.size = x := ⟨_, rfl⟩
  obtain ⟨W5, hW5⟩ : ∃ x, w5.alloc (.cells #[.int .i64 8, .slice A5 L0.length c5] 24) = x := ⟨_, rfl⟩
  rw [hg5, hW5] at H5
  rw [hg5, hW5]
  clear hg5 hW5
  refine (dm_canon T0 (by have := HL.out; omega) H5.out HC.out).mono ?_
  rintro e w6 ⟨rfl, h6⟩
  obtain ⟨p1, p2⟩ := h6.s g5 8 (.slice A5 L0.length c5) (by simp)
  obtain ⟨p3, p4⟩ := h6.s g1 8 (.slice A1 L0.length c1) (by simp)
  have H6 := Lib.hid h6; clear h6 H5
  go_wp2_with fail
  refine (dm_same 8 8 H6.out (v := .slice A5 L0.length c5) (v' := .slice A1 L0.length c1) (L := L0) (L' := L0) (by simp) (by simp) (by have := HN.out; omega) HZ0.out HZ0.out).mono ?_
  rintro e w7 ⟨rfl, h7⟩
  rw [decide_eq_true (show (8 : Int) = 8 ∧ L0 = L0 from ⟨rfl, rfl⟩)]
  obtain ⟨p1, p2⟩ := h7.s g1 8 (.slice A1 L0.length c1) (by simp)
  obtain ⟨p3, p4⟩ := h7.s g2 8 (.slice A2 L1.length c2) (by simp)
  have H7 := Lib.hid h7; clear h7 H6
  go_wp2_with fail
  refine (dm_sameq 8 8 H7.out (v := .slice A1 L0.length c1) (v' := .slice A2 L1.length c2) (L := L0) (L' := L1) (by simp) (by simp) (by have := HN.out; omega) HZ0.out HZ1.out (q := q) (by simpa using HJ.out)).mono ?_
  rintro e w8 ⟨rfl, h8⟩
  have H8 := Lib.hid h8.bare; clear h8 H7 p1 p2 p3 p4
  by_cases hlong : 1000 < S.length
  · have hl' : (1000 : Int) < (S.length : Int) := by omega
    go_wp2_with fail
    refine (dm_awake H8.out).mono ?_
    rintro e w9 ⟨rfl, h9⟩
    have HB := Lib.hid h9.below
    clear h9 H8
    go_wp2_with fail
    go_ret
    exact ⟨rfl, HB.out⟩
  · have hl' : ¬ (1000 : Int) < (S.length : Int) := by omega
    have HSl := Lib.hid hlong
    cases hr : readAll S with
    | inl x =>
      obtain ⟨n, E⟩ := x
      obtain ⟨hE, hn⟩ := readAll_fault hr
      have hn := hn (by omega)
      have hrd := rd_no hr
      have hEb : (E != 0) = true := by simpa using hE
      have hn1 : (1 : Int) ≤ (n : Int) := by omega
      have HRd := Lib.hid hrd
      clear hr hE hn hrd hlong
      go_wp2_with fail
      refine (dm_read S (by have := HSl.out; omega) H8.out HRd.out).mono ?_
      rintro e w9 ⟨A9, c9, rfl, h9⟩
      have h9b := (h9.box 0 (.slice A9 0 c9)).addF (rows_none _ _)
      have H9 := Lib.hid h9b; clear h9 H8 h9b
      go_wp2_with fail
      obtain ⟨g9, hg9⟩ : ∃ x, w9.heap.size = x := ⟨_, rfl⟩
      obtain ⟨W9, hW9⟩ : ∃ x, w9.alloc (.cells #[.int .i64 0, .slice A9 0 c9] 24) = x := ⟨_, rfl⟩
      rw [hg9, hW9] at H9
      rw [hg9, hW9]
      clear hg9 hW9
      refine (dm_same 0 0 H9.out (v := .slice A9 0 c9) (v' := .slice none 0 0) (L := []) (L' := []) (by simp) (by simp) (by simp) (by simp) (by simp)).mono ?_
      rintro e w10 ⟨rfl, h10⟩
      rw [decide_eq_true (show (0 : Int) = 0 ∧ ([] : List (List Int)) = [] from ⟨rfl, rfl⟩)]
      have H10 := Lib.hid h10; clear h10 H9
      go_wp2_with fail
      refine (dm_awake H10.out).mono ?_
      rintro e w11 ⟨rfl, h11⟩
      have HB := Lib.hid h11.below
      clear h11 H10
      go_wp2_with fail
      go_ret
      exact ⟨rfl, HB.out⟩
    | inr x =>
      obtain ⟨V, L⟩ := x
      obtain ⟨T, hc, hT, hck, hr1, hr2, hn, hz⟩ := any_facts (by omega) hr
      have HC2 := Lib.hid hc; have HT := Lib.hid hT; have HCk := Lib.hid hck; have HR1 := Lib.hid hr1; have HR2 := Lib.hid hr2; have HN2 := Lib.hid hn; have HZ2 := Lib.hid hz
      clear hr hc hT hck hr1 hr2 hn hz hlong
      go_wp2_with fail
      refine (dm_read S (by have := HSl.out; omega) H8.out HR1.out).mono ?_
      rintro e w9 ⟨A9, c9, rfl, h9⟩
      have h9b := h9.box V (.slice A9 L.length c9)
      have H9 := Lib.hid h9b; clear h9 H8 h9b
      go_wp2_with fail
      obtain ⟨g9, hg9⟩ : ∃ x, w9.heap.size = x := ⟨_, rfl⟩
      obtain ⟨W9, hW9⟩ : ∃ x, w9.alloc (.cells #[.int .i64 V, .slice A9 L.length c9] 24) = x := ⟨_, rfl⟩
      rw [hg9, hW9] at H9
      rw [hg9, hW9]
      clear hg9 hW9
      refine (dm_check V H9.out (v := .slice A9 L.length c9) (L := L) (by simp) (by have := HN2.out; omega) HZ2.out).mono ?_
      rintro e w10 ⟨rfl, h10⟩
      rw [HCk.out]
      have H10 := Lib.hid h10; clear h10 H9
      go_wp2_with fail
      refine (dm_canon S (by have := HSl.out; omega) H10.out HC2.out).mono ?_
      rintro e w11 ⟨rfl, h11⟩
      have H11 := Lib.hid h11; clear h11 H10
      go_wp2_with fail
      refine (dm_read T (by have := HT.out; omega) H11.out HR2.out).mono ?_
      rintro e w12 ⟨A12, c12, rfl, h12⟩
      have h12b := h12.box V (.slice A12 L.length c12)
      obtain ⟨p1, p2⟩ := h12b.s w12.heap.size V (.slice A12 L.length c12) (by simp)
      obtain ⟨p3, p4⟩ := h12b.s g9 V (.slice A9 L.length c9) (by simp)
      have H12 := Lib.hid h12b; clear h12 H11 h12b
      go_wp2_with fail
      refine (dm_same V V H12.out (v := .slice A12 L.length c12) (v' := .slice A9 L.length c9) (L := L) (L' := L) (by simp) (by simp) (by have := HN2.out; omega) HZ2.out HZ2.out).mono ?_
      rintro e w13 ⟨rfl, h13⟩
      rw [decide_eq_true (show V = V ∧ L = L from ⟨rfl, rfl⟩)]
      have H13 := Lib.hid h13; clear h13 H12 p1 p2 p3 p4
      go_wp2_with fail
      refine (dm_awake H13.out).mono ?_
      rintro e w14 ⟨rfl, h14⟩
      have HB := Lib.hid h14.below
      clear h14 H13
      go_wp2_with fail
      go_ret
      exact ⟨rfl, HB.out⟩
end Go.Proofs.YtiicffceopiooaaGreatDoor.dimacsBack
