/- The law DimacsLines: its walk. -/
import Derived.Test.YtiicffceopiooaaGreatDoorDmAwakeWalk
import Derived.Test.YtiicffceopiooaaGreatDoorDmCut
import Derived.Test.YtiicffceopiooaaGreatDoorDmLaw
import Derived.Lib.Fields
namespace Go.Proofs.YtiicffceopiooaaGreatDoor.dimacsLines
open Go.RowKit Go.ChangeAt Go.ChangeShapes Go.WideShapes Go.Shelf Go.Sort

/-- What is laid for this law. -/
structure EnvL (w : World) : Prop where
  env : Env w
  sp : Lib.TabIs Tryz.prog w "strings.asciiSpace" .u8 Lib.asciiSpaceTab
theorem gSp : Tryz.prog.globalNamed "strings.asciiSpace" = some 0 := by kernel_rfl
theorem sp_below {w w' : World} (h : Lib.TabIs Tryz.prog w "strings.asciiSpace" .u8 Lib.asciiSpaceTab) (hb : Below w.heap.size w w') : Lib.TabIs Tryz.prog w' "strings.asciiSpace" .u8 Lib.asciiSpaceTab := var_below gSp h hb
/-- A word without blanks. -/
def NoSp (x : List UInt8) : Prop := ∀ b ∈ x, Lib.isSp b = false
theorem fields_word : ∀ (x cur l : List UInt8), NoSp x → Lib.fieldsGo cur (x ++ l) = Lib.fieldsGo (cur ++ x) l
  | [], cur, l, _ => by rw [List.nil_append, List.append_nil]
  | b :: x, cur, l, h => by
    rw [List.cons_append, Lib.fieldsGo, h b (by simp)]
    have := fields_word x (cur ++ [b]) l (fun y hy => h y (by simp [hy]))
    simpa using this
theorem text_byte {l : Int} {b : UInt8} (h : b ∈ textL l) : b.toNat = 45 ∨ 48 ≤ b.toNat ∧ b.toNat ≤ 57 := by
  by_cases h1 : b.toNat = 45
  · exact .inl h1
  · by_cases h2 : b.toNat < 48 ∨ 57 < b.toNat
    · exact absurd h (text_free h1 h2 l)
    · exact .inr (by omega)
theorem sp_no {b : UInt8} (h : b.toNat = 45 ∨ 48 ≤ b.toNat ∧ b.toNat ≤ 57) : Lib.isSp b = false := by
  have key : ∀ n : Nat, n < 256 → (n = 45 ∨ 48 ≤ n ∧ n ≤ 57) → Lib.isSp (UInt8.ofNat n) = false := by decide +kernel
  have := key b.toNat b.toNat_lt h
  rwa [UInt8.ofNat_toNat] at this
theorem text_nosp (l : Int) : NoSp (textL l) := fun _ hb => sp_no (text_byte hb)
theorem fields_line : ∀ c : List Int, (∀ l ∈ c, litB l = true) → (Lib.fields (lineL c)).length = c.length + 1
  | [], _ => by decide
  | l :: c, h => by
    have hne := text_not (h l (by simp))
    have h1 := fields_line c (fun y hy => h y (by simp [hy]))
    have e : lineL (l :: c) = textL l ++ 32 :: lineL c := by unfold lineL wordsL; simp
    unfold Lib.fields at h1 ⊢
    rw [e, fields_word _ _ _ (text_nosp l), List.nil_append, Lib.fieldsGo, show Lib.isSp 32 = true by decide]
    rw [if_pos rfl, if_neg (by simpa using hne), List.length_cons, h1, List.length_cons]
theorem line_ascii {c : List Int} {b : UInt8} (h : b ∈ lineL c) : b.toNat < 128 := by
  unfold lineL wordsL at h
  simp only [List.mem_append, List.mem_flatMap, List.mem_cons, List.not_mem_nil, or_false] at h
  rcases h with ⟨l, -, h | rfl⟩ | rfl
  · have := text_byte h; omega
  · decide
  · decide
/-- Between two clauses. -/
def LnRel (w : World) (L : List (List Int)) (H : List UInt8) (t i : Value) (wr : World) : Prop := ∃ k : Nat, k ≤ L.length ∧ i = .int .i64 k ∧ t = str (H ++ [10] ++ linesF (L.take k)) ∧ Below w.heap.size w wr
theorem line_small {zs : List Int} (h : Cl8 zs) : (lineL zs).length ≤ 500 := by
  have h1 := words_len zs
  have h2 := h.1
  unfold lineL
  rw [List.length_append, List.length_singleton]
  omega
set_option maxRecDepth 100000 in
set_option maxHeartbeats 2000000 in
theorem dimacsLines_walk (v0 : Value) (z0 : List (List Int)) (_hl0 : z0.length ≤ maxLen) (hw0 : ∀ zs ∈ z0, zs.length ≤ maxLen ∧ ∀ x ∈ zs, (Lit.int .u8 x).wf = true) (W : World) (hz0 : Rows2 .u8 W.heap.size W v0 z0) (hE : EnvL W) :
    Calls Tryz.prog 8 #[v0] W fun e W' => e = .returned (.bool true) ∧ Below W.heap.size W W' := by
  obtain ⟨he, hsp⟩ := hE
  have m0 := fun w fs ss h => dm_made (v := v0) (w := W) (W := w) (fs := fs) (ss := ss) h hw0 hz0
  have hcl := madeF_cl (zss := z0)
  have hn := madeF_len z0
  have hT := made_len z0
  have hw := made_write z0
  have hz := short_made (zss := z0)
  obtain ⟨L, hL⟩ : ∃ L, madeF z0 = L := ⟨_, rfl⟩
  simp only [hL] at m0
  rw [hL] at hcl hn hT hw hz
  obtain ⟨hp1, hp2, hp3⟩ := prs_hdr (v := 8) (n := (L.length : Int)) (by omega) (by omega) (by omega) (by omega)
  obtain ⟨H, hH⟩ : ∃ H, hdrL 8 (L.length : Int) = H := ⟨_, rfl⟩
  have hHl := hdr_len (v := 8) (n := (L.length : Int)) (by omega) (by omega) (by omega) (by omega)
  rw [hH] at hp1 hp2 hp3 hHl
  have hpre : ∀ k, (H ++ [10] ++ linesF (L.take k)).length ≤ 20000 := fun k => by
    have := linesF_le L k
    rw [← hH]
    unfold textF at hT
    simp only [List.length_append, List.length_cons, List.length_nil] at hT ⊢
    omega
  obtain ⟨T, hTe⟩ : ∃ T, textF 8 L = T := ⟨_, rfl⟩
  have hfull : H ++ [10] ++ linesF L = T := by rw [← hTe, ← hH]; rfl
  rw [hTe] at hT hw
  have hph := fun w he => parseHeader_any H (by omega) w he
  simp only [hp1, hp2, hp3, if_pos] at hph
  have M0 := Lib.hid m0; have HCl := Lib.hid hcl; have HW := Lib.hid hw; have HZ := Lib.hid hz; have HH := Lib.hid hH; have HPre := Lib.hid hpre; have HFull := Lib.hid hfull; have HPh := Lib.hid hph; have H0 := Lib.hid (Dm.start W he); have HSp := Lib.hid hsp; have HTl := Lib.hid hT
  clear m0 hcl hw hz hH hpre hfull hph he hsp hT hL hTe hp1 hp2 hp3 hw0
  obtain ⟨A', c', rfl, -⟩ := Rows2.shape hz0
  clear hz0
  go_enter Tryz.func8, Tryz.ntmps8
  go_wp2_with fail
  refine (M0.out _ _ _ H0.out).mono ?_
  rintro e w1 ⟨A1, c1, rfl, h1⟩
  have h1b := h1.box 8 (.slice A1 L.length c1)
  have H1 := Lib.hid h1b; clear h1 H0 h1b
  go_wp2_with fail
  obtain ⟨g, hg⟩ : ∃ x, w1.heap.size = x := ⟨_, rfl⟩
  obtain ⟨W1, hW1⟩ : ∃ x, w1.alloc (.cells #[.int .i64 8, .slice A1 L.length c1] 24) = x := ⟨_, rfl⟩
  rw [hg, hW1] at H1
  rw [hg, hW1]
  clear hg hW1
  refine (dm_write 8 H1.out (v := .slice A1 L.length c1) (L := L) (by simp) (by omega) HZ.out HW.out).mono ?_
  rintro e w2 ⟨rfl, h2⟩
  obtain ⟨p1, p2⟩ := h2.s g 8 (.slice A1 L.length c1) (by simp)
  have H2 := Lib.hid h2; clear h2 H1
  go_wp2_with fail
  refine (dm_header 8 (L.length : Int) (by omega) (by omega) (by omega) (by omega) H2.out HH.out).mono ?_
  rintro e w3 ⟨rfl, h3⟩
  clear p1 p2
  obtain ⟨p1, p2⟩ := h3.s g 8 (.slice A1 L.length c1) (by simp)
  have H3 := Lib.hid h3; clear h3 H2
  go_wp2_with fail
  go_loopw [8, 40] (fun t i wr => LnRel w3 L H t i wr) (fun _ i _ => L.length - (intOf i).toNat)
  case atStart => exact ⟨0, Nat.zero_le _, rfl, by rw [List.take_zero, show linesF [] = [] from rfl, List.append_nil]; exact congrArg Value.string (str_app H [10]), Below.refl _ _⟩
  case round =>
    obtain ⟨k, hk, rfl, rfl, hbr⟩ := hrel
    clear p1 p2
    by_cases hlt : k < L.length
    · obtain ⟨c, hc⟩ : ∃ c, L[k]? = some c := ⟨_, List.getElem?_eq_getElem hlt⟩
      obtain ⟨A, cap, hv, hat⟩ := rowsL_shape (H3.out.f (v := .slice A1 L.length c1) (L := L) (by simp))
      injection hv with hA1 _ hc1
      subst hA1
      subst hc1
      obtain ⟨b, off, As, cs, rfl, hbl, hcell, hLi⟩ := hat k c hc
      have hcr := (hbr.cell (p := ⟨b, off + k, none⟩) hbl).trans hcell
      have hc8 := HCl.out c (List.mem_of_getElem? hc)
      have hln := line_ok (.slice As c.length cs) c hc8.right wr ((hLi.below hbr).ints.more hbr.size) (H3.out.on hbr).env.tab
      have hll := line_small hc8
      have hfl := fields_line c (fun l hl => (cl_okC hc8).2 l hl |>.1)
      have hfi := fun (w : World) (hb : Below wr.heap.size wr w) => Tryz.strings_Fields_f29 ⟨(lineL c).toArray⟩ w (by rw [str_size]; omega) (fun j b hb => line_ascii (c := c) (by rw [str_list] at hb; exact List.mem_of_getElem? hb)) (sp_below HSp.out ((H3.out.on hbr).below.trans (hb.mono (H3.out.on hbr).below.size)))
      simp only [str_list, hfl] at hfi
      have hcl20 : c.length ≤ 20 := hc8.1
      have hpl := HPre.out k
      have hsn : H ++ [10] ++ linesF (L.take (k + 1)) = H ++ [10] ++ linesF (L.take k) ++ (lineL c ++ [10]) := by rw [List.take_add_one, hc]; simp only [Option.toList_some]; rw [linesF_snoc]; simp only [List.append_assoc]
      obtain ⟨X, hX⟩ : ∃ X, H ++ [10] ++ linesF (L.take k) = X := ⟨_, rfl⟩
      obtain ⟨Y, hY⟩ : ∃ Y, lineL c = Y := ⟨_, rfl⟩
      rw [hX, hY] at hsn
      rw [hX] at hpl
      rw [hY] at hll hln
      rw [hX]
      simp only [hY] at hfi
      have hki : (k : Int) < (L.length : Int) := by omega
      have HLn := Lib.hid hln; have HFi := Lib.hid hfi; have HSn := Lib.hid hsn; have HLt := Lib.hid hlt; have HBr := Lib.hid hbr
      clear hln hfi hsn hlt hbr hc hcell hLi hfl hX hY hat hbl hc8
      go_wp2_with fail
      refine HLn.out.mono ?_
      rintro e w4 ⟨rfl, hb4⟩
      have HB4 := Lib.hid hb4
      clear hb4
      go_wp2_with fail
      refine (HFi.out _ HB4.out).mono ?_
      rintro e w5 ⟨rfl, hw5⟩
      have HB5 : Hid (Below w3.heap.size w3 w5) := Lib.hid (by rw [hw5]; exact ((HBr.out.trans (HB4.out.mono HBr.out.size)).alloc (Nat.le_trans HBr.out.size HB4.out.size) _))
      clear hw5
      go_wp2_with fail
      go_roundw
      case rel => exact ⟨k + 1, HLt.out, by go_num, by rw [HSn.out]; exact congrArg Value.string ((congrArg (_ ++ ·) (str_app Y [10])).trans (str_app X (Y ++ [10]))), HB5.out⟩
      case measure => simp [intOf]; have := HLt.out; omega
    · obtain rfl : k = L.length := by omega
      rw [List.take_length, HFull.out]
      have h6 := H3.out.on hbr
      obtain ⟨p1, p2⟩ := h6.s g 8 (.slice A1 L.length c1) (by simp)
      have H6 := Lib.hid h6
      clear h6 hbr hlt hk
      go_wp2_with fail
      refine (HPh.out _ H6.out.env).mono ?_
      rintro e w7 ⟨rfl, hb7⟩
      have h7 := H6.out.on hb7
      clear p1 p2
      obtain ⟨p1, p2⟩ := h7.s g 8 (.slice A1 L.length c1) (by simp)
      have H7 := Lib.hid h7
      clear h7 hb7 H6
      go_wp2_with fail
      refine (dm_awake H7.out).mono ?_
      rintro e w8 ⟨rfl, h8⟩
      have HB := Lib.hid h8.below
      clear h8 H7 p1 p2
      go_wp2_with fail
      go_ret
      exact ⟨rfl, HB.out⟩
theorem gSpType : (Tryz.prog.globals[0]?).map (·.type) = some 116 := by kernel_rfl
theorem envL_of {W : World} (h : laidMetH Tryz.prog Rows.dimacsLinesRow.laid W) : EnvL W := by
  rw [MakeChecks.laidMetH_plain _ _ _ (by kernel_rfl)] at h
  have e : (Rows.laid_strings_asciiSpace : DataW Unit) = Lib.tabData .u8 Lib.asciiSpaceTab := by kernel_rfl
  have h7 : laidMet Tryz.prog (("strings.asciiSpace", Rows.laid_strings_asciiSpace) :: [("unicode/utf8.first", Rows.laid_unicode_utf8_first)]) W := h.tail.tail.tail.tail.tail.tail.tail
  rw [e] at h7
  exact ⟨env_laid h, Lib.tabIs_of_head gSp gSpType Tryz.underlying116 Tryz.underlying5 (by kernel_rfl) (by kernel_rfl) h7⟩
end Go.Proofs.YtiicffceopiooaaGreatDoor.dimacsLines
