/- dimacs.Write. -/
import Derived.Test.YticcgmegimiegaaGreatDoorDmLine
import Derived.Test.YticcgmegimiegaaGreatDoorDmHeader
import Derived.Test.YticcgmegimiegaaGreatDoorFoFails
import Derived.Test.YticcgmegimiegaaGreatDoorSteady
namespace Go.Proofs.YticcgmegimiegaaGreatDoor
open Go.RowKit Go.ChangeAt Go.ChangeShapes Go.WideShapes Go.Shelf Go.Sort

/-- The lines of clauses; the text of a formula. -/
def linesF (L : List (List Int)) : List UInt8 := L.flatMap fun c => lineL c ++ [10]
def textF (V : Int) (L : List (List Int)) : List UInt8 := hdrL V L.length ++ [10] ++ linesF L
theorem cells_app (a b : List UInt8) : Lib.strCells (({ data := a.toArray } : ByteArray) ++ { data := b.toArray }) = Lib.byteCells (a ++ b) := by
  rw [Lib.strCells_eq, ByteArray.data_append]
  simp
theorem size_app (a b : List UInt8) : (({ data := a.toArray } : ByteArray) ++ { data := b.toArray }).size = a.length + b.length := by
  rw [ByteArray.size_append]
  show a.toArray.size + b.toArray.size = _
  simp
theorem line_len {c : List Int} (h : rightB c = true) : (lineL c).length ≤ 90200 := by
  have h1 := words_len c
  have h2 := (rightB_of h).1
  unfold lineL
  rw [List.length_append]
  simp only [List.length_cons, List.length_nil]
  omega
theorem linesF_snoc (L : List (List Int)) (c : List Int) : linesF (L ++ [c]) = linesF L ++ (lineL c ++ [10]) := by unfold linesF; simp
/-- Between two clauses: so many are written, which is not too much. -/
def WrRel (w : World) (V : Int) (L : List (List Int)) (b : Nat) (i : Value) (wr : World) : Prop := ∃ k : Nat, k ≤ L.length ∧ i = .int .i64 k ∧ (k = 0 ∨ (hdrL V L.length ++ [10] ++ linesF (L.take k)).length ≤ 4194304) ∧ Lib.IsBuilder 90 5 b b (Lib.byteCells (hdrL V L.length ++ [10] ++ linesF (L.take k))) wr ∧ b ≤ wr.heap.size ∧ Below w.heap.size w wr
theorem linesF_le (L : List (List Int)) (k : Nat) : (linesF (L.take k)).length ≤ (linesF L).length := by
  conv => rhs; rw [← List.take_append_drop k L]
  unfold linesF
  rw [List.flatMap_append, List.length_append]
  omega
/-- What is written. -/
def writeE (V : Int) (L : List (List Int)) : Ending :=
  if (chkI V L).2 = 0 then (if 4194304 < (textF V L).length ∧ L ≠ [] then .returned (.tuple #[.string ⟨#[]⟩, .int .i64 3]) else .returned (.tuple #[.string ⟨(textF V L).toArray⟩, .int .i64 0])) else .returned (.tuple #[.string ⟨#[]⟩, .int .i64 (chkI V L).2])
theorem hdr_len {v n : Int} (hv0 : 0 ≤ v) (hv1 : v ≤ 1048576) (hn0 : 0 ≤ n) (hn1 : n ≤ 262144) : (hdrL v n).length ≤ 100 := by
  have hl1 := Lib.itoa_length_le v (by omega) (by omega)
  have hl2 := Lib.itoa_length_le n (by omega) (by omega)
  unfold hdrL
  simp only [List.length_append, List.length_cons, List.length_nil]
  omega
set_option maxRecDepth 100000 in
set_option maxHeartbeats 2000000 in
theorem write_any {B : Nat} {v : Value} {L : List (List Int)} (V : Int) (w : World) (hB : B ≤ w.heap.size) (hn : L.length ≤ 1000000000) (hz : ∀ zs ∈ L, zs.length ≤ 1000000) (hL : RowsL B w v L) (ht : Tab w) :
    Calls Tryz.prog 18 #[.agg #[.int .i64 V, v]] w fun e w' => e = writeE V L ∧ Below w.heap.size w w' := by
  obtain ⟨A, cap, rfl, hat⟩ := rowsL_shape hL
  have hch := fun W hb => check_any V W (Nat.le_trans hB (Below.size (B := w.heap.size) hb)) hn hz (hL.below ((hb : Below w.heap.size w W).mono hB))
  have HCh := Lib.hid hch; have HT := Lib.hid ht; have HAt := Lib.hid hat
  clear hch ht hat hL
  go_enter Tryz.func18, Tryz.ntmps18
  go_wp2_with fail
  refine (HCh.out _ (Below.alloc (Below.refl _ w) (Nat.le_refl _) _)).mono ?_
  rintro e w2 ⟨rfl, hb2⟩
  have hm1 := (Whole.made w 24 #[.int .i64 V, .slice A L.length cap]).same (hb2.block _ (by simp))
  have hbw : Below w.heap.size w w2 := ((Below.refl _ w).alloc (Nat.le_refl _) _).trans (hb2.mono (by simp))
  obtain ⟨E, hE⟩ : ∃ E, (chkI V L).2 = E := ⟨_, rfl⟩
  obtain ⟨K, hK⟩ : ∃ K, (chkI V L).1 = K := ⟨_, rfl⟩
  have hok := fun h => chk_ok (vars := V) (L := L) h
  have hw : writeE V L = if E = 0 then (if 4194304 < (textF V L).length ∧ L ≠ [] then .returned (.tuple #[.string ⟨#[]⟩, .int .i64 3]) else .returned (.tuple #[.string ⟨(textF V L).toArray⟩, .int .i64 0])) else .returned (.tuple #[.string ⟨#[]⟩, .int .i64 E]) := by unfold writeE; rw [hE]
  have HWe := Lib.hid hw
  clear hw
  rw [hE] at hok ⊢
  rw [hK]
  have c0 : w2.cell? ⟨w.heap.size, 0, none⟩ = some (.int .i64 V) := hm1.cell 0
  have c1 : w2.cell? ⟨w.heap.size, 1, none⟩ = some (.slice A L.length cap) := hm1.cell 1
  have HM1 := Lib.hid hm1; have HBw := Lib.hid hbw; have HOk := Lib.hid hok
  clear hm1 hbw hb2 hok hE hK
  by_cases hE0 : E = 0
  · have hok := HOk.out hE0
    subst hE0
    have hwe0 := HWe.out
    rw [if_pos rfl] at hwe0
    have HWe0 := Lib.hid hwe0
    clear hwe0 HWe
    obtain ⟨hv0, hv1, hl, hr⟩ := hok
    obtain ⟨n, hnn⟩ : ∃ n, L.length = n := ⟨_, rfl⟩
    have HNn := Lib.hid hnn
    rw [hnn] at c1 hl hn
    have hr := fun zs hz => (hr zs hz).1
    have hhl := hdr_len hv0 hv1 (Int.natCast_nonneg n) (by omega)
    have HHl0 := Lib.hid hhl
    clear hhl
    have hhd := header_ok V n hv0 hv1 (by omega) (by omega) w2 (HT.out.below HBw.out)
    have HHd := Lib.hid hhd; have HR := Lib.hid hr
    clear hhd hr hnn
    go_wp2_with fail
    refine HHd.out.mono ?_
    rintro e w3 ⟨rfl, hb3⟩
    have hhl := HHl0.out
    obtain ⟨H, hH⟩ : ∃ H, hdrL V n = H := ⟨_, rfl⟩
    rw [hH] at hhl ⊢
    have hm3 := HM1.out.same (hb3.block _ HM1.out.lt)
    have hb3' := HBw.out.trans (hb3.mono HBw.out.size)
    have d1 : ∀ o, (w3.alloc o).cell? ⟨w.heap.size, 1, none⟩ = some (.slice A n cap) := fun o => by rw [← HNn.out]; exact (whole_alloc hm3 o).cell 1
    have hi0 := Lib.fresh_isBuilder 90 5 w3
    have HI0 := Lib.hid hi0; have HM3 := Lib.hid hm3; have HB3 := Lib.hid hb3'; have HH := Lib.hid hH; have HHl := Lib.hid hhl
    clear hi0 hm3 hb3' hb3 hH c0 c1
    have hwr := writeString_any w3.heap.size w3.heap.size [] (({ data := H.toArray } : ByteArray) ++ ({ data := [10].toArray } : ByteArray)) (w3.alloc (.cells #[.pointer none, .slice none 0 0] 90)) HI0.out (by rw [size_app]; simp only [List.length_nil, List.length_cons]; omega) (by simp)
    rw [cells_app, List.nil_append] at hwr
    have HWr := Lib.hid hwr
    clear hwr
    go_wp2_with fail
    refine HWr.out.mono ?_
    rintro e w4 ⟨rfl, hba, hb4⟩
    have hb4' := (HB3.out.alloc HB3.out.size (.cells #[.pointer none, .slice none 0 0] 90)).trans (hb4.mono HB3.out.size)
    have hst : WrRel w V L w3.heap.size (.int .i64 0) w4 := ⟨0, Nat.zero_le _, rfl, .inl rfl, by rw [HNn.out, HH.out, List.take_zero, show linesF [] = [] from rfl, List.append_nil]; exact .inr hba, by have := hb4.size; exact Nat.le_trans (by simp) this, hb4'⟩
    have HSt := Lib.hid hst
    have e1 : w4.cell? ⟨w.heap.size, 1, none⟩ = some (.slice A n cap) := by
      rw [← HNn.out]
      exact ((whole_alloc HM3.out _).same (hb4.block _ (by have := HM3.out.lt; exact this))).cell 1
    clear hba hb4 hb4' hst d1
    obtain ⟨b3, hb3⟩ : ∃ x, w3.heap.size = x := ⟨_, rfl⟩
    have hw3 : w.heap.size ≤ b3 := by rw [← hb3]; exact HB3.out.size
    rw [hb3] at HSt
    rw [hb3]
    have HB30 := Lib.hid hw3
    clear hb3 hw3
    go_wp2_with fail
    go_loopw [36] (fun i wr => WrRel w V L b3 i wr) (fun i _ => n - (intOf i).toNat)
    case atStart => exact HSt.out
    case round =>
      clear HSt e1
      obtain ⟨k, hk, rfl, hlen, hib, hbs, hbw⟩ := hrel
      have hk : k ≤ n := HNn.out ▸ hk
      obtain ⟨P, hP⟩ : ∃ P, hdrL V L.length ++ [10] ++ linesF (L.take k) = P := ⟨_, rfl⟩
      rw [hP] at hlen hib
      have hPl : P.length ≤ 4194304 := by
        rcases hlen with rfl | h
        · rw [← hP, HNn.out, HH.out, List.take_zero, show linesF [] = [] from rfl]; simp; omega
        · exact h
      by_cases hlt : k < n
      · obtain ⟨c, hc⟩ : ∃ c, L[k]? = some c := ⟨_, List.getElem?_eq_getElem (by have := HNn.out; omega)⟩
        obtain ⟨b, off, As, cs, rfl, hbl, hcell, hLi⟩ := HAt.out k c hc
        have hcr := (hbw.cell (p := ⟨b, off + k, none⟩) (by dsimp only; omega)).trans hcell
        have hrc := HR.out c (List.mem_of_getElem? hc)
        have hln := line_ok (.slice As c.length cs) c hrc wr ((hLi.below (hbw.mono hB)).ints.more (Nat.le_trans hB hbw.size)) (HT.out.below hbw)
        have hll := line_len hrc
        obtain ⟨T, hT⟩ : ∃ T, lineL c = T := ⟨_, rfl⟩
        have hsn : hdrL V L.length ++ [10] ++ linesF (L.take (k + 1)) = P ++ (T ++ [10]) := by rw [List.take_add_one, hc, ← hP, ← hT]; simp only [Option.toList_some]; rw [linesF_snoc]; simp only [List.append_assoc]
        rw [hT] at hln hll
        have hki : (k : Int) < (n : Int) := by omega
        have HLn := Lib.hid hln; have HSn := Lib.hid hsn; have HLt := Lib.hid hlt; have HIb := Lib.hid hib; have HBw := Lib.hid hbw; have HPl := Lib.hid hPl; have HTl := Lib.hid hll; have HBs := Lib.hid hbs
        clear hln hsn hlt hib hbw hPl hll hc hcell hLi hT hP hrc hlen hbl hbs
        go_wp2_with fail
        refine HLn.out.mono ?_
        rintro e w1 ⟨rfl, hb1⟩
        have hwr := writeString_any b3 b3 _ (({ data := T.toArray } : ByteArray) ++ ({ data := [10].toArray } : ByteArray)) w1 (builder_on HIb.out hb1) (by have := HPl.out; have := HTl.out; rw [Lib.byteCells_length, size_app]; simp only [List.length_cons, List.length_nil]; omega) (Nat.le_trans HBs.out hb1.size)
        rw [cells_app, ← Lib.byteCells_append, ← HSn.out] at hwr
        have hbs1 := Nat.le_trans HBs.out hb1.size
        have HWr := Lib.hid hwr; have HB1 := Lib.hid (HBw.out.trans (hb1.mono HBw.out.size)); have HBs1 := Lib.hid hbs1
        have hll := HTl.out
        clear hwr hb1 hbs1
        go_wp2_with fail
        refine HWr.out.mono ?_
        rintro e w2' ⟨rfl, hba, hb2⟩
        have hbs2 := Nat.le_trans HBs1.out hb2.size
        have hbw2 := HB1.out.trans (hb2.mono HB30.out)
        have hle := Tryz.Builder_Len_f50 b3 b3 _ w2' (.inr hba)
        rw [Lib.byteCells_length] at hle
        obtain ⟨m, hm⟩ : ∃ m, (hdrL V L.length ++ [10] ++ linesF (L.take (k + 1))).length = m := ⟨_, rfl⟩
        rw [hm] at hle
        have HLe := Lib.hid hle; have HM := Lib.hid hm; have HBa := Lib.hid hba; have HBs2 := Lib.hid hbs2; have HBw2 := Lib.hid hbw2
        have hml : m ≤ 4294600 := by
          rw [← hm, HSn.out]
          have := HPl.out; have := HTl.out
          simp only [List.length_append, List.length_cons, List.length_nil]
          omega
        clear hle hm hba hb2 hbs2 hbw2
        go_wp2_with fail
        refine HLe.out.mono ?_
        rintro e w3' ⟨rfl, rfl⟩
        by_cases hbig : 4194304 < m
        · have hbi : (4194304 : Int) < (m : Int) := by omega
          go_wp2_with fail
          go_ret2
          have hw : writeE V L = .returned (.tuple #[.string ⟨#[]⟩, .int .i64 3]) := by
            have h1 := linesF_le L (k + 1)
            have h2 := HM.out
            rw [HWe0.out, if_pos ⟨by unfold textF; simp only [List.length_append, List.length_cons, List.length_nil] at h2 ⊢; omega, fun e => by have := HLt.out; have := HNn.out; rw [e] at this; simp at this; omega⟩]
          exact ⟨by rw [hw]; rfl, HBw2.out⟩
        · have hbi : ¬ (4194304 : Int) < (m : Int) := by omega
          go_wp2_with fail
          go_roundw
          case rel => rw [show (k : Int) + 1 = ((k + 1 : Nat) : Int) from rfl]; exact ⟨k + 1, by have := HLt.out; have := HNn.out; omega, rfl, .inr (by have := HM.out; omega), .inr HBa.out, HBs2.out, HBw2.out⟩
          case measure => simp [intOf]; have := HLt.out; omega
      · obtain rfl : k = n := by omega
        have hPt : P = textF V L := by rw [← hP, List.take_of_length_le (by have := HNn.out; omega)]; rfl
        rw [hPt] at hib hlen
        have hw : writeE V L = .returned (.tuple #[.string ⟨(textF V L).toArray⟩, .int .i64 0]) := by
          rw [HWe0.out, if_neg]
          rintro ⟨h1, h2⟩
          rcases hlen with h | h
          · exact h2 (List.eq_nil_of_length_eq_zero (by have := HNn.out; omega))
          · omega
        have hst := Tryz.Builder_String_any_f51 b3 b3 (textF V L) wr hib hbs
        have HSt2 := Lib.hid hst; have HW := Lib.hid hw; have HBw3 := Lib.hid hbw
        clear hst hw hbw hib hlen hPt hP hPl hlt hbs
        go_wp2_with fail
        refine HSt2.out.mono ?_
        rintro e w5 ⟨rfl, hb5⟩
        have HB5 := Lib.hid (HBw3.out.trans (hb5.mono HB30.out))
        clear hb5
        go_wp2_with fail
        go_ret2
        exact ⟨by rw [HW.out]; rfl, HB5.out⟩
  · have hEb : (E != 0) = true := by simpa using hE0
    go_wp2_with fail
    go_ret2
    exact ⟨by rw [HWe.out, if_neg hE0]; rfl, HBw.out⟩
end Go.Proofs.YticcgmegimiegaaGreatDoor
