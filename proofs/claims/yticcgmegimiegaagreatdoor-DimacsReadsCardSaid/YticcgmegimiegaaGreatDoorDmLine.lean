/- dimacs.Line. -/
import Derived.Test.YticcgmegimiegaaGreatDoorDmBuilder
import Derived.Test.YticcgmegimiegaaGreatDoorDmHeader
import Derived.Test.YticcgmegimiegaaGreatDoorRight
namespace Go.Proofs.YticcgmegimiegaaGreatDoor
open Go.RowKit Go.ChangeAt Go.ChangeShapes Go.WideShapes Go.Shelf Go.Sort

/-- The words of a clause, a space behind each; its line. -/
def wordsL (c : List Int) : List UInt8 := c.flatMap fun l => textL l ++ [32]
def lineL (c : List Int) : List UInt8 := wordsL c ++ [48]
theorem wordsL_snoc (c : List Int) (l : Int) : wordsL (c ++ [l]) = wordsL c ++ (textL l ++ [32]) := by unfold wordsL; simp
theorem text_len (l : Int) : (textL l).length ≤ 21 := by
  unfold textL
  split
  · rename_i h
    have := litB_of h
    exact Lib.itoa_length_le l (by omega) (by omega)
  · simp
theorem words_len : ∀ c : List Int, (wordsL c).length ≤ 22 * c.length
  | [] => Nat.le_refl _
  | l :: c => by
    have := words_len c
    have := text_len l
    have e : wordsL (l :: c) = textL l ++ [32] ++ wordsL c := by unfold wordsL; simp
    rw [e, List.length_append, List.length_append, List.length_cons]
    simp only [List.length_cons, List.length_nil]
    omega
/-- A builder is as it was where all that lay there is. -/
theorem builder_on {T e : TypeId} {B b : Nat} {bs : List Value} {w w' : World} (h : Lib.IsBuilder T e B b bs w) (hb : Below w.heap.size w w') : Lib.IsBuilder T e B b bs w' := by
  have hg : w.grownBy w' none := ⟨hb.os, hb.tape, hb.output, hb.size, fun k hk _ => hb.block k hk⟩
  have key : ∀ p, Lib.BuilderAt T e B b p bs w → Lib.BuilderAt T e B b p bs w' := fun p h => by
    obtain ⟨h1, v, h2, h3, h4⟩ := h
    exact ⟨h1, v, (hb.block b (Array.getElem?_eq_some_iff.1 h2).1).trans h2, h3.kept hg (by cases v.ownBlock <;> simp), h4⟩
  rcases h with h | h
  · exact .inl (key _ h)
  · exact .inr (key _ h)
def LnRel (w : World) (c : List Int) (b : Nat) (i : Value) (wr : World) : Prop := ∃ k : Nat, k ≤ c.length ∧ i = .int .i64 k ∧ Lib.IsBuilder 90 5 b b (Lib.byteCells (wordsL (c.take k))) wr ∧ Below w.heap.size w wr
set_option maxRecDepth 100000 in
set_option maxHeartbeats 1000000 in
theorem line_ok (sv : Value) (c : List Int) (hr : rightB c = true) (w : World) (hI : Ints w.heap.size w sv c) (ht : Tab w) :
    Calls Tryz.prog 28 #[sv] w fun e w' => e = .returned (.tuple #[.string ⟨(lineL c).toArray⟩, .int .i64 0]) ∧ Below w.heap.size w w' := by
  have hcl := (rightB_of hr).1
  have h1 := clright_any w.heap.size sv c (by omega) w hI
  rw [hr] at h1
  obtain ⟨A, cap, rfl, hat⟩ := ints_shape hI
  have HT := Lib.hid ht; have H1 := Lib.hid h1; have HAt := Lib.hid hat
  clear ht h1 hat hI hr
  go_enter Tryz.func28, Tryz.ntmps28
  go_wp2_with fail
  refine H1.out.mono ?_
  rintro e w' ⟨rfl, rfl⟩
  obtain ⟨m, hm⟩ : ∃ x, c.length = x := ⟨_, rfl⟩
  have HM := Lib.hid hm
  have hb0 : Below w.heap.size w (w.alloc (.cells #[.pointer none, .slice none 0 0] 90)) := (Below.refl _ w).alloc (Nat.le_refl _) _
  have hi0 := Lib.fresh_isBuilder 90 5 w
  have H0 := Lib.hid (And.intro hi0 hb0)
  rw [hm] at hcl ⊢
  clear hm hb0 hi0
  go_wp2_with fail
  go_loopw [12] (fun i wr => LnRel w c w.heap.size i wr) (fun i _ => m - (intOf i).toNat)
  case atStart => exact ⟨0, Nat.zero_le _, rfl, H0.out.1, H0.out.2⟩
  case round =>
    obtain ⟨k, hk, rfl, hib, hbw⟩ := hrel
    by_cases hlt : k < m
    · obtain ⟨l, hl⟩ : ∃ l, c[k]? = some l := ⟨_, List.getElem?_eq_getElem (by have := HM.out; omega)⟩
      obtain ⟨b, off, rfl, hbl, hcell⟩ := HAt.out k (by have := HM.out; omega)
      rw [hl] at hcell
      have hcell : w.cell? ⟨b, off + k, none⟩ = some (.int .i64 l) := hcell
      have hcr := (hbw.cell (p := ⟨b, off + k, none⟩) hbl).trans hcell
      have htx := text_any l wr (HT.out.below hbw)
      have hsn : wordsL (c.take (k + 1)) = wordsL (c.take k) ++ (textL l ++ [32]) := by rw [List.take_add_one, hl]; exact wordsL_snoc _ _
      have hwl := words_len (c.take k)
      rw [List.length_take] at hwl
      have htl := text_len l
      have hki : (k : Int) < (m : Int) := by omega
      obtain ⟨T1, hT1⟩ : ∃ x, textL l = x := ⟨_, rfl⟩
      rw [hT1] at htx hsn htl
      have HTx := Lib.hid htx; have HSn := Lib.hid hsn; have HLt := Lib.hid hlt; have HIb := Lib.hid hib; have HBw := Lib.hid hbw
      clear htx hsn hlt hib hbw hcell hl hT1 H0 hbl
      go_wp2_with fail
      refine HTx.out.mono ?_
      rintro e w1 ⟨rfl, hb1⟩
      have hsz : (({ data := T1.toArray } : ByteArray) ++ { data := #[32] }).size = T1.length + 1 := by rw [ByteArray.size_append]; rfl
      have hsc : Lib.strCells (({ data := T1.toArray } : ByteArray) ++ { data := #[32] }) = Lib.byteCells (T1 ++ [32]) := by
        rw [Lib.strCells_eq, ByteArray.data_append]
        simp
      have hwr := writeString_any w.heap.size w.heap.size _ (({ data := T1.toArray } : ByteArray) ++ { data := #[32] }) w1 (builder_on HIb.out hb1) (by rw [Lib.byteCells_length, hsz]; omega) (by have := HBw.out.size; have := hb1.size; omega)
      rw [hsc, ← Lib.byteCells_append, ← HSn.out] at hwr
      have HWr := Lib.hid hwr; have HB1 := Lib.hid (HBw.out.trans (hb1.mono HBw.out.size))
      clear hwr hsc hsz hb1
      go_wp2_with fail
      refine HWr.out.mono ?_
      rintro e w2 ⟨rfl, hba, hb2⟩
      have hre := (⟨k + 1, by have := HLt.out; have := HM.out; omega, rfl, .inr hba, HB1.out.trans hb2⟩ : LnRel w c w.heap.size (.int .i64 ((k + 1 : Nat) : Int)) w2)
      have HRe := Lib.hid hre
      clear hba hb2 hre
      go_wp2_with fail
      go_roundw
      case rel => rw [show (k : Int) + 1 = ((k + 1 : Nat) : Int) from rfl]; exact HRe.out
      case measure => simp [intOf]; have := HLt.out; omega
    · obtain rfl : k = m := by have := HM.out; omega
      have hall : c.take k = c := List.take_of_length_le (by have := HM.out; omega)
      rw [hall] at hib
      have hwl := words_len c
      have hwr := writeString_any w.heap.size w.heap.size _ (⟨#[48]⟩ : ByteArray) wr hib (by rw [Lib.byteCells_length, show (⟨#[48]⟩ : ByteArray).size = 1 from rfl]; have := HM.out; omega) hbw.size
      rw [show Lib.strCells (⟨#[48]⟩ : ByteArray) = Lib.byteCells [48] from rfl, ← Lib.byteCells_append] at hwr
      have HWr := Lib.hid hwr; have HBw := Lib.hid hbw
      clear hwr hib hall H0 hbw hlt hwl
      go_wp2_with fail
      refine HWr.out.mono ?_
      rintro e w2 ⟨rfl, hba, hb2⟩
      have hbx := HBw.out.trans hb2
      have hst := Tryz.Builder_String_any_f51 w.heap.size w.heap.size (lineL c) w2 (.inr hba) hbx.size
      have HSt := Lib.hid hst; have HBx := Lib.hid hbx
      clear hst hbx hba hb2
      go_wp2_with fail
      refine HSt.out.mono ?_
      rintro e w3 ⟨rfl, hb3⟩
      have HB3 := Lib.hid (HBx.out.trans hb3)
      clear hb3
      go_wp2_with fail
      go_ret2
      exact ⟨rfl, HB3.out⟩
set_option maxRecDepth 100000 in
set_option maxHeartbeats 1000000 in
theorem line_bad (sv : Value) (c : List Int) (hc : c.length ≤ 1000000000) (hr : rightB c = false) (w : World) (hI : Ints w.heap.size w sv c) :
    Calls Tryz.prog 28 #[sv] w fun e w' => e = .returned (.tuple #[.string ⟨#[]⟩, .int .i64 20]) ∧ w' = w := by
  have h1 := clright_any w.heap.size sv c (by omega) w hI
  rw [hr] at h1
  obtain ⟨A, cap, rfl, -⟩ := ints_shape hI
  have H1 := Lib.hid h1
  clear h1 hI hr
  go_enter Tryz.func28, Tryz.ntmps28
  go_wp2_with fail
  refine H1.out.mono ?_
  rintro e w' ⟨rfl, rfl⟩
  go_wp2_with fail
  go_ret2
  exact ⟨rfl, rfl⟩
end Go.Proofs.YticcgmegimiegaaGreatDoor
