/- salvorlaw05.Bits; salvorref05.Model. -/
/- The law FormulaModels: its mathematics. -/
import Derived.Test.YtgoflapolglfcaaGreatFoContains
import Derived.Test.YtgoflapolglfcaaGreatRefHolds
import Derived.Test.YtgoflapolglfcaaGreatConv
import Derived.Deep.OwnRows
import Derived.Test.YtgoflapolglfcaaGreatFoAwake
import Derived.Test.YtgoflapolglfcaaGreatEqualIntF
namespace Go.Proofs.YtgoflapolglfcaaGreat
open Go.RowKit Go.ChangeAt Go.ChangeShapes Go.WideShapes Go.Shelf Go.Sort

def BtRel (w : World) (bs : List Bool) (own i : Value) (wr : World) : Prop :=
  ∃ (k : Nat) (o : Value), o = own ∧ k ≤ bs.length ∧ i = .int .i64 k ∧ wr.ownsRow w.heap.size 3 1 o k (((bs.map b2i).take k).map (Value.int .i64)) ∧ Below w.heap.size w wr
set_option maxRecDepth 100000 in
set_option maxHeartbeats 2000000 in
theorem bits_any {B : Nat} {mv : Value} {bs : List Bool} (hl : bs.length ≤ 1000000) (w : World) (hB : B ≤ w.heap.size) (hm : Bools B w mv bs) : Calls Tryz.prog 12 #[mv] w (GivesE 3 w (bs.map b2i)) := by
  obtain ⟨i0, hi, hz0, hz1, hz2⟩ := info_parts infoInt
  obtain ⟨A, cap, rfl, hc⟩ := bools_shape hm
  have HC := Lib.hid hc; clear hc hm
  go_enter Tryz.func12, Tryz.ntmps12
  go_wp2_with fail
  go_loopw [3, 9] (fun own i wr => BtRel w bs own i wr) (fun _ i _ => bs.length - (intOf i).toNat)
  case atStart => exact ⟨0, _, rfl, by omega, rfl, World.ownsRow_nil _ _ _ _, Below.refl _ _⟩
  case round =>
    obtain ⟨k, own, rfl, hk, rfl, hrow, hbw⟩ := hrel
    by_cases hlt : k < bs.length
    · obtain ⟨b, off, rfl, hb, hck⟩ := HC.out k hlt
      have hck : wr.cell? ⟨b, off + k, none⟩ = some (.bool (bs[k]?.getD false)) := (hbw.cell (p := ⟨b, off + k, none⟩) (Nat.lt_of_lt_of_le hb hB)).trans hck
      have htk : ((bs.map b2i).take (k + 1)).map (Value.int .i64) = ((bs.map b2i).take k).map (Value.int .i64) ++ [Value.int .i64 (b2i (bs[k]?.getD false))] := by
        rw [List.take_add_one, List.getElem?_map, List.getElem?_eq_getElem hlt]
        simp
      obtain ⟨x, hx⟩ : ∃ x, bs[k]?.getD false = x := ⟨_, rfl⟩
      rw [hx] at hck htk
      clear hx
      have HR := Lib.hid hrow; have HT := Lib.hid htk; clear hrow htk
      cases x
      · go_wp2_with (at_builtin; refine wpList_append_own _ rfl _ _ 22 rfl w.heap.size 3 i0 (.int .i64 0) 1 8 Tryz.underlying22 hi hz0 hz1 hz2 rfl (by decide) _ _ _ rfl (HR.out.alloc _) ⟨wr.heap.size, 0, none⟩ 1 1 [.int .i64 0] rfl rfl (cell_one_new _ _ _) (by simp [Value.oneCell']) (by unfold maxLen; omega) (by omega) (by have := hbw.size; simp; omega) ?_; intro v' w2 hown' hgrow _)
        have hbn : Below w.heap.size w w2 := by
          refine (hbw.alloc hbw.size _).grown hgrow (by have := hbw.size; simp; omega) (fun k e => ?_)
          exact (HR.out.lt k e).1
        refine ⟨⟨k + 1, _, rfl, by omega, by go_num, ?_, hbn⟩, ?_⟩
        · rw [HT.out]; exact hown'
        · simp [intOf]; omega
      · go_wp2_with (at_builtin; refine wpList_append_own _ rfl _ _ 22 rfl w.heap.size 3 i0 (.int .i64 0) 1 8 Tryz.underlying22 hi hz0 hz1 hz2 rfl (by decide) _ _ _ rfl (HR.out.alloc _) ⟨wr.heap.size, 0, none⟩ 1 1 [.int .i64 1] rfl rfl (cell_one_new _ _ _) (by simp [Value.oneCell']) (by unfold maxLen; omega) (by omega) (by have := hbw.size; simp; omega) ?_; intro v' w2 hown' hgrow _)
        have hbn : Below w.heap.size w w2 := by
          refine (hbw.alloc hbw.size _).grown hgrow (by have := hbw.size; simp; omega) (fun k e => ?_)
          exact (HR.out.lt k e).1
        refine ⟨⟨k + 1, _, rfl, by omega, by go_num, ?_, hbn⟩, ?_⟩
        · rw [HT.out]; exact hown'
        · simp [intOf]; omega
    · obtain rfl : k = bs.length := by omega
      rw [List.take_of_length_le (by simp)] at hrow
      have HR := Lib.hid hrow; clear hrow
      go_wp2_with fail
      go_ret
      exact ⟨own, rfl, by rw [List.length_map]; exact HR.out, hbw⟩
theorem ints_head {B : Nat} {W : World} {A : Option Addr} {n cc t : Nat} {c : List Int} (hn : n = c.length) (h : Ints B W (.slice A n cc) c) (ht : t < c.length) : Ints B W (.slice A t cc) (c.take t) := by
  subst hn
  have hl : (c.take t).length = t := by rw [List.length_take]; omega
  rcases h with ⟨A', c', e, h1, h2⟩ | ⟨b, off, cap, e, hb, hc⟩
  · rw [h2] at ht; simp at ht
  · injection e with e1 e2 e3
    subst e1; subst e3
    refine .inr ⟨b, off, cc, by rw [hl], hb, fun j hj => ?_⟩
    rw [hl] at hj
    rw [hc j (by omega), List.getElem?_take_of_lt hj]
theorem made_nums (n : Nat) : (madeCells (Value.int .i64 0).cells (n * 1)).toList = List.replicate n (Value.int .i64 0) := by
  apply List.ext_getElem?
  intro i
  by_cases h : i < n
  · simp [madeCells, Value.cells, h, Nat.mod_one]
  · simp [madeCells, Value.cells, h]
end Go.Proofs.YtgoflapolglfcaaGreat
namespace Go.Proofs.YtgoflapolglfcaaGreat
open Go.RowKit Go.ChangeAt Go.ChangeShapes Go.WideShapes Go.Shelf Go.Sort

theorem modB_bits (n : Nat) (ls : List Int) : (modB n ls).map b2i = modL n ls := by
  unfold modB modL
  rw [List.map_map]
  refine List.map_congr_left fun v _ => ?_
  show b2i (decide _) = _
  unfold b2i
  by_cases h : ((v : Int) + 1) ∈ ls <;> simp [h]
theorem want_at {bs : List Bool} {i : Nat} (h : i < bs.length) : ((i : Int) + 1) * (2 * (bs.map b2i)[i]?.getD 0 - 1) = litAt bs i := by
  rw [List.getElem?_map, List.getElem?_eq_getElem h]
  unfold litAt b2i
  rw [List.getElem?_eq_getElem h]
  cases bs[i] <;> simp
theorem sat_bits {bs : List Bool} {l : Int} (h0 : l ≠ 0) (h : l.natAbs ≤ bs.length) : satI (bs.map b2i) l = satB bs l := by
  have hi : l.natAbs - 1 < bs.length := by omega
  unfold satI satB
  rw [List.getElem?_map, List.getElem?_eq_getElem hi]
  simp only [Option.map_some, Option.getD_some]
  by_cases hn : l < 0
  · have hp : ¬ 0 < l := by omega
    cases bs[l.natAbs - 1] <;> simp [b2i, hn, hp]
  · have hp : 0 < l := by omega
    cases bs[l.natAbs - 1] <;> simp [b2i, hn, hp]
theorem hold_bits (zs : List Int) (bs : List Bool) : holdF zs (bs.map b2i) = holdP zs bs := by
  unfold holdF holdP
  cases hr : rightB zs
  · rfl
  · simp only [Bool.true_and]
    rw [List.length_map]
    by_cases hm : maxL (vl zs) ≤ bs.length
    · have hall := (greatest_le (rightB_of hr).2 (by omega)).1 hm
      have hl : ∀ l ∈ zs, l ≠ 0 ∧ l.natAbs ≤ bs.length := fun l hl => by
        have h1 := hall l hl
        have h2 := (rightB_of hr).2 l hl
        have h3 := litB_of h2
        unfold varI at h1
        rw [if_pos h2] at h1
        refine ⟨h3.1, ?_⟩
        split at h1 <;> omega
      rw [decide_eq_true hm, List.all_eq_true.2 (fun l h => decide_eq_true (hl l h).2)]
      simp only [Bool.true_and]
      unfold holdsM
      rw [Bool.eq_iff_iff, List.any_eq_true, List.any_eq_true]
      exact ⟨fun ⟨l, h1, h2⟩ => ⟨l, h1, by rw [← sat_bits (hl l h1).1 (hl l h1).2]; exact h2⟩, fun ⟨l, h1, h2⟩ => ⟨l, h1, by rw [sat_bits (hl l h1).1 (hl l h1).2]; exact h2⟩⟩
    · rw [decide_eq_false hm, Bool.false_and]
      have : (zs.all fun l => decide (l.natAbs ≤ bs.length)) = false := by
        rw [List.all_eq_false]
        refine Classical.byContradiction fun hn => hm ((greatest_le (rightB_of hr).2 (by omega)).2 fun l hl => ?_)
        have h1 : l.natAbs ≤ bs.length := Classical.byContradiction fun h => hn ⟨l, hl, by simpa using h⟩
        have h2 := (rightB_of hr).2 l hl
        unfold varI
        rw [if_pos h2]
        split <;> omega
      rw [this]
      rfl
end Go.Proofs.YtgoflapolglfcaaGreat
