/- The contract of lits.Text, where the shelf gives each contract a number; the table that Itoa reads. -/
import Derived.Test.YticcgmegimiegaaGreatDoorLits
import Derived.Test.YticcgmegimiegaaGreatDoorShelf
import Derived.OwnWalk
namespace Go.Proofs.YticcgmegimiegaaGreatDoor
open Go.RowKit Go.Shelf Go.Sort

/-- The table of powers lies where it lay. -/
def Tab (w : World) : Prop := Lib.TabIs Tryz.prog w "internal/strconv.uint64pow10" .u64 Lib.pow10Tab
theorem gTab : Tryz.prog.globalNamed "internal/strconv.uint64pow10" = some 7 := by kernel_rfl
theorem Tab.below {w w' : World} (h : Tab w) (hb : Below w.heap.size w w') : Tab w' := by
  unfold Tab Lib.TabIs World.var? at h ⊢
  rw [gTab, Option.bind_some] at h ⊢
  by_cases hlt : 7 < w.heap.size
  · rw [hb.block _ hlt]; exact h
  · rw [Array.getElem?_eq_none (by omega)] at h
    cases h
theorem below_drewN {B : Nat} {a w : World} (h : Below B a w) (n : Nat) : Below B a (w.drewN n) := ⟨h.os, h.tape, h.output, h.size, h.block⟩
theorem below_grow (w : World) (n : Nat) (os : Array Obj) : Below w.heap.size w (grow (w.drewN n) os) :=
  ⟨rfl, rfl, rfl, by simp, fun k hk => heap_grow_old _ _ (by simpa using hk)⟩
/-- The text of a literal. -/
def textL (a : Int) : List UInt8 := if litB a then Lib.itoa a else []

set_option maxHeartbeats 400000 in
theorem text_any (a : Int) (w : World) (ht : Tab w) :
    Calls Tryz.prog 65 #[.int .i64 a] w fun e w' => e = .returned (.string ⟨(textL a).toArray⟩) ∧ Below w.heap.size w w' := by
  cases hl : litB a
  · have H := Lib.hid hl; clear hl
    go_enter Tryz.func65, Tryz.ntmps65
    go_wp2_with (go_at_call 97; refine (right_any _ _).mono ?_; rintro e w' ⟨rfl, rfl⟩; rw [H.out])
    go_ret
    exact ⟨by simp [textL, H.out], Below.refl _ _⟩
  · have hb := litB_of hl
    have H := Lib.hid hl; clear hl
    have HT := Lib.hid ht; clear ht
    go_enter Tryz.func65, Tryz.ntmps65
    go_wp2_with (first
      | (go_at_call 97; refine (right_any _ _).mono ?_; rintro e w' ⟨rfl, rfl⟩; rw [H.out])
      | (go_at_call 33; refine (Tryz.strconv_Itoa_f33 a (by omega) (by omega) _ HT.out).mono ?_; rintro e w' ⟨rfl, k, os, rfl⟩))
    go_ret
    exact ⟨by simp [textL, H.out], below_grow _ _ _⟩
end Go.Proofs.YticcgmegimiegaaGreatDoor
