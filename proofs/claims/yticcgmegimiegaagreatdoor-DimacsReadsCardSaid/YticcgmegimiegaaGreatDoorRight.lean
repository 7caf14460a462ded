/- clauses.Right; clauses.increasing; salvorref01.Right. -/
import Derived.Test.YticcgmegimiegaaGreatDoorLists
import Derived.IntWalk
namespace Go.Proofs.YticcgmegimiegaaGreatDoor
open Go.ChangeShapes Go.WideShapes Go.ChangeAt Go.RowKit Go.Shelf Go.Sort

/-- The list is a clause. -/
def rightB (zs : List Int) : Bool := decide (zs.length ≤ 4096) && zs.all litB
theorem rightB_of {zs : List Int} (h : rightB zs = true) : zs.length ≤ 4096 ∧ ∀ x ∈ zs, litB x = true := by
  unfold rightB at h
  rw [Bool.and_eq_true, decide_eq_true_iff, List.all_eq_true] at h
  exact h
theorem rightB_mk {zs : List Int} (h : zs.length ≤ 4096) (h' : ∀ x ∈ zs, litB x = true) : rightB zs = true := by
  unfold rightB
  rw [Bool.and_eq_true, decide_eq_true_iff, List.all_eq_true]
  exact ⟨h, h'⟩
theorem rightB_long {zs : List Int} (h : 4096 < zs.length) : rightB zs = false := by
  unfold rightB
  rw [decide_eq_false (by omega), Bool.false_and]
theorem rightB_bad {zs : List Int} {x : Int} (h : x ∈ zs) (hx : litB x = false) : rightB zs = false := by
  cases e : rightB zs
  · rfl
  · rw [(rightB_of e).2 x h] at hx; cases hx

def RightRel (zs : List Int) (i : Value) : Prop := ∃ k : Nat, k ≤ zs.length ∧ i = .int .i64 k ∧ ∀ x ∈ zs.take k, litB x = true
theorem right_more {zs : List Int} {k : Nat} {x : Int} (ht : zs.take (k + 1) = zs.take k ++ [x]) (h : ∀ y ∈ zs.take k, litB y = true) (hx : litB x = true) : ∀ y ∈ zs.take (k + 1), litB y = true := by
  rw [ht]
  intro y hy
  rcases List.mem_append.1 hy with hy | hy
  · exact h y hy
  · obtain rfl : y = x := by simpa using hy
    exact hx
set_option maxHeartbeats 1000000 in
theorem clright_any (B : Nat) (sv : Value) (zs : List Int) (hz : zs.length ≤ 9223372036854775807) (w : World) (hI : Ints B w sv zs) : Calls Tryz.prog 60 #[sv] w fun e w' => e = .returned (.bool (rightB zs)) ∧ w = w' := by
  obtain ⟨A, cap, rfl, hc⟩ := ints_shape hI
  clear hI
  have HC := Lib.hid hc; clear hc
  by_cases hl : 4096 < zs.length
  · have hr := rightB_long hl
    have HR := Lib.hid hr; clear hr
    go_enter Tryz.func60, Tryz.ntmps60
    go_wp2
    go_ret
    exact ⟨ret_bool HR.out.symm, rfl⟩
  · go_enter Tryz.func60, Tryz.ntmps60
    go_wp2
    go_loop [10] (fun i => RightRel zs i) (fun i => zs.length - (intOf i).toNat)
    case atStart => exact ⟨0, Nat.zero_le _, rfl, fun x hx => by simp at hx⟩
    case round =>
      obtain ⟨k, hk, rfl, hall⟩ := hrel
      have HA := Lib.hid hall; clear hall
      by_cases hlt : k < zs.length
      · obtain ⟨b, off, rfl, -, hck⟩ := HC.out k hlt
        have htk := take_one zs hlt
        have hmem : zs[k]?.getD 0 ∈ zs := by rw [List.getElem?_eq_getElem hlt]; exact List.getElem_mem hlt
        obtain ⟨x, hx⟩ : ∃ x, zs[k]?.getD 0 = x := ⟨_, rfl⟩
        rw [hx] at hck htk hmem
        clear hx
        have HT := Lib.hid htk; clear htk
        have HM := Lib.hid hmem; clear hmem
        cases hb : litB x
        · have HB := Lib.hid hb; clear hb
          go_wp2_with (go_at_call 97; refine (right_any _ _).mono ?_; rintro e w' ⟨rfl, rfl⟩; rw [HB.out])
          go_ret
          exact ⟨ret_bool (rightB_bad HM.out HB.out).symm, rfl⟩
        · have HB := Lib.hid hb; clear hb
          go_wp2_with (go_at_call 97; refine (right_any _ _).mono ?_; rintro e w' ⟨rfl, rfl⟩; rw [HB.out])
          go_round
          case rel => exact ⟨k + 1, by omega, by go_num, right_more HT.out HA.out HB.out⟩
          case measure => simp [intOf]; omega
      · obtain rfl : k = zs.length := by omega
        go_wp2
        go_ret
        exact ⟨ret_bool (rightB_mk (by omega) (by have := HA.out; rwa [List.take_length] at this)).symm, rfl⟩

def IncRel (w : World) (zs : List Int) (i : Value) (wr : World) : Prop := ∃ k q : Nat, 1 ≤ k ∧ (k ≤ zs.length ∨ k = 1) ∧ i = .int .i64 k ∧ Inc (zs.take k) ∧ wr = w.drewN q
theorem inc_one (zs : List Int) : Inc (zs.take 1) := by
  cases zs with
  | nil => exact .nil
  | cons a l => exact List.pairwise_singleton _ _
theorem incB_no {zs : List Int} {k : Nat} (h : ¬ Inc (zs.take k)) : incB zs = false := by
  cases e : incB zs
  · rfl
  · exact (h (inc_take ((incB_iff zs).1 e) k)).elim
theorem ltI_geq {a b : Int} (h : ltI a b = true) : decide (0 ≤ compareI a b) = false := decide_eq_false (by have := compareI_neg.2 h; omega)
theorem ltI_no {a b : Int} (h : ltI a b = false) : decide (0 ≤ compareI a b) = true := decide_eq_true (by
  unfold ltI at h
  have := of_decide_eq_false h
  omega)
end Go.Proofs.YticcgmegimiegaaGreatDoor
