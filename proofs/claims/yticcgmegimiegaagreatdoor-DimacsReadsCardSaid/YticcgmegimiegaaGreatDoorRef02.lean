/- The reference's Right, Has, Always, Holds, Within of lists. -/
import Derived.Test.YticcgmegimiegaaGreatDoorRef
import Derived.Test.YticcgmegimiegaaGreatDoorRight
namespace Go.Proofs.YticcgmegimiegaaGreatDoor
open Go.ChangeShapes Go.WideShapes Go.ChangeAt Go.RowKit Go.Shelf Go.Sort

/-- The list has the number. -/
def hasB (zs : List Int) (x : Int) : Bool := decide (x ∈ zs)
theorem hasB_iff {zs : List Int} {x : Int} : hasB zs x = true ↔ x ∈ zs := decide_eq_true_iff
theorem hasB_no {zs : List Int} {x : Int} (h : x ∉ zs) : hasB zs x = false := decide_eq_false h
theorem notMem_take {zs : List Int} {x y : Int} {k : Nat} (ht : zs.take (k + 1) = zs.take k ++ [y]) (h : x ∉ zs.take k) (hne : y ≠ x) : x ∉ zs.take (k + 1) := by
  rw [ht, List.mem_append]
  rintro (h' | h')
  · exact h h'
  · exact hne (List.mem_singleton.1 h').symm
theorem get_mem {zs : List Int} {k : Nat} (h : k < zs.length) : zs[k]?.getD 0 ∈ zs := by rw [List.getElem?_eq_getElem h]; exact List.getElem_mem h

def HasRel (zs : List Int) (x : Int) (i : Value) : Prop := ∃ k : Nat, k ≤ zs.length ∧ i = .int .i64 k ∧ x ∉ zs.take k
set_option maxHeartbeats 1000000 in
theorem ref02_right (B : Nat) (sv : Value) (zs : List Int) (hz : zs.length ≤ 9223372036854775807) (w : World) (hI : Ints B w sv zs) : Calls Tryz.prog 40 #[sv] w fun e w' => e = .returned (.bool (rightB zs)) ∧ w = w' := by
  obtain ⟨A, cap, rfl, hc⟩ := ints_shape hI
  have HC := Lib.hid hc; clear hc hI
  by_cases hl : 4096 < zs.length
  · have hr := rightB_long hl
    have HR := Lib.hid hr; clear hr
    go_enter Tryz.func40, Tryz.ntmps40
    go_wp2
    go_ret
    exact ⟨ret_bool HR.out.symm, rfl⟩
  · go_enter Tryz.func40, Tryz.ntmps40
    go_wp2_with fail
    go_loop [3] (fun i => RightRel zs i) (fun i => zs.length - (intOf i).toNat)
    case atStart => exact ⟨0, Nat.zero_le _, rfl, fun x hx => by simp at hx⟩
    case round =>
      obtain ⟨k, hk, rfl, hall⟩ := hrel
      have HA := Lib.hid hall; clear hall
      by_cases hlt : k < zs.length
      · obtain ⟨b, off, rfl, -, hck⟩ := HC.out k hlt
        have htk := take_one zs hlt
        have hmem := get_mem hlt
        obtain ⟨x, hx⟩ : ∃ x, zs[k]?.getD 0 = x := ⟨_, rfl⟩
        rw [hx] at hck htk hmem
        clear hx
        have HT := Lib.hid htk; clear htk
        have HM := Lib.hid hmem; clear hmem
        cases hb : litB x
        · have HB := Lib.hid hb; clear hb
          go_wp2_with (go_at_call 78; refine (ref_right _ _).mono ?_; rintro e w' ⟨rfl, rfl⟩; rw [HB.out])
          go_ret
          exact ⟨ret_bool (rightB_bad HM.out HB.out).symm, rfl⟩
        · have HB := Lib.hid hb; clear hb
          go_wp2_with (go_at_call 78; refine (ref_right _ _).mono ?_; rintro e w' ⟨rfl, rfl⟩; rw [HB.out])
          go_round
          case rel => exact ⟨k + 1, by omega, by go_num, right_more HT.out HA.out HB.out⟩
          case measure => simp [intOf]; omega
      · obtain rfl : k = zs.length := by omega
        go_wp2_with fail
        go_ret
        exact ⟨ret_bool (rightB_mk (by omega) (by have := HA.out; rwa [List.take_length] at this)).symm, rfl⟩

/-- A literal of the list whose negation it has, too. -/
def alwB (zs : List Int) : Bool := zs.any fun x => hasB zs (-x)
theorem alwB_iff {zs : List Int} : alwB zs = true ↔ ∃ x ∈ zs, -x ∈ zs := by
  unfold alwB
  rw [List.any_eq_true]
  exact ⟨fun ⟨x, h, h'⟩ => ⟨x, h, hasB_iff.1 h'⟩, fun ⟨x, h, h'⟩ => ⟨x, h, hasB_iff.2 h'⟩⟩
theorem alwB_no {zs : List Int} (h : ∀ x ∈ zs, hasB zs (-x) = false) : alwB zs = false := by
  unfold alwB
  rw [List.any_eq_false]
  exact fun x hx => by rw [h x hx]; decide
def AllRel (zs : List Int) (p : Int → Bool) (v : Bool) (i : Value) : Prop := ∃ k : Nat, k ≤ zs.length ∧ i = .int .i64 k ∧ ∀ x ∈ zs.take k, p x = v
theorem all_more {zs : List Int} {p : Int → Bool} {v : Bool} {k : Nat} {x : Int} (ht : zs.take (k + 1) = zs.take k ++ [x]) (h : ∀ y ∈ zs.take k, p y = v) (hx : p x = v) : ∀ y ∈ zs.take (k + 1), p y = v := by
  rw [ht]
  intro y hy
  rcases List.mem_append.1 hy with hy | hy
  · exact h y hy
  · obtain rfl : y = x := by simpa using hy
    exact hx
/-- One of the numbers ls stands in zs. -/
def holdsB (zs ls : List Int) : Bool := ls.any fun x => hasB zs x
theorem holdsB_iff {zs ls : List Int} : holdsB zs ls = true ↔ ∃ x ∈ ls, x ∈ zs := by
  unfold holdsB
  rw [List.any_eq_true]
  exact ⟨fun ⟨x, h, h'⟩ => ⟨x, h, hasB_iff.1 h'⟩, fun ⟨x, h, h'⟩ => ⟨x, h, hasB_iff.2 h'⟩⟩
theorem holdsB_no {zs ls : List Int} (h : ∀ x ∈ ls, hasB zs x = false) : holdsB zs ls = false := by
  unfold holdsB
  rw [List.any_eq_false]
  exact fun x hx => by rw [h x hx]; decide
/-- All numbers of xs stand in ys. -/
def withB (xs ys : List Int) : Bool := xs.all fun x => hasB ys x
theorem withB_iff {xs ys : List Int} : withB xs ys = true ↔ ∀ x ∈ xs, x ∈ ys := by
  unfold withB
  rw [List.all_eq_true]
  exact ⟨fun h x hx => hasB_iff.1 (h x hx), fun h x hx => hasB_iff.2 (h x hx)⟩
theorem withB_no {xs ys : List Int} {x : Int} (h : x ∈ xs) (h' : hasB ys x = false) : withB xs ys = false := by
  cases e : withB xs ys
  · rfl
  · have := hasB_iff.2 (withB_iff.1 e x h)
    rw [this] at h'; cases h'
end Go.Proofs.YticcgmegimiegaaGreatDoor
