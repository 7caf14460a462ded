/- The reference's Right of layer 2. -/
import Derived.Test.YtjkhhnfmefbohaaRef
import Derived.Test.YtjkhhnfmefbohaaRight
namespace Go.Proofs.Ytjkhhnfmefbohaa
open Go.RowKit Go.ChangeAt Go.ChangeShapes Go.WideShapes

theorem getD_mem {zs : List Int} {k : Nat} (h : k < zs.length) : zs[k]?.getD 0 ∈ zs := by rw [List.getElem?_eq_getElem h]; exact List.getElem_mem h
set_option maxHeartbeats 1000000 in
theorem ref02_right (B : Nat) (sv : Value) (zs : List Int) (hz : zs.length ≤ 9223372036854775807) (w : World) (hI : Ints B w sv zs) : Calls Try.prog 45 #[sv] w fun e w' => e = .returned (.bool (rightB zs)) ∧ w = w' := by
  obtain ⟨A, cap, rfl, hc⟩ := ints_shape hI
  have HC := Lib.hid hc; clear hc hI
  by_cases hl : 4096 < zs.length
  · have hr := rightB_long hl
    have HR := Lib.hid hr; clear hr
    go_enter Try.func45, Try.ntmps45
    go_wp2
    go_ret
    exact ⟨ret_bool HR.out.symm, rfl⟩
  · go_enter Try.func45, Try.ntmps45
    go_wp2_with fail
    go_loop [3] (fun i => RightRel zs i) (fun i => zs.length - (intOf i).toNat)
    case atStart => exact ⟨0, Nat.zero_le _, rfl, fun x hx => by simp at hx⟩
    case round =>
      obtain ⟨k, hk, rfl, hall⟩ := hrel
      have HA := Lib.hid hall; clear hall
      by_cases hlt : k < zs.length
      · obtain ⟨b, off, rfl, -, hck⟩ := HC.out k hlt
        have htk := take_one zs hlt
        have hmem := getD_mem hlt
        obtain ⟨x, hx⟩ : ∃ x, zs[k]?.getD 0 = x := ⟨_, rfl⟩
        rw [hx] at hck htk hmem
        clear hx
        have HT := Lib.hid htk; clear htk
        have HM := Lib.hid hmem; clear hmem
        cases hb : litB x
        · have HB := Lib.hid hb; clear hb
          go_wp2_with (go_at_call 52; refine (ref_right _ _).mono ?_; rintro e w' ⟨rfl, rfl⟩; rw [HB.out])
          go_ret
          exact ⟨ret_bool (rightB_bad HM.out HB.out).symm, rfl⟩
        · have HB := Lib.hid hb; clear hb
          go_wp2_with (go_at_call 52; refine (ref_right _ _).mono ?_; rintro e w' ⟨rfl, rfl⟩; rw [HB.out])
          go_round
          case rel => exact ⟨k + 1, by omega, by go_num, right_more HT.out HA.out HB.out⟩
          case measure => simp [intOf]; omega
      · obtain rfl : k = zs.length := by omega
        go_wp2_with fail
        go_ret
        exact ⟨ret_bool (rightB_mk (by omega) (by have := HA.out; rwa [List.take_length] at this)).symm, rfl⟩
end Go.Proofs.Ytjkhhnfmefbohaa
