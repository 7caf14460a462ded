/- The walk of LitsNeg. -/
import Derived.Test.YtjipmjimggggbaaDoorMade
import Derived.Test.YtjipmjimggggbaaDoorAwake
namespace Go.Proofs.YtjipmjimggggbaaDoor.litsNeg
open Go.RowKit

set_option maxRecDepth 100000 in
set_option maxHeartbeats 2000000 in
theorem litsNeg_walk (n : Int) (h : (Lit.int .i32 n).wf = true) (w : World) (ht : Tab w) : Calls Tryd.prog 7 #[.int .i32 n] w fun e w' => e = .returned (.bool true) ∧ Below w.heap.size w w' := by
  obtain ⟨x, h0, h1, hx⟩ := madeI_is n
  have HA := Lib.hid (awake_any w ht); clear ht
  have F1 := Lib.hid (p_lit h0 h1)
  have F2 := Lib.hid (n_lit h0 h1)
  have F3 := Lib.hid (p_var h0 h1)
  have F4 := Lib.hid (n_var h0 h1)
  have F5 := Lib.hid (p_negd h0 h1)
  have F6 := Lib.hid (n_negd h0 h1)
  have F7 := Lib.hid (p_neg h0 h1)
  have F8 := Lib.hid (n_neg h0 h1)
  have F9 := Lib.hid (p_idx h0 h1)
  have F10 := Lib.hid (n_idx h0 h1)
  have HM := Lib.hid (made_any n h w); clear h
  rcases hx with hx | hx
  all_goals
    have HX := Lib.hid hx; clear hx
    go_enter Tryd.func7, Tryd.ntmps7
    go_wp2_with (first
      | (go_at_call 22; refine HM.out.mono ?_; rintro e w' ⟨rfl, rfl⟩; rw [HX.out])
      | (go_at_call 23; refine (neg_any _ _).mono ?_; rintro e w' ⟨rfl, rfl⟩; (first | rw [F7.out] | rw [F8.out]))
      | (go_at_call 24; refine (index_any _ _).mono ?_; rintro e w' ⟨rfl, rfl⟩; (first | rw [F9.out, F1.out] | rw [F10.out, F2.out]); simp only [errI, if_true])
      | (go_at_call 25; refine (right_any _ _).mono ?_; rintro e w' ⟨rfl, rfl⟩; (first | rw [F1.out] | rw [F2.out]))
      | (go_at_call 26; refine (var_any _ _).mono ?_; rintro e w' ⟨rfl, rfl⟩; (first | rw [F3.out] | rw [F4.out]))
      | (go_at_call 27; refine (negd_any _ _).mono ?_; rintro e w' ⟨rfl, rfl⟩; (first | rw [F5.out] | rw [F6.out]))
      | (go_at_call 13; refine HA.out.mono ?_; rintro e w' ⟨rfl, hb⟩))
    go_ret
    exact ⟨ret_bool (by simp; omega), hb⟩
end Go.Proofs.YtjipmjimggggbaaDoor.litsNeg
