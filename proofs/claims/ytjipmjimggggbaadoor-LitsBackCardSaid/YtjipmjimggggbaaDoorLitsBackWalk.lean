/- The walk of LitsBack. -/
import Derived.Test.YtjipmjimggggbaaDoorMade
import Derived.Test.YtjipmjimggggbaaDoorTextMath
import Derived.Test.YtjipmjimggggbaaDoorAwake
import Derived.Lib.ItoaLen
namespace Go.Proofs.YtjipmjimggggbaaDoor.litsBack
open Go.RowKit

/-- What is wanted of the literal that is made. -/
theorem made_back (n : Int) : ∃ l i v b, (madeI n = l ∧ litB l = true ∧ idxI l = i ∧ varI l = v ∧ negdB l = b) ∧ (i ≤ 9223372036854775807 ∧ atI i = l ∧ atE i = 0) ∧ ofI v b = l ∧ ofE v = 0 := by
  obtain ⟨x, h0, h1, h | h⟩ := madeI_is n
  · refine ⟨x, 2 * x - 2, x, false, ⟨h, p_lit h0 h1, p_idx h0 h1, p_var h0 h1, p_negd h0 h1⟩, ⟨by omega, ?_, ?_⟩, ?_, ?_⟩
    · rw [atI, if_neg (by omega), show (2 * x - 2) / 2 + 1 = x by omega, show decide ((2 * x - 2) % 2 = 1) = false from decide_eq_false (by omega), ofI, if_pos ⟨h0, h1⟩]; rfl
    · rw [atE, if_neg (by omega), show (2 * x - 2) / 2 + 1 = x by omega, ofE, if_pos ⟨h0, h1⟩]
    · rw [ofI, if_pos ⟨h0, h1⟩]; rfl
    · rw [ofE, if_pos ⟨h0, h1⟩]
  · refine ⟨-x, 2 * x - 1, x, true, ⟨h, n_lit h0 h1, n_idx h0 h1, n_var h0 h1, n_negd h0 h1⟩, ⟨by omega, ?_, ?_⟩, ?_, ?_⟩
    · rw [atI, if_neg (by omega), show (2 * x - 1) / 2 + 1 = x by omega, show decide ((2 * x - 1) % 2 = 1) = true from decide_eq_true (by omega), ofI, if_pos ⟨h0, h1⟩]; rfl
    · rw [atE, if_neg (by omega), show (2 * x - 1) / 2 + 1 = x by omega, ofE, if_pos ⟨h0, h1⟩]
    · rw [ofI, if_pos ⟨h0, h1⟩]; rfl
    · rw [ofE, if_pos ⟨h0, h1⟩]

set_option maxRecDepth 100000 in
set_option maxHeartbeats 4000000 in
theorem litsBack_walk (n : Int) (hn : (Lit.int .i32 n).wf = true) (s : ByteArray) (hs : s.size ≤ maxLen) (w : World) (ht : Tab w) :
    Calls Tryd.prog 8 #[.int .i32 n, .string s] w fun e w' => e = .returned (.bool true) ∧ Below w.heap.size w w' := by
  unfold maxLen at hs
  obtain ⟨l, i, v, b, ⟨e1, e2, e3, e4, e5⟩, ⟨hi, e6, e7⟩, e8, e9⟩ := made_back n
  have HM := Lib.hid (made_any n hn); clear hn
  have hT : Hid (∀ w', Below w.heap.size w w' → Tab w') := fun w' hb => ht.below hb
  have HTx := Lib.hid (text_any l w ht)
  clear ht
  -- the text of l is read back
  have hrt := read_text e2
  have hsz : (⟨(textL l).toArray⟩ : ByteArray).size ≤ 9223372036854775807 := by
    show (textL l).toArray.size ≤ _
    rw [List.size_toArray, textL, if_pos e2]
    have hb := litB_of e2
    have := Lib.itoa_length_le l (by omega) (by omega)
    omega
  have HRd := fun W => read_any ⟨(textL l).toArray⟩ W hsz
  simp only [hrt.1, hrt.2] at HRd
  have HRT := Lib.hid HRd; clear HRd hrt hsz
  obtain ⟨tx, htx⟩ : ∃ tx : ByteArray, ⟨(textL l).toArray⟩ = tx := ⟨_, rfl⟩
  rw [htx] at HRT HTx
  clear htx
  have E1 := Lib.hid e1; have E2 := Lib.hid e2; have E3 := Lib.hid e3; have E4 := Lib.hid e4; have E5 := Lib.hid e5; have E6 := Lib.hid e6; have E7 := Lib.hid e7; have E8 := Lib.hid e8; have E9 := Lib.hid e9
  clear e1 e2 e3 e4 e5 e6 e7 e8 e9
  have HRs := Lib.hid (fun W => read_any s W hs)
  have HTR : Hid (readE s.data.toList = 0 → textL (readI s.data.toList) = s.data.toList) := text_read
  have hie := of_ie' s.data.toList
  obtain ⟨j, hj⟩ : ∃ j, readI s.data.toList = j := ⟨_, rfl⟩
  obtain ⟨g, hg⟩ : ∃ g, readE s.data.toList = g := ⟨_, rfl⟩
  rw [hj, hg] at hie HRs HTR
  clear hj hg
  go_enter Tryd.func8, Tryd.ntmps8
  go_wp2_with fail
  refine (HM.out _).mono ?_
  rintro e w' ⟨rfl, rfl⟩
  rw [E1.out]
  go_wp2_with fail
  refine (index_any _ _).mono ?_
  rintro e w' ⟨rfl, rfl⟩
  rw [E3.out, E2.out]
  unfold errI
  rw [if_pos rfl]
  go_wp2_with fail
  refine (at_any _ hi _).mono ?_
  rintro e w' ⟨rfl, rfl⟩
  rw [E6.out, E7.out]
  go_wp2_with fail
  refine HTx.out.mono ?_
  rintro e w1 ⟨rfl, hb1⟩
  go_wp2_with fail
  refine (HRT.out _).mono ?_
  rintro e w' ⟨rfl, rfl⟩
  go_wp2_with (first
    | (go_at_call 26; refine (var_any _ _).mono ?_; rintro e w' ⟨rfl, rfl⟩; rw [E4.out])
    | (go_at_call 27; refine (negd_any _ _).mono ?_; rintro e w' ⟨rfl, rfl⟩; rw [E5.out])
    | (go_at_call 31; refine (of_any _ _ _).mono ?_; rintro e w' ⟨rfl, rfl⟩; rw [E8.out, E9.out]))
  · refine (HRs.out _).mono ?_
    rintro e w' ⟨rfl, rfl⟩
    rcases hie with ⟨rfl, -⟩ | ⟨rfl, -⟩
    · have hl := HTR.out rfl
      have hstr : (⟨(textL j).toArray⟩ : ByteArray) = s := by rw [hl]
      have hxt := text_any j w1 (hT.out _ hb1)
      rw [hstr] at hxt
      have HX := Lib.hid hxt; clear hxt hl hstr
      go_wp2_with fail
      refine HX.out.mono ?_
      rintro e w2 ⟨rfl, hb2⟩
      have hb3 : Below w.heap.size w w2 := hb1.trans (hb2.mono hb1.size)
      have HA := Lib.hid (awake_any w2 (hT.out _ hb3))
      go_wp2_with (go_at_call 13; refine HA.out.mono ?_; rintro e w3 ⟨rfl, hb4⟩)
      go_ret
      exact ⟨rfl, hb3.trans (hb4.mono hb3.size)⟩
    · have HA := Lib.hid (awake_any w1 (hT.out _ hb1))
      go_wp2_with (go_at_call 13; refine HA.out.mono ?_; rintro e w3 ⟨rfl, hb4⟩)
      go_ret
      exact ⟨rfl, hb1.trans (hb4.mono hb1.size)⟩
  · have HA := Lib.hid (awake_any w1 (hT.out _ hb1))
    refine HA.out.mono ?_
    rintro e w3 ⟨rfl, hb4⟩
    go_wp2_with fail
    go_ret
    exact ⟨rfl, hb1.trans (hb4.mono hb1.size)⟩
end Go.Proofs.YtjipmjimggggbaaDoor.litsBack
