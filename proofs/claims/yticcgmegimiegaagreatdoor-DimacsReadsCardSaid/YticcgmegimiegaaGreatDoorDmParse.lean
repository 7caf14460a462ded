/- dimacs.ParseHeader. -/
import Derived.Test.YticcgmegimiegaaGreatDoorDmHeader
import Derived.Test.YticcgmegimiegaaGreatDoorAtoiMath
import Derived.Test.YticcgmegimiegaaGreatDoorDmPassed
namespace Go.Proofs.YticcgmegimiegaaGreatDoor
open Go.RowKit Go.ChangeAt Go.ChangeShapes Go.WideShapes Go.Shelf Go.Sort

/-- What the library's tables and errors lie as. -/
structure Env (w : World) : Prop where
  tab : Tab w
  syn : ∃ tp p, w.var? Tryz.prog "strconv.ErrSyntax" = some #[.iface tp p]
  rng : ∃ tp p, w.var? Tryz.prog "strconv.ErrRange" = some #[.iface tp p]
theorem gSyn : Tryz.prog.globalNamed "strconv.ErrSyntax" = some 5 := by kernel_rfl
theorem gRng : Tryz.prog.globalNamed "strconv.ErrRange" = some 6 := by kernel_rfl
theorem var_below {w w' : World} {nm : String} {g : Nat} (hg : Tryz.prog.globalNamed nm = some g) {cs : Array Value} (h : w.var? Tryz.prog nm = some cs) (hb : Below w.heap.size w w') : w'.var? Tryz.prog nm = some cs := by
  unfold World.var? at h ⊢
  rw [hg, Option.bind_some] at h ⊢
  by_cases hlt : g < w.heap.size
  · rw [hb.block _ hlt]; exact h
  · rw [Array.getElem?_eq_none (by omega)] at h
    cases h
theorem Env.below {w w' : World} (h : Env w) (hb : Below w.heap.size w w') : Env w' :=
  ⟨h.tab.below hb, h.syn.imp fun _ => fun ⟨p, hp⟩ => ⟨p, var_below gSyn hp hb⟩, h.rng.imp fun _ => fun ⟨p, hp⟩ => ⟨p, var_below gRng hp hb⟩⟩
/-- Atoi of any text: its number, and an error or nil. -/
theorem atoi_any (l : List UInt8) (hl : l.length ≤ 4000000000) (w : World) (he : Env w) :
    Calls Tryz.prog 69 #[str l] w fun e w' => ∃ ev, e = .returned (.tuple #[.int .i64 (atoiV l), ev]) ∧ ((∃ v, Lib.atoiAll l = .ok v) ∧ ev = .nilIface ∨ (¬ ∃ v, Lib.atoiAll l = .ok v) ∧ ∃ tp p, ev = .iface tp p) ∧ Below w.heap.size w w' := by
  have hs := str_size l
  unfold atoiV
  cases h : Lib.atoiAll l with
  | ok v =>
    refine (Tryz.strconv_Atoi_ok_f69 ⟨l.toArray⟩ (by omega) v (by rw [str_list]; exact h) w).mono fun e w' ⟨h1, h2⟩ => ⟨.nilIface, h1, .inl ⟨⟨v, rfl⟩, rfl⟩, ?_⟩
    rcases h2 with rfl | ⟨t, rfl⟩
    · exact Below.refl _ _
    · exact Lib.bytesWorld_below _ _ _
  | «syntax» =>
    obtain ⟨tp, p, hv⟩ := he.syn
    refine (Tryz.strconv_Atoi_syntax_var_f69 ⟨l.toArray⟩ (by omega) (by rw [str_list]; exact h) tp p w hv).mono fun e w' ⟨N, h1, _, _, h2⟩ => ⟨_, h1, .inr ⟨by simp, _, _, rfl⟩, h2⟩
  | range =>
    obtain ⟨tp, p, hv⟩ := he.rng
    refine (Tryz.strconv_Atoi_range_var_f69 ⟨l.toArray⟩ (by omega) (by rw [str_list]; exact h) tp p w hv).mono fun e w' ⟨N, h1, _, _, h2⟩ => ⟨_, by rw [str_list] at h1; exact h1, .inr ⟨by simp, _, _, rfl⟩, h2⟩
/-- The index that Cut asks for. -/
theorem cut1_index (c : UInt8) (s : List UInt8) : (Lib.index s [c] = -1 ∧ cut1 c s = (s, [])) ∨ ∃ i : Nat, Lib.index s [c] = i ∧ i < s.length ∧ cut1 c s = (s.take i, s.drop (i + 1)) := by
  rcases index_cases s c with h | ⟨i, h⟩
  · exact .inl ⟨h, cut1_miss (split_no h)⟩
  · obtain ⟨h1, h2, h3⟩ := split_at h
    refine .inr ⟨i, h, h1, ?_⟩
    conv => lhs; rw [h3]
    exact cut1_hit _ h2
set_option maxRecDepth 100000 in
set_option maxHeartbeats 1000000 in
theorem cut_any (c : UInt8) (s : List UInt8) (hs : s.length ≤ 4000000000) (w : World) :
    Calls Tryz.prog 31 #[str s, str [c]] w fun e w' => ∃ b, e = .returned (.tuple #[str (cut1 c s).1, str (cut1 c s).2, .bool b]) ∧ Below w.heap.size w w' := by
  have hix := Tryz.stringslite_Index_one_f106 ⟨s.toArray⟩ c
  have hix : ∀ W, Calls Tryz.prog 106 #[str s, str [c]] W fun e w' => e = .returned (.int .i64 (Lib.index s [c])) ∧ w' = W := fun W => (hix W).mono fun e w' ⟨h1, h2⟩ => ⟨by rw [h1, str_list, Lib.index_one], h2⟩
  have HIx := Lib.hid hix
  clear hix
  have hin : Calls Tryz.prog 70 #[str s, str [c]] w fun e w' => ∃ b, e = .returned (.tuple #[str (cut1 c s).1, str (cut1 c s).2, .bool b]) ∧ Below w.heap.size w w' := by
    rcases cut1_index c s with ⟨hi, hc⟩ | ⟨i, hi, hil, hc⟩
    · rw [hc]
      have HI := Lib.hid hi
      clear hi hc
      go_enter Tryz.func70, Tryz.ntmps70
      go_wp2_with fail
      refine (HIx.out _).mono ?_
      rintro e w' ⟨rfl, rfl⟩
      rw [HI.out]
      go_wp2_with fail
      go_ret3
      exact ⟨_, rfl, Below.refl _ _⟩
    · rw [hc]
      have e1 := str_take s i
      have e2 := str_drop s (i + 1)
      have hsz := str_size s
      have hil2 : (i : Int) < (s.length : Int) := by omega
      have hsl : (s.length : Int) ≤ 4000000000 := by omega
      have HI := Lib.hid hi
      clear hi hc
      go_enter Tryz.func70, Tryz.ntmps70
      go_wp2_with fail
      refine (HIx.out _).mono ?_
      rintro e w' ⟨rfl, rfl⟩
      rw [HI.out]
      go_wp2_with fail
      go_quiet (fail)
      go_wp2_with fail
      go_ret3
      exact ⟨_, rfl, below_drewN (Below.refl _ _) _⟩
  have HIn := Lib.hid hin
  clear hin
  go_enter Tryz.func31, Tryz.ntmps31
  go_wp2_with fail
  refine HIn.out.mono ?_
  rintro e w' ⟨b, rfl, hb⟩
  have HB := Lib.hid hb
  clear hb
  go_wp2_with fail
  go_ret3
  exact ⟨b, rfl, HB.out⟩
/-- What ParseHeader reads: numbers, if the line is their header. -/
def prsV (line : List UInt8) : Int := atoiV (cut1 32 (Lib.trimPrefix line [112, 32, 99, 110, 102, 32])).1
def prsN (line : List UInt8) : Int := atoiV (cut1 32 (Lib.trimPrefix line [112, 32, 99, 110, 102, 32])).2
def prsH (line : List UInt8) : Bool := decide (hdrE (prsV line) (prsN line) = 0) && decide (hdrL (prsV line) (prsN line) = line)
theorem prs_hdr {v n : Int} (hv0 : 0 ≤ v) (hv1 : v ≤ 1048576) (hn0 : 0 ≤ n) (hn1 : n ≤ 262144) : prsH (hdrL v n) = true ∧ prsV (hdrL v n) = v ∧ prsN (hdrL v n) = n := by
  have e : Lib.trimPrefix (hdrL v n) [112, 32, 99, 110, 102, 32] = Lib.itoa v ++ 32 :: Lib.itoa n := by
    unfold hdrL Lib.trimPrefix Lib.hasPrefix
    simp
  have hc : cut1 32 (Lib.itoa v ++ 32 :: Lib.itoa n) = (Lib.itoa v, Lib.itoa n) := cut1_hit _ (itoa_free (by decide) (by decide))
  have h1 : prsV (hdrL v n) = v := by unfold prsV; rw [e, hc]; exact atoiV_itoa v (by omega) (by omega)
  have h2 : prsN (hdrL v n) = n := by unfold prsN; rw [e, hc]; exact atoiV_itoa n (by omega) (by omega)
  refine ⟨?_, h1, h2⟩
  unfold prsH
  rw [h1, h2]
  have : hdrE v n = 0 := by unfold hdrE; rw [if_neg (by omega), if_neg (by omega)]
  simp [this]
theorem trim_len (l p : List UInt8) : (Lib.trimPrefix l p).length ≤ l.length := by
  unfold Lib.trimPrefix
  split
  · rw [List.length_drop]; omega
  · exact Nat.le_refl _
theorem atoiV_range (l : List UInt8) : -9223372036854775808 ≤ atoiV l ∧ atoiV l ≤ 9223372036854775807 := by
  unfold atoiV
  cases h : Lib.atoiAll l with
  | ok v =>
    unfold Lib.atoiAll at h
    split at h
    · cases h
    · rename_i c r
      dsimp only at h
      split at h
      · cases h
      · cases h
      · rename_i u hu
        split at h
        · cases h
        · split at h
          · cases h
          · rename_i h1 h2
            injection h with h
            dsimp only
            subst h
            split <;> omega
  | «syntax» => dsimp only; omega
  | range =>
    dsimp only
    unfold Lib.atoiSat
    split <;> omega
set_option maxRecDepth 100000 in
set_option maxHeartbeats 1000000 in
theorem parseHeader_any (line : List UInt8) (hl : line.length ≤ 4000000000) (w : World) (he : Env w) :
    Calls Tryz.prog 30 #[str line] w fun e w' => e = .returned (if prsH line then .tuple #[.int .i64 (prsV line), .int .i64 (prsN line), .int .i64 0] else .tuple #[.int .i64 0, .int .i64 0, .int .i64 60]) ∧ Below w.heap.size w w' := by
  have htp := fun W => Tryz.strings_TrimPrefix_f68 ⟨line.toArray⟩ ⟨#[112, 32, 99, 110, 102, 32]⟩ W
  dsimp only at htp
  have htl := trim_len line [112, 32, 99, 110, 102, 32]
  unfold prsH prsV prsN
  obtain ⟨T, hT⟩ : ∃ x, Lib.trimPrefix line [112, 32, 99, 110, 102, 32] = x := ⟨_, rfl⟩
  rw [hT] at htl ⊢
  have htp : ∀ W, Calls Tryz.prog 68 #[str line, .string ⟨#[112, 32, 99, 110, 102, 32]⟩] W fun e w' => e = .returned (str T) ∧ w' = W := fun W => (htp W).mono fun e w' ⟨h1, h2⟩ => ⟨by rw [h1, ← hT], h2⟩
  have hct := fun W => cut_any 32 T (by omega) W
  have hcl := cut1_len 32 T
  obtain ⟨A, hA⟩ : ∃ x, (cut1 32 T).1 = x := ⟨_, rfl⟩
  obtain ⟨B, hB⟩ : ∃ x, (cut1 32 T).2 = x := ⟨_, rfl⟩
  rw [hA, hB] at hcl ⊢
  simp only [hA, hB] at hct
  have ha := fun W he => atoi_any A (by omega) W he
  have hb := fun W he => atoi_any B (by omega) W he
  have rv := atoiV_range A
  have rn := atoiV_range B
  obtain ⟨v, hv⟩ : ∃ x, atoiV A = x := ⟨_, rfl⟩
  obtain ⟨n, hn⟩ : ∃ x, atoiV B = x := ⟨_, rfl⟩
  rw [hv] at rv ⊢
  rw [hn] at rn ⊢
  simp only [hv] at ha
  simp only [hn] at hb
  have HTp := Lib.hid htp; have HCt := Lib.hid hct; have HA := Lib.hid ha; have HB := Lib.hid hb; have HE := Lib.hid he
  clear htp hct ha hb he hT hA hB hv hn htl hcl
  -- what Header answers, without cases
  have hh : ∀ W, Env W → Calls Tryz.prog 27 #[.int .i64 v, .int .i64 n] W fun e w' => e = .returned (.tuple #[str (if hdrE v n = 0 then hdrL v n else []), .int .i64 (hdrE v n)]) ∧ Below W.heap.size W w' := fun W hE => by
    by_cases h1 : v < 0 ∨ 1048576 < v
    · have e : hdrE v n = 50 := by unfold hdrE; rw [if_pos h1]
      rw [e]
      exact (header_vars v n h1 W).mono fun e w' ⟨h, hw⟩ => ⟨by rw [h]; rfl, by rw [hw]; exact Below.refl _ _⟩
    · by_cases h2 : n < 0 ∨ 262144 < n
      · have e : hdrE v n = 5 := by unfold hdrE; rw [if_neg h1, if_pos h2]
        rw [e]
        exact (header_many v n (by omega) (by omega) h2 W).mono fun e w' ⟨h, hw⟩ => ⟨by rw [h]; rfl, by rw [hw]; exact Below.refl _ _⟩
      · have e : hdrE v n = 0 := by unfold hdrE; rw [if_neg h1, if_neg h2]
        rw [e]
        exact (header_ok v n (by omega) (by omega) (by omega) (by omega) W hE.tab).mono fun e w' ⟨h, hw⟩ => ⟨by rw [h]; rfl, hw⟩
  obtain ⟨E, hE⟩ : ∃ x, hdrE v n = x := ⟨_, rfl⟩
  obtain ⟨H, hH⟩ : ∃ x, hdrL v n = x := ⟨_, rfl⟩
  have hE50 : E = 0 ∨ E = 5 ∨ E = 50 := by rw [← hE]; unfold hdrE; split; exact .inr (.inr rfl); split; exact .inr (.inl rfl); exact .inl rfl
  rw [hE, hH] at hh ⊢
  obtain ⟨Z, hZ⟩ : ∃ x, (if E = 0 then H else []) = x := ⟨_, rfl⟩
  simp only [hZ] at hh
  have hans : ∀ b : Bool, (decide (E = 0) && decide (H = line)) = b → (if (decide (E = 0) && decide (H = line)) = true then Value.tuple #[.int .i64 v, .int .i64 n, .int .i64 0] else Value.tuple #[.int .i64 0, .int .i64 0, .int .i64 60]) = (if b = true then Value.tuple #[.int .i64 v, .int .i64 n, .int .i64 0] else Value.tuple #[.int .i64 0, .int .i64 0, .int .i64 60]) := fun b h => by rw [h]
  have hcase : (E = 0 ∧ Z = line ∧ (decide (E = 0) && decide (H = line)) = true) ∨ (E = 0 ∧ ¬ Z = line ∧ (decide (E = 0) && decide (H = line)) = false) ∨ ((E = 5 ∨ E = 50) ∧ (decide (E = 0) && decide (H = line)) = false) := by
    rcases hE50 with h | h | h
    · rw [if_pos h] at hZ
      subst hZ
      by_cases hl : H = line
      · exact .inl ⟨h, hl, by simp [h, hl]⟩
      · exact .inr (.inl ⟨h, hl, by simp [hl]⟩)
    · exact .inr (.inr ⟨.inl h, by simp [h]⟩)
    · exact .inr (.inr ⟨.inr h, by simp [h]⟩)
  have HH := Lib.hid hh; have HAns := Lib.hid hans
  clear hh hE hH hZ hE50 hans
  rcases hcase with ⟨rfl, rfl, hb⟩ | ⟨rfl, hne, hb⟩ | ⟨rfl | rfl, hb⟩
  all_goals
    rw [HAns.out _ hb]
    clear hb HAns
    try have hnb : (Z == line) = false := beq_eq_false_iff_ne.2 hne
    go_enter Tryz.func30, Tryz.ntmps30
    go_wp2_with fail
    refine (HTp.out _).mono ?_
    rintro e w1 ⟨rfl, rfl⟩
    go_wp2_with fail
    refine (HCt.out _).mono ?_
    rintro e w2 ⟨fb, rfl, hb2⟩
    have HE2 := Lib.hid (HE.out.below hb2); have HB2 := Lib.hid hb2
    clear hb2
    go_wp2_with fail
    refine (HA.out _ HE2.out).mono ?_
    rintro e w3 ⟨ev3, rfl, hev3, hb3⟩
    have HE3 := Lib.hid (HE2.out.below hb3); have HB3 := Lib.hid (HB2.out.trans (hb3.mono HB2.out.size))
    clear hev3 hb3
    go_wp2_with fail
    refine (HB.out _ HE3.out).mono ?_
    rintro e w4 ⟨ev4, rfl, hev4, hb4⟩
    have HE4 := Lib.hid (HE3.out.below hb4); have HB4 := Lib.hid (HB3.out.trans (hb4.mono HB3.out.size))
    clear hev4 hb4
    go_wp2_with fail
    refine (HH.out _ HE4.out).mono ?_
    rintro e w5 ⟨rfl, hb5⟩
    have HB5 := Lib.hid (HB4.out.trans (hb5.mono HB4.out.size))
    clear hb5
    go_wp2_with fail
    go_ret3
    exact ⟨by simp, HB5.out⟩
end Go.Proofs.YticcgmegimiegaaGreatDoor
