/- The reference's texts: decimal, Text and Read say what the library and lits say. -/
import Derived.Test.YtjipmjimggggbaaDoorRef
import Derived.Test.YtjipmjimggggbaaDoorText
import Derived.Test.YtjipmjimggggbaaDoorReadMath
import Derived.Deep.DeepCutAuto
import Derived.Lib.IndexBytes
namespace Go.Proofs.YtjipmjimggggbaaDoor
open Go.ChangeShapes Go.WideShapes Go.ChangeAt Go.RowKit

/-- What is left to write of a number. -/
def decR (n : Nat) : List UInt8 := if n = 0 then [] else Lib.decDigits n
theorem decR_step (n : Nat) (h : 0 < n) : decR n = decR (n / 10) ++ [UInt8.ofNat (48 + n % 10)] := by
  unfold decR
  rw [if_neg (by omega)]
  by_cases h1 : n < 10
  · rw [if_pos (by omega), Lib.decDigits, dif_pos h1, Nat.mod_eq_of_lt h1]; rfl
  · rw [if_neg (by omega), Lib.decDigits, dif_neg h1]

theorem bytes_app (a b : List UInt8) : (⟨a.toArray⟩ : ByteArray) ++ ⟨b.toArray⟩ = ⟨(a ++ b).toArray⟩ := by
  apply ByteArray.ext
  simp
set_option maxRecDepth 100000 in
theorem slice_digit (d : Nat) (h : d < 10) (W : World) : (Instr.slice 9 (.string ⟨#[48, 49, 50, 51, 52, 53, 54, 55, 56, 57]⟩) (some (.int .i64 (d : Int))) (some (.int .i64 ((d : Int) + 1))) none).run Tryd.prog W = .ok (.string ⟨[UInt8.ofNat (48 + d)].toArray⟩) W := by
  match d, h with
  | 0, _ => exact (by kernel_rfl : (Instr.slice 9 (.string ⟨#[48, 49, 50, 51, 52, 53, 54, 55, 56, 57]⟩) (some (.int .i64 ((0 : Nat) : Int))) (some (.int .i64 (((0 : Nat) : Int) + 1))) none).run Tryd.prog W = .ok (.string ⟨[UInt8.ofNat (48 + 0)].toArray⟩) W)
  | 1, _ => exact (by kernel_rfl : (Instr.slice 9 (.string ⟨#[48, 49, 50, 51, 52, 53, 54, 55, 56, 57]⟩) (some (.int .i64 ((1 : Nat) : Int))) (some (.int .i64 (((1 : Nat) : Int) + 1))) none).run Tryd.prog W = .ok (.string ⟨[UInt8.ofNat (48 + 1)].toArray⟩) W)
  | 2, _ => exact (by kernel_rfl : (Instr.slice 9 (.string ⟨#[48, 49, 50, 51, 52, 53, 54, 55, 56, 57]⟩) (some (.int .i64 ((2 : Nat) : Int))) (some (.int .i64 (((2 : Nat) : Int) + 1))) none).run Tryd.prog W = .ok (.string ⟨[UInt8.ofNat (48 + 2)].toArray⟩) W)
  | 3, _ => exact (by kernel_rfl : (Instr.slice 9 (.string ⟨#[48, 49, 50, 51, 52, 53, 54, 55, 56, 57]⟩) (some (.int .i64 ((3 : Nat) : Int))) (some (.int .i64 (((3 : Nat) : Int) + 1))) none).run Tryd.prog W = .ok (.string ⟨[UInt8.ofNat (48 + 3)].toArray⟩) W)
  | 4, _ => exact (by kernel_rfl : (Instr.slice 9 (.string ⟨#[48, 49, 50, 51, 52, 53, 54, 55, 56, 57]⟩) (some (.int .i64 ((4 : Nat) : Int))) (some (.int .i64 (((4 : Nat) : Int) + 1))) none).run Tryd.prog W = .ok (.string ⟨[UInt8.ofNat (48 + 4)].toArray⟩) W)
  | 5, _ => exact (by kernel_rfl : (Instr.slice 9 (.string ⟨#[48, 49, 50, 51, 52, 53, 54, 55, 56, 57]⟩) (some (.int .i64 ((5 : Nat) : Int))) (some (.int .i64 (((5 : Nat) : Int) + 1))) none).run Tryd.prog W = .ok (.string ⟨[UInt8.ofNat (48 + 5)].toArray⟩) W)
  | 6, _ => exact (by kernel_rfl : (Instr.slice 9 (.string ⟨#[48, 49, 50, 51, 52, 53, 54, 55, 56, 57]⟩) (some (.int .i64 ((6 : Nat) : Int))) (some (.int .i64 (((6 : Nat) : Int) + 1))) none).run Tryd.prog W = .ok (.string ⟨[UInt8.ofNat (48 + 6)].toArray⟩) W)
  | 7, _ => exact (by kernel_rfl : (Instr.slice 9 (.string ⟨#[48, 49, 50, 51, 52, 53, 54, 55, 56, 57]⟩) (some (.int .i64 ((7 : Nat) : Int))) (some (.int .i64 (((7 : Nat) : Int) + 1))) none).run Tryd.prog W = .ok (.string ⟨[UInt8.ofNat (48 + 7)].toArray⟩) W)
  | 8, _ => exact (by kernel_rfl : (Instr.slice 9 (.string ⟨#[48, 49, 50, 51, 52, 53, 54, 55, 56, 57]⟩) (some (.int .i64 ((8 : Nat) : Int))) (some (.int .i64 (((8 : Nat) : Int) + 1))) none).run Tryd.prog W = .ok (.string ⟨[UInt8.ofNat (48 + 8)].toArray⟩) W)
  | 9, _ => exact (by kernel_rfl : (Instr.slice 9 (.string ⟨#[48, 49, 50, 51, 52, 53, 54, 55, 56, 57]⟩) (some (.int .i64 ((9 : Nat) : Int))) (some (.int .i64 (((9 : Nat) : Int) + 1))) none).run Tryd.prog W = .ok (.string ⟨[UInt8.ofNat (48 + 9)].toArray⟩) W)

set_option maxRecDepth 100000 in
set_option maxHeartbeats 1000000 in
theorem decimal_any (n : Nat) (hn : n ≤ 1048576) (w : World) : Calls Tryd.prog 62 #[.int .i64 n] w fun e w' => e = .returned (.string ⟨(decR n).toArray⟩) ∧ w = w' := by
  go_enter Tryd.func62, Tryd.ntmps62
  go_wp2
  go_loop [0, 3] (fun v o => ∃ (m : Nat) (l : List UInt8), m ≤ 1048576 ∧ v = .int .i64 m ∧ o = .string ⟨l.toArray⟩ ∧ Hid (decR m ++ l = decR n) ∧ l.length ≤ n - m ∧ m ≤ n) (fun v _ => (intOf v).toNat)
  case atStart => exact ⟨n, [], hn, rfl, rfl, by show _ ++ [] = _; simp, Nat.zero_le _, Nat.le_refl _⟩
  case round =>
    obtain ⟨m, l, hm, rfl, rfl, hl, hle, hmn⟩ := hrel
    by_cases h0 : 0 < m
    · have hst := Lib.hid (decR_step m h0)
      have ha : 0 ≤ (m : Int) % 10 ∧ (m : Int) % 10 < 10 := by omega
      obtain ⟨o, ho⟩ : ∃ o, UInt8.ofNat (48 + m % 10) = o := ⟨_, rfl⟩
      have hsl : ∀ W, (Instr.slice 9 (.string ⟨#[48, 49, 50, 51, 52, 53, 54, 55, 56, 57]⟩) (some (.int .i64 ((m : Int) % 10))) (some (.int .i64 ((m : Int) % 10 + 1))) none).run Tryd.prog W = .ok (.string ⟨[o].toArray⟩) W := by
        intro W
        rw [← ho, ← slice_digit (m % 10) (Nat.mod_lt _ (by omega)) W]
        rfl
      rw [ho] at hst
      clear ho
      go_wp2
      refine ⟨⟨m / 10, o :: l, by omega, by go_num, congrArg Value.string (bytes_app [o] l), ?_, by simp; omega, by omega⟩, by simp [intOf]; omega⟩
      show decR (m / 10) ++ o :: l = decR n
      rw [← hl.out, hst.out]
      simp
    · obtain rfl : m = 0 := by omega
      have H := Lib.hid (show l = decR n by have := hl.out; simpa [decR] using this)
      clear hl
      go_wp2
      go_ret
      exact ⟨by rw [← H.out]; rfl, rfl⟩

theorem decR_len (n : Nat) : (decR n).length ≤ n := by
  induction n using Nat.strongRecOn with
  | ind n ih =>
    rcases Nat.eq_zero_or_pos n with rfl | h
    · simp [decR]
    · rw [decR_step n h, List.length_append]
      have := ih (n / 10) (by omega)
      simp
      omega
theorem decR_pos (n : Nat) (h : 0 < n) : decR n = Lib.decDigits n := by unfold decR; rw [if_neg (by omega)]

set_option maxRecDepth 100000 in
set_option maxHeartbeats 1000000 in
theorem ref_text (a : Int) (w : World) : Calls Tryd.prog 47 #[.int .i64 a] w fun e w' => e = .returned (.string ⟨(textL a).toArray⟩) ∧ w = w' := by
  cases hl : litB a
  · have H := Lib.hid hl; clear hl
    go_enter Tryd.func47, Tryd.ntmps47
    go_wp2_with (go_at_call 42; refine (ref_right _ _).mono ?_; rintro e w' ⟨rfl, rfl⟩; rw [H.out])
    go_ret
    exact ⟨by simp [textL, H.out], rfl⟩
  · have hb := litB_of hl
    have H := Lib.hid hl; clear hl
    by_cases h : a < 0
    · obtain ⟨n, rfl⟩ : ∃ n : Nat, a = -(n : Int) := ⟨a.natAbs, by omega⟩
      have hn : n ≤ 1048576 ∧ 0 < n := by omega
      have he := Lib.hid (show textL (-(n : Int)) = [45] ++ decR n by rw [textL, if_pos H.out, Lib.itoa, if_pos h, decR_pos n hn.2]; simp)
      have hlen := decR_len n
      obtain ⟨l, hl⟩ : ∃ l, decR n = l := ⟨_, rfl⟩
      have HD := Lib.hid (decimal_any n hn.1)
      rw [hl] at he HD hlen
      clear hl
      go_enter Tryd.func47, Tryd.ntmps47
      go_wp2_with (first
        | (go_at_call 42; refine (ref_right _ _).mono ?_; rintro e w' ⟨rfl, rfl⟩; rw [H.out])
        | (go_at_call 62; refine (HD.out _).mono ?_; rintro e w' ⟨rfl, rfl⟩))
      go_ret
      exact ⟨by rw [he.out, ← bytes_app]; rfl, rfl⟩
    · obtain ⟨n, rfl⟩ : ∃ n : Nat, a = (n : Int) := ⟨a.toNat, by omega⟩
      have hn : n ≤ 1048576 ∧ 0 < n := by omega
      have he := Lib.hid (show textL (n : Int) = decR n by rw [textL, if_pos H.out, Lib.itoa, if_neg h, decR_pos n hn.2]; simp)
      have HD := Lib.hid (decimal_any n hn.1)
      go_enter Tryd.func47, Tryd.ntmps47
      go_wp2_with (first
        | (go_at_call 42; refine (ref_right _ _).mono ?_; rintro e w' ⟨rfl, rfl⟩; rw [H.out])
        | (go_at_call 62; refine (HD.out _).mono ?_; rintro e w' ⟨rfl, rfl⟩))
      go_ret
      exact ⟨by rw [he.out]; rfl, rfl⟩

theorem trim_yes {s : ByteArray} (h0 : 0 < s.size) (h : ((s[0].toNat : Int) == 45) = true) : Lib.trimPrefix s.data.toList [45] = s.data.toList.drop 1 ∧ txN s.data.toList = true := by
  have hl : 0 < s.data.toList.length := by simpa using h0
  obtain ⟨d, r, hd⟩ : ∃ d r, s.data.toList = d :: r := by
    cases hh : s.data.toList with
    | nil => rw [hh] at hl; cases hl
    | cons d r => exact ⟨d, r, rfl⟩
  have hd0 : s[0] = d := by
    have : s.data.toList[0]? = some d := by rw [hd]; rfl
    have h2 : s.data.toList[0]? = some s[0] := List.getElem?_eq_getElem hl
    exact Option.some.inj (h2.symm.trans this)
  rw [hd0] at h
  have hdd : d = 45 := by
    apply UInt8.toNat.inj
    show d.toNat = 45
    have := beq_iff_eq.1 h
    omega
  subst hdd
  rw [hd]
  constructor
  · simp [Lib.trimPrefix, Lib.hasPrefix]
  · simp [txN, Lib.hasPrefix]
theorem trim_no {s : ByteArray} (h0 : 0 < s.size) (h : ((s[0].toNat : Int) == 45) = false) : Lib.trimPrefix s.data.toList [45] = s.data.toList ∧ txN s.data.toList = false := by
  have hl : 0 < s.data.toList.length := by simpa using h0
  obtain ⟨d, r, hd⟩ : ∃ d r, s.data.toList = d :: r := by
    cases hh : s.data.toList with
    | nil => rw [hh] at hl; cases hl
    | cons d r => exact ⟨d, r, rfl⟩
  have hd0 : s[0] = d := by
    have : s.data.toList[0]? = some d := by rw [hd]; rfl
    have h2 : s.data.toList[0]? = some s[0] := List.getElem?_eq_getElem hl
    exact Option.some.inj (h2.symm.trans this)
  rw [hd0] at h
  have hdd : ¬ d = 45 := by
    rintro rfl
    exact absurd h (by decide)
  have hp : Lib.hasPrefix (d :: r) [45] = false := by
    show ((45 == d) && List.isPrefixOf [] r) = false
    rw [beq_eq_false_iff_ne.2 (fun e => hdd e.symm)]
    rfl
  rw [hd]
  exact ⟨by unfold Lib.trimPrefix; rw [hp]; rfl, hp⟩

theorem rf_len {l : List UInt8} {b : Bool} (h : l.length < 1 ∨ 7 < l.length) : rfI l b = 0 := by
  rw [rfI, if_pos]
  rcases h with h | h
  · exact .inl h
  · exact .inr (.inl h)
theorem head_at {s : ByteArray} (h0 : 0 < s.size) : s.data.toList.head? = some s[0] := by
  rw [List.head?_eq_getElem?]
  exact List.getElem?_eq_getElem (by simpa using h0)
theorem rf_zero {s : ByteArray} {b : Bool} (h0 : 0 < s.size) (h : (s[0].toNat : Int) = 48) : rfI s.data.toList b = 0 := by
  rw [rfI, if_pos (.inr (.inr (by rw [head_at h0, u8_48.2 h])))]
theorem rf_num {s : ByteArray} {b : Bool} (h0 : 0 < s.size) (h7 : s.size ≤ 7) (h : ¬ (s[0].toNat : Int) = 48) : rfI s.data.toList b = match numL s.data.toList 0 with
    | none => 0
    | some n => if litB n then (if b then -1 else 1) * n else 0 := by
  have hh : ¬ (s.data.toList.length < 1 ∨ 7 < s.data.toList.length ∨ s.data.toList.head? = some 48) := by
    have hl : s.data.toList.length = s.size := by simp
    rintro (h1 | h1 | h1)
    · omega
    · omega
    · rw [head_at h0] at h1
      injection h1 with h1
      exact h (u8_48.1 h1)
  rw [rfI, if_neg hh]
  cases numL s.data.toList 0 <;> rfl
theorem num_at (s : ByteArray) (x : Int) (k : Nat) (h : k < s.size) : numL (s.data.toList.drop k) x = if (s[k].toNat : Int) < 48 ∨ 57 < (s[k].toNat : Int) then none else numL (s.data.toList.drop (k + 1)) (10 * x + ((s[k].toNat : Int) - 48)) := by
  have hk : k < s.data.toList.length := by simpa using h
  rw [List.drop_eq_getElem_cons hk]
  rfl
theorem num_end (s : ByteArray) (x : Int) (k : Nat) (h : s.size ≤ k) : numL (s.data.toList.drop k) x = some x := by
  rw [List.drop_eq_nil_of_le (by simpa using h)]; rfl
def NumAt (d : Int) (R T : Option Int) : Prop := (if d < 48 ∨ 57 < d then none else R) = T
theorem num_a {d : Int} {R T : Option Int} (H : NumAt d R T) (h : d < 48 ∨ 57 < d) : T = none := by unfold NumAt at H; rw [if_pos h] at H; exact H.symm
theorem num_b {d : Int} {R T : Option Int} (H : NumAt d R T) (h : 48 ≤ d ∧ d ≤ 57) : R = T := by unfold NumAt at H; rwa [if_neg (by omega)] at H

/-- What holds at the head of the loop of the reference's Read. -/
def RRel (t : ByteArray) (r n i : Value) : Prop :=
  ∃ (k : Nat) (x : Int), k ≤ t.size ∧ r = .int .i64 0 ∧ i = .int .i64 k ∧ n = .int .i64 x ∧ 0 ≤ x ∧ x < pw k ∧ numL (t.data.toList.drop k) x = numL t.data.toList 0

set_option maxRecDepth 100000 in
set_option maxHeartbeats 2000000 in
theorem ref_read (s : ByteArray) (w : World) (hs : s.size ≤ 9223372036854775807) : Calls Tryd.prog 48 #[.string s] w fun e w' => e = .returned (.int .i64 (readI s.data.toList)) ∧ ∃ q, w.drewN q = w' := by
  by_cases h0 : 0 < s.size
  · have T1 := Lib.hid (trim_yes h0)
    have T2 := Lib.hid (trim_no h0)
    go_enter Tryd.func48, Tryd.ntmps48
    go_upto_if 15 with (fail)
    go_cut [3, 4] (fun sg ds wx => ∃ t : ByteArray, ds = .string t ∧ t.data.toList = Lib.trimPrefix s.data.toList [45] ∧ sg = .int .i64 (if txN s.data.toList then -1 else 1) ∧ ∃ q, w.drewN q = wx)
    case first =>
      go_wp2
      · have hb : ((s[0].toNat : Int) == 45) = true := by assumption
        go_quiet (fail)
        go_wp2
        go_meet
        exact ⟨s.extract 1 s.size, rfl, by rw [(T1.out hb).1]; exact Lib.extract_to_end s 1, by rw [(T1.out hb).2]; rfl, _, rfl⟩
      · have hb : ((s[0].toNat : Int) == 45) = false := by assumption
        go_meet
        exact ⟨s, rfl, (T2.out hb).1.symm, by rw [(T2.out hb).2]; rfl, 0, World.drewN_zero _⟩
    case rest =>
      obtain ⟨t, rfl, ht, rfl, q, rfl⟩ := hcut
      have HR := Lib.hid (readI_rf s.data.toList)
      rw [← ht] at HR
      obtain ⟨sg, hsg⟩ : ∃ b, txN s.data.toList = b := ⟨_, rfl⟩
      rw [hsg] at HR ⊢
      clear ht hsg
      have hts : t.size = t.data.toList.length := by simp
      by_cases t0 : 0 < t.size
      · by_cases t7 : t.size ≤ 7
        · have RZ := Lib.hid (fun h => HR.out.trans (rf_zero (b := sg) t0 h))
          have RN := Lib.hid (fun h => HR.out.trans (rf_num (b := sg) t0 t7 h))
          clear HR hts T1 T2
          cases sg
          all_goals
            go_wp2
            · have h8 : (t[0].toNat : Int) = 48 := by
                have : (t[0].toNat == 48) = true ∨ (((t[0].toNat : Int) == 48) = true) := by
                  have hx : ((t.size : Int) < 1 ∨ 7 < (t.size : Int)) ∨ ((t[0].toNat : Int) == 48) = true := by assumption
                  rcases hx with hx | hx
                  · omega
                  · exact .inr hx
                rcases this with h | h
                · have := beq_iff_eq.1 h; omega
                · exact beq_iff_eq.1 h
              go_ret
              exact ⟨by rw [RZ.out h8]; rfl, _, rfl⟩
            · have h8 : ¬ (t[0].toNat : Int) = 48 := by
                have hx : (1 ≤ (t.size : Int) ∧ (t.size : Int) ≤ 7) ∧ ((t[0].toNat : Int) == 48) = false := by assumption
                exact beq_eq_false_iff_ne.1 hx.2
              have RM := Lib.hid (RN.out h8)
              clear RZ RN h8
              go_loop [2, 5, 6] (fun r n i => RRel t r n i) (fun _ _ i => t.size - (intOf i).toNat)
              case atStart => exact ⟨0, 0, Nat.zero_le _, rfl, rfl, rfl, by omega, by decide, rfl⟩
              case round =>
                obtain ⟨k, x, hk, rfl, rfl, rfl, hx0, hx1, hx⟩ := hrel
                have hp := pw_le (k := k) (j := 7) (by omega)
                rw [pw_7] at hp
                by_cases hlt : k < t.size
                · have hx' := hx
                  rw [num_at t x k hlt] at hx'
                  have HN : NumAt t[k].toNat (numL (t.data.toList.drop (k + 1)) (10 * x + ((t[k].toNat : Int) - 48))) (numL t.data.toList 0) := hx'
                  clear hx' hx
                  go_wp2
                  · have hn := num_a HN (by omega)
                    go_ret
                    exact ⟨by rw [RM.out, hn]; rfl, _, rfl⟩
                  · have hn := num_b HN (by omega)
                    have hps : pw (k + 1) = 10 * pw k := rfl
                    have hnew : RRel t (.int .i64 0) (.int .i64 (x * 10 + (t[k].toNat : Int) - 48)) (.int .i64 ((k : Int) + 1)) := ⟨k + 1, 10 * x + ((t[k].toNat : Int) - 48), by omega, rfl, by go_num, congrArg (Value.int .i64) (by omega), by omega, by omega, hn⟩
                    go_round
                    case rel => first | exact hnew | exact ⟨_, _, _, hnew, rfl, rfl, rfl⟩
                    case measure => simp [intOf]; omega
                  · have hn := num_a HN (by omega)
                    go_ret
                    exact ⟨by rw [RM.out, hn]; rfl, _, rfl⟩
                · have hx' := hx
                  rw [num_end t x k (by omega)] at hx'
                  have HX := Lib.hid hx'.symm; clear hx' hx
                  have hre := RM.out
                  rw [HX.out] at hre
                  cases hl : litB x
                  · have Hre := Lib.hid (hre.trans (show _ = (0 : Int) by simp [hl]))
                    have Hl := Lib.hid hl; clear hl hre RM HX
                    go_wp2_with (go_at_call 42; refine (ref_right _ _).mono ?_; rintro e w' ⟨rfl, rfl⟩; rw [Hl.out])
                    go_ret
                    exact ⟨by rw [Hre.out]; rfl, _, rfl⟩
                  · have Hre := Lib.hid hre
                    have Hl := Lib.hid hl; clear hl hre RM HX
                    go_wp2_with (go_at_call 42; refine (ref_right _ _).mono ?_; rintro e w' ⟨rfl, rfl⟩; rw [Hl.out])
                    go_ret
                    exact ⟨ret_i (by rw [Hre.out]; simp [Hl.out]), _, rfl⟩
        · have hr := Lib.hid (HR.out.trans (rf_len (.inr (by omega))))
          clear HR hts T1 T2
          cases sg
          all_goals
            go_wp2
            go_ret
            exact ⟨by rw [hr.out]; rfl, _, rfl⟩
      · have hr := Lib.hid (HR.out.trans (rf_len (.inl (by omega))))
        clear HR hts T1 T2
        cases sg
        all_goals
          go_wp2
          go_ret
          exact ⟨by rw [hr.out]; rfl, _, rfl⟩
  · have hr := Lib.hid (show readI s.data.toList = 0 by
      have : s.data.toList = [] := List.eq_nil_of_length_eq_zero (by simpa using h0)
      rw [this]
      decide +kernel)
    go_enter Tryd.func48, Tryd.ntmps48
    go_wp2
    go_ret
    exact ⟨by rw [hr.out]; rfl, 0, rfl⟩
end Go.Proofs.YtjipmjimggggbaaDoor
