/- The reference's way to read a text, and that of lits, come to the same: of lists of bytes alone. -/
/- The reference's texts: decimal, Text and Read say what the library and lits say. -/
/- Texts of literals are read back, and what is read of a text is written so: of lists of bytes alone. -/
import Derived.Test.YticcgmegimiegaaGreatDoorRead
import Derived.Test.YticcgmegimiegaaGreatDoorRef
import Derived.Test.YticcgmegimiegaaGreatDoorDmText
import Derived.Deep.DeepCutAuto
import Derived.Lib.IndexBytes
namespace Go.Proofs.YticcgmegimiegaaGreatDoor
open Go.RowKit

/-- The number that digits say, when n has been read before; none if one of them is no digit. -/
def numR : List UInt8 → Int → Option Int
  | [], n => some n
  | d :: r, n => if (d.toNat : Int) < 48 ∨ 57 < (d.toNat : Int) then none else numR r (10 * n + ((d.toNat : Int) - 48))
def pw : Nat → Int
  | 0 => 1
  | k + 1 => 10 * pw k
theorem pw_pos (k : Nat) : 1 ≤ pw k := by
  induction k with
  | zero => decide
  | succ k ih => unfold pw; omega
theorem pw_le {k j : Nat} (h : k ≤ j) : pw k ≤ pw j := by
  induction j with
  | zero => obtain rfl : k = 0 := by omega
            exact Int.le_refl _
  | succ j ih =>
    by_cases e : k = j + 1
    · rw [e]; exact Int.le_refl _
    · have := ih (by omega)
      have hp := pw_pos j
      have hs : pw (j + 1) = 10 * pw j := rfl
      omega
theorem pw_7 : pw 7 = 10000000 := by decide

theorem rd_num (l : List UInt8) : ∀ (v : Int) (k : Nat), 0 ≤ v → 0 < k →
    (∀ n, numR l v = some n → v ≤ n ∧ (n ≤ 1048576 → rdL l v k = n) ∧ (1048576 < n → 1048576 < rdL l v k)) ∧ (numR l v = none → rdL l v k = 0 ∨ 1048576 < rdL l v k) := by
  induction l with
  | nil =>
    intro v k hv hk
    refine ⟨fun n hn => ?_, fun h => by cases h⟩
    obtain rfl : v = n := by simpa [numR] using hn
    exact ⟨Int.le_refl _, fun _ => rfl, fun h => h⟩
  | cons d r ih =>
    intro v k hv hk
    by_cases h1 : (d.toNat : Int) < 48 ∨ 57 < (d.toNat : Int)
    · refine ⟨fun n hn => ?_, fun _ => .inl ?_⟩
      · rw [numR, if_pos h1] at hn; cases hn
      · rw [rdL, if_pos h1]
    · have h2 : ¬ ((d.toNat : Int) = 48 ∧ k = 0) := by omega
      obtain ⟨i1, i2⟩ := ih (10 * v + ((d.toNat : Int) - 48)) (k + 1) (by omega) (by omega)
      rw [numR, if_neg h1, rdL, if_neg h1, if_neg h2]
      by_cases h3 : 1048576 < v
      · rw [if_pos h3]
        refine ⟨fun n hn => ?_, fun _ => .inr h3⟩
        obtain ⟨j1, -, -⟩ := i1 n hn
        exact ⟨by omega, fun h => by omega, fun _ => h3⟩
      · rw [if_neg h3]
        refine ⟨fun n hn => ?_, i2⟩
        obtain ⟨j1, j2, j3⟩ := i1 n hn
        exact ⟨by omega, j2, j3⟩

theorem rd_long (l : List UInt8) : ∀ (v : Int) (k i : Nat), 0 < k → pw i ≤ v → 7 ≤ l.length + i → rdL l v k = 0 ∨ 1048576 < rdL l v k := by
  induction l with
  | nil =>
    intro v k i _ hv hl
    have := pw_le (k := 7) (j := i) (by simpa using hl)
    rw [pw_7] at this
    exact .inr (by show 1048576 < v; omega)
  | cons d r ih =>
    intro v k i hk hv hl
    by_cases h1 : (d.toNat : Int) < 48 ∨ 57 < (d.toNat : Int)
    · exact .inl (by rw [rdL, if_pos h1])
    · have h2 : ¬ ((d.toNat : Int) = 48 ∧ k = 0) := by omega
      rw [rdL, if_neg h1, if_neg h2]
      by_cases h3 : 1048576 < v
      · rw [if_pos h3]; exact .inr h3
      · rw [if_neg h3]
        refine ih _ _ (i + 1) (by omega) ?_ (by simp at hl; omega)
        show 10 * pw i ≤ _
        omega

theorem of_none {v : Int} {b : Bool} (h : v = 0 ∨ 1048576 < v) : ofI v b = 0 := by rw [ofI, if_neg (by omega)]

/-- What the reference reads of digits. -/
def rfI (l : List UInt8) (b : Bool) : Int :=
  if l.length < 1 ∨ 7 < l.length ∨ l.head? = some 48 then 0 else match numR l 0 with
    | none => 0
    | some n => if litB n then (if b then -1 else 1) * n else 0

theorem u8_48 {d : UInt8} : d = 48 ↔ (d.toNat : Int) = 48 := by
  constructor
  · rintro rfl; rfl
  · intro h
    apply UInt8.toNat.inj
    show d.toNat = 48
    omega
theorem rf_is (l : List UInt8) (b : Bool) : rfI l b = ofI (rdL l 0 0) b := by
  cases l with
  | nil => rfl
  | cons d r =>
    by_cases h0 : (d.toNat : Int) = 48
    · have e1 : rdL (d :: r) 0 0 = 0 := by
        rw [rdL, if_neg (by omega), if_pos ⟨h0, rfl⟩]
      rw [e1, of_none (.inl rfl), rfI, if_pos (.inr (.inr (by rw [List.head?_cons, u8_48.2 h0])))]
    · by_cases h1 : (d.toNat : Int) < 48 ∨ 57 < (d.toNat : Int)
      · have e1 : rdL (d :: r) 0 0 = 0 := by rw [rdL, if_pos h1]
        rw [e1, of_none (.inl rfl), rfI]
        split
        · rfl
        · rw [numR, if_pos h1]
      · have e1 : rdL (d :: r) 0 0 = rdL r ((d.toNat : Int) - 48) 1 := by
          rw [rdL, if_neg h1, if_neg (by omega), if_neg (by omega)]; simp
        have e2 : numR (d :: r) 0 = numR r ((d.toNat : Int) - 48) := by rw [numR, if_neg h1]; simp
        by_cases h7 : 7 < (d :: r).length
        · rw [rfI, if_pos (.inr (.inl h7)), e1]
          exact (of_none (rd_long r _ 1 0 (by omega) (by show (1 : Int) ≤ _; omega) (by simp at h7; omega))).symm
        · have hh : ¬ ((d :: r).length < 1 ∨ 7 < (d :: r).length ∨ (d :: r).head? = some 48) := by
            rintro (h | h | h)
            · simp at h
            · exact h7 h
            · rw [List.head?_cons] at h
              injection h with h
              exact h0 (u8_48.1 h)
          obtain ⟨i1, i2⟩ := rd_num r ((d.toNat : Int) - 48) 1 (by omega) (by omega)
          rw [rfI, if_neg hh, e1, e2]
          cases hn : numR r ((d.toNat : Int) - 48) with
          | none => exact (of_none (i2 hn)).symm
          | some n =>
            obtain ⟨j1, j2, j3⟩ := i1 n hn
            by_cases hm : n ≤ 1048576
            · rw [j2 hm]
              show (if litB n = true then (if b = true then -1 else 1) * n else 0) = ofI n b
              have hof : ofI n b = if b then -n else n := by rw [ofI, if_pos ⟨by omega, by omega⟩]
              rw [if_pos (litB_yes (by omega) (by omega) hm), hof]
              cases b <;> simp
            · show (if litB n = true then (if b = true then -1 else 1) * n else 0) = _
              rw [if_neg (by rw [litB_not (by omega)]; exact Bool.false_ne_true)]
              exact (of_none (.inr (j3 (by omega)))).symm
theorem readI_rf (l : List UInt8) : readI l = rfI (Lib.trimPrefix l [45]) (txN l) := (rf_is _ _).symm
end Go.Proofs.YticcgmegimiegaaGreatDoor
namespace Go.Proofs.YticcgmegimiegaaGreatDoor
open Go.ChangeShapes Go.WideShapes Go.ChangeAt Go.RowKit

/-- What is left to write of a number. -/
def decR (n : Nat) : List UInt8 := if n = 0 then [] else Lib.decDigits n
theorem decR_step (n : Nat) (h : 0 < n) : decR n = decR (n / 10) ++ [UInt8.ofNat (48 + n % 10)] := by
  unfold decR
  rw [if_neg (by omega)]
  by_cases h1 : n < 10
  · rw [if_pos (by omega), Lib.decDigits, dif_pos h1, Nat.mod_eq_of_lt h1]; rfl
  · rw [if_neg (by omega), Lib.decDigits, dif_neg h1]

theorem bytes_app (a b : List UInt8) : (⟨a.toArray⟩ : ByteArray) ++ ⟨b.toArray⟩ = ⟨(a ++ b).toArray⟩ := by
  apply ByteArray.ext
  simp
set_option maxRecDepth 100000 in
theorem slice_digit (d : Nat) (h : d < 10) (W : World) : (Instr.slice 9 (.string ⟨#[48, 49, 50, 51, 52, 53, 54, 55, 56, 57]⟩) (some (.int .i64 (d : Int))) (some (.int .i64 ((d : Int) + 1))) none).run Tryz.prog W = .ok (.string ⟨[UInt8.ofNat (48 + d)].toArray⟩) W := by
  match d, h with
  | 0, _ => exact (by kernel_rfl : (Instr.slice 9 (.string ⟨#[48, 49, 50, 51, 52, 53, 54, 55, 56, 57]⟩) (some (.int .i64 ((0 : Nat) : Int))) (some (.int .i64 (((0 : Nat) : Int) + 1))) none).run Tryz.prog W = .ok (.string ⟨[UInt8.ofNat (48 + 0)].toArray⟩) W)
  | 1, _ => exact (by kernel_rfl : (Instr.slice 9 (.string ⟨#[48, 49, 50, 51, 52, 53, 54, 55, 56, 57]⟩) (some (.int .i64 ((1 : Nat) : Int))) (some (.int .i64 (((1 : Nat) : Int) + 1))) none).run Tryz.prog W = .ok (.string ⟨[UInt8.ofNat (48 + 1)].toArray⟩) W)
  | 2, _ => exact (by kernel_rfl : (Instr.slice 9 (.string ⟨#[48, 49, 50, 51, 52, 53, 54, 55, 56, 57]⟩) (some (.int .i64 ((2 : Nat) : Int))) (some (.int .i64 (((2 : Nat) : Int) + 1))) none).run Tryz.prog W = .ok (.string ⟨[UInt8.ofNat (48 + 2)].toArray⟩) W)
  | 3, _ => exact (by kernel_rfl : (Instr.slice 9 (.string ⟨#[48, 49, 50, 51, 52, 53, 54, 55, 56, 57]⟩) (some (.int .i64 ((3 : Nat) : Int))) (some (.int .i64 (((3 : Nat) : Int) + 1))) none).run Tryz.prog W = .ok (.string ⟨[UInt8.ofNat (48 + 3)].toArray⟩) W)
  | 4, _ => exact (by kernel_rfl : (Instr.slice 9 (.string ⟨#[48, 49, 50, 51, 52, 53, 54, 55, 56, 57]⟩) (some (.int .i64 ((4 : Nat) : Int))) (some (.int .i64 (((4 : Nat) : Int) + 1))) none).run Tryz.prog W = .ok (.string ⟨[UInt8.ofNat (48 + 4)].toArray⟩) W)
  | 5, _ => exact (by kernel_rfl : (Instr.slice 9 (.string ⟨#[48, 49, 50, 51, 52, 53, 54, 55, 56, 57]⟩) (some (.int .i64 ((5 : Nat) : Int))) (some (.int .i64 (((5 : Nat) : Int) + 1))) none).run Tryz.prog W = .ok (.string ⟨[UInt8.ofNat (48 + 5)].toArray⟩) W)
  | 6, _ => exact (by kernel_rfl : (Instr.slice 9 (.string ⟨#[48, 49, 50, 51, 52, 53, 54, 55, 56, 57]⟩) (some (.int .i64 ((6 : Nat) : Int))) (some (.int .i64 (((6 : Nat) : Int) + 1))) none).run Tryz.prog W = .ok (.string ⟨[UInt8.ofNat (48 + 6)].toArray⟩) W)
  | 7, _ => exact (by kernel_rfl : (Instr.slice 9 (.string ⟨#[48, 49, 50, 51, 52, 53, 54, 55, 56, 57]⟩) (some (.int .i64 ((7 : Nat) : Int))) (some (.int .i64 (((7 : Nat) : Int) + 1))) none).run Tryz.prog W = .ok (.string ⟨[UInt8.ofNat (48 + 7)].toArray⟩) W)
  | 8, _ => exact (by kernel_rfl : (Instr.slice 9 (.string ⟨#[48, 49, 50, 51, 52, 53, 54, 55, 56, 57]⟩) (some (.int .i64 ((8 : Nat) : Int))) (some (.int .i64 (((8 : Nat) : Int) + 1))) none).run Tryz.prog W = .ok (.string ⟨[UInt8.ofNat (48 + 8)].toArray⟩) W)
  | 9, _ => exact (by kernel_rfl : (Instr.slice 9 (.string ⟨#[48, 49, 50, 51, 52, 53, 54, 55, 56, 57]⟩) (some (.int .i64 ((9 : Nat) : Int))) (some (.int .i64 (((9 : Nat) : Int) + 1))) none).run Tryz.prog W = .ok (.string ⟨[UInt8.ofNat (48 + 9)].toArray⟩) W)

set_option maxRecDepth 100000 in
set_option maxHeartbeats 1000000 in
theorem decimal_any (n : Nat) (hn : n ≤ 1048576) (w : World) : Calls Tryz.prog 108 #[.int .i64 n] w fun e w' => e = .returned (.string ⟨(decR n).toArray⟩) ∧ w = w' := by
  go_enter Tryz.func108, Tryz.ntmps108
  go_wp2
  go_loop [0, 3] (fun v o => ∃ (m : Nat) (l : List UInt8), m ≤ 1048576 ∧ v = .int .i64 m ∧ o = .string ⟨l.toArray⟩ ∧ Hid (decR m ++ l = decR n) ∧ l.length ≤ n - m ∧ m ≤ n) (fun v _ => (intOf v).toNat)
  case atStart => exact ⟨n, [], hn, rfl, rfl, by show _ ++ [] = _; simp, Nat.zero_le _, Nat.le_refl _⟩
  case round =>
    obtain ⟨m, l, hm, rfl, rfl, hl, hle, hmn⟩ := hrel
    by_cases h0 : 0 < m
    · have hst := Lib.hid (decR_step m h0)
      have ha : 0 ≤ (m : Int) % 10 ∧ (m : Int) % 10 < 10 := by omega
      obtain ⟨o, ho⟩ : ∃ o, UInt8.ofNat (48 + m % 10) = o := ⟨_, rfl⟩
      have hsl : ∀ W, (Instr.slice 9 (.string ⟨#[48, 49, 50, 51, 52, 53, 54, 55, 56, 57]⟩) (some (.int .i64 ((m : Int) % 10))) (some (.int .i64 ((m : Int) % 10 + 1))) none).run Tryz.prog W = .ok (.string ⟨[o].toArray⟩) W := by
        intro W
        rw [← ho, ← slice_digit (m % 10) (Nat.mod_lt _ (by omega)) W]
        rfl
      rw [ho] at hst
      clear ho
      go_wp2
      refine ⟨⟨m / 10, o :: l, by omega, by go_num, congrArg Value.string (bytes_app [o] l), ?_, by simp; omega, by omega⟩, by simp [intOf]; omega⟩
      show decR (m / 10) ++ o :: l = decR n
      rw [← hl.out, hst.out]
      simp
    · obtain rfl : m = 0 := by omega
      have H := Lib.hid (show l = decR n by have := hl.out; simpa [decR] using this)
      clear hl
      go_wp2
      go_ret
      exact ⟨by rw [← H.out]; rfl, rfl⟩

theorem decR_len (n : Nat) : (decR n).length ≤ n := by
  induction n using Nat.strongRecOn with
  | ind n ih =>
    rcases Nat.eq_zero_or_pos n with rfl | h
    · simp [decR]
    · rw [decR_step n h, List.length_append]
      have := ih (n / 10) (by omega)
      simp
      omega
theorem decR_pos (n : Nat) (h : 0 < n) : decR n = Lib.decDigits n := by unfold decR; rw [if_neg (by omega)]

set_option maxRecDepth 100000 in
set_option maxHeartbeats 1000000 in
theorem ref_text (a : Int) (w : World) : Calls Tryz.prog 79 #[.int .i64 a] w fun e w' => e = .returned (.string ⟨(textL a).toArray⟩) ∧ w = w' := by
  cases hl : litB a
  · have H := Lib.hid hl; clear hl
    go_enter Tryz.func79, Tryz.ntmps79
    go_wp2_with (go_at_call 78; refine (ref_right _ _).mono ?_; rintro e w' ⟨rfl, rfl⟩; rw [H.out])
    go_ret
    exact ⟨by simp [textL, H.out], rfl⟩
  · have hb := litB_of hl
    have H := Lib.hid hl; clear hl
    by_cases h : a < 0
    · obtain ⟨n, rfl⟩ : ∃ n : Nat, a = -(n : Int) := ⟨a.natAbs, by omega⟩
      have hn : n ≤ 1048576 ∧ 0 < n := by omega
      have he := Lib.hid (show textL (-(n : Int)) = [45] ++ decR n by rw [textL, if_pos H.out, Lib.itoa, if_pos h, decR_pos n hn.2]; simp)
      have hlen := decR_len n
      obtain ⟨l, hl⟩ : ∃ l, decR n = l := ⟨_, rfl⟩
      have HD := Lib.hid (decimal_any n hn.1)
      rw [hl] at he HD hlen
      clear hl
      go_enter Tryz.func79, Tryz.ntmps79
      go_wp2_with (first
        | (go_at_call 78; refine (ref_right _ _).mono ?_; rintro e w' ⟨rfl, rfl⟩; rw [H.out])
        | (go_at_call 108; refine (HD.out _).mono ?_; rintro e w' ⟨rfl, rfl⟩))
      go_ret
      exact ⟨by rw [he.out, ← bytes_app]; rfl, rfl⟩
    · obtain ⟨n, rfl⟩ : ∃ n : Nat, a = (n : Int) := ⟨a.toNat, by omega⟩
      have hn : n ≤ 1048576 ∧ 0 < n := by omega
      have he := Lib.hid (show textL (n : Int) = decR n by rw [textL, if_pos H.out, Lib.itoa, if_neg h, decR_pos n hn.2]; simp)
      have HD := Lib.hid (decimal_any n hn.1)
      go_enter Tryz.func79, Tryz.ntmps79
      go_wp2_with (first
        | (go_at_call 78; refine (ref_right _ _).mono ?_; rintro e w' ⟨rfl, rfl⟩; rw [H.out])
        | (go_at_call 108; refine (HD.out _).mono ?_; rintro e w' ⟨rfl, rfl⟩))
      go_ret
      exact ⟨by rw [he.out]; rfl, rfl⟩

theorem trim_yes {s : ByteArray} (h0 : 0 < s.size) (h : ((s[0].toNat : Int) == 45) = true) : Lib.trimPrefix s.data.toList [45] = s.data.toList.drop 1 ∧ txN s.data.toList = true := by
  have hl : 0 < s.data.toList.length := by simpa using h0
  obtain ⟨d, r, hd⟩ : ∃ d r, s.data.toList = d :: r := by
    cases hh : s.data.toList with
    | nil => rw [hh] at hl; cases hl
    | cons d r => exact ⟨d, r, rfl⟩
  have hd0 : s[0] = d := by
    have : s.data.toList[0]? = some d := by rw [hd]; rfl
    have h2 : s.data.toList[0]? = some s[0] := List.getElem?_eq_getElem hl
    exact Option.some.inj (h2.symm.trans this)
  rw [hd0] at h
  have hdd : d = 45 := by
    apply UInt8.toNat.inj
    show d.toNat = 45
    have := beq_iff_eq.1 h
    omega
  subst hdd
  rw [hd]
  constructor
  · simp [Lib.trimPrefix, Lib.hasPrefix]
  · simp [txN, Lib.hasPrefix]
theorem trim_no {s : ByteArray} (h0 : 0 < s.size) (h : ((s[0].toNat : Int) == 45) = false) : Lib.trimPrefix s.data.toList [45] = s.data.toList ∧ txN s.data.toList = false := by
  have hl : 0 < s.data.toList.length := by simpa using h0
  obtain ⟨d, r, hd⟩ : ∃ d r, s.data.toList = d :: r := by
    cases hh : s.data.toList with
    | nil => rw [hh] at hl; cases hl
    | cons d r => exact ⟨d, r, rfl⟩
  have hd0 : s[0] = d := by
    have : s.data.toList[0]? = some d := by rw [hd]; rfl
    have h2 : s.data.toList[0]? = some s[0] := List.getElem?_eq_getElem hl
    exact Option.some.inj (h2.symm.trans this)
  rw [hd0] at h
  have hdd : ¬ d = 45 := by
    rintro rfl
    exact absurd h (by decide)
  have hp : Lib.hasPrefix (d :: r) [45] = false := by
    show ((45 == d) && List.isPrefixOf [] r) = false
    rw [beq_eq_false_iff_ne.2 (fun e => hdd e.symm)]
    rfl
  rw [hd]
  exact ⟨by unfold Lib.trimPrefix; rw [hp]; rfl, hp⟩

theorem rf_len {l : List UInt8} {b : Bool} (h : l.length < 1 ∨ 7 < l.length) : rfI l b = 0 := by
  rw [rfI, if_pos]
  rcases h with h | h
  · exact .inl h
  · exact .inr (.inl h)
theorem head_at {s : ByteArray} (h0 : 0 < s.size) : s.data.toList.head? = some s[0] := by
  rw [List.head?_eq_getElem?]
  exact List.getElem?_eq_getElem (by simpa using h0)
theorem rf_zero {s : ByteArray} {b : Bool} (h0 : 0 < s.size) (h : (s[0].toNat : Int) = 48) : rfI s.data.toList b = 0 := by
  rw [rfI, if_pos (.inr (.inr (by rw [head_at h0, u8_48.2 h])))]
theorem rf_num {s : ByteArray} {b : Bool} (h0 : 0 < s.size) (h7 : s.size ≤ 7) (h : ¬ (s[0].toNat : Int) = 48) : rfI s.data.toList b = match numR s.data.toList 0 with
    | none => 0
    | some n => if litB n then (if b then -1 else 1) * n else 0 := by
  have hh : ¬ (s.data.toList.length < 1 ∨ 7 < s.data.toList.length ∨ s.data.toList.head? = some 48) := by
    have hl : s.data.toList.length = s.size := by simp
    rintro (h1 | h1 | h1)
    · omega
    · omega
    · rw [head_at h0] at h1
      injection h1 with h1
      exact h (u8_48.1 h1)
  rw [rfI, if_neg hh]
  all_goals (cases numR s.data.toList 0 <;> rfl)
theorem num_at (s : ByteArray) (x : Int) (k : Nat) (h : k < s.size) : numR (s.data.toList.drop k) x = if (s[k].toNat : Int) < 48 ∨ 57 < (s[k].toNat : Int) then none else numR (s.data.toList.drop (k + 1)) (10 * x + ((s[k].toNat : Int) - 48)) := by
  have hk : k < s.data.toList.length := by simpa using h
  rw [List.drop_eq_getElem_cons hk]
  rfl
theorem num_end (s : ByteArray) (x : Int) (k : Nat) (h : s.size ≤ k) : numR (s.data.toList.drop k) x = some x := by
  rw [List.drop_eq_nil_of_le (by simpa using h)]; rfl
def NumAt (d : Int) (R T : Option Int) : Prop := (if d < 48 ∨ 57 < d then none else R) = T
theorem num_a {d : Int} {R T : Option Int} (H : NumAt d R T) (h : d < 48 ∨ 57 < d) : T = none := by unfold NumAt at H; rw [if_pos h] at H; exact H.symm
theorem num_b {d : Int} {R T : Option Int} (H : NumAt d R T) (h : 48 ≤ d ∧ d ≤ 57) : R = T := by unfold NumAt at H; rwa [if_neg (by omega)] at H

/-- What holds at the head of the loop of the reference's Read. -/
def RRel (t : ByteArray) (r n i : Value) : Prop :=
  ∃ (k : Nat) (x : Int), k ≤ t.size ∧ r = .int .i64 0 ∧ i = .int .i64 k ∧ n = .int .i64 x ∧ 0 ≤ x ∧ x < pw k ∧ numR (t.data.toList.drop k) x = numR t.data.toList 0

set_option maxRecDepth 100000 in
set_option maxHeartbeats 2000000 in
theorem ref_read (s : ByteArray) (w : World) (hs : s.size ≤ 9223372036854775807) : Calls Tryz.prog 83 #[.string s] w fun e w' => e = .returned (.int .i64 (readI s.data.toList)) ∧ ∃ q, w.drewN q = w' := by
  by_cases h0 : 0 < s.size
  · have T1 := Lib.hid (trim_yes h0)
    have T2 := Lib.hid (trim_no h0)
    go_enter Tryz.func83, Tryz.ntmps83
    go_upto_if 15 with (fail)
    go_cut [3, 4] (fun sg ds wx => ∃ t : ByteArray, ds = .string t ∧ t.data.toList = Lib.trimPrefix s.data.toList [45] ∧ sg = .int .i64 (if txN s.data.toList then -1 else 1) ∧ ∃ q, w.drewN q = wx)
    case first =>
      go_wp2
      · have hb : ((s[0].toNat : Int) == 45) = true := by assumption
        go_quiet (fail)
        go_wp2
        go_meet
        exact ⟨s.extract 1 s.size, rfl, by rw [(T1.out hb).1]; exact Lib.extract_to_end s 1, by rw [(T1.out hb).2]; rfl, _, rfl⟩
      · have hb : ((s[0].toNat : Int) == 45) = false := by assumption
        go_meet
        exact ⟨s, rfl, (T2.out hb).1.symm, by rw [(T2.out hb).2]; rfl, 0, World.drewN_zero _⟩
    case rest =>
      obtain ⟨t, rfl, ht, rfl, q, rfl⟩ := hcut
      have HR := Lib.hid (readI_rf s.data.toList)
      rw [← ht] at HR
      obtain ⟨sg, hsg⟩ : ∃ b, txN s.data.toList = b := ⟨_, rfl⟩
      rw [hsg] at HR ⊢
      clear ht hsg
      have hts : t.size = t.data.toList.length := by simp
      by_cases t0 : 0 < t.size
      · by_cases t7 : t.size ≤ 7
        · have RZ := Lib.hid (fun h => HR.out.trans (rf_zero (b := sg) t0 h))
          have RN := Lib.hid (fun h => HR.out.trans (rf_num (b := sg) t0 t7 h))
          clear HR hts T1 T2
          cases sg
          all_goals
            go_wp2
            · have h8 : (t[0].toNat : Int) = 48 := by
                have : (t[0].toNat == 48) = true ∨ (((t[0].toNat : Int) == 48) = true) := by
                  have hx : ((t.size : Int) < 1 ∨ 7 < (t.size : Int)) ∨ ((t[0].toNat : Int) == 48) = true := by assumption
                  rcases hx with hx | hx
                  · omega
                  · exact .inr hx
                rcases this with h | h
                · have := beq_iff_eq.1 h; omega
                · exact beq_iff_eq.1 h
              go_ret
              exact ⟨by rw [RZ.out h8]; rfl, _, rfl⟩
            · have h8 : ¬ (t[0].toNat : Int) = 48 := by
                have hx : (1 ≤ (t.size : Int) ∧ (t.size : Int) ≤ 7) ∧ ((t[0].toNat : Int) == 48) = false := by assumption
                exact beq_eq_false_iff_ne.1 hx.2
              have RM := Lib.hid (RN.out h8)
              clear RZ RN h8
              go_loop [2, 5, 6] (fun r n i => RRel t r n i) (fun _ _ i => t.size - (intOf i).toNat)
              case atStart => exact ⟨0, 0, Nat.zero_le _, rfl, rfl, rfl, by omega, by decide, rfl⟩
              case round =>
                obtain ⟨k, x, hk, rfl, rfl, rfl, hx0, hx1, hx⟩ := hrel
                have hp := pw_le (k := k) (j := 7) (by omega)
                rw [pw_7] at hp
                by_cases hlt : k < t.size
                · have hx' := hx
                  rw [num_at t x k hlt] at hx'
                  have HN : NumAt t[k].toNat (numR (t.data.toList.drop (k + 1)) (10 * x + ((t[k].toNat : Int) - 48))) (numR t.data.toList 0) := hx'
                  clear hx' hx
                  go_wp2
                  · have hn := num_a HN (by omega)
                    go_ret
                    exact ⟨by rw [RM.out, hn]; rfl, _, rfl⟩
                  · have hn := num_b HN (by omega)
                    have hps : pw (k + 1) = 10 * pw k := rfl
                    have hnew : RRel t (.int .i64 0) (.int .i64 (x * 10 + (t[k].toNat : Int) - 48)) (.int .i64 ((k : Int) + 1)) := ⟨k + 1, 10 * x + ((t[k].toNat : Int) - 48), by omega, rfl, by go_num, congrArg (Value.int .i64) (by omega), by omega, by omega, hn⟩
                    go_round
                    case rel => first | exact hnew | exact ⟨_, _, _, hnew, rfl, rfl, rfl⟩
                    case measure => simp [intOf]; omega
                  · have hn := num_a HN (by omega)
                    go_ret
                    exact ⟨by rw [RM.out, hn]; rfl, _, rfl⟩
                · have hx' := hx
                  rw [num_end t x k (by omega)] at hx'
                  have HX := Lib.hid hx'.symm; clear hx' hx
                  have hre := RM.out
                  rw [HX.out] at hre
                  cases hl : litB x
                  · have Hre := Lib.hid (hre.trans (show _ = (0 : Int) by simp [hl]))
                    have Hl := Lib.hid hl; clear hl hre RM HX
                    go_wp2_with (go_at_call 78; refine (ref_right _ _).mono ?_; rintro e w' ⟨rfl, rfl⟩; rw [Hl.out])
                    go_ret
                    exact ⟨by rw [Hre.out]; rfl, _, rfl⟩
                  · have Hre := Lib.hid hre
                    have Hl := Lib.hid hl; clear hl hre RM HX
                    go_wp2_with (go_at_call 78; refine (ref_right _ _).mono ?_; rintro e w' ⟨rfl, rfl⟩; rw [Hl.out])
                    go_ret
                    exact ⟨ret_i (by rw [Hre.out]; simp [Hl.out]), _, rfl⟩
        · have hr := Lib.hid (HR.out.trans (rf_len (.inr (by omega))))
          clear HR hts T1 T2
          cases sg
          all_goals
            go_wp2
            go_ret
            exact ⟨by rw [hr.out]; rfl, _, rfl⟩
      · have hr := Lib.hid (HR.out.trans (rf_len (.inl (by omega))))
        clear HR hts T1 T2
        cases sg
        all_goals
          go_wp2
          go_ret
          exact ⟨by rw [hr.out]; rfl, _, rfl⟩
  · have hr := Lib.hid (show readI s.data.toList = 0 by
      have : s.data.toList = [] := List.eq_nil_of_length_eq_zero (by simpa using h0)
      rw [this]
      decide +kernel)
    go_enter Tryz.func83, Tryz.ntmps83
    go_wp2
    go_ret
    exact ⟨by rw [hr.out]; rfl, 0, rfl⟩
end Go.Proofs.YticcgmegimiegaaGreatDoor
namespace Go.Proofs.YticcgmegimiegaaGreatDoor
open Go.RowKit

theorem of_ie2 (v : Int) (b : Bool) : (ofE v = 0 ∧ ofI v b ≠ 0 ∧ 1 ≤ v ∧ v ≤ 1048576 ∧ ofI v b = if b then -v else v) ∨ (ofE v = 10 ∧ ofI v b = 0) := by
  unfold ofE ofI
  by_cases h : 1 ≤ v ∧ v ≤ 1048576
  · rw [if_pos h, if_pos h]
    left
    refine ⟨rfl, ?_, h.1, h.2, rfl⟩
    cases b <;> simp <;> omega
  · rw [if_neg h, if_neg h]
    exact .inr ⟨rfl, rfl⟩
theorem of_ie' (l : List UInt8) : (readE l = 0 ∧ readI l ≠ 0 ∧ 1 ≤ txV l ∧ txV l ≤ 1048576 ∧ readI l = if txN l then -(txV l) else txV l) ∨ (readE l = 10 ∧ readI l = 0) := of_ie2 _ _
theorem numL_app (a b : List UInt8) : ∀ x : Int, numR (a ++ b) x = (numR a x).bind (numR b) := by
  induction a with
  | nil => intro x; rfl
  | cons d r ih =>
    intro x
    rw [List.cons_append, numR, numR]
    split
    · rfl
    · exact ih _
theorem u8_dig (k : Nat) (h : k < 10) : ((UInt8.ofNat (48 + k)).toNat : Int) = 48 + (k : Int) := by
  rw [UInt8.toNat_ofNat']
  omega
theorem numL_one (k : Nat) (h : k < 10) (x : Int) : numR [UInt8.ofNat (48 + k)] x = some (10 * x + k) := by
  rw [numR, u8_dig k h, if_neg (by omega)]
  show some _ = some _
  congr 1
  omega
theorem numL_dec (n : Nat) : numR (decR n) 0 = some (n : Int) := by
  induction n using Nat.strongRecOn with
  | ind n ih =>
    rcases Nat.eq_zero_or_pos n with rfl | h
    · rfl
    · rw [decR_step n h, numL_app, ih (n / 10) (by omega), Option.bind_some, numL_one _ (Nat.mod_lt _ (by omega))]
      congr 1
      omega
theorem decR_short (k : Nat) : ∀ n : Nat, n < 10 ^ k → (decR n).length ≤ k := by
  induction k with
  | zero => intro n h; obtain rfl : n = 0 := by omega
            simp [decR]
  | succ k ih =>
    intro n h
    rcases Nat.eq_zero_or_pos n with rfl | h0
    · simp [decR]
    · rw [decR_step n h0, List.length_append]
      have := ih (n / 10) (by rw [Nat.pow_succ] at h; omega)
      simp
      omega
theorem decR_head (n : Nat) (h : 0 < n) : ∃ d r, decR n = d :: r ∧ ¬ (d.toNat : Int) = 48 := by
  induction n using Nat.strongRecOn with
  | ind n ih =>
    by_cases h1 : n < 10
    · refine ⟨UInt8.ofNat (48 + n), [], ?_, ?_⟩
      · rw [decR_step n h, Nat.mod_eq_of_lt h1, show n / 10 = 0 by omega]; rfl
      · rw [u8_dig n h1]; omega
    · obtain ⟨d, r, e, hd⟩ := ih (n / 10) (by omega) (by omega)
      exact ⟨d, r ++ [UInt8.ofNat (48 + n % 10)], by rw [decR_step n h, e]; rfl, hd⟩
theorem rf_dec (n : Nat) (h0 : 0 < n) (h1 : n ≤ 1048576) (b : Bool) : rfI (decR n) b = (if b then -1 else 1) * (n : Int) := by
  obtain ⟨d, r, e, hd⟩ := decR_head n h0
  have hs := decR_short 7 n (by omega)
  have hh : ¬ ((decR n).length < 1 ∨ 7 < (decR n).length ∨ (decR n).head? = some 48) := by
    rintro (h | h | h)
    · rw [e] at h; simp at h
    · omega
    · rw [e, List.head?_cons] at h
      injection h with h
      exact hd (u8_48.1 h)
  rw [rfI, if_neg hh, numL_dec]
  show (if litB (n : Int) = true then _ else _) = _
  rw [if_pos (litB_yes (by omega) (by omega) (by omega))]
/-- The text of a literal is read as this literal. -/
theorem read_text {a : Int} (h : litB a = true) : readI (textL a) = a ∧ readE (textL a) = 0 := by
  have hb := litB_of h
  have hi : readI (textL a) = a := by
    rw [readI_rf, textL, if_pos h]
    by_cases hn : a < 0
    · obtain ⟨n, rfl⟩ : ∃ n : Nat, a = -(n : Int) := ⟨a.natAbs, by omega⟩
      have e : Lib.itoa (-(n : Int)) = 45 :: decR n := by rw [Lib.itoa, if_pos hn, decR_pos n (by omega)]; simp
      rw [e]
      have e1 : Lib.trimPrefix (45 :: decR n) [45] = decR n := by simp [Lib.trimPrefix, Lib.hasPrefix]
      have e2 : txN (45 :: decR n) = true := by simp [txN, Lib.hasPrefix]
      rw [e1, e2, rf_dec n (by omega) (by omega)]
      simp
    · obtain ⟨n, rfl⟩ : ∃ n : Nat, a = (n : Int) := ⟨a.toNat, by omega⟩
      have e : Lib.itoa (n : Int) = decR n := by rw [Lib.itoa, if_neg hn, decR_pos n (by omega)]; simp
      obtain ⟨d, r, ed, hd⟩ := decR_head n (by omega)
      have hp : Lib.hasPrefix (decR n) [45] = false := by
        have hs := numL_dec n
        rw [ed] at hs ⊢
        show ((45 == d) && List.isPrefixOf [] r) = false
        rw [beq_eq_false_iff_ne.2, Bool.false_and]
        rintro rfl
        rw [numR, if_pos (by decide)] at hs
        cases hs
      rw [e, show Lib.trimPrefix (decR n) [45] = decR n by unfold Lib.trimPrefix; rw [hp]; rfl, show txN (decR n) = false from hp, rf_dec n (by omega) (by omega)]
      simp
  refine ⟨hi, ?_⟩
  have hq := of_ie' (textL a)
  rw [hi] at hq
  rcases hq with h | h
  · exact h.1
  · omega
theorem dec_of_num : ∀ (l : List UInt8) (n : Int), (∀ d r, l = d :: r → ¬ (d.toNat : Int) = 48) → numR l 0 = some n → 0 ≤ n ∧ l = decR n.toNat := by
  intro l
  suffices hs : ∀ (r : List UInt8) (n : Int), (∀ d t, r.reverse = d :: t → ¬ (d.toNat : Int) = 48) → numR r.reverse 0 = some n → 0 ≤ n ∧ r.reverse = decR n.toNat ∧ (r ≠ [] → 0 < n) by
    intro n h1 h2
    have := hs l.reverse n (by rw [List.reverse_reverse]; exact h1) (by rw [List.reverse_reverse]; exact h2)
    rw [List.reverse_reverse] at this
    exact ⟨this.1, this.2.1⟩
  intro r
  induction r with
  | nil =>
    intro n _ h
    obtain rfl : 0 = n := by simpa [numR] using h
    exact ⟨Int.le_refl _, rfl, fun h => absurd rfl h⟩
  | cons d r ih =>
    intro n h1 h2
    rw [List.reverse_cons] at h1 h2 ⊢
    rw [numL_app] at h2
    cases hm : numR r.reverse 0 with
    | none => rw [hm] at h2; cases h2
    | some m =>
      rw [hm, Option.bind_some] at h2
      obtain ⟨i1, i2, i3⟩ := ih m (fun e t he => h1 e (t ++ [d]) (by rw [he]; rfl)) hm
      have hd : 48 ≤ (d.toNat : Int) ∧ (d.toNat : Int) ≤ 57 := by
        by_cases hc : (d.toNat : Int) < 48 ∨ 57 < (d.toNat : Int)
        · rw [numR, if_pos hc] at h2; cases h2
        · omega
      rw [numR, if_neg (by omega)] at h2
      have hn : n = 10 * m + ((d.toNat : Int) - 48) := by simpa [numR] using h2.symm
      have hpos : 0 < n := by
        by_cases hr : r = []
        · have := h1 d [] (by rw [hr]; rfl)
          omega
        · have := i3 hr
          omega
      refine ⟨by omega, ?_, fun _ => hpos⟩
      have e1 : n.toNat / 10 = m.toNat := by omega
      have e2 : 48 + n.toNat % 10 = d.toNat := by omega
      rw [decR_step n.toNat (by omega), e1, e2, i2]
      simp
/-- What is read of a text is written so. -/
theorem text_read {l : List UInt8} (h : readE l = 0) : textL (readI l) = l := by
  rcases of_ie' l with ⟨-, -, v1, v2, hi⟩ | ⟨h', -⟩
  · -- the digits say txV l, none of them is left out
    have hd : Lib.trimPrefix l [45] = decR (txV l).toNat := by
      have hv : rdL (Lib.trimPrefix l [45]) 0 0 = txV l := rfl
      cases ht : Lib.trimPrefix l [45] with
      | nil => rw [ht] at hv; rw [← hv] at v1; exact absurd v1 (by decide)
      | cons d r =>
        rw [ht] at hv
        by_cases h1 : (d.toNat : Int) < 48 ∨ 57 < (d.toNat : Int)
        · rw [rdL, if_pos h1] at hv; omega
        · by_cases h0 : (d.toNat : Int) = 48
          · rw [rdL, if_neg h1, if_pos ⟨h0, rfl⟩] at hv; omega
          · have e1 : rdL (d :: r) 0 0 = rdL r ((d.toNat : Int) - 48) 1 := by
              rw [rdL, if_neg h1, if_neg (by omega), if_neg (by omega)]; simp
            have e2 : numR (d :: r) 0 = numR r ((d.toNat : Int) - 48) := by rw [numR, if_neg h1]; simp
            obtain ⟨i1, i2⟩ := rd_num r ((d.toNat : Int) - 48) 1 (by omega) (by omega)
            rw [e1] at hv
            cases hn : numR r ((d.toNat : Int) - 48) with
            | none => rcases i2 hn with h | h <;> omega
            | some n =>
              obtain ⟨j1, j2, j3⟩ := i1 n hn
              have hnv : n = txV l := by
                by_cases hm : n ≤ 1048576
                · rw [← hv, j2 hm]
                · have := j3 (by omega); omega
              rw [hn] at e2
              have := dec_of_num (d :: r) n (fun d' r' e => by injection e with e _; rw [← e]; exact h0) e2
              rw [this.2, hnv]
    rw [hi]
    cases hp : txN l
    · have e1 : l = decR (txV l).toNat := by
        have : Lib.trimPrefix l [45] = l := by unfold Lib.trimPrefix; rw [show Lib.hasPrefix l [45] = false from hp]; rfl
        rw [← hd, this]
      rw [if_neg (by decide), textL, if_pos (litB_yes (by omega) (by omega) (by omega)), Lib.itoa, if_neg (by omega), ← decR_pos _ (by omega)]
      exact e1.symm
    · have e1 : l = 45 :: decR (txV l).toNat := by
        have hh : Lib.hasPrefix l [45] = true := hp
        have : Lib.trimPrefix l [45] = l.drop 1 := by unfold Lib.trimPrefix; rw [hh]; rfl
        rw [this] at hd
        cases l with
        | nil => cases hh
        | cons d r =>
          have h45 : d = 45 := by
            have : ((45 == d) && List.isPrefixOf [] r) = true := hh
            have := (Bool.and_eq_true _ _ ▸ this).1
            exact (beq_iff_eq.1 this).symm
          subst h45
          rw [← hd]; simp
      rw [if_pos rfl, textL, if_pos (litB_yes (by omega) (by omega) (by omega)), Lib.itoa, if_pos (by omega)]
      have e2 : (-(txV l)).natAbs = (txV l).toNat := by omega
      rw [e2, ← decR_pos _ (by omega)]
      exact e1.symm
  · omega
end Go.Proofs.YticcgmegimiegaaGreatDoor
