/- The contract of lits.Read, for every string. -/
import Derived.Test.YticcgmegimiegaaGreatDoorLits
import Derived.Test.YticcgmegimiegaaGreatDoorShelf
import Derived.LoopTactic
import Derived.WalkMore
import Derived.Deep.LoopGhost
namespace Go.Proofs.YticcgmegimiegaaGreatDoor
open Go.ChangeShapes Go.WideShapes Go.ChangeAt Go.RowKit

/-- What is read of digits from place k on, when v has been read before. -/
def rdL : List UInt8 → Int → Nat → Int
  | [], v, _ => v
  | d :: r, v, k =>
    if (d.toNat : Int) < 48 ∨ 57 < (d.toNat : Int) then 0
    else if (d.toNat : Int) = 48 ∧ k = 0 then 0
    else if 1048576 < v then v
    else rdL r (10 * v + ((d.toNat : Int) - 48)) (k + 1)
/-- The variable that a text says (or what is none), and whether there is a sign. -/
def txV (l : List UInt8) : Int := rdL (Lib.trimPrefix l [45]) 0 0
def txN (l : List UInt8) : Bool := Lib.hasPrefix l [45]
def readI (l : List UInt8) : Int := ofI (txV l) (txN l)
def readE (l : List UInt8) : Int := ofE (txV l)

theorem rdL_at (s : ByteArray) (v : Int) (k : Nat) (h : k < s.size) :
    rdL (s.data.toList.drop k) v k = if (s[k].toNat : Int) < 48 ∨ 57 < (s[k].toNat : Int) then 0
    else if (s[k].toNat : Int) = 48 ∧ k = 0 then 0
    else if 1048576 < v then v
    else rdL (s.data.toList.drop (k + 1)) (10 * v + ((s[k].toNat : Int) - 48)) (k + 1) := by
  have hk : k < s.data.toList.length := by simpa using h
  rw [List.drop_eq_getElem_cons hk]
  rfl
theorem rdL_end (s : ByteArray) (v : Int) (k : Nat) (h : s.size ≤ k) : rdL (s.data.toList.drop k) v k = v := by
  rw [List.drop_eq_nil_of_le (by simpa using h)]; rfl

def RdAt (d x R T : Int) (k : Nat) : Prop := (if d < 48 ∨ 57 < d then 0 else if d = 48 ∧ k = 0 then 0 else if 1048576 < x then x else R) = T
theorem rd_a {d x R T : Int} {k : Nat} (H : RdAt d x R T k) (h : d < 48 ∨ 57 < d) : 0 = T := by unfold RdAt at H; rwa [if_pos h] at H
theorem rd_b {d x R T : Int} {k : Nat} (H : RdAt d x R T k) (_h : 48 ≤ d ∧ d ≤ 57) (h2 : d = 48 ∧ k = 0) : 0 = T := by unfold RdAt at H; rwa [if_neg (by omega), if_pos h2] at H
theorem rd_c {d x R T : Int} {k : Nat} (H : RdAt d x R T k) (_h : 48 ≤ d ∧ d ≤ 57) (h2 : ¬ (d = 48 ∧ k = 0)) (h3 : 1048576 < x) : x = T := by unfold RdAt at H; rwa [if_neg (by omega), if_neg h2, if_pos h3] at H
theorem rd_d {d x R T : Int} {k : Nat} (H : RdAt d x R T k) (_h : 48 ≤ d ∧ d ≤ 57) (h2 : ¬ (d = 48 ∧ k = 0)) (h3 : ¬ 1048576 < x) : R = T := by unfold RdAt at H; rwa [if_neg (by omega), if_neg h2, if_neg h3] at H

set_option maxHeartbeats 1000000 in
theorem read_digits (z s : ByteArray) (n : Bool) (w : World) (hs : s.size ≤ 9223372036854775807) (hcut : ∀ W, Calls Tryz.prog 113 #[.string z, .string ⟨#[45]⟩] W fun e w' => e = .returned (.tuple #[.string s, .bool n]) ∧ W = w') :
    Calls Tryz.prog 92 #[.string z] w fun e w' => e = .returned (.tuple #[.int .i64 (ofI (rdL s.data.toList 0 0) n), .int .i64 (ofE (rdL s.data.toList 0 0))]) ∧ w = w' := by
  have H := Lib.hid hcut; clear hcut
  go_enter Tryz.func92, Tryz.ntmps92
  go_wp2_with fail
  go_step3
  go_wp2_with (go_at_call 113; refine (H.out _).mono ?_; rintro e w' ⟨rfl, rfl⟩)
  go_step3
  go_wp2_with fail
  go_loopg [6, 16] s.size (fun g v i wx => ∃ k : Nat, ∃ x : Int, k + g = s.size ∧ i = .int .i64 k ∧ v = .int .i64 x ∧ 0 ≤ x ∧ x ≤ 10485769 ∧ Hid (rdL (s.data.toList.drop k) x k = rdL s.data.toList 0 0) ∧ w = wx)
  case atStart => exact ⟨0, 0, by omega, rfl, rfl, by omega, by omega, rfl, rfl⟩
  case round =>
    obtain ⟨k, x, hk, rfl, rfl, hx0, hx1, hR, rfl⟩ := hrel
    cases gk with
    | zero =>
      have hR' := hR.out
      rw [rdL_end s x k (by omega)] at hR'
      have HR := Lib.hid hR'; clear hR' hR
      have hlt : ¬ ((k : Int) < (s.size : Int)) := by omega
      go_wp2_with (go_at_call 114; refine (of_any _ _ _).mono ?_; rintro e w' ⟨rfl, rfl⟩)
      rw [Exit.noGoto_ret]
      go_ret2
      rw [HR.out]
      exact ⟨rfl, rfl⟩
    | succ g =>
      have hlt : k < s.size := by omega
      have hR' := hR.out
      rw [rdL_at s x k hlt] at hR'
      have HR : RdAt s[k].toNat x (rdL (s.data.toList.drop (k + 1)) (10 * x + ((s[k].toNat : Int) - 48)) (k + 1)) (rdL s.data.toList 0 0) k := hR'
      clear hR' hR
      have hlt' : (k : Int) < (s.size : Int) := by omega
      by_cases h3 : 1048576 < x
      · by_cases hk0 : k = 0
        · subst hk0
          go_wp2_with (go_at_call 114; refine (of_any _ _ _).mono ?_; rintro e w' ⟨rfl, rfl⟩)
          all_goals
            rw [Exit.noGoto_ret]
            go_ret2
            first | rw [← rd_a HR (by omega)] | rw [← rd_b HR (by omega) (by omega)] | rw [← rd_c HR (by omega) (by omega) h3]
            exact ⟨rfl, rfl⟩
        · have hk1 : ((k : Int) == 0) = false := by rw [beq_eq_false_iff_ne]; omega
          go_wp2_with (go_at_call 114; refine (of_any _ _ _).mono ?_; rintro e w' ⟨rfl, rfl⟩)
          all_goals
            rw [Exit.noGoto_ret]
            go_ret2
            first | rw [← rd_a HR (by omega)] | rw [← rd_c HR (by omega) (by omega) h3]
            exact ⟨rfl, rfl⟩
      · by_cases hk0 : k = 0
        · subst hk0
          go_wp2_with (go_at_call 114; refine (of_any _ _ _).mono ?_; rintro e w' ⟨rfl, rfl⟩)
          iterate 2
            · rw [Exit.noGoto_ret]
              go_ret2
              first | rw [← rd_a HR (by omega)] | rw [← rd_b HR (by omega) (by omega)]
              exact ⟨rfl, rfl⟩
          · go_roundg g
            case rel => exact ⟨1, 10 * x + ((s[0].toNat : Int) - 48), by omega, by go_num, congrArg (Value.int .i64) (by omega), by omega, by omega, rd_d HR (by omega) (by omega) (by omega), rfl⟩
            case measure => omega
          · rw [Exit.noGoto_ret]
            go_ret2
            rw [← rd_a HR (by omega)]
            exact ⟨rfl, rfl⟩
        · have hk1 : ((k : Int) == 0) = false := by rw [beq_eq_false_iff_ne]; omega
          go_wp2_with (go_at_call 114; refine (of_any _ _ _).mono ?_; rintro e w' ⟨rfl, rfl⟩)
          · rw [Exit.noGoto_ret]
            go_ret2
            rw [← rd_a HR (by omega)]
            exact ⟨rfl, rfl⟩
          iterate 2
            · go_roundg g
              case rel => exact ⟨k + 1, 10 * x + ((s[k].toNat : Int) - 48), by omega, by go_num, congrArg (Value.int .i64) (by omega), by omega, by omega, rd_d HR (by omega) (by omega) (by omega), rfl⟩
              case measure => omega
          · rw [Exit.noGoto_ret]
            go_ret2
            rw [← rd_a HR (by omega)]
            exact ⟨rfl, rfl⟩

theorem trim_le (l p : List UInt8) : (Lib.trimPrefix l p).length ≤ l.length := by
  unfold Lib.trimPrefix
  split
  · rw [List.length_drop]; omega
  · exact Nat.le_refl _
theorem read_any (s : ByteArray) (w : World) (hs : s.size ≤ 9223372036854775807) :
    Calls Tryz.prog 92 #[.string s] w fun e w' => e = .returned (.tuple #[.int .i64 (readI s.data.toList), .int .i64 (readE s.data.toList)]) ∧ w = w' := by
  have hl := trim_le s.data.toList [45]
  have h := read_digits s ⟨(Lib.trimPrefix s.data.toList [45]).toArray⟩ (Lib.hasPrefix s.data.toList [45]) w (by
    show (Lib.trimPrefix s.data.toList [45]).toArray.size ≤ _
    rw [List.size_toArray]
    have : s.data.toList.length = s.size := by simp
    omega) (fun W => by first | exact (Tryz.strings_CutPrefix s ⟨#[45]⟩ W).mono fun e w' ⟨h1, h2⟩ => ⟨h1, h2.symm⟩ | exact (Tryz.strings_CutPrefix_f113 s ⟨#[45]⟩ W).mono fun e w' ⟨h1, h2⟩ => ⟨h1, h2.symm⟩)
  exact h
end Go.Proofs.YticcgmegimiegaaGreatDoor
