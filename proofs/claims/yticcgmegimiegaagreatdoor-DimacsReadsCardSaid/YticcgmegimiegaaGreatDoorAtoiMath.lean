/- What strconv.Atoi reads of what strconv.Itoa writes. -/
import Derived.Lib.AtoiAll
import Derived.Lib.ItoaLen
namespace Go.Proofs.YticcgmegimiegaaGreatDoor
open Go.RowKit

theorem dec_step (u : Nat) : Lib.decDigits u = if u < 10 then [UInt8.ofNat (48 + u)] else Lib.decDigits (u / 10) ++ [UInt8.ofNat (48 + u % 10)] := by
  conv => lhs; rw [Lib.decDigits]
  split <;> rfl
theorem u8_of (n : Nat) (h : n < 10) : (UInt8.ofNat (48 + n)).toNat = 48 + n := by
  rw [UInt8.toNat_ofNat']
  omega
theorem dec_digit (u : Nat) : ∀ b ∈ Lib.decDigits u, 48 ≤ b.toNat ∧ b.toNat ≤ 57 := by
  induction u using Nat.strongRecOn with
  | ind u ih =>
    intro b hb
    rw [dec_step] at hb
    split at hb
    · rename_i h
      obtain rfl : b = UInt8.ofNat (48 + u) := by simpa using hb
      rw [u8_of u h]; omega
    · rcases List.mem_append.1 hb with h | h
      · exact ih (u / 10) (by omega) b h
      · obtain rfl : b = UInt8.ofNat (48 + u % 10) := by simpa using h
        rw [u8_of _ (Nat.mod_lt _ (by omega))]; omega
theorem dec_ne (u : Nat) : Lib.decDigits u ≠ [] := by
  rw [dec_step]
  split <;> simp
theorem parse_snoc : ∀ (l : List UInt8) (acc x : Nat) (d : UInt8), Lib.parseUint10 acc l = .ok x → 48 ≤ d.toNat ∧ d.toNat ≤ 57 → x < 1844674407370955161 → Lib.parseUint10 acc (l ++ [d]) = .ok (x * 10 + (d.toNat - 48))
  | [], acc, x, d, h, hd, hx => by
    obtain rfl : acc = x := by simpa [Lib.parseUint10] using h
    show Lib.parseUint10 acc [d] = _
    unfold Lib.parseUint10
    rw [if_pos hd, if_neg (by omega), if_neg (by omega)]
    rfl
  | c :: r, acc, x, d, h, hd, hx => by
    rw [List.cons_append]
    unfold Lib.parseUint10 at h ⊢
    split at h
    · rename_i h1
      rw [if_pos h1]
      split at h
      · cases h
      · rename_i h2
        rw [if_neg h2]
        split at h
        · cases h
        · rename_i h3
          rw [if_neg h3]
          exact parse_snoc r _ x d h hd hx
    · cases h
theorem parse_dec (u : Nat) (h : u < 10000000000000000000) : Lib.parseUint10 0 (Lib.decDigits u) = .ok u := by
  induction u using Nat.strongRecOn with
  | ind u ih =>
    rw [dec_step]
    split
    · rename_i h1
      have := parse_snoc [] 0 0 (UInt8.ofNat (48 + u)) rfl (by rw [u8_of u h1]; omega) (by omega)
      rw [List.nil_append, u8_of u h1] at this
      rw [this]
      congr 1
      omega
    · rename_i h1
      have h2 := ih (u / 10) (by omega) (by omega)
      have h3 := u8_of (u % 10) (Nat.mod_lt _ (by omega))
      rw [parse_snoc _ _ _ _ h2 (by rw [h3]; omega) (by omega), h3]
      congr 1
      omega
/-- Atoi's number, with an error or without. -/
def atoiV (l : List UInt8) : Int := match Lib.atoiAll l with
  | .ok v => v
  | .syntax => 0
  | .range => Lib.atoiSat l
theorem atoi_neg {l : List UInt8} {u : Nat} (hn : l ≠ []) (hp : Lib.parseUint10 0 l = .ok u) (hu : u ≤ 9223372036854775808) : Lib.atoiAll (45 :: l) = .ok (-(u : Int)) := by
  have hm : Lib.parseMag l = .ok u := by unfold Lib.parseMag; rw [if_neg hn]; exact hp
  have e : (if (45 : UInt8).toNat = 43 ∨ (45 : UInt8).toNat = 45 then l else 45 :: l) = l := if_pos (.inr rfl)
  unfold Lib.atoiAll
  dsimp only
  rw [e, hm]
  dsimp only
  rw [if_neg (by simp), if_neg (by omega), if_pos (by decide)]
theorem atoi_pos {c : UInt8} {r : List UInt8} {u : Nat} (hc : 48 ≤ c.toNat) (hp : Lib.parseUint10 0 (c :: r) = .ok u) (hu : u < 9223372036854775808) : Lib.atoiAll (c :: r) = .ok (u : Int) := by
  have hm : Lib.parseMag (c :: r) = .ok u := by unfold Lib.parseMag; rw [if_neg (by simp)]; exact hp
  have e : (if c.toNat = 43 ∨ c.toNat = 45 then r else c :: r) = c :: r := if_neg (by omega)
  unfold Lib.atoiAll
  dsimp only
  rw [e, hm]
  dsimp only
  rw [if_neg (by omega), if_neg (by omega), if_neg (by omega)]
theorem atoi_itoa (n : Int) (h0 : -9223372036854775808 ≤ n) (h1 : n ≤ 9223372036854775807) : Lib.atoiAll (Lib.itoa n) = .ok n := by
  unfold Lib.itoa
  by_cases hn : n < 0
  · rw [if_pos hn, atoi_neg (dec_ne _) (parse_dec n.natAbs (by omega)) (by omega)]
    congr 1
    omega
  · rw [if_neg hn]
    have hp := parse_dec n.toNat (by omega)
    obtain ⟨c, r, e⟩ : ∃ c r, Lib.decDigits n.toNat = c :: r := by
      cases h : Lib.decDigits n.toNat with
      | nil => exact absurd h (dec_ne _)
      | cons c r => exact ⟨c, r, rfl⟩
    have hd := dec_digit n.toNat c (by rw [e]; simp)
    rw [e] at hp ⊢
    rw [atoi_pos hd.1 hp (by omega)]
    congr 1
    omega
theorem atoiV_itoa (n : Int) (h0 : -9223372036854775808 ≤ n) (h1 : n ≤ 9223372036854775807) : atoiV (Lib.itoa n) = n := by unfold atoiV; rw [atoi_itoa n h0 h1]
/-- A number's text has digits, and a minus in front, alone. -/
theorem itoa_bytes (n : Int) : ∀ b ∈ Lib.itoa n, b.toNat = 45 ∨ (48 ≤ b.toNat ∧ b.toNat ≤ 57) := by
  intro b hb
  unfold Lib.itoa at hb
  split at hb
  · rcases List.mem_cons.1 hb with rfl | h
    · exact .inl rfl
    · exact .inr (dec_digit _ b h)
  · exact .inr (dec_digit _ b hb)
theorem itoa_free {n : Int} {c : UInt8} (h : c.toNat ≠ 45) (h2 : c.toNat < 48 ∨ 57 < c.toNat) : c ∉ Lib.itoa n := fun hm => by
  have := itoa_bytes n c hm
  omega
theorem itoa_ne (n : Int) : Lib.itoa n ≠ [] := by
  unfold Lib.itoa
  split
  · simp
  · exact dec_ne _
/-- A text cut at the first byte c. -/
def cut1 (c : UInt8) : List UInt8 → List UInt8 × List UInt8
  | [] => ([], [])
  | b :: l => if b = c then ([], l) else (b :: (cut1 c l).1, (cut1 c l).2)
theorem cut1_hit {c : UInt8} : ∀ {a : List UInt8} (r : List UInt8), c ∉ a → cut1 c (a ++ c :: r) = (a, r)
  | [], r, _ => by simp [cut1]
  | b :: a, r, h => by
    have h1 : b ≠ c := fun e => h (by simp [e])
    have h2 : c ∉ a := fun e => h (List.mem_cons_of_mem _ e)
    rw [List.cons_append, cut1, if_neg h1, cut1_hit r h2]
theorem cut1_miss {c : UInt8} : ∀ {a : List UInt8}, c ∉ a → cut1 c a = (a, [])
  | [], _ => rfl
  | b :: a, h => by
    have h1 : b ≠ c := fun e => h (by simp [e])
    have h2 : c ∉ a := fun e => h (List.mem_cons_of_mem _ e)
    rw [cut1, if_neg h1, cut1_miss h2]
theorem cut1_len (c : UInt8) : ∀ (l : List UInt8), (cut1 c l).1.length ≤ l.length ∧ (cut1 c l).2.length ≤ l.length
  | [] => by simp [cut1]
  | b :: l => by
    have := cut1_len c l
    unfold cut1
    split
    · simp
    · simp; omega
end Go.Proofs.YticcgmegimiegaaGreatDoor
