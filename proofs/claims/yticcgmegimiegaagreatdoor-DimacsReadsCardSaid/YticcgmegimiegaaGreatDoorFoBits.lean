/- Models by their numbers; what a clause rules out; what is left of a formula. -/
import Derived.Test.YticcgmegimiegaaGreatDoorFoMath
namespace Go.Proofs.YticcgmegimiegaaGreatDoor

theorem and_half (a b : Nat) : (a &&& b) / 2 = a / 2 &&& b / 2 := by
  apply Nat.eq_of_testBit_eq
  intro i
  rw [Nat.testBit_and, ← Nat.testBit_succ, ← Nat.testBit_succ, ← Nat.testBit_succ, Nat.testBit_and]
theorem and_odd (a b : Nat) : (a &&& b) % 2 = if a % 2 = 1 ∧ b % 2 = 1 then 1 else 0 := by
  have h := Nat.testBit_and a b 0
  rw [Nat.testBit_zero, Nat.testBit_zero, Nat.testBit_zero] at h
  rcases Nat.mod_two_eq_zero_or_one a with ha | ha <;> rcases Nat.mod_two_eq_zero_or_one b with hb | hb <;> rcases Nat.mod_two_eq_zero_or_one (a &&& b) with hc | hc <;> simp [ha, hb, hc] at h ⊢
/-- Of the parts of m below a part s, none is greater than what is left of s - 1. -/
theorem part_le (m : Nat) : ∀ s t : Nat, s &&& m = s → t &&& m = t → t < s → t ≤ (s - 1) &&& m := by
  induction m using Nat.strongRecOn with
  | ind m ih =>
    intro s t hs ht hlt
    rcases Nat.eq_zero_or_pos m with rfl | hm
    · rw [Nat.and_zero] at hs; omega
    · have h1 := and_half s m; have h2 := and_odd s m; have h3 := and_half t m; have h4 := and_odd t m
      have h5 := and_half (s - 1) m; have h6 := and_odd (s - 1) m
      rw [hs] at h1 h2; rw [ht] at h3 h4
      rcases Nat.mod_two_eq_zero_or_one s with hp | hp
      · have e : (s - 1) / 2 = s / 2 - 1 := by omega
        rw [e] at h5
        have := ih (m / 2) (by omega) (s / 2) (t / 2) h1.symm h3.symm (by omega)
        have e2 : (s - 1) % 2 = 1 := by omega
        rw [e2] at h6
        split at h4 <;> split at h6 <;> omega
      · have e : (s - 1) / 2 = s / 2 := by omega
        rw [e, ← h1] at h5
        omega
theorem part_and (n m : Nat) : (n &&& m) &&& m = n &&& m := by rw [Nat.and_assoc, Nat.and_self]
theorem and_le' (n m : Nat) : n &&& m ≤ n := Nat.and_le_left
def bitN (n : Nat) (l : Int) : Nat := 2 ^ (n - l.natAbs)
/-- The bits of the variables that have to be false, and of those that have to be true, for a clause to fail. -/
def lowN (n : Nat) (zs : List Int) : Nat := zs.foldl (fun a l => if l < 0 then a else a ||| bitN n l) 0
def highN (n : Nat) (zs : List Int) : Nat := zs.foldl (fun a l => if l < 0 then a ||| bitN n l else a) 0
theorem lowN_snoc (n : Nat) (zs : List Int) (l : Int) : lowN n (zs ++ [l]) = if l < 0 then lowN n zs else lowN n zs ||| bitN n l := by simp [lowN]
theorem highN_snoc (n : Nat) (zs : List Int) (l : Int) : highN n (zs ++ [l]) = if l < 0 then highN n zs ||| bitN n l else highN n zs := by simp [highN]
theorem low_from (n k : Nat) : ∀ (zs : List Int) (a : Nat), (zs.foldl (fun a l => if l < 0 then a else a ||| bitN n l) a).testBit k = (a.testBit k || zs.any fun l => !decide (l < 0) && decide (n - l.natAbs = k))
  | [], a => by simp
  | l :: zs, a => by
    rw [List.foldl_cons, low_from n k zs, List.any_cons]
    by_cases h : l < 0
    · simp [h]
    · simp only [h, if_false, Nat.testBit_or, bitN, Nat.testBit_two_pow, decide_false, Bool.not_false, Bool.true_and]
      rw [Bool.or_assoc]
theorem high_from (n k : Nat) : ∀ (zs : List Int) (a : Nat), (zs.foldl (fun a l => if l < 0 then a ||| bitN n l else a) a).testBit k = (a.testBit k || zs.any fun l => decide (l < 0) && decide (n - l.natAbs = k))
  | [], a => by simp
  | l :: zs, a => by
    rw [List.foldl_cons, high_from n k zs, List.any_cons]
    by_cases h : l < 0
    · simp only [h, if_true, Nat.testBit_or, bitN, Nat.testBit_two_pow, decide_true, Bool.true_and]
      rw [Bool.or_assoc]
    · simp [h]
theorem low_bit (n k : Nat) (zs : List Int) : (lowN n zs).testBit k = zs.any fun l => !decide (l < 0) && decide (n - l.natAbs = k) := by unfold lowN; rw [low_from]; simp
theorem high_bit (n k : Nat) (zs : List Int) : (highN n zs).testBit k = zs.any fun l => decide (l < 0) && decide (n - l.natAbs = k) := by unfold highN; rw [high_from]; simp
theorem bit_lt {n x : Nat} (h : ∀ k, n ≤ k → x.testBit k = false) : x < 2 ^ n := by
  refine Nat.lt_pow_two_of_testBit x fun k hk => h k hk
theorem low_lt {n : Nat} {zs : List Int} (h : ∀ l ∈ zs, 1 ≤ l.natAbs ∧ l.natAbs ≤ n) : lowN n zs < 2 ^ n := bit_lt fun k hk => by
  rw [low_bit]
  refine List.any_eq_false.2 fun l hl => ?_
  have := h l hl
  simp; intro _; omega
theorem high_lt {n : Nat} {zs : List Int} (h : ∀ l ∈ zs, 1 ≤ l.natAbs ∧ l.natAbs ≤ n) : highN n zs < 2 ^ n := bit_lt fun k hk => by
  rw [high_bit]
  refine List.any_eq_false.2 fun l hl => ?_
  have := h l hl
  simp; intro _; omega
/-- The model with a number: the first variable has the highest bit. -/
def bitM (n N : Nat) : List Bool := (List.range n).map fun i => N.testBit (n - 1 - i)
theorem bitM_len (n N : Nat) : (bitM n N).length = n := by simp [bitM]
theorem bitM_at {n N i : Nat} (h : i < n) : (bitM n N)[i]? = some (N.testBit (n - 1 - i)) := by simp [bitM, h]
/-- A literal is true in a model; a clause holds in it. -/
def satB (bs : List Bool) (l : Int) : Bool := bs[l.natAbs - 1]?.getD false != decide (l < 0)
def holdsM (bs : List Bool) (zs : List Int) : Bool := zs.any (satB bs)
theorem sat_bitM {n N : Nat} {l : Int} (h0 : 1 ≤ l.natAbs) (h1 : l.natAbs ≤ n) : satB (bitM n N) l = (N.testBit (n - l.natAbs) != decide (l < 0)) := by
  unfold satB
  rw [bitM_at (by omega), show n - 1 - (l.natAbs - 1) = n - l.natAbs by omega]
  rfl
theorem fails_bits {n N : Nat} {zs : List Int} (h : ∀ l ∈ zs, 1 ≤ l.natAbs ∧ l.natAbs ≤ n) : holdsM (bitM n N) zs = false ↔ ∀ k, ((lowN n zs).testBit k = true → N.testBit k = false) ∧ ((highN n zs).testBit k = true → N.testBit k = true) := by
  unfold holdsM
  rw [List.any_eq_false]
  constructor
  · intro hf k
    rw [low_bit, high_bit, List.any_eq_true, List.any_eq_true]
    constructor
    · rintro ⟨l, hl, hb⟩
      have := hf l hl
      obtain ⟨h0, h1⟩ := h l hl
      rw [sat_bitM h0 h1] at this
      simp at hb this
      rw [← hb.2, this]; simp; omega
    · rintro ⟨l, hl, hb⟩
      have := hf l hl
      obtain ⟨h0, h1⟩ := h l hl
      rw [sat_bitM h0 h1] at this
      simp at hb this
      rw [← hb.2, this]; simp; omega
  · intro hk l hl
    obtain ⟨h0, h1⟩ := h l hl
    rw [sat_bitM h0 h1]
    obtain ⟨a, b⟩ := hk (n - l.natAbs)
    rw [low_bit, List.any_eq_true] at a
    rw [high_bit, List.any_eq_true] at b
    by_cases hn : l < 0
    · rw [b ⟨l, hl, by simp [hn]⟩]; simp [hn]
    · rw [a ⟨l, hl, by simp; omega⟩]; simp [hn]
/-- The numbers of the models in which it fails. -/
theorem fails_part {n N o : Nat} {zs : List Int} (h : ∀ l ∈ zs, 1 ≤ l.natAbs ∧ l.natAbs ≤ n) (ho : ∀ k, o.testBit k = (decide (k < n) && !((lowN n zs).testBit k || (highN n zs).testBit k))) (hd : lowN n zs &&& highN n zs = 0) :
    (N < 2 ^ n ∧ holdsM (bitM n N) zs = false) ↔ ∃ s, s &&& o = s ∧ N = s ||| highN n zs := by
  have hlow := low_lt h
  have hhigh := high_lt h
  have hdk : ∀ k, ((lowN n zs).testBit k && (highN n zs).testBit k) = false := fun k => by rw [← Nat.testBit_and, hd]; simp
  constructor
  · rintro ⟨hN, hf⟩
    rw [fails_bits h] at hf
    refine ⟨N &&& o, by rw [Nat.and_assoc, Nat.and_self], ?_⟩
    apply Nat.eq_of_testBit_eq
    intro k
    rw [Nat.testBit_or, Nat.testBit_and, ho k]
    obtain ⟨a, b⟩ := hf k
    have hd := hdk k
    rcases Nat.lt_or_ge k n with hk | hk
    · cases hl : (lowN n zs).testBit k <;> cases hh : (highN n zs).testBit k <;> simp [hl, hh, hk] at a b hd ⊢ <;> simp [a, b]
    · rw [Nat.testBit_lt_two_pow (Nat.lt_of_lt_of_le hN (Nat.pow_le_pow_right (by omega) hk)), Nat.testBit_lt_two_pow (Nat.lt_of_lt_of_le hhigh (Nat.pow_le_pow_right (by omega) hk))]
      simp
  · rintro ⟨s, hs, rfl⟩
    have hsk : ∀ k, (s.testBit k && o.testBit k) = s.testBit k := fun k => by rw [← Nat.testBit_and, hs]
    refine ⟨?_, ?_⟩
    · refine bit_lt fun k hk => ?_
      have := hsk k
      rw [ho k] at this
      rw [Nat.testBit_or, Nat.testBit_lt_two_pow (Nat.lt_of_lt_of_le hhigh (Nat.pow_le_pow_right (by omega) hk))]
      have hk' : ¬ k < n := by omega
      simp [hk'] at this ⊢
      exact this
    · rw [fails_bits h]
      intro k
      have h1 := hsk k
      rw [ho k] at h1
      have hd := hdk k
      rw [Nat.testBit_or]
      cases hl : (lowN n zs).testBit k <;> cases hh : (highN n zs).testBit k <;> simp [hl, hh] at h1 hd ⊢
      exact h1
theorem fails_none {n N : Nat} {zs : List Int} (h : ∀ l ∈ zs, 1 ≤ l.natAbs ∧ l.natAbs ≤ n) (hd : lowN n zs &&& highN n zs ≠ 0) : holdsM (bitM n N) zs = true := by
  cases hf : holdsM (bitM n N) zs
  · exfalso
    rw [fails_bits h] at hf
    apply hd
    apply Nat.eq_of_testBit_eq
    intro k
    rw [Nat.testBit_and]
    obtain ⟨a, b⟩ := hf k
    cases hl : (lowN n zs).testBit k <;> cases hh : (highN n zs).testBit k <;> simp [hl, hh] at a b ⊢
    rw [a] at b
    cases b
  · rfl
def b2i (b : Bool) : Int := if b then 1 else 0
theorem bitM_low {n N : Nat} (h : N < 2 ^ n) : bitM (n + 1) N = false :: bitM n N := by
  unfold bitM
  rw [List.range_succ_eq_map, List.map_cons, List.map_map]
  congr 1
  · simp; exact Nat.testBit_lt_two_pow h
  · refine List.map_congr_left fun i hi => ?_
    show N.testBit (n + 1 - 1 - (i + 1)) = _
    rw [show n + 1 - 1 - (i + 1) = n - 1 - i by omega]
theorem bitM_high {n N : Nat} (h : N < 2 ^ n) : bitM (n + 1) (2 ^ n + N) = true :: bitM n N := by
  unfold bitM
  rw [List.range_succ_eq_map, List.map_cons, List.map_map]
  congr 1
  · simp [Nat.testBit_two_pow_add_eq, Nat.testBit_lt_two_pow h]
  · refine List.map_congr_left fun i hi => ?_
    have := List.mem_range.1 hi
    show (2 ^ n + N).testBit (n + 1 - 1 - (i + 1)) = _
    rw [show n + 1 - 1 - (i + 1) = n - 1 - i by omega, Nat.testBit_two_pow_add_gt (by omega)]
theorem allM_bitM : ∀ n, allM n = (List.range (2 ^ n)).map fun N => (bitM n N).map b2i
  | 0 => by simp [allM, bitM]
  | n + 1 => by
    unfold allM
    rw [allM_bitM n, Nat.pow_succ, show 2 ^ n * 2 = 2 ^ n + 2 ^ n by omega, List.range_add, List.map_append]
    congr 1
    · rw [List.map_map]
      refine List.map_congr_left fun N hN => ?_
      show 0 :: (bitM n N).map b2i = _
      rw [bitM_low (List.mem_range.1 hN)]; rfl
    · rw [List.map_map, List.map_map]
      refine List.map_congr_left fun N hN => ?_
      show 1 :: (bitM n N).map b2i = (bitM (n + 1) (2 ^ n + N)).map b2i
      rw [bitM_high (List.mem_range.1 hN)]; rfl
/-- Two lists in a strict order, with the same members, are the same. -/
theorem pair_unique {α : Type} {R : α → α → Prop} (hR : ∀ a b, R a b → R b a → False) : ∀ {A B : List α}, A.Pairwise R → B.Pairwise R → (∀ x, x ∈ A ↔ x ∈ B) → A = B
  | [], [], _, _, _ => rfl
  | [], b :: B, _, _, h => by have := (h b).2 (by simp); cases this
  | a :: A, [], _, _, h => by have := (h a).1 (by simp); cases this
  | a :: A, b :: B, hA, hB, h => by
    obtain ⟨a1, a2⟩ := List.pairwise_cons.1 hA
    obtain ⟨b1, b2⟩ := List.pairwise_cons.1 hB
    have e : a = b := by
      rcases List.mem_cons.1 ((h a).1 (by simp)) with e | ha
      · exact e
      · rcases List.mem_cons.1 ((h b).2 (by simp)) with e | hb
        · exact e.symm
        · exact (hR a b (a1 b hb) (b1 a ha)).elim
    subst e
    rw [pair_unique hR a2 b2 fun x => ⟨fun hx => by
      rcases List.mem_cons.1 ((h x).1 (by simp [hx])) with e | hb
      · subst e; exact (hR _ _ (a1 x hx) (a1 x hx)).elim
      · exact hb, fun hx => by
      rcases List.mem_cons.1 ((h x).2 (by simp [hx])) with e | hb
      · subst e; exact (hR _ _ (b1 x hx) (b1 x hx)).elim
      · exact hb⟩]
/-- Of a list without twins, in another one: no more. -/
theorem nodup_le {α : Type} [DecidableEq α] : ∀ {A B : List α}, A.Nodup → (∀ x ∈ A, x ∈ B) → A.length ≤ B.length
  | [], _, _, _ => by simp
  | a :: A, B, hA, h => by
    obtain ⟨h1, h2⟩ := List.nodup_cons.1 hA
    have hb := h a (by simp)
    have := nodup_le (A := A) (B := B.erase a) h2 fun x hx => (List.mem_erase_of_ne (by rintro rfl; exact h1 hx)).2 (h x (by simp [hx]))
    rw [List.length_erase_of_mem hb] at this
    have := List.length_pos_of_mem hb
    simp; omega
/-- Numbers in turn with one bit changed. -/
theorem filter_flip (n k : Nat) (hk : k < n) (P Q : Nat → Bool) (h : ∀ N, N < 2 ^ n → P N = true → Q (N ^^^ 2 ^ k) = true) : ((List.range (2 ^ n)).filter P).length ≤ ((List.range (2 ^ n)).filter Q).length := by
  have hinj : ∀ a b : Nat, a ^^^ 2 ^ k = b ^^^ 2 ^ k → a = b := fun a b e => by
    have := congrArg (· ^^^ 2 ^ k) e
    simpa [Nat.xor_assoc] using this
  have hlt : ∀ N, N < 2 ^ n → N ^^^ 2 ^ k < 2 ^ n := fun N hN => Nat.xor_lt_two_pow hN (Nat.pow_lt_pow_right (by omega) hk)
  have hl : (((List.range (2 ^ n)).filter P).map (· ^^^ 2 ^ k)).length ≤ ((List.range (2 ^ n)).filter Q).length := by
    refine nodup_le ?_ ?_
    · refine List.pairwise_map.2 (((List.nodup_range (n := 2 ^ n)).filter _).imp ?_)
      intro a b hab e
      exact hab (hinj a b e)
    · intro x hx
      obtain ⟨N, hN, rfl⟩ := List.mem_map.1 hx
      obtain ⟨h1, h2⟩ := List.mem_filter.1 hN
      have h1 := List.mem_range.1 h1
      exact List.mem_filter.2 ⟨List.mem_range.2 (hlt N h1), h N h1 h2⟩
  simpa using hl
theorem filter_split {α : Type} (L : List α) (P b : α → Bool) : (L.filter P).length = (L.filter fun x => P x && b x).length + (L.filter fun x => P x && !b x).length := by
  induction L with
  | nil => rfl
  | cons x L ih =>
    simp only [List.filter_cons]
    cases P x <;> cases b x <;> simp [ih] <;> omega
/-- A property that does not mind the bit k: half of the numbers with it have the bit. -/
theorem filter_half (n k : Nat) (hk : k < n) (P : Nat → Bool) (h : ∀ N, N < 2 ^ n → P (N ^^^ 2 ^ k) = P N) : ((List.range (2 ^ n)).filter P).length = 2 * ((List.range (2 ^ n)).filter fun N => P N && N.testBit k).length ∧ ((List.range (2 ^ n)).filter P).length = 2 * ((List.range (2 ^ n)).filter fun N => P N && !N.testBit k).length := by
  have hb : ∀ N : Nat, (N ^^^ 2 ^ k).testBit k = !N.testBit k := fun N => by simp [Nat.testBit_xor]
  have h1 := filter_split (List.range (2 ^ n)) P (fun N => N.testBit k)
  have h2 := filter_flip n k hk (fun N => P N && N.testBit k) (fun N => P N && !N.testBit k) fun N hN hp => by
    simp only [Bool.and_eq_true] at hp
    simp [h N hN, hp.1, hb, hp.2]
  have h3 := filter_flip n k hk (fun N => P N && !N.testBit k) (fun N => P N && N.testBit k) fun N hN hp => by
    simp only [Bool.and_eq_true] at hp
    have := hp.2
    simp at this
    simp [h N hN, hp.1, hb, this]
  omega
/-- The models in which all clauses hold, in order. -/
def holdsN (n : Nat) (L : List (List Int)) (N : Nat) : Bool := L.all fun zs => holdsM (bitM n N) zs
def modelsB (n : Nat) (L : List (List Int)) : List (List Bool) := ((List.range (2 ^ n)).filter (holdsN n L)).map (bitM n)
/-- All literals are of the variables from 1 to n. -/
def Small (n : Nat) (L : List (List Int)) : Prop := ∀ zs ∈ L, ∀ l ∈ zs, 1 ≤ l.natAbs ∧ l.natAbs ≤ n
theorem asg_mem {x : Int} {L : List (List Int)} {ys : List Int} : ys ∈ asgL x L ↔ ∃ zs ∈ L, x ∉ zs ∧ ys = zs.filter fun y => decide (y ≠ -x) := by
  unfold asgL
  rw [List.mem_map]
  constructor
  · rintro ⟨zs, hz, rfl⟩
    rw [List.mem_filter] at hz
    exact ⟨zs, hz.1, by simpa using hz.2, rfl⟩
  · rintro ⟨zs, hz, hx, rfl⟩
    exact ⟨zs, List.mem_filter.2 ⟨hz, by simpa using hx⟩, rfl⟩
theorem asg_small {n : Nat} {x : Int} {L : List (List Int)} (h : Small n L) : Small n (asgL x L) := fun ys hy l hl => by
  obtain ⟨zs, hz, -, rfl⟩ := asg_mem.1 hy
  exact h zs hz l (List.mem_filter.1 hl).1
/-- The variable is gone. -/
theorem asg_gone {x : Int} {L : List (List Int)} {ys : List Int} (h : ys ∈ asgL x L) {l : Int} (hl : l ∈ ys) : l.natAbs ≠ x.natAbs := by
  obtain ⟨zs, hz, hx, rfl⟩ := asg_mem.1 h
  obtain ⟨h1, h2⟩ := List.mem_filter.1 hl
  have h2 : l ≠ -x := by simpa using h2
  intro e
  rcases Int.natAbs_eq_natAbs_iff.1 e with e | e
  · exact hx (e ▸ h1)
  · exact h2 e
theorem sat_true {n N : Nat} {x : Int} (h0 : 1 ≤ x.natAbs) (h1 : x.natAbs ≤ n) (hb : N.testBit (n - x.natAbs) = decide (0 < x)) : satB (bitM n N) x = true ∧ satB (bitM n N) (-x) = false := by
  rw [sat_bitM h0 h1, sat_bitM (by omega) (by omega), Int.natAbs_neg, hb]
  by_cases h : x < 0
  · have : ¬ 0 < x := by omega
    simp [h, this]
  · have : 0 < x := by omega
    simp [h, this]
theorem asg_holds {n N : Nat} {x : Int} {L : List (List Int)} (h0 : 1 ≤ x.natAbs) (h1 : x.natAbs ≤ n) (hb : N.testBit (n - x.natAbs) = decide (0 < x)) : holdsN n (asgL x L) N = holdsN n L N := by
  obtain ⟨t1, t2⟩ := sat_true h0 h1 hb
  unfold holdsN
  rw [Bool.eq_iff_iff, List.all_eq_true, List.all_eq_true]
  have key : ∀ zs : List Int, holdsM (bitM n N) (zs.filter fun y => decide (y ≠ -x)) = holdsM (bitM n N) zs := fun zs => by
    unfold holdsM
    rw [Bool.eq_iff_iff, List.any_eq_true, List.any_eq_true]
    constructor
    · rintro ⟨l, hl, hs⟩
      exact ⟨l, (List.mem_filter.1 hl).1, hs⟩
    · rintro ⟨l, hl, hs⟩
      refine ⟨l, List.mem_filter.2 ⟨hl, ?_⟩, hs⟩
      by_cases e : l = -x
      · rw [e, t2] at hs; cases hs
      · simpa using e
  constructor
  · intro h zs hz
    by_cases hx : x ∈ zs
    · exact List.any_eq_true.2 ⟨x, hx, t1⟩
    · rw [← key zs]
      exact h _ (asg_mem.2 ⟨zs, hz, hx, rfl⟩)
  · intro h ys hy
    obtain ⟨zs, hz, hx, rfl⟩ := asg_mem.1 hy
    rw [key zs]
    exact h zs hz
theorem asg_flip {n N : Nat} {x : Int} {L : List (List Int)} (hL : Small n L) (_h0 : 1 ≤ x.natAbs) (h1 : x.natAbs ≤ n) : holdsN n (asgL x L) (N ^^^ 2 ^ (n - x.natAbs)) = holdsN n (asgL x L) N := by
  have key : ∀ zs ∈ asgL x L, holdsM (bitM n (N ^^^ 2 ^ (n - x.natAbs))) zs = holdsM (bitM n N) zs := fun zs hz => by
    unfold holdsM
    have : ∀ l ∈ zs, satB (bitM n (N ^^^ 2 ^ (n - x.natAbs))) l = satB (bitM n N) l := fun l hl => by
      obtain ⟨a, b⟩ := asg_small (x := x) hL zs hz l hl
      have hg := asg_gone hz hl
      rw [sat_bitM a b, sat_bitM a b, Nat.testBit_xor, Nat.testBit_two_pow]
      have : ¬ n - x.natAbs = n - l.natAbs := by omega
      simp [this]
    rw [Bool.eq_iff_iff, List.any_eq_true, List.any_eq_true]
    constructor
    · rintro ⟨l, hl, hs⟩; exact ⟨l, hl, by rwa [← this l hl]⟩
    · rintro ⟨l, hl, hs⟩; exact ⟨l, hl, by rwa [this l hl]⟩
  unfold holdsN
  rw [Bool.eq_iff_iff, List.all_eq_true, List.all_eq_true]
  exact ⟨fun h zs hz => by rw [← key zs hz]; exact h zs hz, fun h zs hz => by rw [key zs hz]; exact h zs hz⟩
theorem filter_same {n : Nat} {P Q : Nat → Bool} (h : ∀ N, N < 2 ^ n → P N = Q N) : (List.range (2 ^ n)).filter P = (List.range (2 ^ n)).filter Q := List.filter_congr fun N hN => h N (List.mem_range.1 hN)
/-- P5.6: by the values of a variable. -/
theorem parts_count {n : Nat} {x : Int} {L : List (List Int)} (hL : Small n L) (h0 : 1 ≤ x.natAbs) (h1 : x.natAbs ≤ n) : ∃ a b, (modelsB n (asgL x L)).length = 2 * a ∧ (modelsB n (asgL (-x) L)).length = 2 * b ∧ (modelsB n L).length = a + b := by
  have hf : ∀ N, N < 2 ^ n → holdsN n (asgL x L) (N ^^^ 2 ^ (n - x.natAbs)) = holdsN n (asgL x L) N := fun N _ => asg_flip hL h0 h1
  have hg : ∀ N, N < 2 ^ n → holdsN n (asgL (-x) L) (N ^^^ 2 ^ (n - x.natAbs)) = holdsN n (asgL (-x) L) N := fun N _ => by
    have := asg_flip (n := n) (N := N) (x := -x) hL (by omega) (by omega)
    rwa [Int.natAbs_neg] at this
  obtain ⟨p1, p2⟩ := filter_half n (n - x.natAbs) (by omega) _ hf
  obtain ⟨q1, q2⟩ := filter_half n (n - x.natAbs) (by omega) _ hg
  have hs := filter_split (List.range (2 ^ n)) (holdsN n L) (fun N => N.testBit (n - x.natAbs))
  unfold modelsB
  simp only [List.length_map]
  by_cases hx : 0 < x
  · have e1 := filter_same (n := n) (P := fun N => holdsN n L N && N.testBit (n - x.natAbs)) (Q := fun N => holdsN n (asgL x L) N && N.testBit (n - x.natAbs)) fun N _ => by
      cases hb : N.testBit (n - x.natAbs)
      · simp
      · rw [asg_holds h0 h1 (by rw [hb]; simp [hx])]
    have e2 := filter_same (n := n) (P := fun N => holdsN n L N && !N.testBit (n - x.natAbs)) (Q := fun N => holdsN n (asgL (-x) L) N && !N.testBit (n - x.natAbs)) fun N _ => by
      cases hb : N.testBit (n - x.natAbs)
      · rw [asg_holds (x := -x) (by omega) (by omega) (by rw [Int.natAbs_neg, hb]; have : ¬ x < 0 := by omega
                                                          simp [this])]
      · simp
    rw [e1, e2] at hs
    exact ⟨_, _, p1, q2, hs⟩
  · have e1 := filter_same (n := n) (P := fun N => holdsN n L N && N.testBit (n - x.natAbs)) (Q := fun N => holdsN n (asgL (-x) L) N && N.testBit (n - x.natAbs)) fun N _ => by
      cases hb : N.testBit (n - x.natAbs)
      · simp
      · rw [asg_holds (x := -x) (by omega) (by omega) (by rw [Int.natAbs_neg, hb]; have : x < 0 := by omega
                                                          simp [this])]
    have e2 := filter_same (n := n) (P := fun N => holdsN n L N && !N.testBit (n - x.natAbs)) (Q := fun N => holdsN n (asgL x L) N && !N.testBit (n - x.natAbs)) fun N _ => by
      cases hb : N.testBit (n - x.natAbs)
      · rw [asg_holds h0 h1 (by rw [hb]; simp [hx])]
      · simp
    rw [e1, e2] at hs
    exact ⟨_, _, p2, q1, by omega⟩
/-- .. and each model is one of those with the literal that it has. -/
theorem parts_mem {n : Nat} {x : Int} {L : List (List Int)} (h0 : 1 ≤ x.natAbs) (h1 : x.natAbs ≤ n) {m : List Bool} (hm : m ∈ modelsB n L) (hb : m[x.natAbs - 1]?.getD false = decide (0 < x)) : m ∈ modelsB n (asgL x L) := by
  have h2 : 1 ≤ x.natAbs := h0
  obtain ⟨N, hN, rfl⟩ := List.mem_map.1 hm
  obtain ⟨a, b⟩ := List.mem_filter.1 hN
  rw [bitM_at (by omega), show n - 1 - (x.natAbs - 1) = n - x.natAbs by omega] at hb
  exact List.mem_map.2 ⟨N, List.mem_filter.2 ⟨a, by rw [asg_holds h0 h1 hb]; exact b⟩, rfl⟩
theorem models_mem {n : Nat} {L : List (List Int)} {m : List Bool} : m ∈ modelsB n L ↔ ∃ N, N < 2 ^ n ∧ m = bitM n N ∧ ∀ zs ∈ L, holdsM m zs = true := by
  unfold modelsB
  rw [List.mem_map]
  constructor
  · rintro ⟨N, hN, rfl⟩
    obtain ⟨a, b⟩ := List.mem_filter.1 hN
    exact ⟨N, List.mem_range.1 a, rfl, fun zs hz => List.all_eq_true.1 b zs hz⟩
  · rintro ⟨N, hN, rfl, h⟩
    exact ⟨N, List.mem_filter.2 ⟨List.mem_range.2 hN, List.all_eq_true.2 h⟩, rfl⟩
theorem models_len {n : Nat} {L : List (List Int)} {m : List Bool} (h : m ∈ modelsB n L) : m.length = n := by
  obtain ⟨N, -, rfl, -⟩ := models_mem.1 h
  exact bitM_len n N
theorem models_count (n : Nat) (L : List (List Int)) : (modelsB n L).length ≤ 2 ^ n := by
  unfold modelsB
  rw [List.length_map]
  exact Nat.le_trans (List.length_filter_le _ _) (by simp)
theorem models_snoc (n : Nat) (L : List (List Int)) (c : List Int) : modelsB n (L ++ [c]) = (modelsB n L).filter fun m => holdsM m c := by
  unfold modelsB
  rw [List.filter_map, List.filter_filter]
  congr 1
  refine List.filter_congr fun N _ => ?_
  show (L ++ [c]).all _ = (holdsM (bitM n N) c && L.all _)
  rw [List.all_append, Bool.and_comm]
  simp
theorem models_same {n : Nat} {L M : List (List Int)} (h : ∀ m : List Bool, (∀ zs ∈ L, holdsM m zs = true) ↔ ∀ zs ∈ M, holdsM m zs = true) : modelsB n L = modelsB n M := by
  unfold modelsB
  congr 1
  refine List.filter_congr fun N _ => ?_
  unfold holdsN
  rw [Bool.eq_iff_iff, List.all_eq_true, List.all_eq_true]
  exact h _
/-- Every list of n values is the model of a number. -/
theorem bitM_onto : ∀ (m : List Bool), ∃ N, N < 2 ^ m.length ∧ bitM m.length N = m
  | [] => ⟨0, by simp, rfl⟩
  | b :: m => by
    obtain ⟨N, hN, e⟩ := bitM_onto m
    cases b
    · exact ⟨N, by rw [List.length_cons, Nat.pow_succ]; omega, by rw [List.length_cons, bitM_low hN, e]⟩
    · exact ⟨2 ^ m.length + N, by rw [List.length_cons, Nat.pow_succ]; omega, by rw [List.length_cons, bitM_high hN, e]⟩
theorem models_all {n : Nat} {L : List (List Int)} {m : List Bool} (hl : m.length = n) : m ∈ modelsB n L ↔ ∀ zs ∈ L, holdsM m zs = true := by
  rw [models_mem]
  constructor
  · rintro ⟨N, -, -, h⟩; exact h
  · intro h
    obtain ⟨N, hN, e⟩ := bitM_onto m
    rw [hl] at hN e
    exact ⟨N, hN, e.symm, h⟩
/-- The order of models. -/
def lexB : List Bool → List Bool → Bool
  | a :: us, b :: vs => if a = b then lexB us vs else b
  | [], _ :: _ => true
  | _, [] => false
theorem lex_bitM : ∀ (n N M : Nat), N < 2 ^ n → M < 2 ^ n → lexB (bitM n N) (bitM n M) = decide (N < M)
  | 0, N, M, h, k => by simp [show N = 0 by omega, show M = 0 by omega, bitM, lexB]
  | n + 1, N, M, h, k => by
    rw [Nat.pow_succ] at h k
    rcases Nat.lt_or_ge N (2 ^ n) with hN | hN <;> rcases Nat.lt_or_ge M (2 ^ n) with hM | hM
    · rw [bitM_low hN, bitM_low hM, lexB, if_pos rfl, lex_bitM n N M hN hM]
    · obtain ⟨M', rfl⟩ : ∃ M', M = 2 ^ n + M' := ⟨M - 2 ^ n, by omega⟩
      rw [bitM_low hN, bitM_high (by omega), lexB, if_neg (by decide)]
      symm
      simp
      omega
    · obtain ⟨N', rfl⟩ : ∃ N', N = 2 ^ n + N' := ⟨N - 2 ^ n, by omega⟩
      rw [bitM_high (by omega), bitM_low hM, lexB, if_neg (by decide)]
      symm
      simp
      omega
    · obtain ⟨M', rfl⟩ : ∃ M', M = 2 ^ n + M' := ⟨M - 2 ^ n, by omega⟩
      obtain ⟨N', rfl⟩ : ∃ N', N = 2 ^ n + N' := ⟨N - 2 ^ n, by omega⟩
      rw [bitM_high (by omega), bitM_high (by omega), lexB, if_pos rfl, lex_bitM n N' M' (by omega) (by omega)]
      simp
theorem models_sorted (n : Nat) (L : List (List Int)) : (modelsB n L).Pairwise fun a b => lexB a b = true := by
  unfold modelsB
  rw [List.pairwise_map]
  refine (List.Pairwise.filter _ ?_ : List.Pairwise (fun N M => N < 2 ^ n ∧ M < 2 ^ n ∧ N < M) _).imp ?_
  · have h := List.pairwise_lt_range (n := 2 ^ n)
    rw [List.pairwise_iff_getElem] at h ⊢
    intro i j hi hj hij
    have hi' : i < 2 ^ n := by simpa using hi
    have hj' : j < 2 ^ n := by simpa using hj
    simp
    omega
  · rintro N M ⟨a, b, c⟩
    rw [lex_bitM n N M a b]
    exact decide_eq_true c
theorem models_step {n : Nat} {L : List (List Int)} {i : Nat} {a b : List Bool} (ha : (modelsB n L)[i]? = some a) (hb : (modelsB n L)[i + 1]? = some b) : lexB a b = true := by
  have h := models_sorted n L
  rw [List.pairwise_iff_getElem] at h
  obtain ⟨h1, rfl⟩ := List.getElem?_eq_some_iff.1 ha
  obtain ⟨h2, rfl⟩ := List.getElem?_eq_some_iff.1 hb
  exact h i (i + 1) h1 h2 (by omega)
end Go.Proofs.YticcgmegimiegaaGreatDoor
