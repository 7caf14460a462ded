/- The reference's Read of formulas, line by line, as mathematics: it says what readAll says. -/
/- The reference's over, number, ParseHeader: they tell what dimacs tells. -/
/- The reference's over, number, ParseHeader: their walks. -/
import Derived.Test.YticcgmegimiegaaGreatDoorDmEv
import Derived.Test.YticcgmegimiegaaGreatDoorDmRefW
namespace Go.Proofs.YticcgmegimiegaaGreatDoor
open Go.RowKit

/-- The words of a line. -/
def wd (x : List UInt8) : List (List UInt8) := (segs 32 x).filter fun y => decide (y ≠ [])
def ws (n : Nat) (x : List UInt8) : List (Nat × List UInt8) := (wd x).map fun y => (n, y)
/-- Lines from the number n on: V is -1 as long as there was no header. -/
def rfL : Nat → List (List UInt8) → Int → Int → List (List Int) → List Int → (Nat × Int) ⊕ (Int × Int × List (List Int) × List Int)
  | _, [], V, C, L, cur => .inr (V, C, L, cur)
  | n, x :: r, V, C, L, cur => if passB x then rfL (n + 1) r V C L cur else if V < 0 then (if prsH x then rfL (n + 1) r (prsV x) (prsN x) L cur else .inl (n + 1, 60)) else match readW V C (ws (n + 1) x) L cur with
    | .inl e => .inl e
    | .inr y => rfL (n + 1) r V C y.1 y.2
/-- The whole of it. -/
def rfAll (S : List UInt8) : (Nat × Int) ⊕ (Int × List (List Int)) :=
  if 4194304 < S.length then .inl (0, 3) else match rfL 0 (segs 10 S) (-1) 0 [] [] with
    | .inl e => .inl e
    | .inr y => if y.1 < 0 then .inl ((segs 10 S).length + 1, 60) else if y.2.2.2 ≠ [] ∨ (y.2.2.1.length : Int) < y.2.1 then .inl ((segs 10 S).length + 1, 63) else .inr (y.1, y.2.2.1)
theorem readW_cat {V C : Int} : ∀ (a b : List (Nat × List UInt8)) (L : List (List Int)) (cur : List Int), readW V C (a ++ b) L cur = match readW V C a L cur with
    | .inl e => .inl e
    | .inr y => readW V C b y.1 y.2
  | [], b, L, cur => rfl
  | (n, x) :: a, b, L, cur => by
    rw [List.cons_append, readW_cons, readW_cons]
    split
    · exact readW_cat a b _ _
    · rfl
theorem rfL_cons (n : Nat) (x : List UInt8) (r : List (List UInt8)) (V C : Int) (L : List (List Int)) (cur : List Int) : rfL n (x :: r) V C L cur = if passB x then rfL (n + 1) r V C L cur else if V < 0 then (if prsH x then rfL (n + 1) r (prsV x) (prsN x) L cur else .inl (n + 1, 60)) else match readW V C (ws (n + 1) x) L cur with
    | .inl e => .inl e
    | .inr y => rfL (n + 1) r V C y.1 y.2 := by rw [rfL]
theorem numL_cons (n : Nat) (x : List UInt8) (r : List (List UInt8)) : numL n (x :: r) = (if passB x then [] else [(n + 1, x)]) ++ numL (n + 1) r := by rw [numL]
/-- Behind the header. -/
theorem rfL_words {V C : Int} (hV : 0 ≤ V) : ∀ (l : List (List UInt8)) (n : Nat) (L : List (List Int)) (cur : List Int), rfL n l V C L cur = match readW V C ((numL n l).flatMap fun p => ws p.1 p.2) L cur with
    | .inl e => .inl e
    | .inr y => .inr (V, C, y.1, y.2)
  | [], n, L, cur => rfl
  | x :: l, n, L, cur => by
    rw [rfL_cons, numL_cons, List.flatMap_append, readW_cat]
    cases hp : passB x
    · rw [if_neg (by decide), if_neg (by omega), if_neg (by decide), List.flatMap_cons, List.flatMap_nil, List.append_nil]
      cases hr : readW V C (ws (n + 1) x) L cur with
      | inl e => rfl
      | inr y => exact rfL_words hV l (n + 1) y.1 y.2
    · rw [if_pos rfl, if_pos rfl]
      exact rfL_words hV l (n + 1) L cur
theorem numL_gt : ∀ (l : List (List UInt8)) (n : Nat), ∀ p ∈ numL n l, n < p.1
  | [], n, p, h => by rw [numL] at h; cases h
  | x :: l, n, p, h => by
    rw [numL_cons] at h
    rcases List.mem_append.1 h with h | h
    · split at h
      · cases h
      · rw [List.mem_singleton.1 h]; exact Nat.lt_succ_self n
    · have := numL_gt l (n + 1) p h
      omega
theorem wordsOf_new {h : Nat} {p : Nat × List UInt8} (hp : h < p.1) : wordsOf h p = ws p.1 p.2 := by
  unfold wordsOf ws wd
  rw [if_neg (by omega)]
theorem prs_nums {x : List UInt8} (h : prsH x = true) : 0 ≤ prsV x ∧ prsV x ≤ 1048576 ∧ 0 ≤ prsN x ∧ prsN x ≤ 262144 := by
  unfold prsH at h
  have h0 : hdrE (prsV x) (prsN x) = 0 := by
    have := (Bool.and_eq_true _ _ ▸ h : _ ∧ _).1
    exact of_decide_eq_true this
  unfold hdrE at h0
  split at h0
  · cases h0
  · split at h0
    · cases h0
    · omega
/-- Before the header. -/
theorem rfL_head : ∀ (l : List (List UInt8)) (n : Nat), rfL n l (-1) 0 [] [] = match numL n l with
    | [] => .inr (-1, 0, [], [])
    | p :: _ => if prsH p.2 then (match readW (prsV p.2) (prsN p.2) ((numL n l).flatMap (wordsOf p.1)) [] [] with
      | .inl e => .inl e
      | .inr y => .inr (prsV p.2, prsN p.2, y.1, y.2)) else .inl (p.1, 60)
  | [], n => rfl
  | x :: l, n => by
    rw [rfL_cons, numL_cons]
    cases hp : passB x
    · rw [if_neg (show ¬ (false = true) by decide), if_pos (by decide), if_neg (show ¬ (false = true) by decide)]
      dsimp only [List.cons_append, List.nil_append]
      cases hh : prsH x
      · rfl
      · rw [if_pos rfl, if_pos rfl, rfL_words (prs_nums hh).1, List.flatMap_cons]
        have e1 : wordsOf (n + 1) (n + 1, x) = [] := by unfold wordsOf; rw [if_pos (Nat.le_refl _)]
        have e2 : (numL (n + 1) l).flatMap (wordsOf (n + 1)) = (numL (n + 1) l).flatMap fun p => ws p.1 p.2 := by
          rw [List.flatMap_def, List.flatMap_def, List.map_congr_left fun p h => wordsOf_new (numL_gt l (n + 1) p h)]
        rw [e1, List.nil_append, e2]
    · rw [if_pos rfl, if_pos rfl, List.nil_append]
      exact rfL_head l (n + 1)
theorem segs_count (c : UInt8) : ∀ l : List UInt8, (segs c l).length = l.count c + 1
  | [] => rfl
  | b :: l => by
    have h := segs_count c l
    unfold segs
    by_cases hb : b = c
    · rw [if_pos hb, List.length_cons, h, hb, List.count_cons_self]
    · rw [if_neg hb, List.count_cons_of_ne hb]
      cases hs : segs c l with
      | nil => exact absurd hs (segs_ne c l)
      | cons x r => rw [hs] at h; simpa using h
/-- Where a clause is begun there is room for one. -/
theorem readW_room {V C : Int} : ∀ (w : List (Nat × List UInt8)) (L : List (List Int)) (cur : List Int) (y : List (List Int) × List Int), readW V C w L cur = .inr y → (L.length : Int) ≤ C → (cur ≠ [] → (L.length : Int) < C) → (y.2 ≠ [] → (y.1.length : Int) < C)
  | [], L, cur, y, h, _, hc => by
    rw [readW] at h
    injection h with h
    subst h
    exact hc
  | (n, x) :: w, L, cur, y, h, hn, _ => by
    rw [readW_cons] at h
    split at h
    · rename_i h0
      have hl := take_len h0 hn
      refine readW_room w _ _ y h hl fun hne => ?_
      unfold takeN at hne ⊢
      unfold takeE at h0
      by_cases hx : x = [48]
      · rw [if_pos hx] at hne
        exact absurd rfl hne
      · rw [if_neg hx]
        split at h0
        · cases h0
        · split at h0
          · cases h0
          · split at h0
            · cases h0
            · dsimp only; omega
    · cases h
theorem rf_all (S : List UInt8) : rfAll S = readAll S := by
  unfold rfAll readAll
  by_cases h : 4194304 < S.length
  · rw [if_pos h, if_pos h]
  · rw [if_neg h, if_neg h, rfL_head]
    have hb : (segs 10 S).length + 1 = behindN S := by rw [segs_count]; rfl
    unfold headR wordsS linesL
    cases hl : numL 0 (segs 10 S) with
    | nil =>
      dsimp only
      rw [if_pos (by decide), if_neg (by decide), hb]
    | cons p r =>
      dsimp only
      by_cases hh : prsH p.2 = true
      · simp only [if_pos hh]
        rw [if_pos trivial]
        have hp := prs_nums hh
        cases hr : readW (prsV p.2) (prsN p.2) ((p :: r).flatMap (wordsOf p.1)) [] [] with
        | inl e => rfl
        | inr y =>
          dsimp only
          have hroom := readW_room _ _ _ _ hr (by simp; omega) (fun h => absurd rfl h)
          rw [if_neg (by omega), hb]
          by_cases hlt : (y.1.length : Int) < prsN p.2
          · rw [if_pos (.inr hlt), if_pos hlt]
          · rw [if_neg hlt, if_neg]
            rintro (h | h)
            · exact hlt (hroom h)
            · exact hlt h
      · simp only [if_neg hh]
        rw [if_neg (by decide)]
end Go.Proofs.YticcgmegimiegaaGreatDoor
namespace Go.Proofs.YticcgmegimiegaaGreatDoor
open Go.RowKit Go.ChangeAt Go.ChangeShapes Go.WideShapes Go.Shelf Go.Sort

/-! ### over -/
theorem dropW_nil : ∀ {l : List UInt8}, (∀ b ∈ l, b = 32) → l.dropWhile (· == 32) = []
  | [], _ => rfl
  | b :: l, h => by
    rw [List.dropWhile_cons, h b (.head _), if_pos (by decide)]
    exact dropW_nil fun x hx => h x (.tail _ hx)
theorem trim_all {l : List UInt8} (h : ∀ b ∈ l, b = 32) : Lib.trimB l 32 = [] := by
  have h1 : l.reverse.dropWhile (· == 32) = [] := dropW_nil fun x hx => h x (List.mem_reverse.1 hx)
  unfold Lib.trimB Lib.trimRightB
  rw [h1]
  rfl
theorem pass_c {l : List UInt8} {r : List UInt8} (h : l = 99 :: r) (hr : r = [] ∨ ∃ t, r = 32 :: t) : passB l = true := by
  subst h
  rcases hr with rfl | ⟨t, rfl⟩
  · decide
  · unfold passB Lib.hasPrefix
    simp
theorem pass_all {l : List UInt8} (h : ∀ b ∈ l, b = 32) : passB l = true := by
  unfold passB
  rw [trim_all h]
  simp
theorem pass_no {l : List UInt8} {b : UInt8} (hb : b ∈ l) (hn : b ≠ 32) (hc : ¬ ∃ r, l = 99 :: r ∧ (r = [] ∨ ∃ t, r = 32 :: t)) : passB l = false := by
  unfold passB Lib.hasPrefix
  rw [decide_eq_false (trim_mem hn hb), Bool.or_false]
  by_cases h1 : l = [99]
  · exact absurd ⟨[], h1, .inl rfl⟩ hc
  · rw [decide_eq_false h1, Bool.false_or]
    cases hp : List.isPrefixOf [99, 32] l
    · rfl
    · obtain ⟨t, ht⟩ := List.isPrefixOf_iff_prefix.1 hp
      exact absurd ⟨32 :: t, ht.symm, .inr ⟨t, rfl⟩⟩ hc
theorem byte_at {l : List UInt8} {k : Nat} (h : k < (⟨l.toArray⟩ : ByteArray).size) : (⟨l.toArray⟩ : ByteArray)[k] = l[k]'(by simpa [ByteArray.size] using h) := rfl
/-! ### the header -/
abbrev hd6 : List UInt8 := [112, 32, 99, 110, 102, 32]
/-- What the reference reads of digits. -/
def numH (l : List UInt8) : Int := if l.length < 1 ∨ 8 < l.length ∨ (l.head? = some 48 ∧ 1 < l.length) then -1 else (numR l 0).getD (-1)
theorem numR_ge : ∀ (l : List UInt8) (x n : Int), 0 ≤ x → numR l x = some n → 0 ≤ n
  | [], x, n, hx, h => by
    obtain rfl : x = n := by simpa [numR] using h
    exact hx
  | d :: r, x, n, hx, h => by
    rw [numR] at h
    split at h
    · cases h
    · exact numR_ge r _ n (by omega) h
theorem numH_of {l : List UInt8} {n : Int} (h : numH l = n) (h0 : 0 ≤ n) : l = Lib.itoa n := by
  unfold numH at h
  split at h
  · omega
  · rename_i hc
    cases hr : numR l 0 with
    | none => rw [hr] at h; simp at h; omega
    | some m =>
      rw [hr] at h
      obtain rfl : m = n := by simpa using h
      by_cases h48 : l.head? = some 48
      · have hl : l.length = 1 := by
          have : ¬ (1 < l.length) := fun h => hc (.inr (.inr ⟨h48, h⟩))
          have : ¬ l.length < 1 := fun h => hc (.inl h)
          omega
        obtain ⟨d, rfl⟩ := List.length_eq_one_iff.1 hl
        obtain rfl : d = 48 := by simpa using h48
        obtain rfl : (0 : Int) = m := by simpa [numR] using hr
        decide +kernel
      · obtain ⟨-, e⟩ := dec_of_num l m (fun d r he hd => h48 (by rw [he, List.head?_cons, u8_48.2 hd])) hr
        obtain ⟨k, rfl⟩ : ∃ k : Nat, m = (k : Int) := ⟨m.toNat, by omega⟩
        rw [Int.toNat_natCast] at e
        rw [itoa_dec]
        by_cases hk : k = 0
        · subst hk
          rw [e] at hc
          exact absurd (.inl (by decide)) hc
        · rw [e, decR_pos k (by omega)]
theorem numH_itoa {n : Int} (h0 : 0 ≤ n) (h1 : n ≤ 1048576) : numH (Lib.itoa n) = n := by
  obtain ⟨k, rfl⟩ : ∃ k : Nat, n = (k : Int) := ⟨n.toNat, by omega⟩
  rw [itoa_dec]
  by_cases hk : k = 0
  · subst hk
    decide +kernel
  · rw [← decR_pos k (by omega)]
    obtain ⟨d, r, e, hd⟩ := decR_head k (by omega)
    have hs := decR_short 7 k (by omega)
    unfold numH
    rw [numL_dec, if_neg]
    · rfl
    · rintro (h | h | ⟨h, -⟩)
      · rw [e] at h; simp at h
      · omega
      · rw [e, List.head?_cons] at h
        injection h with h
        exact hd (u8_48.1 h)
theorem prs_form {l : List UInt8} (h : prsH l = true) : l = hdrL (prsV l) (prsN l) := by
  unfold prsH at h
  exact (of_decide_eq_true (Bool.and_eq_true _ _ ▸ h : _ ∧ _).2).symm
theorem prs_parts {l : List UInt8} (h : prsH l = true) : l.take 6 = hd6 ∧ l.drop 6 = Lib.itoa (prsV l) ++ 32 :: Lib.itoa (prsN l) ∧ 32 ∉ Lib.itoa (prsV l) ∧ 9 ≤ l.length := by
  have e := prs_form h
  obtain ⟨v, hv⟩ : ∃ v, prsV l = v := ⟨_, rfl⟩
  obtain ⟨n, hn⟩ : ∃ n, prsN l = n := ⟨_, rfl⟩
  rw [hv, hn] at e ⊢
  subst e
  have l1 := Nat.pos_of_ne_zero fun h => itoa_ne v (List.eq_nil_of_length_eq_zero h)
  have l2 := Nat.pos_of_ne_zero fun h => itoa_ne n (List.eq_nil_of_length_eq_zero h)
  unfold hdrL
  refine ⟨rfl, rfl, itoa_free (by decide) (by decide), ?_⟩
  simp only [List.length_append, List.length_cons, List.length_nil]
  omega
theorem prs_short {l : List UInt8} (h : l.length < 9) : prsH l = false := by
  cases hp : prsH l
  · rfl
  · have := (prs_parts hp).2.2.2; omega
theorem prs_other {l : List UInt8} (h : l.take 6 ≠ hd6) : prsH l = false := by
  cases hp : prsH l
  · rfl
  · exact absurd (prs_parts hp).1 h
theorem prs_none {l : List UInt8} (h : 32 ∉ l.drop 6) : prsH l = false := by
  cases hp : prsH l
  · rfl
  · rw [(prs_parts hp).2.1] at h
    exact absurd (by simp) h
theorem prs_yes {l a b : List UInt8} (h6 : l.take 6 = hd6) (hd : l.drop 6 = a ++ 32 :: b) (hx : 0 ≤ numH a ∧ numH a ≤ 1048576) (hy : 0 ≤ numH b ∧ numH b ≤ 262144) : prsH l = true ∧ prsV l = numH a ∧ prsN l = numH b := by
  have e1 := numH_of rfl hx.1
  have e2 := numH_of rfl hy.1
  have e : l = hdrL (numH a) (numH b) := by
    rw [← List.take_append_drop 6 l, h6, hd]
    conv => lhs; rw [e1, e2]
    rfl
  rw [e]
  obtain ⟨x, hxe⟩ : ∃ x, numH a = x := ⟨_, rfl⟩
  obtain ⟨y, hye⟩ : ∃ y, numH b = y := ⟨_, rfl⟩
  rw [hxe] at hx ⊢
  rw [hye] at hy ⊢
  exact prs_hdr hx.1 hx.2 hy.1 hy.2
theorem prs_bad {l a b : List UInt8} (hd : l.drop 6 = a ++ 32 :: b) (ha : 32 ∉ a) (h : ¬ ((0 ≤ numH a ∧ numH a ≤ 1048576) ∧ (0 ≤ numH b ∧ numH b ≤ 262144))) : prsH l = false := by
  cases hp : prsH l
  · rfl
  · obtain ⟨-, h2, h3, -⟩ := prs_parts hp
    obtain ⟨p1, p2, p3, p4⟩ := prs_nums hp
    have c1 := cut1_hit (Lib.itoa (prsN l)) h3
    rw [← h2, hd, cut1_hit b ha] at c1
    injection c1 with c1 c2
    exact absurd ⟨by rw [c1, numH_itoa p1 p2]; exact ⟨p1, p2⟩, by rw [c2, numH_itoa p3 (by omega)]; exact ⟨p3, p4⟩⟩ h
end Go.Proofs.YticcgmegimiegaaGreatDoor
namespace Go.Proofs.YticcgmegimiegaaGreatDoor
open Go.RowKit Go.ChangeAt Go.ChangeShapes Go.WideShapes Go.Shelf Go.Sort

theorem mem_at {s : ByteArray} {k : Nat} (h : k < s.size) : s[k] ∈ s.data.toList := by
  have : s.data.toList[k]'(by simpa using h) = s[k] := rfl
  rw [← this]
  exact List.getElem_mem _
theorem u8_32 {a : UInt8} : a = 32 ↔ (a.toNat : Int) = 32 := by
  constructor
  · rintro rfl; rfl
  · intro h
    apply UInt8.toNat.inj
    show a.toNat = 32
    omega
theorem u8_99 {a : UInt8} : a = 99 ↔ (a.toNat : Int) = 99 := by
  constructor
  · rintro rfl; rfl
  · intro h
    apply UInt8.toNat.inj
    show a.toNat = 99
    omega
/-- The rest of over: nothing but spaces. -/
def OvRel (s : ByteArray) (i : Value) : Prop := ∃ k : Nat, k ≤ s.size ∧ i = .int .i64 k ∧ ∀ j, (h : j < s.size) → j < k → s[j] = 32
set_option maxRecDepth 100000 in
set_option maxHeartbeats 2000000 in
theorem over06_any (s : ByteArray) (hs : s.size ≤ 4000000000) (w : World) : Calls Tryz.prog 81 #[.string s] w fun e w' => e = .returned (.bool (passB s.data.toList)) ∧ w' = w := by
  have hl : s.data.toList.length = s.size := by simp
  by_cases h0 : 0 < s.size
  · have e0 : s.data.toList[0]? = some s[0] := List.getElem?_eq_getElem (by omega)
    have h0i : (0 : Int) < (s.size : Int) := by omega
    by_cases h9 : (s[0].toNat : Int) = 99
    · have h99 : ((s[0].toNat : Int) == 99) = true := by simpa using h9
      obtain ⟨r, hr⟩ : ∃ r, s.data.toList = 99 :: r := by
        cases hd : s.data.toList with
        | nil => rw [hd] at e0; cases e0
        | cons a r =>
          rw [hd] at e0
          obtain rfl : a = s[0] := by simpa using e0
          exact ⟨r, by rw [u8_99.2 h9]⟩
      by_cases h1 : s.size = 1
      · have hp := pass_c hr (.inl (by rw [hr] at hl; simp at hl; exact List.eq_nil_of_length_eq_zero (by omega)))
        have HP := Lib.hid hp
        have h1i : ((s.size : Int) == 1) = true := by rw [h1]; rfl
        clear hp hr e0 hl h1 h9
        go_enter Tryz.func81, Tryz.ntmps81
        go_wp2_with fail
        go_ret
        exact ⟨by rw [HP.out]; rfl, rfl⟩
      · have h1s : 1 < s.size := by omega
        have h1i : ((s.size : Int) == 1) = false := by simp; omega
        have h1j : (1 : Int) < (s.size : Int) := by omega
        have e1 : r[0]? = some s[1] := by
          have : s.data.toList[1]? = some s[1] := List.getElem?_eq_getElem (by omega)
          rw [hr] at this
          simpa using this
        by_cases h3 : (s[1].toNat : Int) = 32
        · have h32 : ((s[1].toNat : Int) == 32) = true := by simpa using h3
          have hp := pass_c hr (.inr (by
            cases r with
            | nil => cases e1
            | cons a t =>
              obtain rfl : a = s[1] := by simpa using e1
              exact ⟨t, by rw [u8_32.2 h3]⟩))
          have HP := Lib.hid hp
          clear hp hr e0 e1 hl h1 h9 h3
          go_enter Tryz.func81, Tryz.ntmps81
          go_wp2_with fail
          go_ret
          exact ⟨by rw [HP.out]; rfl, rfl⟩
        · have h32 : ((s[1].toNat : Int) == 32) = false := by simpa using h3
          have hc : ¬ ∃ r, s.data.toList = 99 :: r ∧ (r = [] ∨ ∃ t, r = 32 :: t) := by
            rintro ⟨r', e, h⟩
            rw [hr] at e
            injection e with _ e
            subst e
            rcases h with rfl | ⟨t, rfl⟩
            · cases e1
            · have : (32 : UInt8) = s[1] := by simpa using e1
              exact h3 (u8_32.1 this.symm)
          have HC := Lib.hid hc
          clear hc hr e0 e1 hl h1 h9 h3
          go_enter Tryz.func81, Tryz.ntmps81
          go_wp2_with fail
          go_loopw [3] (fun i wr => OvRel s i ∧ wr = w) (fun i _ => s.size - (intOf i).toNat)
          case atStart => exact ⟨⟨0, Nat.zero_le _, rfl, fun j h hj => by omega⟩, rfl⟩
          case round =>
            obtain ⟨⟨k, hk, rfl, hall⟩, rfl⟩ := hrel
            by_cases hlt : k < s.size
            · have hki : (k : Int) < (s.size : Int) := by omega
              by_cases h32 : (s[k].toNat : Int) = 32
              · have ht : ((s[k].toNat : Int) != 32) = false := by simpa using h32
                have hnext : OvRel s (.int .i64 ((k : Int) + 1)) := ⟨k + 1, by omega, by go_num, fun j h hj => by
                  by_cases hjk : j = k
                  · subst hjk; exact u8_32.2 h32
                  · exact hall j h (by omega)⟩
                have HN := Lib.hid hnext; have HLt := Lib.hid hlt
                clear hall hnext h32
                go_wp2_with fail
                go_roundw
                case rel => exact ⟨HN.out, by trivial⟩
                case measure => simp [intOf]; have := HLt.out; omega
              · have ht : ((s[k].toNat : Int) != 32) = true := by simpa using h32
                have hp := pass_no (mem_at hlt) (fun e => h32 (u8_32.1 e)) HC.out
                have HP := Lib.hid hp
                clear hall h32 hp
                go_wp2_with fail
                go_ret
                exact ⟨by rw [HP.out]; rfl, rfl⟩
            · obtain rfl : k = s.size := by omega
              have hp : passB s.data.toList = true := pass_all fun b hb => by
                obtain ⟨j, hj, rfl⟩ := List.mem_iff_getElem.1 hb
                have hj' : j < s.size := by simpa using hj
                exact hall j hj' hj'
              have HP := Lib.hid hp
              clear hall hp hlt
              go_wp2_with fail
              go_ret
              exact ⟨by rw [HP.out]; rfl, rfl⟩
    · have h99 : ((s[0].toNat : Int) == 99) = false := by simpa using h9
      have hc : ¬ ∃ r, s.data.toList = 99 :: r ∧ (r = [] ∨ ∃ t, r = 32 :: t) := by
        rintro ⟨r', e, -⟩
        rw [e] at e0
        have : (99 : UInt8) = s[0] := by simpa using e0
        exact h9 (u8_99.1 this.symm)
      have HC := Lib.hid hc
      clear hc e0 hl h9
      go_enter Tryz.func81, Tryz.ntmps81
      go_wp2_with fail
      go_loopw [3] (fun i wr => OvRel s i ∧ wr = w) (fun i _ => s.size - (intOf i).toNat)
      case atStart => exact ⟨⟨0, Nat.zero_le _, rfl, fun j h hj => by omega⟩, rfl⟩
      case round =>
        obtain ⟨⟨k, hk, rfl, hall⟩, rfl⟩ := hrel
        by_cases hlt : k < s.size
        · have hki : (k : Int) < (s.size : Int) := by omega
          by_cases h32 : (s[k].toNat : Int) = 32
          · have ht : ((s[k].toNat : Int) != 32) = false := by simpa using h32
            have hnext : OvRel s (.int .i64 ((k : Int) + 1)) := ⟨k + 1, by omega, by go_num, fun j h hj => by
              by_cases hjk : j = k
              · subst hjk; exact u8_32.2 h32
              · exact hall j h (by omega)⟩
            have HN := Lib.hid hnext; have HLt := Lib.hid hlt
            clear hall hnext h32
            go_wp2_with fail
            go_roundw
            case rel => exact ⟨HN.out, by trivial⟩
            case measure => simp [intOf]; have := HLt.out; omega
          · have ht : ((s[k].toNat : Int) != 32) = true := by simpa using h32
            have hp := pass_no (mem_at hlt) (fun e => h32 (u8_32.1 e)) HC.out
            have HP := Lib.hid hp
            clear hall h32 hp
            go_wp2_with fail
            go_ret
            exact ⟨by rw [HP.out]; rfl, rfl⟩
        · obtain rfl : k = s.size := by omega
          have hp : passB s.data.toList = true := pass_all fun b hb => by
            obtain ⟨j, hj, rfl⟩ := List.mem_iff_getElem.1 hb
            have hj' : j < s.size := by simpa using hj
            exact hall j hj' hj'
          have HP := Lib.hid hp
          clear hall hp hlt
          go_wp2_with fail
          go_ret
          exact ⟨by rw [HP.out]; rfl, rfl⟩
  · have h0i : ¬ (0 : Int) < (s.size : Int) := by omega
    have hc : ¬ ∃ r, s.data.toList = 99 :: r ∧ (r = [] ∨ ∃ t, r = 32 :: t) := by
      rintro ⟨r', e, -⟩
      rw [e] at hl
      simp at hl
      omega
    have HC := Lib.hid hc
    clear hc hl
    go_enter Tryz.func81, Tryz.ntmps81
    go_wp2_with fail
    go_loopw [3] (fun i wr => OvRel s i ∧ wr = w) (fun i _ => s.size - (intOf i).toNat)
    case atStart => exact ⟨⟨0, Nat.zero_le _, rfl, fun j h hj => by omega⟩, rfl⟩
    case round =>
      obtain ⟨⟨k, hk, rfl, hall⟩, rfl⟩ := hrel
      by_cases hlt : k < s.size
      · have hki : (k : Int) < (s.size : Int) := by omega
        by_cases h32 : (s[k].toNat : Int) = 32
        · have ht : ((s[k].toNat : Int) != 32) = false := by simpa using h32
          have hnext : OvRel s (.int .i64 ((k : Int) + 1)) := ⟨k + 1, by omega, by go_num, fun j h hj => by
            by_cases hjk : j = k
            · subst hjk; exact u8_32.2 h32
            · exact hall j h (by omega)⟩
          have HN := Lib.hid hnext; have HLt := Lib.hid hlt
          clear hall hnext h32
          go_wp2_with fail
          go_roundw
          case rel => exact ⟨HN.out, by trivial⟩
          case measure => simp [intOf]; have := HLt.out; omega
        · have ht : ((s[k].toNat : Int) != 32) = true := by simpa using h32
          have hp := pass_no (mem_at hlt) (fun e => h32 (u8_32.1 e)) HC.out
          have HP := Lib.hid hp
          clear hall h32 hp
          go_wp2_with fail
          go_ret
          exact ⟨by rw [HP.out]; rfl, rfl⟩
      · obtain rfl : k = s.size := by omega
        have hp : passB s.data.toList = true := pass_all fun b hb => by
          obtain ⟨j, hj, rfl⟩ := List.mem_iff_getElem.1 hb
          have hj' : j < s.size := by simpa using hj
          exact hall j hj' hj'
        have HP := Lib.hid hp
        clear hall hp hlt
        go_wp2_with fail
        go_ret
        exact ⟨by rw [HP.out]; rfl, rfl⟩
/-! ### number -/
def NuRel (s : ByteArray) (n i : Value) : Prop := ∃ (k : Nat) (x : Int), k ≤ s.size ∧ i = .int .i64 k ∧ n = .int .i64 x ∧ 0 ≤ x ∧ x < pw k ∧ numR (s.data.toList.drop k) x = numR s.data.toList 0
theorem pw_8 : pw 8 = 100000000 := by decide
set_option maxRecDepth 100000 in
set_option maxHeartbeats 2000000 in
theorem number06_any (s : ByteArray) (w : World) (hs : s.size ≤ 4000000000) : Calls Tryz.prog 84 #[.string s] w fun e w' => e = .returned (.int .i64 (numH s.data.toList)) ∧ w' = w := by
  have hl : s.data.toList.length = s.size := by simp
  by_cases h0 : 0 < s.size
  · have h0i : ¬ (s.size : Int) < 1 := by omega
    have h0j : (0 : Int) < (s.size : Int) := by omega
    by_cases h8 : 8 < s.size
    · have h8i : (8 : Int) < (s.size : Int) := by omega
      have hn : numH s.data.toList = -1 := by unfold numH; rw [if_pos (.inr (.inl (by omega)))]
      have HN := Lib.hid hn
      clear hn hl
      go_enter Tryz.func84, Tryz.ntmps84
      go_wp2_with fail
      go_ret
      exact ⟨by rw [HN.out]; rfl, rfl⟩
    · have h8i : ¬ (8 : Int) < (s.size : Int) := by omega
      by_cases hz : (s[0].toNat : Int) = 48 ∧ 1 < s.size
      · have hz0 : ((s[0].toNat : Int) == 48) = true := by simpa using hz.1
        have hz1 : (1 : Int) < (s.size : Int) := by omega
        have hn : numH s.data.toList = -1 := by unfold numH; rw [if_pos (.inr (.inr ⟨by rw [head_at h0, u8_48.2 hz.1], by omega⟩))]
        have HN := Lib.hid hn
        clear hn hl hz
        go_enter Tryz.func84, Tryz.ntmps84
        go_wp2_with fail
        go_ret
        exact ⟨by rw [HN.out]; rfl, rfl⟩
      · have hn : numH s.data.toList = (numR s.data.toList 0).getD (-1) := by
          unfold numH
          rw [if_neg]
          rintro (h | h | ⟨h, h'⟩)
          · omega
          · omega
          · rw [head_at h0] at h
            injection h with h
            exact hz ⟨u8_48.1 h, by omega⟩
        have HN := Lib.hid hn
        have hsz : s.size ≤ 8 := by omega
        have hcase : (((s[0].toNat : Int) == 48) = false) ∨ (((s[0].toNat : Int) == 48) = true ∧ ¬ (1 : Int) < (s.size : Int)) := by
          by_cases h : (s[0].toNat : Int) = 48
          · exact .inr ⟨by simpa using h, by have : ¬ (1 < s.size) := fun h' => hz ⟨h, h'⟩; omega⟩
          · exact .inl (by simpa using h)
        clear hn hl hz
        rcases hcase with hz0 | ⟨hz0, hz1⟩
        all_goals
          go_enter Tryz.func84, Tryz.ntmps84
          go_wp2_with fail
          go_loopw [3, 4] (fun n i wr => NuRel s n i ∧ wr = w) (fun _ i _ => s.size - (intOf i).toNat)
          case atStart => exact ⟨⟨0, 0, Nat.zero_le _, rfl, rfl, by omega, by decide, rfl⟩, rfl⟩
          case round =>
            obtain ⟨⟨k, x, hk, rfl, rfl, hx0, hx1, hx⟩, rfl⟩ := hrel
            have hp := pw_le (k := k) (j := 8) (by omega)
            rw [pw_8] at hp
            have hx8 : x ≤ 100000000 := by omega
            by_cases hlt : k < s.size
            · have hki : (k : Int) < (s.size : Int) := by omega
              have hx' := hx
              rw [num_at s x k hlt] at hx'
              have HNa : NumAt s[k].toNat (numR (s.data.toList.drop (k + 1)) (10 * x + ((s[k].toNat : Int) - 48))) (numR s.data.toList 0) := hx'
              have hb : (s[k].toNat : Int) ≤ 255 := by have := s[k].toNat_lt; omega
              have hb0 : (0 : Int) ≤ (s[k].toNat : Int) := by omega
              clear hx' hx
              by_cases hd : (s[k].toNat : Int) < 48
              · have hnn := num_a HNa (.inl hd)
                have HNn := Lib.hid hnn
                clear hnn HNa
                go_wp2_with fail
                go_ret
                exact ⟨by rw [HN.out, HNn.out]; rfl, rfl⟩
              · by_cases hd2 : 57 < (s[k].toNat : Int)
                · have hnn := num_a HNa (.inr hd2)
                  have HNn := Lib.hid hnn
                  clear hnn HNa
                  go_wp2_with fail
                  go_ret
                  exact ⟨by rw [HN.out, HNn.out]; rfl, rfl⟩
                · have hnn := num_b HNa (by omega)
                  have hps : pw (k + 1) = 10 * pw k := rfl
                  have hnew : NuRel s (.int .i64 (x * 10 + (s[k].toNat : Int) - 48)) (.int .i64 ((k : Int) + 1)) := ⟨k + 1, 10 * x + ((s[k].toNat : Int) - 48), by omega, by go_num, congrArg (Value.int .i64) (by omega), by omega, by omega, hnn⟩
                  have HNw := Lib.hid hnew; have HLt := Lib.hid hlt
                  clear hnn HNa hps hnew hx1 hp
                  go_wp2_with fail
                  go_roundw
                  case rel => exact ⟨HNw.out, by trivial⟩
                  case measure => simp [intOf]; have := HLt.out; omega
            · obtain rfl : k = s.size := by omega
              have hx' := hx
              rw [num_end s x s.size (Nat.le_refl _)] at hx'
              have HX := Lib.hid hx'.symm
              clear hx' hx hlt
              go_wp2_with fail
              go_ret
              exact ⟨by rw [HN.out, HX.out]; rfl, rfl⟩
  · have h0i : (s.size : Int) < 1 := by omega
    have hn : numH s.data.toList = -1 := by unfold numH; rw [if_pos (.inl (by omega))]
    have HN := Lib.hid hn
    clear hn hl
    go_enter Tryz.func84, Tryz.ntmps84
    go_wp2_with fail
    go_ret
    exact ⟨by rw [HN.out]; rfl, rfl⟩
end Go.Proofs.YticcgmegimiegaaGreatDoor
