/- The order of literals, and the normal form of a list: plain lists of numbers. -/
import Derived.Test.YticcgmegimiegaaGreatDoorLits
import Derived.Lib.SlicesCompact
namespace Go.Proofs.YticcgmegimiegaaGreatDoor
open Go.Lib

/-- a comes before b. -/
def ltI (a b : Int) : Bool := decide (compareI a b < 0)
theorem cmpI_cases (a b : Int) : (cmpI a b = -1 ∧ a < b) ∨ (cmpI a b = 1 ∧ b < a) ∨ (cmpI a b = 0 ∧ a = b) := by
  unfold cmpI
  by_cases h : a < b
  · rw [if_pos h]; exact .inl ⟨rfl, h⟩
  · rw [if_neg h]
    by_cases h' : b < a
    · rw [if_pos h']; exact .inr (.inl ⟨rfl, h'⟩)
    · rw [if_neg h']; exact .inr (.inr ⟨rfl, by omega⟩)
theorem idxI_lit {a : Int} (h : litB a = true) : idxI a = if a < 0 then 2 * -a - 1 else 2 * a - 2 := by rw [idxI, if_pos h]
theorem idxI_lt {a b : Int} (ha : litB a = true) (hb : litB b = true) (h : idxI a = idxI b) : a = b := by
  have h1 := litB_of ha
  have h2 := litB_of hb
  rw [idxI_lit ha, idxI_lit hb] at h
  split at h <;> split at h <;> omega
theorem compareI_cases (a b : Int) : (compareI a b = -1 ∧ ((litB a = false ∧ litB b = true) ∨ (litB a = false ∧ litB b = false ∧ a < b) ∨ (litB a = true ∧ litB b = true ∧ idxI a < idxI b))) ∨
    (compareI a b = 1 ∧ ((litB b = false ∧ litB a = true) ∨ (litB b = false ∧ litB a = false ∧ b < a) ∨ (litB b = true ∧ litB a = true ∧ idxI b < idxI a))) ∨ (compareI a b = 0 ∧ a = b) := by
  unfold compareI
  cases ha : litB a <;> cases hb : litB b
  · rcases cmpI_cases a b with ⟨h, h'⟩ | ⟨h, h'⟩ | ⟨h, h'⟩
    · exact .inl ⟨by simpa using h, .inr (.inl ⟨rfl, rfl, h'⟩)⟩
    · exact .inr (.inl ⟨by simpa using h, .inr (.inl ⟨rfl, rfl, h'⟩)⟩)
    · exact .inr (.inr ⟨by simpa using h, h'⟩)
  · exact .inl ⟨by simp, .inl ⟨rfl, rfl⟩⟩
  · exact .inr (.inl ⟨by simp, .inl ⟨rfl, rfl⟩⟩)
  · rcases cmpI_cases (idxI a) (idxI b) with ⟨h, h'⟩ | ⟨h, h'⟩ | ⟨h, h'⟩
    · exact .inl ⟨by simpa using h, .inr (.inr ⟨rfl, rfl, h'⟩)⟩
    · exact .inr (.inl ⟨by simpa using h, .inr (.inr ⟨rfl, rfl, h'⟩)⟩)
    · exact .inr (.inr ⟨by simpa using h, idxI_lt ha hb h'⟩)
theorem compareI_zero {a b : Int} : compareI a b = 0 ↔ a = b := by
  constructor
  · intro h
    rcases compareI_cases a b with ⟨e, _⟩ | ⟨e, _⟩ | ⟨_, e⟩
    · omega
    · omega
    · exact e
  · rintro rfl
    rcases compareI_cases a a with ⟨_, h⟩ | ⟨_, h⟩ | ⟨e, _⟩
    · rcases h with ⟨h, h'⟩ | ⟨_, _, h⟩ | ⟨_, _, h⟩
      · rw [h] at h'; cases h'
      · omega
      · omega
    · rcases h with ⟨h, h'⟩ | ⟨_, _, h⟩ | ⟨_, _, h⟩
      · rw [h] at h'; cases h'
      · omega
      · omega
    · exact e
/-- What 'comes before' says. -/
def LtP (a b : Int) : Prop := (litB a = false ∧ litB b = true) ∨ (litB a = false ∧ litB b = false ∧ a < b) ∨ (litB a = true ∧ litB b = true ∧ idxI a < idxI b)
theorem LtP.irrefl {a : Int} (h : LtP a a) : False := by
  rcases h with ⟨h, h'⟩ | ⟨_, _, h⟩ | ⟨_, _, h⟩
  · rw [h] at h'; cases h'
  · omega
  · omega
theorem LtP.trans {a b c : Int} (h : LtP a b) (k : LtP b c) : LtP a c := by
  unfold LtP at *
  rcases h with ⟨h1, h2⟩ | ⟨h1, h2, h3⟩ | ⟨h1, h2, h3⟩ <;> rcases k with ⟨k1, k2⟩ | ⟨k1, k2, k3⟩ | ⟨k1, k2, k3⟩
  · rw [h2] at k1; cases k1
  · rw [h2] at k1; cases k1
  · exact .inl ⟨h1, k2⟩
  · exact .inl ⟨h1, k2⟩
  · exact .inr (.inl ⟨h1, k2, by omega⟩)
  · rw [h2] at k1; cases k1
  · rw [h2] at k1; cases k1
  · rw [h2] at k1; cases k1
  · exact .inr (.inr ⟨h1, k2, by omega⟩)
theorem ltI_iff {a b : Int} : ltI a b = true ↔ LtP a b := by
  unfold ltI
  rw [decide_eq_true_iff]
  rcases compareI_cases a b with ⟨e, h⟩ | ⟨e, h⟩ | ⟨e, h⟩
  · exact ⟨fun _ => h, fun _ => by omega⟩
  · exact ⟨fun h' => by omega, fun h' => (LtP.irrefl (LtP.trans h' h)).elim⟩
  · subst h; exact ⟨fun h' => by omega, fun h' => (LtP.irrefl h').elim⟩
theorem ltI_irrefl (a : Int) : ltI a a = false := by
  cases h : ltI a a
  · rfl
  · exact (LtP.irrefl (ltI_iff.1 h)).elim
theorem ltI_trans {a b c : Int} (h : ltI a b = true) (k : ltI b c = true) : ltI a c = true := ltI_iff.2 (LtP.trans (ltI_iff.1 h) (ltI_iff.1 k))
theorem ltI_asymm {a b : Int} (h : ltI a b = true) : ltI b a = false := by
  cases k : ltI b a
  · rfl
  · have := ltI_trans h k
    rw [ltI_irrefl] at this
    cases this
theorem ltI_total {a b : Int} (h : ltI a b = false) (k : ltI b a = false) : a = b := by
  have h1 : ¬ LtP a b := fun e => by rw [ltI_iff.2 e] at h; cases h
  have h2 : ¬ LtP b a := fun e => by rw [ltI_iff.2 e] at k; cases k
  rcases compareI_cases a b with ⟨_, e⟩ | ⟨_, e⟩ | ⟨_, e⟩
  · exact (h1 e).elim
  · exact (h2 e).elim
  · exact e
theorem compareI_flip (a b : Int) : compareI a b = -compareI b a := by
  rcases compareI_cases a b with ⟨e, h⟩ | ⟨e, h⟩ | ⟨e, h⟩
  · rcases compareI_cases b a with ⟨_, k⟩ | ⟨k, _⟩ | ⟨_, k⟩
    · exact (LtP.irrefl (LtP.trans h k)).elim
    · omega
    · subst k; exact (LtP.irrefl h).elim
  · rcases compareI_cases b a with ⟨k, _⟩ | ⟨_, k⟩ | ⟨_, k⟩
    · omega
    · exact (LtP.irrefl (LtP.trans h k)).elim
    · subst k; exact (LtP.irrefl h).elim
  · subst h; rw [compareI_zero.2 rfl]; rfl
theorem compareI_vals (a b : Int) : compareI a b = -1 ∨ compareI a b = 0 ∨ compareI a b = 1 := by
  rcases compareI_cases a b with ⟨e, _⟩ | ⟨e, _⟩ | ⟨e, _⟩ <;> omega
theorem compareI_neg {a b : Int} : compareI a b = -1 ↔ ltI a b = true := by
  unfold ltI; rw [decide_eq_true_iff]
  rcases compareI_vals a b with e | e | e <;> omega

/-! ### Lists in order, each once -/
def Inc (l : List Int) : Prop := l.Pairwise fun a b => ltI a b = true
theorem inc_ext : ∀ {a b : List Int}, Inc a → Inc b → (∀ x, x ∈ a ↔ x ∈ b) → a = b
  | [], [], _, _, _ => rfl
  | [], y :: b, _, _, h => absurd ((h y).2 (by simp)) (by simp)
  | x :: a, [], _, _, h => absurd ((h x).1 (by simp)) (by simp)
  | x :: a, y :: b, ha, hb, h => by
    obtain ⟨ha1, ha2⟩ := List.pairwise_cons.1 ha
    obtain ⟨hb1, hb2⟩ := List.pairwise_cons.1 hb
    have hxy : x = y := by
      rcases List.mem_cons.1 ((h x).1 (by simp)) with e | m1
      · exact e
      · rcases List.mem_cons.1 ((h y).2 (by simp)) with e | m2
        · exact e.symm
        · have h1 := hb1 x m1
          have h2 := ha1 y m2
          rw [ltI_asymm h1] at h2
          cases h2
    subst hxy
    have irr : ∀ z, ltI x z = true → z ≠ x := fun z hz e => by subst e; rw [ltI_irrefl] at hz; cases hz
    rw [inc_ext ha2 hb2 fun z => ?_]
    constructor
    · intro hz
      rcases List.mem_cons.1 ((h z).1 (List.mem_cons_of_mem _ hz)) with e | m
      · exact (irr z (ha1 z hz) e).elim
      · exact m
    · intro hz
      rcases List.mem_cons.1 ((h z).2 (List.mem_cons_of_mem _ hz)) with e | m
      · exact (irr z (hb1 z hz) e).elim
      · exact m
/-- Whether a list is in order, each once. -/
def incB : List Int → Bool
  | [] => true
  | [_] => true
  | a :: b :: l => ltI a b && incB (b :: l)
theorem incB_iff : ∀ l, incB l = true ↔ Inc l
  | [] => ⟨fun _ => .nil, fun _ => rfl⟩
  | [a] => ⟨fun _ => List.pairwise_singleton _ _, fun _ => rfl⟩
  | a :: b :: l => by
    rw [incB, Bool.and_eq_true, incB_iff (b :: l)]
    constructor
    · rintro ⟨h1, h2⟩
      refine List.pairwise_cons.2 ⟨fun z hz => ?_, h2⟩
      rcases List.mem_cons.1 hz with rfl | hz
      · exact h1
      · exact ltI_trans h1 ((List.pairwise_cons.1 h2).1 z hz)
    · intro h
      obtain ⟨h1, h2⟩ := List.pairwise_cons.1 h
      exact ⟨h1 b (by simp), h2⟩
theorem inc_snoc {l : List Int} {a b : Int} (h : Inc (l ++ [a])) : Inc (l ++ [a] ++ [b]) ↔ ltI a b = true := by
  constructor
  · intro h'
    exact (List.pairwise_append.1 h').2.2 a (by simp) b (by simp)
  · intro hab
    refine List.pairwise_append.2 ⟨h, List.pairwise_singleton _ _, fun x hx y hy => ?_⟩
    obtain rfl : y = b := by simpa using hy
    rcases List.mem_append.1 hx with hx | hx
    · exact ltI_trans ((List.pairwise_append.1 h).2.2 x hx a (by simp)) hab
    · obtain rfl : x = a := by simpa using hx
      exact hab
theorem inc_take {l : List Int} (h : Inc l) (k : Nat) : Inc (l.take k) := List.Pairwise.sublist (List.take_sublist k l) h
theorem take_snoc2 (zs : List Int) {k : Nat} (h : k < zs.length) : zs.take (k + 1) = zs.take k ++ [zs[k]?.getD 0] := by
  rw [List.take_succ_eq_append_getElem h]; simp [h]
/-- One place more. -/
theorem inc_step {zs : List Int} {k : Nat} (h1 : 1 ≤ k) (hk : k < zs.length) (h : Inc (zs.take k)) : Inc (zs.take (k + 1)) ↔ ltI (zs[k - 1]?.getD 0) (zs[k]?.getD 0) = true := by
  obtain ⟨j, rfl⟩ : ∃ j, k = j + 1 := ⟨k - 1, by omega⟩
  rw [take_snoc2 zs hk, take_snoc2 zs (show j < zs.length by omega)] at *
  exact inc_snoc h

/-! ### The normal form -/
/-- a does not come behind b. -/
def leI (a b : Int) : Bool := !ltI b a
theorem leI_trans (a b c : Int) (h : leI a b = true) (k : leI b c = true) : leI a c = true := by
  unfold leI at *
  rw [Bool.not_eq_true'] at *
  cases e : ltI c a
  · rfl
  · by_cases hb : ltI c b = true
    · rw [hb] at k; cases k
    · have hcb : ltI c b = false := by simpa using hb
      by_cases hbc : ltI b c = true
      · have := ltI_trans hbc e
        rw [h] at this; cases this
      · have hbc' : ltI b c = false := by simpa using hbc
        obtain rfl := ltI_total hcb hbc'
        rw [h] at e; cases e
theorem leI_total (a b : Int) : (leI a b || leI b a) = true := by
  unfold leI
  cases h : ltI b a
  · rfl
  · rw [ltI_asymm h]; rfl
theorem leI_lt {a b : Int} (h : leI a b = true) (hne : a ≠ b) : ltI a b = true := by
  cases k : ltI a b
  · exact (hne (ltI_total k (by simpa [leI] using h))).elim
  · rfl
def msI (zs : List Int) : List Int := zs.mergeSort fun x y => leI x y
theorem msI_sorted (zs : List Int) : (msI zs).Pairwise fun a b => leI a b = true := List.pairwise_mergeSort leI_trans leI_total zs
theorem msI_perm (zs : List Int) : (msI zs).Perm zs := List.mergeSort_perm _ _
theorem msI_length (zs : List Int) : (msI zs).length = zs.length := List.length_mergeSort _
theorem msI_mem (zs : List Int) (x : Int) : x ∈ msI zs ↔ x ∈ zs := (msI_perm zs).mem_iff
theorem bang_eq (zs : List Int) {i : Nat} (h : i < zs.length) : zs.toArray[i]! = zs[i]'h := by simp [h]

/-- Of a list in order, its numbers, each once. -/
theorem compact_upto (zs : List Int) (hs : ∀ i j, i < j → j < zs.length → leI zs.toArray[i]! zs.toArray[j]! = true) :
    ∀ m, m ≤ zs.length → Inc (compactUpTo zs.toArray m) ∧ ∀ x, x ∈ compactUpTo zs.toArray m ↔ ∃ j, j < m ∧ zs.toArray[j]! = x := by
  intro m
  induction m with
  | zero => intro _; exact ⟨by simp [compactUpTo, Inc], fun x => ⟨(fun h => by simp [compactUpTo] at h), fun ⟨j, h, _⟩ => by omega⟩⟩
  | succ m ih =>
    intro hm
    obtain ⟨ih1, ih2⟩ := ih (by omega)
    rw [compactUpTo_succ]
    cases hk : keeps zs.toArray m
    · simp only [Bool.false_eq_true, if_false, List.append_nil]
      refine ⟨ih1, fun x => ⟨fun hx => ?_, fun ⟨j, hj, e⟩ => ?_⟩⟩
      · obtain ⟨j, hj, e⟩ := (ih2 x).1 hx
        exact ⟨j, by omega, e⟩
      · by_cases hjm : j < m
        · exact (ih2 x).2 ⟨j, hjm, e⟩
        · obtain rfl : j = m := by omega
          have hk' : ¬ (j = 0 ∨ zs.toArray[j]! ≠ zs.toArray[j - 1]!) := by simpa [keeps] using hk
          have h0 : j ≠ 0 := fun e => hk' (.inl e)
          have he : zs.toArray[j]! = zs.toArray[j - 1]! := Decidable.of_not_not fun e => hk' (.inr e)
          exact (ih2 x).2 ⟨j - 1, by omega, by rw [← he]; exact e⟩
    · simp only [if_true]
      have hkp : m = 0 ∨ zs.toArray[m]! ≠ zs.toArray[m - 1]! := by simpa [keeps] using hk
      have hlt : ∀ x ∈ compactUpTo zs.toArray m, ltI x zs.toArray[m]! = true := by
        intro x hx
        obtain ⟨j, hj, rfl⟩ := (ih2 x).1 hx
        rcases hkp with h0 | hne
        · omega
        · have h1 : leI zs.toArray[m - 1]! zs.toArray[m]! = true := hs (m - 1) m (by omega) (by omega)
          have h2 := leI_lt h1 (fun e => hne e.symm)
          by_cases e : j = m - 1
          · rw [e]; exact h2
          · have h3 := hs j (m - 1) (by omega) (by omega)
            by_cases e' : zs.toArray[j]! = zs.toArray[m - 1]!
            · rw [e']; exact h2
            · exact ltI_trans (leI_lt h3 e') h2
      refine ⟨List.pairwise_append.2 ⟨ih1, List.pairwise_singleton _ _, fun a ha b hb => ?_⟩, fun x => ?_⟩
      · obtain rfl : b = zs.toArray[m]! := by simpa using hb
        exact hlt a ha
      · rw [List.mem_append, ih2, List.mem_singleton]
        constructor
        · rintro (⟨j, hj, e⟩ | e)
          · exact ⟨j, by omega, e⟩
          · exact ⟨m, by omega, e.symm⟩
        · rintro ⟨j, hj, e⟩
          by_cases hjm : j < m
          · exact .inl ⟨j, hjm, e⟩
          · obtain rfl : j = m := by omega
            exact .inr e.symm
/-- The normal form: the numbers of a list, each once, in order. -/
def normL (zs : List Int) : List Int := compactUpTo (msI zs).toArray (msI zs).length
theorem norm_is (zs : List Int) : Inc (normL zs) ∧ ∀ x, x ∈ normL zs ↔ x ∈ zs := by
  have hp := msI_sorted zs
  have hle : ∀ i j, i < j → j < (msI zs).length → leI (msI zs).toArray[i]! (msI zs).toArray[j]! = true := by
    intro i j hij hj
    rw [bang_eq _ hj, bang_eq _ (by omega)]
    exact List.pairwise_iff_getElem.1 hp i j (by omega) hj hij
  obtain ⟨h1, h2⟩ := compact_upto (msI zs) hle (msI zs).length (Nat.le_refl _)
  refine ⟨h1, fun x => ?_⟩
  rw [← msI_mem zs x]
  show x ∈ compactUpTo _ _ ↔ _
  rw [h2]
  constructor
  · rintro ⟨j, hj, e⟩
    rw [bang_eq _ hj] at e
    rw [← e]
    exact List.getElem_mem hj
  · intro hx
    obtain ⟨j, hj, e⟩ := List.getElem_of_mem hx
    exact ⟨j, hj, by rw [bang_eq _ hj]; exact e⟩
theorem norm_inc (zs : List Int) : Inc (normL zs) := (norm_is zs).1
theorem norm_mem {zs : List Int} {x : Int} : x ∈ normL zs ↔ x ∈ zs := (norm_is zs).2 x
theorem norm_unique {zs l : List Int} (h : Inc l) (hm : ∀ x, x ∈ l ↔ x ∈ zs) : normL zs = l := inc_ext (norm_inc zs) h fun x => by rw [norm_mem, hm]
theorem norm_of_inc {zs : List Int} (h : Inc zs) : normL zs = zs := norm_unique h fun _ => Iff.rfl
theorem norm_congr {xs ys : List Int} (h : ∀ x, x ∈ xs ↔ x ∈ ys) : normL xs = normL ys := norm_unique (norm_inc ys) fun x => by rw [norm_mem, h]
theorem norm_norm (zs : List Int) : normL (normL zs) = normL zs := norm_of_inc (norm_inc zs)
theorem norm_length (zs : List Int) : (normL zs).length ≤ zs.length := by
  have : (normL zs).length ≤ (msI zs).length := by
    unfold normL compactUpTo
    rw [List.length_map]
    exact Nat.le_trans (List.length_filter_le _ _) (by simp)
  rw [msI_length] at this
  exact this
theorem norm_iff {xs ys : List Int} : normL xs = normL ys ↔ ∀ x, x ∈ xs ↔ x ∈ ys := by
  constructor
  · intro h x
    rw [← norm_mem, h, norm_mem]
  · exact norm_congr
theorem inc_nodup {l : List Int} (h : Inc l) : l.Nodup := List.Pairwise.imp (fun hab e => by subst e; rw [ltI_irrefl] at hab; cases hab) h
end Go.Proofs.YticcgmegimiegaaGreatDoor
