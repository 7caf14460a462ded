/- Lists of lists of numbers, as they are read. -/
/- What the definitions of formulas come to. -/
import Derived.Test.YticcgmegimiegaaGreatDoorRight
import Derived.Test.YticcgmegimiegaaGreatDoorObj
import Derived.IntWalk
namespace Go.Proofs.YticcgmegimiegaaGreatDoor
open Go.RowKit Go.ChangeAt Go.ChangeShapes Go.WideShapes

/-- A slice of slices holds the lists L; all lies below C. -/
def RowsI (C : Nat) (W : World) (v : Value) (L : List (List Int)) : Prop :=
  (∃ A c, v = .slice A 0 c ∧ L = []) ∨ ∃ b off cap, v = .slice (some ⟨b, off, none⟩) L.length cap ∧ b < C ∧ ∀ (j : Nat) (zs : List Int), L[j]? = some zs → ∃ sv, W.cell? ⟨b, off + j, none⟩ = some sv ∧ Ints C W sv zs
section
variable {C C' : Nat} {X Y W : World} {v : Value} {L : List (List Int)}
theorem RowsI.below (h : Below C X Y) : RowsI C X v L → RowsI C Y v L
  | .inl e => .inl e
  | .inr ⟨b, off, cap, e, hb, hj⟩ => .inr ⟨b, off, cap, e, hb, fun j zs hz => by
      obtain ⟨sv, h1, h2⟩ := hj j zs hz
      exact ⟨sv, (h.cell (p := ⟨b, off + j, none⟩) hb).trans h1, h2.below h⟩⟩
theorem RowsI.more (hC : C ≤ C') : RowsI C W v L → RowsI C' W v L
  | .inl e => .inl e
  | .inr ⟨b, off, cap, e, hb, hj⟩ => .inr ⟨b, off, cap, e, Nat.lt_of_lt_of_le hb hC, fun j zs hz => by
      obtain ⟨sv, h1, h2⟩ := hj j zs hz
      exact ⟨sv, h1, h2.more hC⟩⟩
theorem RowsI.shape (h : RowsI C W v L) : ∃ A cap, v = .slice A L.length cap ∧ ∀ (j : Nat) (zs : List Int), L[j]? = some zs → ∃ b off As cs, A = some ⟨b, off, none⟩ ∧ b < C ∧ W.cell? ⟨b, off + j, none⟩ = some (.slice As zs.length cs) ∧ Ints C W (.slice As zs.length cs) zs := by
  rcases h with ⟨A, c, rfl, rfl⟩ | ⟨b, off, cap, rfl, hb, hj⟩
  · exact ⟨A, c, rfl, fun j zs hz => by simp at hz⟩
  · exact ⟨_, cap, rfl, fun j zs hz => by
      obtain ⟨sv, h1, h2⟩ := hj j zs hz
      obtain ⟨As, cs, rfl, -⟩ := ints_shape h2
      exact ⟨b, off, As, cs, rfl, hb, h1, h2⟩⟩
theorem rowsI_nil (C : Nat) (W : World) : RowsI C W (.slice none 0 0) [] := .inl ⟨_, _, rfl, rfl⟩
end
/-! ### what the definitions say -/
/-- What is wrong with a clause of some variables. -/
def badE (vars : Int) (zs : List Int) : Int := if rightB zs then (if ∀ l ∈ zs, varI l ≤ vars then 0 else 51) else 20
theorem badE_none {vars : Int} {zs : List Int} (h : rightB zs = false) : badE vars zs = 20 := by unfold badE; rw [if_neg (by rw [h]; decide)]
theorem badE_lit {vars : Int} {zs : List Int} (h : rightB zs = true) {l : Int} (hl : l ∈ zs) (hv : vars < varI l) : badE vars zs = 51 := by
  unfold badE
  rw [if_pos h, if_neg (fun e => by have := e l hl; omega)]
theorem badE_ok {vars : Int} {zs : List Int} (h : rightB zs = true) (hv : ∀ l ∈ zs, varI l ≤ vars) : badE vars zs = 0 := by
  unfold badE
  rw [if_pos h, if_pos hv]
/-- The first clause that is wrong, and what is. -/
def firstBad (vars : Int) : Nat → List (List Int) → Option (Nat × Int)
  | _, [] => none
  | k, zs :: L => if badE vars zs = 0 then firstBad vars (k + 1) L else some (k, badE vars zs)
theorem firstBad_at {vars : Int} : ∀ (L : List (List Int)) (k j : Nat) (zs : List Int), L[j]? = some zs → (∀ (m : Nat) (ys : List Int), m < j → L[m]? = some ys → badE vars ys = 0) → badE vars zs ≠ 0 → firstBad vars k L = some (k + j, badE vars zs)
  | [], _, _, _, h, _, _ => by simp at h
  | y :: L, k, 0, zs, h, _, hb => by
    obtain rfl : y = zs := by simpa using h
    unfold firstBad
    rw [if_neg hb]; rfl
  | y :: L, k, j + 1, zs, h, hall, hb => by
    unfold firstBad
    rw [if_pos (hall 0 y (by omega) rfl), firstBad_at L (k + 1) j zs (by simpa using h) (fun m ys hm hy => hall (m + 1) ys (by omega) (by simpa using hy)) hb]
    congr 2
    omega
theorem firstBad_no {vars : Int} : ∀ (L : List (List Int)) (k : Nat), (∀ zs ∈ L, badE vars zs = 0) → firstBad vars k L = none
  | [], _, _ => rfl
  | y :: L, k, h => by
    unfold firstBad
    rw [if_pos (h y (by simp))]
    exact firstBad_no L (k + 1) fun zs hz => h zs (by simp [hz])
/-- P5.1: the index, and the error's number. -/
def chkI (vars : Int) (L : List (List Int)) : Int × Int :=
  if vars < 0 ∨ 1048576 < vars then (-1, 50) else if 262144 < L.length then (-1, 5) else match firstBad vars 0 L with
    | some (i, e) => ((i : Int), e)
    | none => (-1, 0)
/-- P5.2: a literal in a model of ones and zeros. -/
def satI (ms : List Int) (l : Int) : Bool := (decide (ms[l.natAbs - 1]?.getD 2 = 1) && decide (0 < l)) || (decide (ms[l.natAbs - 1]?.getD 2 = 0) && decide (l < 0))
def holdF (zs ms : List Int) : Bool := rightB zs && zs.all (fun l => decide (l.natAbs ≤ ms.length)) && zs.any (satI ms)
theorem holdF_none {zs ms : List Int} (h : rightB zs = false) : holdF zs ms = false := by unfold holdF; rw [h]; rfl
theorem holdF_far {zs ms : List Int} {l : Int} (hl : l ∈ zs) (h : ms.length < l.natAbs) : holdF zs ms = false := by
  unfold holdF
  have : zs.all (fun l => decide (l.natAbs ≤ ms.length)) = false := by
    cases e : zs.all (fun l => decide (l.natAbs ≤ ms.length))
    · rfl
    · have := of_decide_eq_true (List.all_eq_true.1 e l hl)
      omega
  rw [this]
  simp
theorem holdF_near {zs ms : List Int} (h : rightB zs = true) (hn : ∀ l ∈ zs, l.natAbs ≤ ms.length) : holdF zs ms = zs.any (satI ms) := by
  unfold holdF
  have : zs.all (fun l => decide (l.natAbs ≤ ms.length)) = true := List.all_eq_true.2 fun l hl => decide_eq_true (hn l hl)
  rw [h, this]
  rfl
/-- The first clause that does not hold; -1 if all do. -/
def failI (ms : List Int) : Nat → List (List Int) → Int
  | _, [] => -1
  | k, zs :: L => if holdF zs ms then failI ms (k + 1) L else (k : Int)
theorem failI_at {ms : List Int} : ∀ (L : List (List Int)) (k j : Nat) (zs : List Int), L[j]? = some zs → (∀ (m : Nat) (ys : List Int), m < j → L[m]? = some ys → holdF ys ms = true) → holdF zs ms = false → failI ms k L = ((k + j : Nat) : Int)
  | [], _, _, _, h, _, _ => by simp at h
  | y :: L, k, 0, zs, h, _, hb => by
    obtain rfl : y = zs := by simpa using h
    unfold failI
    rw [if_neg (by rw [hb]; decide)]; rfl
  | y :: L, k, j + 1, zs, h, hall, hb => by
    unfold failI
    rw [if_pos (hall 0 y (by omega) rfl), failI_at L (k + 1) j zs (by simpa using h) (fun m ys hm hy => hall (m + 1) ys (by omega) (by simpa using hy)) hb]
    congr 1
    omega
theorem failI_no {ms : List Int} : ∀ (L : List (List Int)) (k : Nat), (∀ zs ∈ L, holdF zs ms = true) → failI ms k L = -1
  | [], _, _ => rfl
  | y :: L, k, h => by
    unfold failI
    rw [if_pos (h y (by simp))]
    exact failI_no L (k + 1) fun zs hz => h zs (by simp [hz])
end Go.Proofs.YticcgmegimiegaaGreatDoor
namespace Go.Proofs.YticcgmegimiegaaGreatDoor

theorem any_snoc {α : Type} (p : α → Bool) (xs : List α) (x : α) : (xs ++ [x]).any p = (xs.any p || p x) := by simp
/-! ### P5.1 -/
theorem chkI_vars {vars : Int} {L : List (List Int)} (h : vars < 0 ∨ 1048576 < vars) : chkI vars L = (-1, 50) := by unfold chkI; rw [if_pos h]
theorem chkI_many {vars : Int} {L : List (List Int)} (h : ¬ (vars < 0 ∨ 1048576 < vars)) (h1 : 262144 < L.length) : chkI vars L = (-1, 5) := by unfold chkI; rw [if_neg h, if_pos h1]
theorem chkI_at {vars : Int} {L : List (List Int)} (h : ¬ (vars < 0 ∨ 1048576 < vars)) (h1 : ¬ 262144 < L.length) {k : Nat} {zs : List Int} {e : Int} (hx : L[k]? = some zs) (hall : ∀ (m : Nat) (ys : List Int), m < k → L[m]? = some ys → badE vars ys = 0) (he : badE vars zs = e) (h0 : e ≠ 0) : chkI vars L = ((k : Int), e) := by
  unfold chkI
  rw [if_neg h, if_neg h1, firstBad_at L 0 k zs hx hall (by rw [he]; exact h0), he, Nat.zero_add]
theorem chkI_ok {vars : Int} {L : List (List Int)} (h : ¬ (vars < 0 ∨ 1048576 < vars)) (h1 : ¬ 262144 < L.length) (hall : ∀ zs ∈ L, badE vars zs = 0) : chkI vars L = (-1, 0) := by
  unfold chkI
  rw [if_neg h, if_neg h1, firstBad_no L 0 hall]
/-! ### P5.4: what is left if a literal is true -/
def asgL (l : Int) (L : List (List Int)) : List (List Int) := (L.filter fun zs => decide (l ∉ zs)).map fun zs => zs.filter fun x => decide (x ≠ -l)
theorem asgL_nil (l : Int) : asgL l [] = [] := rfl
theorem asgL_has {l : Int} {L : List (List Int)} {zs : List Int} (h : l ∈ zs) : asgL l (L ++ [zs]) = asgL l L := by
  unfold asgL
  rw [List.filter_append, List.filter_cons_of_neg (by simpa using h)]
  simp
theorem asgL_hasnt {l : Int} {L : List (List Int)} {zs : List Int} (h : l ∉ zs) : asgL l (L ++ [zs]) = asgL l L ++ [zs.filter fun x => decide (x ≠ -l)] := by
  unfold asgL
  rw [List.filter_append, List.filter_cons_of_pos (by simpa using h)]
  simp
theorem less_yes {l x : Int} {zs : List Int} (h : x ≠ -l) : ((zs ++ [x]).filter fun x => decide (x ≠ -l)) = (zs.filter fun x => decide (x ≠ -l)) ++ [x] := by
  rw [List.filter_append, List.filter_cons_of_pos (by simpa using h)]
  rfl
theorem less_no {l x : Int} {zs : List Int} (h : x = -l) : ((zs ++ [x]).filter fun x => decide (x ≠ -l)) = zs.filter fun x => decide (x ≠ -l) := by
  rw [List.filter_append, List.filter_cons_of_neg (by simpa using h)]
  simp

/-! ### P5.5: the model in which literals are true -/
/-- What is wrong with a literal behind others. -/
def litE (vars : Int) (before : List Int) (l : Int) : Int := if varI l < 1 ∨ vars < varI l then 51 else if -l ∈ before then 52 else 0
/-- The first literal that is wrong. -/
def modE (vars : Int) (before : List Int) : List Int → Int
  | [] => 0
  | l :: ls => if litE vars before l = 0 then modE vars (before ++ [l]) ls else litE vars before l
theorem modE_at {vars : Int} : ∀ (ls before : List Int) (j : Nat) (l : Int), ls[j]? = some l → (∀ (m : Nat) (x : Int), m < j → ls[m]? = some x → litE vars (before ++ ls.take m) x = 0) → litE vars (before ++ ls.take j) l ≠ 0 → modE vars before ls = litE vars (before ++ ls.take j) l
  | [], _, _, _, h, _, _ => by simp at h
  | y :: ls, before, 0, l, h, _, hb => by
    obtain rfl : y = l := by simpa using h
    simp only [List.take_zero, List.append_nil] at hb ⊢
    unfold modE
    rw [if_neg hb]
  | y :: ls, before, j + 1, l, h, hall, hb => by
    have h0 := hall 0 y (by omega) rfl
    simp only [List.take_zero, List.append_nil] at h0
    have e : before ++ (y :: ls).take (j + 1) = before ++ [y] ++ ls.take j := by simp
    rw [e] at hb ⊢
    unfold modE
    rw [if_pos h0]
    refine modE_at ls (before ++ [y]) j l (by simpa using h) (fun m x hm hx => ?_) hb
    have := hall (m + 1) x (by omega) (by simpa using hx)
    rwa [show before ++ (y :: ls).take (m + 1) = before ++ [y] ++ ls.take m by simp] at this
theorem modE_no {vars : Int} : ∀ (ls before : List Int), (∀ (m : Nat) (x : Int), ls[m]? = some x → litE vars (before ++ ls.take m) x = 0) → modE vars before ls = 0
  | [], _, _ => rfl
  | y :: ls, before, h => by
    have h0 := h 0 y rfl
    simp only [List.take_zero, List.append_nil] at h0
    unfold modE
    rw [if_pos h0]
    refine modE_no ls (before ++ [y]) fun m x hx => ?_
    have := h (m + 1) x (by simpa using hx)
    rwa [show before ++ (y :: ls).take (m + 1) = before ++ [y] ++ ls.take m by simp] at this
/-- The values: 1 of each variable whose literal is there. -/
def modL (vars : Nat) (ls : List Int) : List Int := (List.range vars).map fun (v : Nat) => if ((v : Int) + 1) ∈ ls then (1 : Int) else 0
theorem modL_len (vars : Nat) (ls : List Int) : (modL vars ls).length = vars := by simp [modL]
theorem modL_nil (vars : Nat) : modL vars [] = List.replicate vars 0 := by
  unfold modL
  rw [List.eq_replicate_iff]
  exact ⟨by simp, fun b hb => by obtain ⟨v, -, rfl⟩ := List.mem_map.1 hb; simp⟩
theorem modL_at {vars : Nat} {ls : List Int} {v : Nat} (h : v < vars) : (modL vars ls)[v]? = some (if ((v : Int) + 1) ∈ ls then 1 else 0) := by simp [modL, h]
theorem modL_pos {vars : Nat} {ls : List Int} {l : Int} (h0 : 0 < l) : modL vars (ls ++ [l]) = (modL vars ls).set (l.natAbs - 1) 1 := by
  apply List.ext_getElem?
  intro v
  rcases Nat.lt_or_ge v vars with hv | hv
  · rw [modL_at hv, List.getElem?_set]
    by_cases he : l.natAbs - 1 = v
    · rw [if_pos he, if_pos (List.mem_append.2 (.inr (List.mem_singleton.2 (by omega)))), if_pos (by rw [modL_len]; omega)]
    · rw [if_neg he, modL_at hv]
      congr 1
      have : ((v : Int) + 1 ∈ ls ++ [l]) ↔ ((v : Int) + 1 ∈ ls) := by
        simp only [List.mem_append, List.mem_singleton]
        exact ⟨fun h => h.resolve_right (by omega), .inl⟩
      simp only [this]
  · rw [List.getElem?_eq_none (by rw [modL_len]; omega), List.getElem?_eq_none (by rw [List.length_set, modL_len]; omega)]
theorem modL_neg {vars : Nat} {ls : List Int} {l : Int} (h0 : l < 0) : modL vars (ls ++ [l]) = modL vars ls := by
  unfold modL
  refine List.map_congr_left fun v _ => ?_
  have : ((v : Int) + 1 ∈ ls ++ [l]) ↔ ((v : Int) + 1 ∈ ls) := by
    simp only [List.mem_append, List.mem_singleton]
    exact ⟨fun h => h.resolve_right (by omega), .inl⟩
  simp only [this]

/-! ### P5.3: all models, in order -/
/-- The models of some variables, in order. -/
def allM : Nat → List (List Int)
  | 0 => [[]]
  | n + 1 => (allM n).map (0 :: ·) ++ (allM n).map (1 :: ·)
theorem allM_len : ∀ n, (allM n).length = 2 ^ n
  | 0 => rfl
  | n + 1 => by unfold allM; rw [List.length_append, List.length_map, List.length_map, allM_len n, Nat.pow_succ]; omega
theorem allM_mem_len : ∀ (n : Nat) (m : List Int), m ∈ allM n → m.length = n
  | 0, m, h => by simp [allM] at h; rw [h]; rfl
  | n + 1, m, h => by
    unfold allM at h
    rw [List.mem_append] at h
    rcases h with h | h <;> obtain ⟨x, hx, rfl⟩ := List.mem_map.1 h <;> simp [allM_mem_len n x hx]
theorem allM_bits : ∀ (n : Nat) (m : List Int), m ∈ allM n → ∀ x ∈ m, x = 0 ∨ x = 1
  | 0, m, h, x, hx => by simp [allM] at h; rw [h] at hx; cases hx
  | n + 1, m, h, x, hx => by
    unfold allM at h
    rw [List.mem_append] at h
    rcases h with h | h
    · obtain ⟨y, hy, rfl⟩ := List.mem_map.1 h
      rcases List.mem_cons.1 hx with rfl | hx
      · exact .inl rfl
      · exact allM_bits n y hy x hx
    · obtain ⟨y, hy, rfl⟩ := List.mem_map.1 h
      rcases List.mem_cons.1 hx with rfl | hx
      · exact .inr rfl
      · exact allM_bits n y hy x hx
/-- The model behind a model; none if it is the last one. -/
def nxtM : List Int → Option (List Int)
  | [] => none
  | b :: m => match nxtM m with
    | some m' => some (b :: m')
    | none => if b = 0 then some (1 :: List.replicate m.length 0) else none
theorem allM_first : ∀ n, (allM n)[0]? = some (List.replicate n 0)
  | 0 => rfl
  | n + 1 => by
    unfold allM
    rw [List.getElem?_append_left (by rw [List.length_map, allM_len]; exact Nat.two_pow_pos n), List.getElem?_map, allM_first n]
    rfl
theorem allM_next : ∀ (n k : Nat) (m : List Int), (allM n)[k]? = some m → nxtM m = (allM n)[k + 1]?
  | 0, k, m, h => by
    have hk : k = 0 := by
      have := (List.getElem?_eq_some_iff.1 h).1
      simp [allM] at this
      omega
    subst hk
    obtain rfl : [] = m := by simpa [allM] using h
    rfl
  | n + 1, k, m, h => by
    have hl := allM_len n
    have hp := Nat.two_pow_pos n
    unfold allM at h ⊢
    rcases Nat.lt_or_ge k ((allM n).map (0 :: ·)).length with hk | hk
    · rw [List.getElem?_append_left hk, List.getElem?_map] at h
      obtain ⟨m', hm', rfl⟩ := Option.map_eq_some_iff.1 h
      have ih := allM_next n k m' hm'
      have hml := allM_mem_len n m' (List.mem_of_getElem? hm')
      rw [List.length_map] at hk
      unfold nxtM
      rcases Nat.lt_or_ge (k + 1) (allM n).length with hk1 | hk1
      · rw [List.getElem?_append_left (by rw [List.length_map]; exact hk1), List.getElem?_map, ← ih]
        obtain ⟨x, hx⟩ : ∃ x, (allM n)[k + 1]? = some x := ⟨_, List.getElem?_eq_getElem hk1⟩
        rw [ih, hx]
        rfl
      · rw [ih, List.getElem?_eq_none hk1, List.getElem?_append_right (by rw [List.length_map]; exact hk1), List.length_map, show k + 1 - (allM n).length = 0 by omega, List.getElem?_map, allM_first n, hml]
        rfl
    · rw [List.getElem?_append_right hk, List.getElem?_map] at h
      rw [List.getElem?_append_right (by omega), List.getElem?_map]
      rw [List.length_map] at hk h ⊢
      obtain ⟨m', hm', rfl⟩ := Option.map_eq_some_iff.1 h
      have ih := allM_next n (k - (allM n).length) m' hm'
      rw [show k + 1 - (allM n).length = k - (allM n).length + 1 by omega]
      unfold nxtM
      rw [ih]
      cases (allM n)[k - (allM n).length + 1]? with
      | none => rfl
      | some x => rfl
/-- P5.3: the models in which all clauses hold. -/
def modelsF (n : Nat) (L : List (List Int)) : List (List Int) := (allM n).filter fun m => decide (failI m 0 L < 0)
end Go.Proofs.YticcgmegimiegaaGreatDoor
