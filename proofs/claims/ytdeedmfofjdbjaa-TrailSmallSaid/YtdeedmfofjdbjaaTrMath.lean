/- What a trail has: what was assigned, level by level. -/
import Derived.Test.YtdeedmfofjdbjaaObj
namespace Go.Proofs.Ytdeedmfofjdbjaa

/-- What was assigned: a literal, its level, its reason. -/
structure It where
  lit : Int
  level : Nat
  reason : Int
abbrev It.vr (x : It) : Nat := x.lit.natAbs
/-- A trail of nv variables: what was assigned, and where the levels from 1 on begin. -/
structure TG (nv : Nat) (its : List It) (st : List Nat) : Prop where
  nvmax : nv ≤ 1048576
  lit : ∀ x ∈ its, 1 ≤ x.vr ∧ x.vr ≤ nv
  nd : (its.map It.vr).Nodup
  reason : ∀ x ∈ its, 0 ≤ x.reason ∧ x.reason ≤ 1073741824
  lev : ∀ p x, its[p]? = some x → x.level = st.countP (fun s => decide (s ≤ p))
  inc : st.Pairwise (· ≤ ·)
  le : ∀ s ∈ st, s ≤ its.length
  now : st.length ≤ 1048576
theorem nodup_le {n : Nat} : ∀ {l : List Nat}, l.Nodup → (∀ x ∈ l, 1 ≤ x ∧ x ≤ n) → l.length ≤ n := by
  intro l h hl
  have := h.length_le_of_subset (l₂ := (List.range n).map (· + 1)) (fun x hx => by
    have := hl x hx
    exact List.mem_map.2 ⟨x - 1, by simp; omega, by omega⟩)
  simpa using this
theorem TG.len {nv : Nat} {its : List It} {st : List Nat} (h : TG nv its st) : its.length ≤ nv := by
  have := nodup_le (n := nv) h.nd (fun x hx => by obtain ⟨y, hy, rfl⟩ := List.mem_map.1 hx; exact h.lit y hy)
  simpa using this
theorem TG.new {nv : Nat} (h : nv ≤ 1048576) : TG nv [] [] := ⟨h, by simp, by simp, by simp, by simp, by simp, by simp, by simp⟩
theorem TG.assign {nv : Nat} {its : List It} {st : List Nat} (h : TG nv its st) {l r : Int} (h1 : 1 ≤ l.natAbs) (h2 : l.natAbs ≤ nv) (hn : ∀ x ∈ its, x.vr ≠ l.natAbs) (hr : 0 ≤ r) (hr' : r ≤ 1073741824) : TG nv (its ++ [⟨l, st.length, r⟩]) st := by
  refine ⟨h.nvmax, ?_, ?_, ?_, ?_, h.inc, ?_, h.now⟩
  · intro x hx
    rcases List.mem_append.1 hx with hx | hx
    · exact h.lit x hx
    · rw [List.mem_singleton] at hx; subst hx; exact ⟨h1, h2⟩
  · rw [List.map_append, List.nodup_append]
    refine ⟨h.nd, by simp, ?_⟩
    intro a ha b hb
    obtain ⟨x, hx, rfl⟩ := List.mem_map.1 ha
    rw [List.map_singleton, List.mem_singleton] at hb
    subst hb
    exact hn x hx
  · intro x hx
    rcases List.mem_append.1 hx with hx | hx
    · exact h.reason x hx
    · rw [List.mem_singleton] at hx; subst hx; exact ⟨hr, hr'⟩
  · intro p x hp
    by_cases hl : p < its.length
    · rw [List.getElem?_append_left hl] at hp; exact h.lev p x hp
    · rw [List.getElem?_append_right (by omega)] at hp
      have hpl : p - its.length = 0 := by
        rcases Nat.eq_zero_or_pos (p - its.length) with h0 | h0
        · exact h0
        · rw [List.getElem?_eq_none (by simp; omega)] at hp; cases hp
      rw [hpl] at hp
      obtain rfl : (⟨l, st.length, r⟩ : It) = x := by simpa using hp
      show st.length = _
      rw [List.countP_eq_length.2]
      intro s hs
      have := h.le s hs
      simp; omega
  · intro s hs
    have := h.le s hs
    rw [List.length_append]; omega
theorem TG.push {nv : Nat} {its : List It} {st : List Nat} (h : TG nv its st) (hs : st.length < 1048576) : TG nv its (st ++ [its.length]) := by
  refine ⟨h.nvmax, h.lit, h.nd, h.reason, ?_, ?_, ?_, by simp; omega⟩
  · intro p x hp
    have hl := (List.getElem?_eq_some_iff.1 hp).1
    rw [List.countP_append, h.lev p x hp, List.countP_cons, List.countP_nil, if_neg (by simp; omega)]; omega
  · rw [List.pairwise_append]
    refine ⟨h.inc, by simp, ?_⟩
    intro a ha b hb
    rw [List.mem_singleton] at hb; subst hb
    exact h.le a ha
  · intro s hs
    rcases List.mem_append.1 hs with hs | hs
    · exact h.le s hs
    · rw [List.mem_singleton] at hs; omega
/-- Where the next level begins: how much is left behind Back. -/
def endOf (its : List It) (st : List Nat) (k : Nat) : Nat := (st[k]?).getD its.length
theorem endOf_now (its : List It) (st : List Nat) : endOf its st st.length = its.length := by simp [endOf]
theorem TG.end_le {nv : Nat} {its : List It} {st : List Nat} (h : TG nv its st) (k : Nat) : endOf its st k ≤ its.length := by
  unfold endOf
  cases hk : st[k]? with
  | none => simp
  | some s => exact h.le s (List.mem_of_getElem? hk)
theorem TG.back {nv : Nat} {its : List It} {st : List Nat} (h : TG nv its st) (k : Nat) : TG nv (its.take (endOf its st k)) (st.take k) := by
  have he := h.end_le k
  refine ⟨h.nvmax, fun x hx => h.lit x (List.mem_of_mem_take hx), ?_, fun x hx => h.reason x (List.mem_of_mem_take hx), ?_, h.inc.sublist (List.take_sublist _ _), ?_, ?_⟩
  · rw [List.map_take]; exact h.nd.sublist (List.take_sublist _ _)
  · intro p x hp
    rw [List.getElem?_take] at hp
    split at hp
    · rename_i hpe
      rw [h.lev p x hp]
      conv => lhs; rw [← List.take_append_drop k st, List.countP_append]
      rw [Nat.add_eq_left, List.countP_eq_zero]
      intro s hs
      obtain ⟨i, hi, rfl⟩ := List.getElem_of_mem hs
      have hki : k + i < st.length := by rw [List.length_drop] at hi; omega
      have hkl : k < st.length := by omega
      have hst : st[k] ≤ (st.drop k)[i] := by
        rw [List.getElem_drop]
        rcases Nat.eq_zero_or_pos i with h0 | h0
        · subst h0; exact Nat.le_refl _
        · exact List.pairwise_iff_getElem.1 h.inc k (k + i) hkl hki (by omega)
      have : endOf its st k = st[k] := by unfold endOf; rw [List.getElem?_eq_getElem hkl]; rfl
      rw [this] at hpe
      rw [decide_eq_true_eq]; omega
    · cases hp
  · intro s hs
    rw [List.length_take, Nat.min_eq_left he]
    obtain ⟨i, hi, rfl⟩ := List.getElem_of_mem hs
    rw [List.length_take] at hi
    rw [List.getElem_take]
    unfold endOf
    cases hk : st[k]? with
    | none => exact h.le _ (List.getElem_mem _)
    | some u =>
      obtain ⟨hkl, rfl⟩ := List.getElem?_eq_some_iff.1 hk
      exact List.pairwise_iff_getElem.1 h.inc i k (by omega) hkl (by omega)
  · rw [List.length_take]; have := h.now; omega

/-- The cells of a variable. -/
def fld : Option (Nat × It) → Nat → Int
  | none, _ => 0
  | some (_, x), 0 => x.lit
  | some (_, x), 1 => x.level
  | some (_, x), 2 => x.reason
  | some (p, _), _ => p
def VarsAt (cs : Array Value) (nv : Nat) (m : Nat → Option (Nat × It)) : Prop := cs.size = 4 * (nv + 1) ∧ ∀ v j, v ≤ nv → j < 4 → cs[v * 4 + j]? = some (.int .i64 (fld (m v) j))
/-- Where each variable is. -/
def Maps (m : Nat → Option (Nat × It)) (its : List It) : Prop := ∀ v p x, m v = some (p, x) ↔ its[p]? = some x ∧ x.vr = v
def upd (m : Nat → Option (Nat × It)) (v : Nat) (o : Option (Nat × It)) : Nat → Option (Nat × It) := fun u => if u = v then o else m u
def set4 (cs : Array Value) (v : Nat) (o : Option (Nat × It)) : Array Value :=
  (((cs.setIfInBounds (v * 4) (.int .i64 (fld o 0))).setIfInBounds (v * 4 + 1) (.int .i64 (fld o 1))).setIfInBounds (v * 4 + 2) (.int .i64 (fld o 2))).setIfInBounds (v * 4 + 3) (.int .i64 (fld o 3))
theorem VarsAt.set {cs : Array Value} {nv : Nat} {m : Nat → Option (Nat × It)} (h : VarsAt cs nv m) {v : Nat} (hv : v ≤ nv) (o : Option (Nat × It)) : VarsAt (set4 cs v o) nv (upd m v o) := by
  refine ⟨by simp [set4, h.1], fun u j hu hj => ?_⟩
  have hs := h.1
  by_cases he : u = v
  · subst he
    unfold set4 upd
    rw [if_pos rfl]
    have hj' : j = 0 ∨ j = 1 ∨ j = 2 ∨ j = 3 := by omega
    rcases hj' with rfl | rfl | rfl | rfl <;> simp [Array.getElem?_setIfInBounds] <;> omega
  · unfold set4 upd
    rw [if_neg he, ← h.2 u j hu hj]
    simp only [Array.getElem?_setIfInBounds]
    repeat rw [if_neg (by omega)]
theorem Maps.nil : Maps (fun _ => none) [] := fun v p x => by simp
theorem Maps.none {m : Nat → Option (Nat × It)} {its : List It} (h : Maps m its) {v : Nat} (hv : ∀ x ∈ its, x.vr ≠ v) : m v = none := by
  cases hm : m v with
  | none => rfl
  | some q =>
    obtain ⟨p, x⟩ := q
    obtain ⟨h1, h2⟩ := (h v p x).1 hm
    exact absurd h2 (hv x (List.mem_of_getElem? h1))
theorem Maps.add {m : Nat → Option (Nat × It)} {its : List It} (h : Maps m its) (x : It) (hn : ∀ y ∈ its, y.vr ≠ x.vr) : Maps (upd m x.vr (some (its.length, x))) (its ++ [x]) := by
  intro v p y
  unfold upd
  by_cases hv : v = x.vr
  · subst hv
    rw [if_pos rfl]
    constructor
    · intro e
      cases e
      exact ⟨by simp, rfl⟩
    · rintro ⟨h1, h2⟩
      by_cases hp : p < its.length
      · rw [List.getElem?_append_left hp] at h1
        exact absurd h2 (hn y (List.mem_of_getElem? h1))
      · rw [List.getElem?_append_right (by omega)] at h1
        have hpl : p - its.length = 0 := by
          rcases Nat.eq_zero_or_pos (p - its.length) with h0 | h0
          · exact h0
          · rw [List.getElem?_eq_none (by simp; omega)] at h1; cases h1
        rw [hpl] at h1
        obtain rfl : x = y := by simpa using h1
        obtain rfl : p = its.length := by omega
        rfl
  · rw [if_neg hv, h v p y]
    constructor
    · rintro ⟨h1, h2⟩
      exact ⟨by rw [List.getElem?_append_left (List.getElem?_eq_some_iff.1 h1).1]; exact h1, h2⟩
    · rintro ⟨h1, h2⟩
      refine ⟨?_, h2⟩
      by_cases hp : p < its.length
      · rwa [List.getElem?_append_left hp] at h1
      · rw [List.getElem?_append_right (by omega)] at h1
        have hpl : p - its.length = 0 := by
          rcases Nat.eq_zero_or_pos (p - its.length) with h0 | h0
          · exact h0
          · rw [List.getElem?_eq_none (by simp; omega)] at h1; cases h1
        rw [hpl] at h1
        obtain rfl : x = y := by simpa using h1
        exact absurd h2.symm hv
/-- .. while those from a place on are cleared. -/
def cleared (m : Nat → Option (Nat × It)) (n k : Nat) : Nat → Option (Nat × It) := fun v => match m v with
  | some (p, x) => if n ≤ p ∧ p < n + k then none else some (p, x)
  | none => none
theorem cleared_0 (m : Nat → Option (Nat × It)) (n : Nat) : cleared m n 0 = m := by
  funext v
  unfold cleared
  cases m v with
  | none => rfl
  | some q => simp
theorem cleared_succ {m : Nat → Option (Nat × It)} {its : List It} (h : Maps m its) {n k : Nat} {x : It} (hx : its[n + k]? = some x) : upd (cleared m n k) x.vr none = cleared m n (k + 1) := by
  have hm := (h x.vr (n + k) x).2 ⟨hx, rfl⟩
  funext v
  unfold upd
  by_cases hv : v = x.vr
  · subst hv
    rw [if_pos rfl]
    unfold cleared
    rw [hm]
    simp
  · rw [if_neg hv]
    unfold cleared
    cases hv' : m v with
    | none => rfl
    | some q =>
      obtain ⟨p, y⟩ := q
      obtain ⟨h1, h2⟩ := (h v p y).1 hv'
      have hp : p ≠ n + k := by
        rintro rfl
        rw [hx] at h1
        obtain rfl : x = y := by simpa using h1
        exact hv h2.symm
      simp only
      by_cases h3 : n ≤ p ∧ p < n + k
      · rw [if_pos h3, if_pos (by omega)]
      · rw [if_neg h3, if_neg (by omega)]
theorem Maps.cleared {m : Nat → Option (Nat × It)} {its : List It} (h : Maps m its) {n : Nat} (hn : n ≤ its.length) : Maps (cleared m n (its.length - n)) (its.take n) := by
  intro v p x
  unfold Go.Proofs.Ytdeedmfofjdbjaa.cleared
  rw [List.getElem?_take]
  cases hv : m v with
  | none =>
    constructor
    · intro e; cases e
    · rintro ⟨h1, h2⟩
      split at h1
      · rw [(h v p x).2 ⟨h1, h2⟩] at hv; cases hv
      · cases h1
  | some q =>
    obtain ⟨p', y⟩ := q
    obtain ⟨h1, h2⟩ := (h v p' y).1 hv
    have hl := (List.getElem?_eq_some_iff.1 h1).1
    simp only
    constructor
    · intro e
      split at e
      · cases e
      · cases e
        rw [if_pos (by omega)]
        exact ⟨h1, h2⟩
    · rintro ⟨h3, h4⟩
      split at h3
      · have h5 := (h v p x).2 ⟨h3, h4⟩
        rw [hv] at h5
        cases h5
        rw [if_neg (by omega)]
      · cases h3
theorem Maps.hit {m : Nat → Option (Nat × It)} {its : List It} (h : Maps m its) {p : Nat} {x : It} (hx : its[p]? = some x) : m x.vr = some (p, x) := (h x.vr p x).2 ⟨hx, rfl⟩

/-- The value of a literal. -/
def valI (its : List It) (l : Int) : Int := if ∃ x ∈ its, x.lit = l then 1 else if ∃ x ∈ its, x.lit = -l then -1 else 0
theorem TG.pos {nv : Nat} {its : List It} {st : List Nat} (h : TG nv its st) {p q : Nat} {x y : It} (hx : its[p]? = some x) (hy : its[q]? = some y) (he : x.vr = y.vr) : p = q := by
  obtain ⟨h1, rfl⟩ := List.getElem?_eq_some_iff.1 hx
  obtain ⟨h2, rfl⟩ := List.getElem?_eq_some_iff.1 hy
  have hn := h.nd
  rw [List.nodup_iff_pairwise_ne, List.pairwise_map, List.pairwise_iff_getElem] at hn
  rcases Nat.lt_trichotomy p q with h3 | h3 | h3
  · exact absurd he (hn p q h1 h2 h3)
  · exact h3
  · exact absurd he.symm (hn q p h2 h1 h3)
theorem valI_yes {its : List It} {x : It} (hx : x ∈ its) : valI its x.lit = 1 := by unfold valI; rw [if_pos ⟨x, hx, rfl⟩]
theorem valI_neg {nv : Nat} {its : List It} {st : List Nat} (h : TG nv its st) {x : It} (hx : x ∈ its) : valI its (-x.lit) = -1 := by
  unfold valI
  rw [if_neg, if_pos ⟨x, hx, by omega⟩]
  rintro ⟨y, hy, he⟩
  obtain ⟨p, hp⟩ := List.mem_iff_getElem?.1 hx
  obtain ⟨q, hq⟩ := List.mem_iff_getElem?.1 hy
  have := h.pos hp hq (by show x.lit.natAbs = y.lit.natAbs; omega)
  subst this
  rw [hp] at hq
  obtain rfl : x = y := by simpa using hq
  have h1 : 1 ≤ x.lit.natAbs := (h.lit x hx).1
  have : x.lit.natAbs = 0 := by omega
  omega
theorem valI_no {its : List It} {l : Int} (h : ∀ x ∈ its, x.vr ≠ l.natAbs) : valI its l = 0 := by
  unfold valI
  rw [if_neg, if_neg]
  · rintro ⟨x, hx, he⟩
    exact h x hx (by show x.lit.natAbs = _; rw [he, Int.natAbs_neg])
  · rintro ⟨x, hx, he⟩
    exact h x hx (by show x.lit.natAbs = _; rw [he])
end Go.Proofs.Ytdeedmfofjdbjaa
