/- Rows of cells, and rows of such rows, of the call's own. -/
import Derived.Test.YticcgmegimiegaaGreatDoorObj
import Derived.Maps.AppendAt
import Derived.Deep.Onto
namespace Go.Proofs.YticcgmegimiegaaGreatDoor
open Go.RowKit Go.ChangeAt Go.ChangeShapes Go.WideShapes Go.Sort

/-- The slice value sv holds the cells xs, in a block below B. -/
def RowV (B : Nat) (W : World) (sv : Value) (xs : List Value) : Prop :=
  (∃ A c, sv = .slice A 0 c ∧ (A = none → c = 0) ∧ xs = []) ∨ ∃ b off cap, sv = .slice (some ⟨b, off, none⟩) xs.length cap ∧ b < B ∧ ∀ j, j < xs.length → W.cell? ⟨b, off + j, none⟩ = xs[j]? ∧ W.frozen? ⟨b, off + j, none⟩ = false
/-- .. in a block that is none of K. -/
def RowF (K : Nat → Prop) (W : World) (sv : Value) (xs : List Value) : Prop :=
  (∃ A c, sv = .slice A 0 c ∧ (A = none → c = 0) ∧ xs = []) ∨ ∃ b off cap, sv = .slice (some ⟨b, off, none⟩) xs.length cap ∧ b < W.heap.size ∧ ¬ K b ∧ ∀ j, j < xs.length → W.cell? ⟨b, off + j, none⟩ = xs[j]? ∧ W.frozen? ⟨b, off + j, none⟩ = false
section
variable {B C : Nat} {K K' : Nat → Prop} {W W' : World} {sv : Value} {xs : List Value}
theorem RowV.below (h : Below B W W') : RowV B W sv xs → RowV B W' sv xs
  | .inl e => .inl e
  | .inr ⟨b, off, cap, e, hb, hc⟩ => .inr ⟨b, off, cap, e, hb, fun j hj => ⟨(h.cell (p := ⟨b, off + j, none⟩) hb).trans (hc j hj).1, (h.frozen (p := ⟨b, off + j, none⟩) hb).trans (hc j hj).2⟩⟩
theorem RowV.more (h : B ≤ C) : RowV B W sv xs → RowV C W sv xs
  | .inl e => .inl e
  | .inr ⟨b, off, cap, e, hb, hc⟩ => .inr ⟨b, off, cap, e, by omega, hc⟩
theorem RowV.shape (h : RowV B W sv xs) : ∃ A cap, sv = .slice A xs.length cap ∧ ∀ j, j < xs.length → ∃ b off, A = some ⟨b, off, none⟩ ∧ b < B ∧ W.cell? ⟨b, off + j, none⟩ = xs[j]? := by
  rcases h with ⟨A, c, rfl, -, rfl⟩ | ⟨b, off, cap, rfl, hb, hc⟩
  · exact ⟨A, c, rfl, fun j hj => absurd hj (Nat.not_lt_zero _)⟩
  · exact ⟨_, cap, rfl, fun j hj => ⟨b, off, rfl, hb, (hc j hj).1⟩⟩
theorem RowF.rowV (h : RowF K W sv xs) : RowV W.heap.size W sv xs := by
  rcases h with e | ⟨b, off, cap, e, hb, -, hc⟩
  · exact .inl e
  · exact .inr ⟨b, off, cap, e, hb, hc⟩
theorem RowV.rowF (h : RowV B W sv xs) (hB : B ≤ W.heap.size) (hK : ∀ i, K i → B ≤ i) : RowF K W sv xs := by
  rcases h with e | ⟨b, off, cap, e, hb, hc⟩
  · exact .inl e
  · exact .inr ⟨b, off, cap, e, by omega, (fun x => by have := hK b x; omega), hc⟩
theorem rowF_own {e : TypeId} {n : Nat} (h : W.ownsRow B e 1 sv n xs) (hK : ∀ i, K i → i < B) : RowF K W sv xs := by
  have hl : xs.length = n := by simpa using h.1
  rcases h.2 with ⟨rfl, h0⟩ | ⟨g, cap, cur, rfl, hb, hg, hn, hm, hs, ht⟩
  · subst h0
    exact .inl ⟨_, _, rfl, fun _ => rfl, List.eq_nil_of_length_eq_zero hl⟩
  · refine .inr ⟨g, 0, cap, by rw [hl], (h.lt g rfl).2, (fun x => by have := hK g x; omega), fun j hj => ?_⟩
    rw [Nat.zero_add]
    exact ⟨h.cellAt j (by omega), h.frozenAt j⟩
theorem rowV_own {e : TypeId} {n : Nat} (h : W.ownsRow B e 1 sv n xs) : RowV W.heap.size W sv xs := (rowF_own (K := fun _ => False) h fun _ x => x.elim).rowV
theorem RowF.on (h : RowF K W sv xs) (hb : Below W.heap.size W W') : RowF K W' sv xs := by
  rcases h with e | ⟨b, off, cap, e, hl, hn, hc⟩
  · exact .inl e
  · exact .inr ⟨b, off, cap, e, Nat.lt_of_lt_of_le hl hb.size, hn, fun j hj => ⟨(World.cell?_of_block (hb.block b hl)).trans (hc j hj).1, (World.frozen?_of_block (hb.block b hl)).trans (hc j hj).2⟩⟩
theorem RowF.grown (h : RowF K W sv xs) {row : Option Nat} (hg : W.grownBy W' row) (hr : ∀ r, row = some r → K r) (hk : ∀ i, K' i → K i ∨ W.heap.size ≤ i) : RowF K' W' sv xs := by
  rcases h with e | ⟨b, off, cap, e, hl, hn, hc⟩
  · exact .inl e
  · have hb := hg.block b hl (fun e => hn (hr b e.symm))
    exact .inr ⟨b, off, cap, e, Nat.lt_of_lt_of_le hl hg.size, (fun x => by
      rcases hk b x with y | y
      · exact hn y
      · omega), fun j hj => ⟨(World.cell?_of_block hb).trans (hc j hj).1, (World.frozen?_of_block hb).trans (hc j hj).2⟩⟩
theorem RowF.less (h : RowF K W sv xs) (hk : ∀ i, K' i → K i) : RowF K' W sv xs := by
  rcases h with e | ⟨b, off, cap, e, hl, hn, hc⟩
  · exact .inl e
  · exact .inr ⟨b, off, cap, e, hl, fun x => hn (hk b x), hc⟩
end
/-! ### of numbers, of truths -/
section
variable {B : Nat} {W : World} {sv : Value}
theorem rowV_lits {zs : List Int} : RowV B W sv (zs.map (Value.int .i64)) ↔ Lits B W sv zs := by
  unfold RowV Lits
  constructor
  · rintro (⟨A, c, e, h, h0⟩ | ⟨b, off, cap, e, hb, hc⟩)
    · exact .inl ⟨A, c, e, h, by simpa using h0⟩
    · refine .inr ⟨b, off, cap, by rw [e, List.length_map], hb, fun j hj => ?_⟩
      have hj' : j < zs.length := by simpa using hj
      obtain ⟨h1, h2⟩ := hc j (by simpa using hj')
      rw [bang_get]
      refine ⟨?_, h2⟩
      rw [h1, List.getElem?_map, List.getElem?_eq_getElem hj']
      rfl
  · rintro (⟨A, c, e, h, h0⟩ | ⟨b, off, cap, e, hb, hc⟩)
    · exact .inl ⟨A, c, e, h, by rw [h0]; rfl⟩
    · refine .inr ⟨b, off, cap, by rw [e, List.length_map], hb, fun j hj => ?_⟩
      have hj' : j < zs.length := by simpa using hj
      obtain ⟨h1, h2⟩ := hc j (by simpa using hj')
      rw [bang_get] at h1
      refine ⟨?_, h2⟩
      rw [h1, List.getElem?_map, List.getElem?_eq_getElem hj']
      rfl
/-- A slice of truths. -/
abbrev Bools (B : Nat) (W : World) (sv : Value) (bs : List Bool) : Prop := RowV B W sv (bs.map Value.bool)
theorem bools_shape {bs : List Bool} (h : Bools B W sv bs) : ∃ A cap, sv = .slice A bs.length cap ∧ ∀ j, j < bs.length → ∃ b off, A = some ⟨b, off, none⟩ ∧ b < B ∧ W.cell? ⟨b, off + j, none⟩ = some (.bool (bs[j]?.getD false)) := by
  obtain ⟨A, cap, e, h⟩ := RowV.shape h
  refine ⟨A, cap, by rw [e, List.length_map], fun j hj => ?_⟩
  obtain ⟨b, off, h1, h2, h3⟩ := h j (by simpa using hj)
  refine ⟨b, off, h1, h2, ?_⟩
  rw [h3, List.getElem?_map, List.getElem?_eq_getElem hj]
  rfl
end
/-! ### rows of rows -/
/-- The slices svs hold the rows L, in blocks from B on, other ones than v's own. -/
def InRows (B : Nat) (W : World) (v : Value) (svs : List Value) (L : List (List Value)) : Prop := svs.length = L.length ∧ ∀ (j : Nat) (xs : List Value), L[j]? = some xs → ∃ sv, svs[j]? = some sv ∧ RowF (fun i => v.ownBlock = some i ∨ i < B) W sv xs
/-- A row of slices of the call's own, which hold the rows L. -/
def OwnRows (e : TypeId) (B : Nat) (W : World) (v : Value) (L : List (List Value)) : Prop := ∃ svs, W.ownsRow B e 1 v L.length svs ∧ InRows B W v svs L
/-- A slice of slices, which hold the rows L; all lies below C. -/
def RowsV (C : Nat) (W : World) (v : Value) (L : List (List Value)) : Prop :=
  (∃ A c, v = .slice A 0 c ∧ (A = none → c = 0) ∧ L = []) ∨ ∃ b off cap, v = .slice (some ⟨b, off, none⟩) L.length cap ∧ b < C ∧ ∀ (j : Nat) (xs : List Value), L[j]? = some xs → ∃ sv, W.cell? ⟨b, off + j, none⟩ = some sv ∧ W.frozen? ⟨b, off + j, none⟩ = false ∧ RowV C W sv xs
section
variable {e : TypeId} {B C : Nat} {W W' : World} {v : Value} {L : List (List Value)}
theorem RowsV.below (h : Below C W W') : RowsV C W v L → RowsV C W' v L
  | .inl e => .inl e
  | .inr ⟨b, off, cap, e, hb, hj⟩ => .inr ⟨b, off, cap, e, hb, fun j xs hx => by
      obtain ⟨sv, h1, h2, h3⟩ := hj j xs hx
      exact ⟨sv, (h.cell (p := ⟨b, off + j, none⟩) hb).trans h1, (h.frozen (p := ⟨b, off + j, none⟩) hb).trans h2, h3.below h⟩⟩
theorem RowsV.more {C' : Nat} (hC : C ≤ C') : RowsV C W v L → RowsV C' W v L
  | .inl e => .inl e
  | .inr ⟨b, off, cap, e, hb, hj⟩ => .inr ⟨b, off, cap, e, by omega, fun j xs hx => by
      obtain ⟨sv, h1, h2, h3⟩ := hj j xs hx
      exact ⟨sv, h1, h2, h3.more hC⟩⟩
theorem RowsV.shape (h : RowsV C W v L) : ∃ A cap, v = .slice A L.length cap ∧ ∀ (j : Nat) (xs : List Value), L[j]? = some xs → ∃ b off As cs, A = some ⟨b, off, none⟩ ∧ b < C ∧ W.cell? ⟨b, off + j, none⟩ = some (.slice As xs.length cs) ∧ RowV C W (.slice As xs.length cs) xs := by
  rcases h with ⟨A, c, rfl, -, rfl⟩ | ⟨b, off, cap, rfl, hb, hj⟩
  · exact ⟨A, c, rfl, fun j xs hx => by simp at hx⟩
  · exact ⟨_, cap, rfl, fun j xs hx => by
      obtain ⟨sv, h1, -, h2⟩ := hj j xs hx
      obtain ⟨As, cs, rfl, -⟩ := h2.shape
      exact ⟨b, off, As, cs, rfl, hb, h1, h2⟩⟩
theorem ownRows_nil (e : TypeId) (B : Nat) (W : World) : OwnRows e B W (.slice none 0 0) [] := ⟨[], World.ownsRow_nil _ _ _ _, rfl, fun j xs hx => by simp at hx⟩
theorem OwnRows.on (h : OwnRows e B W v L) (hb : Below W.heap.size W W') : OwnRows e B W' v L := by
  obtain ⟨svs, h1, h2, h3⟩ := h
  refine ⟨svs, ?_, h2, fun j xs hx => ?_⟩
  · rcases h1.2 with ⟨rfl, h0⟩ | ⟨g, cap, cur, rfl, hbg, hg, hr⟩
    · exact ⟨h1.1, .inl ⟨rfl, h0⟩⟩
    · exact ⟨h1.1, .inr ⟨g, cap, cur, rfl, hbg, (hb.block g (Array.getElem?_eq_some_iff.1 hg).1).trans hg, hr⟩⟩
  · obtain ⟨sv, a, b⟩ := h3 j xs hx
    exact ⟨sv, a, b.on hb⟩
theorem OwnRows.len (h : OwnRows e B W v L) : ∃ A c, v = .slice A L.length c := by
  obtain ⟨svs, h1, -⟩ := h
  rcases h1.2 with ⟨rfl, h0⟩ | ⟨g, cap, cur, rfl, -⟩
  · rw [h0]; exact ⟨_, _, rfl⟩
  · exact ⟨_, _, rfl⟩
theorem OwnRows.lt (h : OwnRows e B W v L) {g : Nat} (hg : v.ownBlock = some g) : B ≤ g ∧ g < W.heap.size := by
  obtain ⟨svs, h1, -⟩ := h
  exact h1.lt g hg
/-- Behind an append of one row. -/
theorem inRows_push {svs : List Value} {W2 W3 : World} {v' sv : Value} {xs : List Value} (h : InRows B W v svs L) (hb : Below W.heap.size W W2) (hs : RowF (fun i => v.ownBlock = some i ∨ i < B) W2 sv xs) (hg : W2.grownBy W3 v.ownBlock) (hv : v'.ownBlock = v.ownBlock ∨ v'.ownBlock = some W2.heap.size) : InRows B W3 v' (svs ++ [sv]) (L ++ [xs]) := by
  have hk : ∀ i, v'.ownBlock = some i ∨ i < B → (v.ownBlock = some i ∨ i < B) ∨ W2.heap.size ≤ i := fun i e => by
    rcases e with e | e
    · rcases hv with h0 | h0
      · exact .inl (.inl (h0 ▸ e))
      · rw [h0] at e; cases e; exact .inr (Nat.le_refl _)
    · exact .inl (.inr e)
  refine ⟨by simp [h.1], fun j ys hy => ?_⟩
  rcases Nat.lt_or_ge j L.length with hj | hj
  · rw [List.getElem?_append_left hj] at hy
    obtain ⟨s, h1, h2⟩ := h.2 j ys hy
    refine ⟨s, by rw [List.getElem?_append_left (by rw [h.1]; exact hj)]; exact h1, (h2.on hb).grown hg (fun r e => .inl e) hk⟩
  · have hjl : j < (L ++ [xs]).length := (List.getElem?_eq_some_iff.1 hy).1
    have : j = L.length := by simp at hjl; omega
    subst this
    rw [List.getElem?_append_right (Nat.le_refl _), Nat.sub_self] at hy
    obtain rfl : xs = ys := by simpa using hy
    exact ⟨sv, by rw [List.getElem?_append_right (by rw [h.1]; exact Nat.le_refl _), h.1, Nat.sub_self]; rfl, hs.grown hg (fun r e => .inl e) hk⟩
/-- What lies below is written to. -/
theorem OwnRows.kept {K : Nat → Prop} (h : OwnRows e B W v L) (hk : Keeps K W W') (hK : ∀ i, K i → i < B) : OwnRows e B W' v L := by
  obtain ⟨svs, h1, h2, h3⟩ := h
  refine ⟨svs, ?_, h2, fun j xs hx => ?_⟩
  · rcases h1.2 with ⟨rfl, h0⟩ | ⟨g, cap, cur, rfl, hbg, hg, hr⟩
    · exact ⟨h1.1, .inl ⟨rfl, h0⟩⟩
    · exact ⟨h1.1, .inr ⟨g, cap, cur, rfl, hbg, (hk.block g (Array.getElem?_eq_some_iff.1 hg).1 (fun x => by have := hK g x; omega)).trans hg, hr⟩⟩
  · obtain ⟨sv, a, b⟩ := h3 j xs hx
    refine ⟨sv, a, ?_⟩
    rcases b with e | ⟨b, off, cap, e, hl, hn, hc⟩
    · exact .inl e
    · have hb := hk.block b hl (fun x => hn (.inr (hK b x)))
      exact .inr ⟨b, off, cap, e, Nat.lt_of_lt_of_le hl hk.size, hn, fun j hj => ⟨(World.cell?_of_block hb).trans (hc j hj).1, (World.frozen?_of_block hb).trans (hc j hj).2⟩⟩
theorem OwnRows.less {B' : Nat} (h : OwnRows e B W v L) (hB : B' ≤ B) : OwnRows e B' W v L := by
  obtain ⟨svs, h1, h2, h3⟩ := h
  refine ⟨svs, h1.mono hB, h2, fun j xs hx => ?_⟩
  obtain ⟨sv, a, b⟩ := h3 j xs hx
  exact ⟨sv, a, b.less fun i hi => hi.imp id fun h => Nat.lt_of_lt_of_le h hB⟩
theorem OwnRows.rowsV (h : OwnRows e B W v L) : RowsV W.heap.size W v L := by
  obtain ⟨svs, h1, h2, h3⟩ := h
  rcases h1.2 with ⟨rfl, h0⟩ | ⟨g, cap, cur, rfl, hb, hg, hn, hm, hs, ht⟩
  · exact .inl ⟨_, _, rfl, fun _ => rfl, List.eq_nil_of_length_eq_zero h0⟩
  · refine .inr ⟨g, 0, cap, rfl, (h1.lt g rfl).2, fun j xs hx => ?_⟩
    obtain ⟨sv, a, b⟩ := h3 j xs hx
    have hj := (List.getElem?_eq_some_iff.1 hx).1
    rw [Nat.zero_add]
    exact ⟨sv, (h1.cellAt j (by omega)).trans a, h1.frozenAt j, b.rowV⟩
end
end Go.Proofs.YticcgmegimiegaaGreatDoor
