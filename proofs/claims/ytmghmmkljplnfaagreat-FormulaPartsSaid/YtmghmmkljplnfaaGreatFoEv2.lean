/- Clauses of formulas that lie in a world; what holds in a model; a clause put behind the others. -/
import Derived.Test.YtmghmmkljplnfaaGreatFoIndexF
namespace Go.Proofs.YtmghmmkljplnfaaGreat
open Go.RowKit Go.ChangeAt Go.ChangeShapes Go.WideShapes Go.Shelf Go.Sort

theorem maxL_bd {b : Int} : ∀ {l : List Int}, 0 ≤ b → (∀ x ∈ l, x ≤ b) → maxL l ≤ b := by
  intro l h0 h
  unfold maxL
  have : ∀ (l : List Int) (a : Int), a ≤ b → (∀ x ∈ l, x ≤ b) → l.foldl (fun a b => max a b) a ≤ b := by
    intro l
    induction l with
    | nil => intro a ha _; exact ha
    | cons y l ih => intro a ha hl; exact ih _ (by have := hl y (by simp); show max a y ≤ b; omega) (fun x hx => hl x (by simp [hx]))
  exact this l 0 h0 h
/-- A clause of literals of 8 variables, not long. -/
def Few8 (zs : List Int) : Prop := zs.length ≤ 100 ∧ ∀ l ∈ zs, 1 ≤ l.natAbs ∧ l.natAbs ≤ 8
theorem hold_is {x : List Bool} {zs : List Int} (hx : x.length = 8) (hc : Few8 zs) : holdP zs x = holdsM x zs := by
  unfold holdP
  have hm : maxL (vl zs) ≤ 8 := maxL_bd (by omega) fun v hv => by
    unfold vl at hv
    obtain ⟨l, hl, rfl⟩ := List.mem_map.1 hv
    have hl := List.mem_filter.1 hl
    rw [varI_small hl.2]
    have := hc.2 l hl.1
    omega
  rw [cl_right (by have := hc.1; omega) hc.2, Bool.true_and, decide_eq_true (by rw [hx]; exact hm), Bool.true_and]
section
variable {w W : World} {fs : List (Value × List (List Int))} {ms : List (Value × List Bool)} {rs : List (Value × List (List Bool))} {ss : List (Nat × TypeId × Array Value)} {ds : List Nat}
theorem ev_clause {A : Option Addr} {m c : Nat} {L : List (List Int)} (h : Ev w W fs ms rs ss ds) (hp : (Value.slice A m c, L) ∈ fs) {j : Nat} {zs : List Int} (hx : L[j]? = some zs) :
    ∃ b off As cs, A = some ⟨b, off, none⟩ ∧ W.cell? ⟨b, off + j, none⟩ = some (.slice As zs.length cs) ∧ Lits W.heap.size W (.slice As zs.length cs) zs := by
  obtain ⟨A', cap, e, hj⟩ := rowsL_shape (h.f hp)
  injection e with e1 e2 e3
  subst e1
  obtain ⟨b, off, As, cs, h1, -, h2, h3⟩ := hj j zs hx
  exact ⟨b, off, As, cs, h1, h2, h3⟩
end
/-- A clause put behind the others, in a field of the block pg. -/
theorem rows_app {w2 w5 w7 : World} {base pg gg cap : Nat} {v cv u : Value} {svs : List Value} {L : List (List Int)} {c : List Int} (i : Nat) (_hrow : w2.ownsRow base 41 1 v (cellsL L).length svs) (hin : InRows base w2 v svs (cellsL L)) (hc : RowF (fun i => v.ownBlock = some i) w2 cv (c.map (Value.int .i64))) (hpg : w2.heap.size ≤ pg)
    (hb : Below w2.heap.size w2 w5) (hg : w5.grownBy w7 v.ownBlock) (h7 : w7.ownsRow base 41 1 (.slice (some ⟨gg, 0, none⟩) (L.length + 1) cap) (L.length + 1) (svs ++ [cv])) (hgg : gg ≠ pg) :
    RowsL (w7.setCell ⟨pg, i, none⟩ u).heap.size (w7.setCell ⟨pg, i, none⟩ u) (.slice (some ⟨gg, 0, none⟩) (L.length + 1) cap) (L ++ [c]) := by
  have hsz : (w7.setCell ⟨pg, i, none⟩ u).heap.size = w7.heap.size := by simp [World.setCell]
  have hset : ∀ b, b ≠ pg → (w7.setCell ⟨pg, i, none⟩ u).heap[b]? = w7.heap[b]? := fun b hb => Below.heap_setCell _ _ _ _ hb
  have hF : ∀ sv xs, RowF (fun i => v.ownBlock = some i) w2 sv xs → RowV (w7.setCell ⟨pg, i, none⟩ u).heap.size (w7.setCell ⟨pg, i, none⟩ u) sv xs := fun sv xs h => by
    rcases h with e | ⟨b, off, cap, e, hl, hn, hcs⟩
    · exact .inl e
    · have hk := ((hset b (by omega)).trans (hg.block b (Nat.lt_of_lt_of_le hl hb.size) (fun e => hn e.symm))).trans (hb.block b hl)
      exact .inr ⟨b, off, cap, e, by have := hb.size; have := hg.size; omega, fun j hj => ⟨(World.cell?_of_block hk).trans (hcs j hj).1, (World.frozen?_of_block hk).trans (hcs j hj).2⟩⟩
  have hsl := hin.1
  rw [cellsL_len] at hsl
  have hgl := (h7.lt gg rfl).2
  refine .inr ⟨gg, 0, cap, by simp, by omega, fun j xs hx => ?_⟩
  rw [show ((L ++ [c]).map fun zs => zs.map (Value.int .i64)) = cellsL L ++ [c.map (Value.int .i64)] by simp [cellsL]] at hx
  have hj : j < L.length + 1 := by have := (List.getElem?_eq_some_iff.1 hx).1; rw [List.length_append, cellsL_len] at this; simpa using this
  have hcell : (w7.setCell ⟨pg, i, none⟩ u).cell? ⟨gg, 0 + j, none⟩ = (svs ++ [cv])[j]? := by
    rw [Nat.zero_add]
    exact (World.cell?_of_block (hset gg hgg)).trans (h7.cellAt j (by omega))
  have hfz : (w7.setCell ⟨pg, i, none⟩ u).frozen? ⟨gg, 0 + j, none⟩ = false := by
    rw [Nat.zero_add]
    exact (World.frozen?_of_block (hset gg hgg)).trans (h7.frozenAt j)
  rcases Nat.lt_or_ge j L.length with h | h
  · rw [List.getElem?_append_left (by rw [cellsL_len]; exact h)] at hx
    obtain ⟨sv, a1, a2⟩ := hin.2 j xs hx
    rw [List.getElem?_append_left (by omega)] at hcell
    exact ⟨sv, hcell.trans a1, hfz, hF sv xs (a2.less fun i hi => .inl hi)⟩
  · obtain rfl : j = L.length := by omega
    rw [List.getElem?_append_right (by rw [cellsL_len]; exact Nat.le_refl _), cellsL_len, Nat.sub_self] at hx
    obtain rfl : c.map (Value.int .i64) = xs := by simpa using hx
    rw [List.getElem?_append_right (by omega), hsl, Nat.sub_self] at hcell
    exact ⟨cv, hcell, hfz, hF cv _ hc⟩
theorem sat_neg {m : List Bool} {l : Int} (h : 1 ≤ l.natAbs) : satB m (-l) = !satB m l := by
  unfold satB
  rw [Int.natAbs_neg]
  have : decide (-l < 0) = !decide (l < 0) := by
    by_cases h0 : l < 0
    · rw [decide_eq_true h0, decide_eq_false (by omega)]; rfl
    · rw [decide_eq_false h0, decide_eq_true (by omega)]; rfl
  rw [this]
  cases m[l.natAbs - 1]?.getD false <;> cases decide (l < 0) <;> rfl
theorem cl8_right {xs : List Int} (h : Cl8 xs) : rightB xs = true := cl_right (by have := h.1; omega) h.2
end Go.Proofs.YtmghmmkljplnfaaGreat
