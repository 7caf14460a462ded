/- Formulas that are made: right, small; a formula in a block of its own. -/
import Derived.Test.YtmghmmkljplnfaaGreatFoMade
import Derived.Test.YtmghmmkljplnfaaGreatClMath
namespace Go.Proofs.YtmghmmkljplnfaaGreat
open Go.RowKit Go.ChangeAt Go.ChangeShapes Go.WideShapes Go.Shelf Go.Sort

theorem madeF_len (zss : List (List Int)) : (madeF zss).length ≤ 30 := by unfold madeF; rw [List.length_map, List.length_take]; omega
theorem madeF_mem {zss : List (List Int)} {zs : List Int} (h : zs ∈ madeF zss) : ∃ ys, zs = madeL ys := by
  unfold madeF at h
  obtain ⟨ys, -, rfl⟩ := List.mem_map.1 h
  exact ⟨ys, rfl⟩
/-- A clause of literals of 8 variables. -/
def Cl8 (zs : List Int) : Prop := zs.length ≤ 20 ∧ ∀ l ∈ zs, 1 ≤ l.natAbs ∧ l.natAbs ≤ 8
theorem madeL_cl (zs : List Int) : Cl8 (madeL zs) := ⟨madeL_len zs, fun l hl => by
  obtain ⟨v, h1, h2, h3⟩ := madeL_lit hl
  omega⟩
theorem lit_small {l : Int} (h : 1 ≤ l.natAbs ∧ l.natAbs ≤ 1048576) : litB l = true := litB_yes (by omega) (by omega) (by omega)
theorem varI_small {l : Int} (h : litB l = true) : varI l = l.natAbs := by
  unfold varI
  rw [if_pos h]
  split <;> omega
theorem cl_right {zs : List Int} (h : zs.length ≤ 4096) (hl : ∀ l ∈ zs, 1 ≤ l.natAbs ∧ l.natAbs ≤ 8) : rightB zs = true := rightB_mk h fun x hx => lit_small (by have := hl x hx; omega)
theorem Cl8.right {zs : List Int} (h : Cl8 zs) : rightB zs = true := cl_right (by have := h.1; omega) h.2
theorem cl_bad {zs : List Int} (h : zs.length ≤ 4096) (hl : ∀ l ∈ zs, 1 ≤ l.natAbs ∧ l.natAbs ≤ 8) : badE 8 zs = 0 := badE_ok (cl_right h hl) fun l hx => by
  rw [varI_small (lit_small (by have := hl l hx; omega))]
  have := hl l hx
  omega
theorem madeF_cl {zss : List (List Int)} : ∀ zs ∈ madeF zss, Cl8 zs := fun zs h => by
  obtain ⟨ys, rfl⟩ := madeF_mem h
  exact madeL_cl ys
theorem chk8 {L : List (List Int)} (h : L.length ≤ 262144) (hl : ∀ zs ∈ L, zs.length ≤ 4096 ∧ ∀ l ∈ zs, 1 ≤ l.natAbs ∧ l.natAbs ≤ 8) : chkI 8 L = (-1, 0) := chkI_ok (by omega) (by omega) fun zs hz => cl_bad (hl zs hz).1 (hl zs hz).2
theorem chk_made (zss : List (List Int)) : chkI 8 (madeF zss) = (-1, 0) := chk8 (by have := madeF_len zss; omega) fun zs hz => ⟨by have := (madeF_cl zs hz).1; omega, (madeF_cl zs hz).2⟩
theorem small_made (zss : List (List Int)) : Small 8 (madeF zss) := fun zs hz => (madeF_cl zs hz).2
theorem short_made {zss : List (List Int)} : ∀ zs ∈ madeF zss, zs.length ≤ 1000000 := fun zs hz => by have := (madeF_cl zs hz).1; omega

/-- A formula in a block of its own, its clauses anywhere. -/
structure Fi (W : World) (p : Nat) (x : Int) (v : Value) (L : List (List Int)) : Prop where
  whole : Whole W p 24 #[.int .i64 x, v]
  rows : RowsL W.heap.size W v L
theorem Fi.on {W W' : World} {p : Nat} {x : Int} {v : Value} {L : List (List Int)} (h : Fi W p x v L) (hb : Below W.heap.size W W') : Fi W' p x v L :=
  ⟨h.whole.same (hb.block _ h.whole.lt), (RowsV.below hb h.rows).more hb.size⟩
theorem Fi.c0 {W : World} {p : Nat} {x : Int} {v : Value} {L : List (List Int)} (h : Fi W p x v L) : W.cell? ⟨p, 0, none⟩ = some (.int .i64 x) := h.whole.cell 0
theorem Fi.c1 {W : World} {p : Nat} {x : Int} {v : Value} {L : List (List Int)} (h : Fi W p x v L) : W.cell? ⟨p, 1, none⟩ = some v := h.whole.cell 1
theorem rows2_more {k : IntKind} {B B' : Nat} (h : B ≤ B') {X : World} {v : Value} {zss : List (List Int)} : Rows2 k B X v zss → Rows2 k B' X v zss
  | .inl e => .inl e
  | .inr ⟨b, off, cap, e, hc, hb, hj⟩ => .inr ⟨b, off, cap, e, hc, by omega, fun j hlt => by
      obtain ⟨sv, h1, h2, h3⟩ := hj j hlt
      exact ⟨sv, h1, h2.more h, h3⟩⟩
end Go.Proofs.YtmghmmkljplnfaaGreat
