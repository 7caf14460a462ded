/- What holds on while a range over a function is walked. -/
import Derived.Test.YticcgmegimiegaaGreatDoorRange
namespace Go.Proofs.YticcgmegimiegaaGreatDoor
open Go.RowKit

theorem row_plain {w : World} {base : Nat} {e : TypeId} {size n : Nat} {v : Value} {xs : List Value} (h : w.ownsRow base e size v n xs) {b : Nat} (hb : v.ownBlock = some b) : ∃ o : Obj, w.heap[b]? = some o ∧ Obj.plain o = true := by
  rcases h.2 with ⟨rfl, -⟩ | ⟨g, cap, cur, rfl, -, hh, -⟩
  · simp [Value.ownBlock] at hb
  · obtain rfl : g = b := by simpa [Value.ownBlock] using hb
    exact ⟨_, hh, rfl⟩
theorem odd_ne {W : World} {row : Option Nat} {B : Nat} (hr : ∀ r, row = some r → B ≤ r ∧ ∃ o : Obj, W.heap[r]? = some o ∧ Obj.plain o = false) {b : Nat} {o : Obj} (hb : W.heap[b]? = some o) (ho : Obj.plain o = true) : some b ≠ row := fun e => by
  obtain ⟨-, o', h1, h2⟩ := hr b e.symm
  rw [hb] at h1; cases h1; rw [ho] at h2; cases h2
theorem steady_whole {B : Nat} (g : Nat) (t : TypeId) (cs : Array Value) : Steady B fun W => Whole W g t cs := fun W _ _ h hg hr =>
  h.same (hg.block g h.lt (odd_ne hr (show W.heap[g]? = _ from h) rfl))
theorem steady_row {B : Nat} (base : Nat) (e : TypeId) (size n : Nat) (v : Value) (xs : List Value) : Steady B fun W => W.ownsRow base e size v n xs := fun _ _ _ h hg hr => by
  refine h.kept hg ?_
  cases hb : v.ownBlock with
  | none => exact .inl rfl
  | some b =>
    obtain ⟨o, ho, hp⟩ := row_plain h hb
    exact .inr (odd_ne hr ho hp)
theorem steady_imp {B : Nat} {p : Prop} {I : World → Prop} (h : p → Steady B I) : Steady B fun W => p → I W := fun W W' row hi hg hr x => h x W W' row (hi x) hg hr
theorem steady_all {B : Nat} {γ : Type} {I : γ → World → Prop} (h : ∀ x, Steady B (I x)) : Steady B fun W => ∀ x, I x W := fun W W' row hi hg hr x => h x W W' row (hi x) hg hr
theorem steady_size {B : Nat} (C : Nat) : Steady B fun W => C ≤ W.heap.size := fun _ _ _ h hg _ => Nat.le_trans h hg.size
theorem steady_below' {B : Nat} (w : World) (hB : w.heap.size ≤ B) : Steady B fun W => Below w.heap.size w W := fun _ _ _ h hg hr => h.grown hg h.size (fun k e => Nat.le_trans hB (hr k e).1)
/-- What lies below. -/
theorem steady_old {B : Nat} {I : World → Prop} {C : Nat} (hC : C ≤ B) (h : ∀ W W', I W → Below C W W' → C ≤ W.heap.size → I W') : Steady B fun W => I W ∧ C ≤ W.heap.size := fun W W' _ ⟨hi, hs⟩ hg hr =>
  ⟨h W W' hi ((Below.refl C W).grown hg hs (fun k e => Nat.le_trans hC (hr k e).1)) hs, Nat.le_trans hs hg.size⟩
theorem grown_set (W : World) (g i : Nat) (u : Value) : W.grownBy (W.setCell ⟨g, i, none⟩ u) (some g) :=
  ⟨rfl, rfl, rfl, by simp [World.setCell], fun k _ hk => Below.heap_setCell _ _ _ _ (fun e => hk (by rw [e]))⟩
theorem Whole.beside {w : World} {g b i : Nat} {t : TypeId} {cs : Array Value} (h : Whole w g t cs) (hne : g ≠ b) (u : Value) : Whole (w.setCell ⟨b, i, none⟩ u) g t cs := h.same ((grown_set w b i u).block g h.lt (fun e => hne (by injection e)))
theorem row_beside {W : World} {B n sz b i : Nat} {e : TypeId} {v : Value} {xs : List Value} (h : W.ownsRow B e sz v n xs) (hb : b < B) (u : Value) : (W.setCell ⟨b, i, none⟩ u).ownsRow B e sz v n xs := h.kept (grown_set W b i u) (by
  cases hv : v.ownBlock with
  | none => exact .inl rfl
  | some r => exact .inr (by have := (h.lt r hv).1; simp; omega))
theorem whole_drew {w : World} {b : Nat} {t : TypeId} {cs : Array Value} (h : Whole w b t cs) : Whole w.drew b t cs := h
theorem whole_alloc {w : World} {b : Nat} {t : TypeId} {cs : Array Value} (h : Whole w b t cs) (o : Obj) : Whole (w.alloc o) b t cs := h.same (((Below.refl _ w).alloc (Nat.le_refl _) o).block b h.lt)
theorem whole_grown {w w' : World} {row : Option Nat} {b : Nat} {t : TypeId} {cs : Array Value} (hg : w.grownBy w' row) (hne : some b ≠ row) (h : Whole w b t cs) : Whole w' b t cs := h.same (hg.block b h.lt hne)
end Go.Proofs.YticcgmegimiegaaGreatDoor
