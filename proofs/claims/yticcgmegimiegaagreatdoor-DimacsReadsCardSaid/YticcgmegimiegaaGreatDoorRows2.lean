/- Slices of slices of numbers that come in. -/
import Derived.Test.YticcgmegimiegaaGreatDoorMade02
import Derived.Deep.Matrix
namespace Go.Proofs.YticcgmegimiegaaGreatDoor
open Go.ChangeShapes Go.WideShapes Go.ChangeAt Go.RowKit

/-- A slice of slices holds the lists zss; all lies below B. -/
def Rows2 (k : IntKind) (B : Nat) (W : World) (v : Value) (zss : List (List Int)) : Prop :=
  (∃ A c, v = .slice A 0 c ∧ (A = none → c = 0) ∧ zss = []) ∨ ∃ b off cap, v = .slice (some ⟨b, off, none⟩) zss.length cap ∧ zss.length ≤ cap ∧ b < B ∧
    ∀ j, j < zss.length → ∃ sv, W.cell? ⟨b, off + j, none⟩ = some sv ∧ IntsK k B W sv (zss[j]?.getD []) ∧ Fits sv
theorem Rows2.below {k : IntKind} {B : Nat} {X Y : World} (h : Below B X Y) {v : Value} {zss : List (List Int)} : Rows2 k B X v zss → Rows2 k B Y v zss
  | .inl e => .inl e
  | .inr ⟨b, off, cap, e, hc, hb, hj⟩ => .inr ⟨b, off, cap, e, hc, hb, fun j hlt => by
      obtain ⟨sv, h1, h2, h3⟩ := hj j hlt
      exact ⟨sv, (h.cell (p := ⟨b, off + j, none⟩) hb).trans h1, h2.below h, h3⟩⟩
theorem Rows2.shape {k : IntKind} {B : Nat} {W : World} {v : Value} {zss : List (List Int)} (h : Rows2 k B W v zss) : ∃ A cap, v = .slice A zss.length cap ∧ (A = none → cap = 0) ∧ zss.length ≤ cap ∧
    ∀ j, j < zss.length → ∃ b off sv, A = some ⟨b, off, none⟩ ∧ b < B ∧ W.cell? ⟨b, off + j, none⟩ = some sv ∧ IntsK k B W sv (zss[j]?.getD []) ∧ Fits sv := by
  rcases h with ⟨A, c, rfl, hA, rfl⟩ | ⟨b, off, cap, rfl, hc, hb, hj⟩
  · exact ⟨A, c, rfl, hA, Nat.zero_le _, fun j hj => absurd hj (Nat.not_lt_zero _)⟩
  · exact ⟨_, cap, rfl, (fun e => by cases e), hc, fun j hlt => by
      obtain ⟨sv, h1, h2, h3⟩ := hj j hlt
      exact ⟨b, off, sv, rfl, hb, h1, h2, h3⟩⟩
theorem ints_row {k : IntKind} {W : World} {A : Option Addr} {L C : Nat} {Z : List Int} (hl : L ≤ C) (hz : Z.length = C) (hA : A = none → C = 0) (hc : ∀ a', A = some a' → ∀ c, c < C → W.cell? (a'.add c) = some (.int k (Z.getD c 0))) : IntsK k W.heap.size W (.slice A L C) (Z.take L) := by
  by_cases h0 : L = 0
  · subst h0
    exact .inl ⟨A, C, rfl, hA, by simp⟩
  · cases A with
    | none => exact absurd (hA rfl) (by omega)
    | some a' =>
      obtain ⟨b, off, sp⟩ := a'
      have h0' := hc _ rfl 0 (by omega)
      have hpl : sp = none := by simpa [Addr.add] using World.cell?_spot h0'
      subst hpl
      have hadd : ∀ j, (⟨b, off, none⟩ : Addr).add j = ⟨b, off + j, none⟩ := fun j => addr_add b off j
      have hb := World.block_lt_of_cell? W _ h0'
      rw [hadd] at hb
      have hlt : (Z.take L).length = L := by rw [List.length_take]; omega
      refine .inr ⟨b, off, C, by rw [hlt], hb, fun j hj => ?_⟩
      rw [hlt] at hj
      rw [← hadd j, hc _ rfl j (by omega), List.getElem?_take_of_lt hj]
      rfl
theorem rows_of {H : Type} {enc : TypeId × Value → H} {P : Program} {W : World} {r : Reach} {base b0 : Nat} {hd : Bool} {t e q : TypeId} {k : IntKind} {v : Value} {d : DataW H} {ps : List MemPlace} (ht : P.underlying t = some (.slice e)) (he : P.underlying e = some (.slice q)) (hq : P.underlying q = some (.int k)) (ce : P.cellsOf e = 1) (cq : P.cellsOf q = 1)
    (hval : Value.okWide P W r b0 t v) (h : DataW.Trod enc P W base (fun _ => true) hd t v d ps) : ∃ zss, Rows2 k W.heap.size W v zss ∧ zss.length ≤ maxLen ∧ ∀ zs ∈ zss, zs.length ≤ maxLen ∧ ∀ x ∈ zs, (Lit.int k x).wf = true := by
  obtain ⟨a0, len, cap, rfl⟩ := okWide_slice ht hval
  obtain ⟨fuel, hf⟩ := h
  rcases Deep.open_int_rows ht he hq ce cq hf with ⟨hcs, -⟩ | ⟨a, len', cap', A, L, C, Z, hcs, -, hl, hm, -, hr⟩
  · simp [Value.cells] at hcs
    obtain ⟨rfl, rfl, rfl⟩ := hcs
    exact ⟨[], .inl ⟨_, _, rfl, fun _ => rfl, rfl⟩, Nat.zero_le _, fun x hx => by cases hx⟩
  · simp [Value.cells] at hcs
    obtain ⟨rfl, rfl, rfl⟩ := hcs
    refine ⟨(List.range len).map fun r => (Z r).take (L r), ?_, by simp; omega, fun zs hzs => ?_⟩
    · by_cases h0 : len = 0
      · subst h0
        exact .inl ⟨_, _, rfl, (fun e => by cases e), rfl⟩
      · obtain ⟨b, off, sp⟩ := a
        have h0' := (hr 0 (by omega)).1
        have hpl : sp = none := by simpa [Addr.add] using World.cell?_spot h0'
        subst hpl
        have hadd : ∀ j, (⟨b, off, none⟩ : Addr).add j = ⟨b, off + j, none⟩ := fun j => addr_add b off j
        have hb := World.block_lt_of_cell? W _ h0'
        rw [hadd] at hb
        refine .inr ⟨b, off, cap, by simp, by simpa using hl, hb, fun j hj => ?_⟩
        have hj' : j < len := by simpa using hj
        obtain ⟨h1, h2, h3, h4, h5, h6, h7⟩ := hr j (by omega)
        refine ⟨.slice (A j) (L j) (C j), by rw [← hadd j]; exact h1, ?_, ?_⟩
        · have : (((List.range len).map fun r => (Z r).take (L r))[j]?.getD []) = (Z j).take (L j) := by simp [hj']
          rw [this]
          exact ints_row h2 h4 h6 (fun a' ha => (h7 a' ha).2)
        · rintro A' n c e
          injection e with _ e1 e2
          omega
    · obtain ⟨j, hj, rfl⟩ := List.mem_map.1 hzs
      obtain ⟨h1, h2, h3, h4, h5, h6, h7⟩ := hr j (by have := List.mem_range.1 hj; omega)
      exact ⟨by rw [List.length_take]; omega, fun x hx => h5 x (List.mem_of_mem_take hx)⟩
end Go.Proofs.YticcgmegimiegaaGreatDoor
