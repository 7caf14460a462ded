/- Objects behind a pointer: which blocks are an object's own, and what its methods leave as it was. -/
import Derived.Test.YticcgmegimiegaaGreatDoorLists
namespace Go.Proofs.YticcgmegimiegaaGreatDoor
open Go.RowKit Go.Sort

/-- Block g holds just these cells. -/
def Whole (w : World) (g : Nat) (t : TypeId) (cs : Array Value) : Prop := w.heap[g]? = some (.cells cs t (0, 0))
theorem Whole.lt {w : World} {g : Nat} {t : TypeId} {cs : Array Value} (h : Whole w g t cs) : g < w.heap.size := (Array.getElem?_eq_some_iff.1 h).1
theorem Whole.cell {w : World} {g : Nat} {t : TypeId} {cs : Array Value} (h : Whole w g t cs) (i : Nat) : w.cell? ⟨g, i, none⟩ = cs[i]? := cell_of_row w g i cs t (0, 0) h
theorem Whole.frozen {w : World} {g : Nat} {t : TypeId} {cs : Array Value} (h : Whole w g t cs) (i : Nat) : w.frozen? ⟨g, i, none⟩ = false := by
  have h' : w.heap[g]? = some (.cells cs t (0, 0)) := h
  simp [World.frozen?, h']
theorem Whole.made (w : World) (t : TypeId) (cs : Array Value) : Whole (w.alloc (.cells cs t)) w.heap.size t cs := heap_alloc_new w _
theorem Whole.store {w : World} {g : Nat} {t : TypeId} {cs : Array Value} (h : Whole w g t cs) (i : Nat) (u : Value) : Whole (w.setCell ⟨g, i, none⟩ u) g t (cs.setIfInBounds i u) := by
  have h' : w.heap[g]? = some (.cells cs t (0, 0)) := h
  show (w.setCell ⟨g, i, none⟩ u).heap[g]? = _
  simp [World.setCell, Array.getElem?_modify, h']
theorem Whole.same {w w' : World} {g : Nat} {t : TypeId} {cs : Array Value} (h : Whole w g t cs) (e : w'.heap[g]? = w.heap[g]?) : Whole w' g t cs := e.trans h
/-- Two kinds of cells never share a block. -/
theorem Whole.row_ne {w : World} {g : Nat} {t : TypeId} {cs : Array Value} (h : Whole w g t cs) {base : Nat} {e : TypeId} {size n : Nat} {v : Value} {xs : List Value} (hr : w.ownsRow base e size v n xs) (hne : e ≠ t) : v.ownBlock ≠ some g := by
  rcases hr.2 with ⟨rfl, -⟩ | ⟨g', cap, cur, rfl, -, hh, -⟩
  · simp [Value.ownBlock]
  · intro he
    obtain rfl : g' = g := by simpa [Value.ownBlock] using he
    rw [show w.heap[g']? = _ from h] at hh
    cases hh
    exact hne rfl
theorem rows_ne {w : World} {base base' : Nat} {e e' : TypeId} {size size' n n' : Nat} {v v' : Value} {xs xs' : List Value} (hr : w.ownsRow base e size v n xs) (hr' : w.ownsRow base' e' size' v' n' xs') (hne : e ≠ e') : v.ownBlock = none ∨ v.ownBlock ≠ v'.ownBlock := by
  rcases hr.2 with ⟨rfl, -⟩ | ⟨g, cap, cur, rfl, -, hh, -⟩
  · exact .inl rfl
  · refine .inr fun e1 => ?_
    exact Whole.row_ne (g := g) (t := e) (cs := cur) hh hr' (fun x => hne x.symm) (e1.symm.trans rfl)
theorem map_block {H : Type} {w : World} {P : Program} {k : TypeId} {R : Value → Option (DataW H × List MemPlace)} {b n : Nat} {D : DataW H} (h : w.ownsMap P k R b n D) : ∃ es ck, w.heap[b]? = some (.map es ck) := by
  obtain ⟨es, ck, hb, -⟩ := h
  exact ⟨es, ck, hb⟩
theorem Whole.map_ne {H : Type} {w : World} {g : Nat} {t : TypeId} {cs : Array Value} (h : Whole w g t cs) {P : Program} {k : TypeId} {R : Value → Option (DataW H × List MemPlace)} {b n : Nat} {D : DataW H} (hm : w.ownsMap P k R b n D) : g ≠ b := by
  obtain ⟨es, ck, hb⟩ := map_block hm
  rintro rfl
  rw [show w.heap[g]? = _ from h] at hb
  cases hb
theorem row_map_ne {H : Type} {w : World} {base : Nat} {e : TypeId} {size n' : Nat} {v : Value} {xs : List Value} (hr : w.ownsRow base e size v n' xs) {P : Program} {k : TypeId} {R : Value → Option (DataW H × List MemPlace)} {b n : Nat} {D : DataW H} (hm : w.ownsMap P k R b n D) : v.ownBlock ≠ some b := by
  rcases hr.2 with ⟨rfl, -⟩ | ⟨g, cap, cur, rfl, -, hh, -⟩
  · simp [Value.ownBlock]
  · intro he
    obtain rfl : g = b := by simpa [Value.ownBlock] using he
    exact Whole.map_ne (g := g) (t := e) (cs := cur) hh hm rfl

/-- But for the blocks of which K holds, and new ones, nothing has turned. -/
structure Keeps (K : Nat → Prop) (w w' : World) : Prop where
  os : w'.os = w.os
  tape : w'.tape = w.tape
  output : w'.output = w.output
  size : w.heap.size ≤ w'.heap.size
  block : ∀ k, k < w.heap.size → ¬ K k → w'.heap[k]? = w.heap[k]?
section
variable {K K' : Nat → Prop} {a b c w w' : World}
theorem Keeps.refl (K : Nat → Prop) (w : World) : Keeps K w w := ⟨rfl, rfl, rfl, Nat.le_refl _, fun _ _ _ => rfl⟩
theorem Keeps.of_below (h : Below w.heap.size w w') : Keeps K w w' := ⟨h.os, h.tape, h.output, h.size, fun k hk _ => h.block k hk⟩
theorem Keeps.trans (h : Keeps K a b) (k : Keeps K' b c) (hk : ∀ i, i < a.heap.size → K' i → K i) : Keeps K a c :=
  ⟨k.os.trans h.os, k.tape.trans h.tape, k.output.trans h.output, Nat.le_trans h.size k.size, fun i hi hn => (k.block i (Nat.lt_of_lt_of_le hi h.size) (fun x => hn (hk i hi x))).trans (h.block i hi hn)⟩
theorem Keeps.below {B : Nat} (h : Keeps K w w') (hB : B ≤ w.heap.size) (hK : ∀ i, K i → B ≤ i) : Below B w w' :=
  ⟨h.os, h.tape, h.output, h.size, fun k hk => h.block k (Nat.lt_of_lt_of_le hk hB) (fun x => by have := hK k x; omega)⟩
theorem Keeps.then_below (h : Keeps K a w) (k : Below w.heap.size w w') : Keeps K a w' := h.trans (Keeps.of_below (K := K) k) (fun _ _ x => x)
theorem Keeps.alloc (h : Keeps K a w) (o : Obj) : Keeps K a (w.alloc o) := h.then_below ((Below.refl _ _).alloc (Nat.le_refl _) o)
theorem Keeps.setCell (h : Keeps K a w) {p : Addr} (hp : K p.block ∨ a.heap.size ≤ p.block) (u : Value) : Keeps K a (w.setCell p u) :=
  ⟨h.os, h.tape, h.output, by simpa [World.setCell] using h.size, fun k hk hn => (Below.heap_setCell _ _ _ _ (by
    rintro rfl
    rcases hp with hp | hp
    · exact hn hp
    · omega)).trans (h.block k hk hn)⟩
theorem Keeps.grown (h : Keeps K a w) {row : Option Nat} (hg : w.grownBy w' row) (hr : ∀ r, row = some r → K r ∨ a.heap.size ≤ r) : Keeps K a w' :=
  ⟨hg.os.trans h.os, hg.tape.trans h.tape, hg.output.trans h.output, Nat.le_trans h.size hg.size, fun k hk hn => (hg.block k (Nat.lt_of_lt_of_le hk h.size) (fun e => by
    rcases hr k e.symm with h1 | h1
    · exact hn h1
    · omega)).trans (h.block k hk hn)⟩
/-- A step of an object: K its blocks ahead of it, K' behind it. -/
def Turn (K : Nat → Prop) (w : World) (K' : Nat → Prop) (w' : World) : Prop := Keeps K w w' ∧ ∀ i, K' i → K i ∨ w.heap.size ≤ i
theorem Turn.refl (K : Nat → Prop) (w : World) : Turn K w K w := ⟨Keeps.refl K w, fun _ h => .inl h⟩
theorem Turn.of_below (h : Below w.heap.size w w') : Turn K w K w' := ⟨Keeps.of_below h, fun _ h => .inl h⟩
theorem Turn.trans {K2 : Nat → Prop} (h : Turn K a K' b) (k : Turn K' b K2 c) : Turn K a K2 c :=
  ⟨h.1.trans k.1 (fun i hi x => by rcases h.2 i x with y | y; exact y; omega), fun i x => by
    rcases k.2 i x with y | y
    · exact h.2 i y
    · exact .inr (Nat.le_trans h.1.size y)⟩
theorem Turn.below {B : Nat} (h : Turn K w K' w') (hB : B ≤ w.heap.size) (hK : ∀ i, K i → B ≤ i) : Below B w w' := h.1.below hB hK
theorem Turn.from_ {B : Nat} (h : Turn K w K' w') (hB : B ≤ w.heap.size) (hK : ∀ i, K i → B ≤ i) : ∀ i, K' i → B ≤ i := fun i x => by
  rcases h.2 i x with y | y
  · exact hK i y
  · omega
/-- A block that is none of an object's own, and that lies there, stays none of it. -/
theorem Turn.off (h : Turn K w K' w') {i : Nat} (hi : i < w.heap.size) (hn : ¬ K i) : ¬ K' i := fun x => by
  rcases h.2 i x with y | y
  · exact hn y
  · omega
end
/-- A slice that holds the numbers zs of kind k, in a block that is none of K. -/
def IntsF (k : IntKind) (K : Nat → Prop) (W : World) (sv : Value) (zs : List Int) : Prop :=
  (∃ A c, sv = .slice A 0 c ∧ (A = none → c = 0) ∧ zs = []) ∨ ∃ b off cap, sv = .slice (some ⟨b, off, none⟩) zs.length cap ∧ b < W.heap.size ∧ ¬ K b ∧ ∀ j, j < zs.length → W.cell? ⟨b, off + j, none⟩ = some (.int k (zs[j]?.getD 0))
def LitsF (K : Nat → Prop) (W : World) (sv : Value) (zs : List Int) : Prop :=
  (∃ A c, sv = .slice A 0 c ∧ (A = none → c = 0) ∧ zs = []) ∨ ∃ b off cap, sv = .slice (some ⟨b, off, none⟩) zs.length cap ∧ b < W.heap.size ∧ ¬ K b ∧ Holds (Value.int .i64) W b off zs.toArray
section
variable {K K' : Nat → Prop} {w w' : World} {v : Value} {zs : List Int} {k : IntKind}
theorem IntsF.ints : IntsF k K w v zs → IntsK k w.heap.size w v zs
  | .inl e => .inl e
  | .inr ⟨b, off, cap, e, hb, _, hc⟩ => .inr ⟨b, off, cap, e, hb, hc⟩
theorem LitsF.lits : LitsF K w v zs → Lits w.heap.size w v zs
  | .inl e => .inl e
  | .inr ⟨b, off, cap, e, hb, _, hc⟩ => .inr ⟨b, off, cap, e, hb, hc⟩
theorem LitsF.ints (h : LitsF K w v zs) : IntsF .i64 K w v zs := by
  rcases h with e | ⟨b, off, cap, e, hb, hn, hc⟩
  · exact .inl e
  · exact .inr ⟨b, off, cap, e, hb, hn, fun j hj => by rw [(hc j (by simpa using hj)).1, bang_get]⟩
theorem IntsF.turn (h : IntsF k K w v zs) (t : Turn K w K' w') : IntsF k K' w' v zs := by
  rcases h with e | ⟨b, off, cap, e, hb, hn, hc⟩
  · exact .inl e
  · exact .inr ⟨b, off, cap, e, Nat.lt_of_lt_of_le hb t.1.size, t.off hb hn, fun j hj => (World.cell?_of_block (t.1.block b hb hn)).trans (hc j hj)⟩
theorem LitsF.turn (h : LitsF K w v zs) (t : Turn K w K' w') : LitsF K' w' v zs := by
  rcases h with e | ⟨b, off, cap, e, hb, hn, hc⟩
  · exact .inl e
  · exact .inr ⟨b, off, cap, e, Nat.lt_of_lt_of_le hb t.1.size, t.off hb hn, fun j hj => ⟨(World.cell?_of_block (t.1.block b hb hn)).trans (hc j hj).1, (World.frozen?_of_block (t.1.block b hb hn)).trans (hc j hj).2⟩⟩
theorem IntsF.on (h : IntsF k K w v zs) (hb : Below w.heap.size w w') : IntsF k K w' v zs := h.turn (Turn.of_below hb)
theorem LitsF.on (h : LitsF K w v zs) (hb : Below w.heap.size w w') : LitsF K w' v zs := h.turn (Turn.of_below hb)
/-- What lies below all of K is none of it. -/
theorem intsF_old {B : Nat} (h : IntsK k B w v zs) (hB : B ≤ w.heap.size) (hK : ∀ i, K i → B ≤ i) : IntsF k K w v zs := by
  rcases h with e | ⟨b, off, cap, e, hb, hc⟩
  · exact .inl e
  · exact .inr ⟨b, off, cap, e, by omega, (fun x => by have := hK b x; omega), hc⟩
theorem litsF_old {B : Nat} (h : Lits B w v zs) (hB : B ≤ w.heap.size) (hK : ∀ i, K i → B ≤ i) : LitsF K w v zs := by
  rcases h with e | ⟨b, off, cap, e, hb, hc⟩
  · exact .inl e
  · exact .inr ⟨b, off, cap, e, by omega, (fun x => by have := hK b x; omega), hc⟩
/-- .. and so is a row that was laid when all of K was there. -/
theorem litsF_own {B : Nat} {e : TypeId} {n : Nat} (h : w.ownsRow B e 1 v n (zs.map (Value.int .i64))) (hK : ∀ i, K i → i < B) : LitsF K w v zs := by
  have hl : zs.length = n := by simpa using h.1
  rcases h.2 with ⟨rfl, h0⟩ | ⟨g, cap, cur, rfl, hb, hg, hn, hm, hs, ht⟩
  · subst h0
    exact .inl ⟨_, _, rfl, fun _ => rfl, List.eq_nil_of_length_eq_zero hl⟩
  · refine .inr ⟨g, 0, cap, by rw [hl], (h.lt g rfl).2, (fun x => by have := hK g x; omega), fun j hj => ?_⟩
    have hj' : j < zs.length := by simpa using hj
    rw [Nat.zero_add, bang_get]
    refine ⟨?_, h.frozenAt j⟩
    rw [h.cellAt j (by omega), List.getElem?_map]
    simp [hj']
end
/-- The blocks of an object are cells and maps. -/
def Obj.plain : Obj → Bool
  | .cells .. => true
  | .map .. => true
  | _ => false
def KOk (K : Nat → Prop) (w : World) : Prop := ∀ i, K i → ∃ o : Obj, w.heap[i]? = some o ∧ Obj.plain o = true
theorem KOk.lt {K : Nat → Prop} {w : World} (h : KOk K w) {i : Nat} (hi : K i) : i < w.heap.size := by
  obtain ⟨o, ho, -⟩ := h i hi
  exact (Array.getElem?_eq_some_iff.1 ho).1
theorem KOk.on {K : Nat → Prop} {w w' : World} (h : KOk K w) (hb : Below w.heap.size w w') : KOk K w' := fun i hi => by
  obtain ⟨o, ho, hp⟩ := h i hi
  exact ⟨o, (hb.block i (Array.getElem?_eq_some_iff.1 ho).1).trans ho, hp⟩
end Go.Proofs.YticcgmegimiegaaGreatDoor
