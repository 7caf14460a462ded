/- dimacs.taking and the function that it returns. -/
import Derived.Test.YticcgmegimiegaaGreatDoorRead
import Derived.Test.YticcgmegimiegaaGreatDoorDmHeading
import Derived.Test.YticcgmegimiegaaGreatDoorOwnRows
import Derived.Test.YticcgmegimiegaaGreatDoorAppend2
import Derived.Deep.AppendLies
namespace Go.Proofs.YticcgmegimiegaaGreatDoor
open Go.RowKit Go.ChangeAt Go.ChangeShapes Go.WideShapes Go.Shelf Go.Sort

theorem taking_any (p : Addr) (n : Int) (w : World) : Calls Tryz.prog 53 #[.pointer (some p), .int .i64 n] w fun e w' => e = .returned (.func (.func 91) #[] #[.pointer (some ⟨w.heap.size, 0, none⟩), .pointer (some ⟨w.heap.size + 1, 0, none⟩), .pointer (some ⟨w.heap.size + 1 + 1, 0, none⟩)]) ∧ w' = ((w.alloc (.cells #[.pointer (some p)] 102)).alloc (.cells #[.int .i64 n] 3)).alloc (.cells #[.slice none 0 0] 38) := by
  go_enter Tryz.func53, Tryz.ntmps53
  go_wp2_with fail
  go_ret
  exact ⟨rfl, rfl⟩

/-- What is said of a word, behind the clauses L and the literals cur of the next one. -/
def takeE (V C : Int) (L : List (List Int)) (cur : List Int) (x : List UInt8) : Int :=
  if readE x ≠ 0 ∧ x ≠ [48] then 61 else if V < varI (readI x) then 62 else if (L.length : Int) = C then 63 else if x = [48] then 0 else if cur.length = 4096 then 5 else 0
def takeN (L : List (List Int)) (cur : List Int) (x : List UInt8) : List (List Int) × List Int := if x = [48] then (L ++ [cur], []) else (L, cur ++ [readI x])
def cellsR (L : List (List Int)) : List (List Value) := L.map fun zs => zs.map (Value.int .i64)

theorem owns_same {B n : Nat} {e : TypeId} {v : Value} {xs : List Value} {W W' : World} (h : W.ownsRow B e 1 v n xs) (hb : ∀ g, v.ownBlock = some g → W'.heap[g]? = W.heap[g]?) : W'.ownsRow B e 1 v n xs := by
  rcases h.2 with ⟨rfl, h0⟩ | ⟨g, cap, cur, rfl, hbg, hg, hr⟩
  · exact ⟨h.1, .inl ⟨rfl, h0⟩⟩
  · exact ⟨h.1, .inr ⟨g, cap, cur, rfl, hbg, (hb g rfl).trans hg, hr⟩⟩
theorem rowF_owns {B n : Nat} {K : Nat → Prop} {e : TypeId} {v : Value} {xs : List Value} {W : World} (h : W.ownsRow B e 1 v n xs) (hK : ∀ g, v.ownBlock = some g → ¬ K g) : RowF K W v xs := by
  have hl : xs.length = n := by simpa using h.1
  rcases h.2 with ⟨rfl, h0⟩ | ⟨g, cap, cur, rfl, hb, hg, hn, hm, hs, ht⟩
  · subst h0
    exact .inl ⟨_, _, rfl, fun _ => rfl, List.eq_nil_of_length_eq_zero hl⟩
  · refine .inr ⟨g, 0, cap, by rw [hl], (h.lt g rfl).2, hK g rfl, fun j hj => ?_⟩
    rw [Nat.zero_add]
    exact ⟨h.cellAt j (by omega), h.frozenAt j⟩
/-- The slices svs hold the rows L, in blocks that are none of K. -/
def InK (K : Nat → Prop) (W : World) (svs : List Value) (L : List (List Value)) : Prop := svs.length = L.length ∧ ∀ (j : Nat) (xs : List Value), L[j]? = some xs → ∃ sv, svs[j]? = some sv ∧ RowF K W sv xs
theorem InK.same {K K' : Nat → Prop} {W W' : World} {svs : List Value} {L : List (List Value)} (h : InK K W svs L) (hb : ∀ b, b < W.heap.size → ¬ K b → W'.heap[b]? = W.heap[b]?) (hs : W.heap.size ≤ W'.heap.size) (hk : ∀ i, K' i → K i ∨ W.heap.size ≤ i) : InK K' W' svs L := by
  refine ⟨h.1, fun j xs hx => ?_⟩
  obtain ⟨sv, h1, h2⟩ := h.2 j xs hx
  refine ⟨sv, h1, ?_⟩
  rcases h2 with e | ⟨b, off, cap, e, hl, hn, hc⟩
  · exact .inl e
  · exact .inr ⟨b, off, cap, e, Nat.lt_of_lt_of_le hl hs, (fun x => by
      rcases hk b x with y | y
      · exact hn y
      · omega), fun j hj => ⟨(World.cell?_of_block (hb b hl hn)).trans (hc j hj).1, (World.frozen?_of_block (hb b hl hn)).trans (hc j hj).2⟩⟩
theorem InK.push {K : Nat → Prop} {W : World} {svs : List Value} {L : List (List Value)} (h : InK K W svs L) {sv : Value} {xs : List Value} (hr : RowF K W sv xs) : InK K W (svs ++ [sv]) (L ++ [xs]) := by
  refine ⟨by simp [h.1], fun j ys hy => ?_⟩
  rcases Nat.lt_or_ge j L.length with hj | hj
  · rw [List.getElem?_append_left hj] at hy
    obtain ⟨s, h1, h2⟩ := h.2 j ys hy
    exact ⟨s, by rw [List.getElem?_append_left (by rw [h.1]; exact hj)]; exact h1, h2⟩
  · have hjl : j < (L ++ [xs]).length := (List.getElem?_eq_some_iff.1 hy).1
    have : j = L.length := by simp at hjl; omega
    subst this
    rw [List.getElem?_append_right (Nat.le_refl _), Nat.sub_self] at hy
    obtain rfl : xs = ys := by simpa using hy
    exact ⟨sv, by rw [List.getElem?_append_right (by rw [h.1]; exact Nat.le_refl _), h.1, Nat.sub_self]; rfl, hr⟩

/-- What is not to be touched by others: the boxes, and the two rows. -/
def tkK (X : Nat → Prop) (b3 : Nat) (v c : Value) (i : Nat) : Prop := v.ownBlock = some i ∨ c.ownBlock = some i ∨ i ≤ b3 ∨ X i
/-- A formula that is being read: its block is bf, its clauses are L; of the next one cur was read. No block of it is one of X. -/
structure Tk (X : Nat → Prop) (bf b1 : Nat) (V C : Int) (L : List (List Int)) (cur : List Int) (v c : Value) (svs : List Value) (W : World) : Prop where
  f : Whole W bf 24 #[.int .i64 V, v]
  p : Whole W b1 102 #[.pointer (some ⟨bf, 0, none⟩)]
  n : Whole W (b1 + 1) 3 #[.int .i64 C]
  cb : Whole W (b1 + 1 + 1) 38 #[c]
  row : W.ownsRow (b1 + 1 + 1 + 1) 38 1 v L.length svs
  lits : W.ownsRow (b1 + 1 + 1 + 1) 39 1 c cur.length (cur.map (Value.int .i64))
  ne : ∀ g, v.ownBlock = some g → c.ownBlock ≠ some g
  ins : InK (tkK X (b1 + 1 + 1) v c) W svs (cellsR L)
  x : ¬ X bf ∧ ¬ X b1 ∧ ¬ X (b1 + 1) ∧ ¬ X (b1 + 1 + 1)
  xr : ∀ g, v.ownBlock = some g ∨ c.ownBlock = some g → ¬ X g
  lt : bf < b1
  len : L.length ≤ 262144 ∧ cur.length ≤ 4096
section
variable {X : Nat → Prop} {bf b1 : Nat} {V C : Int} {L : List (List Int)} {cur : List Int} {v c : Value} {svs : List Value} {W W' : World}
/-- Others write into blocks of X. -/
theorem Tk.keep (h : Tk X bf b1 V C L cur v c svs W) (hk : Keeps X W W') : Tk X bf b1 V C L cur v c svs W' :=
  ⟨h.f.same (hk.block _ h.f.lt h.x.1), h.p.same (hk.block _ h.p.lt h.x.2.1), h.n.same (hk.block _ h.n.lt h.x.2.2.1), h.cb.same (hk.block _ h.cb.lt h.x.2.2.2),
   owns_same h.row fun g hg => hk.block g (h.row.lt g hg).2 (h.xr g (.inl hg)), owns_same h.lits fun g hg => hk.block g (h.lits.lt g hg).2 (h.xr g (.inr hg)), h.ne,
   h.ins.same (fun b hb hn => hk.block b hb fun x => hn (.inr (.inr (.inr x)))) hk.size (fun _ => .inl), h.x, h.xr, h.lt, h.len⟩
/-- The world grows, and the new blocks are theirs. -/
theorem Tk.grow (h : Tk X bf b1 V C L cur v c svs W) (hb : Below W.heap.size W W') {X' : Nat → Prop} (hX : ∀ x, X' x → X x ∨ W.heap.size ≤ x) : Tk X' bf b1 V C L cur v c svs W' := by
  have hx : ∀ x, x < W.heap.size → ¬ X x → ¬ X' x := fun x hl hn hx' => by
    rcases hX x hx' with y | y
    · exact hn y
    · omega
  exact ⟨h.f.same (hb.block _ h.f.lt), h.p.same (hb.block _ h.p.lt), h.n.same (hb.block _ h.n.lt), h.cb.same (hb.block _ h.cb.lt),
   owns_same h.row fun g hg => hb.block g (h.row.lt g hg).2, owns_same h.lits fun g hg => hb.block g (h.lits.lt g hg).2, h.ne,
   h.ins.same (fun b hl _ => hb.block b hl) hb.size (fun i hi => by
    rcases hi with y | y | y | y
    · exact .inl (.inl y)
    · exact .inl (.inr (.inl y))
    · exact .inl (.inr (.inr (.inl y)))
    · exact (hX i y).imp (fun z => .inr (.inr (.inr z))) id),
   ⟨hx _ h.f.lt h.x.1, hx _ h.p.lt h.x.2.1, hx _ h.n.lt h.x.2.2.1, hx _ h.cb.lt h.x.2.2.2⟩,
   fun g hg => hx g (hg.elim (fun y => (h.row.lt g y).2) (fun y => (h.lits.lt g y).2)) (h.xr g hg), h.lt, h.len⟩
/-- One more literal. -/
theorem Tk.lit (h : Tk X bf b1 V C L cur v c svs W) (hXW : ∀ x, X x → x < W.heap.size) {l : Int} {o : Obj} {c' : Value} {W2 : World} (hown : W2.ownsRow (b1 + 1 + 1 + 1) 39 1 c' (cur.length + 1) (cur.map (Value.int .i64) ++ [.int .i64 l]))
    (hg : (W.alloc o).grownBy W2 c.ownBlock) (hat : c'.ownBlock = c.ownBlock ∨ c'.ownBlock = some (W.alloc o).heap.size) (hl : cur.length + 1 ≤ 4096) :
    Tk X bf b1 V C L (cur ++ [l]) v c' svs (W2.setCell ⟨b1 + 1 + 1, 0, none⟩ c') ∧ Below bf W (W2.setCell ⟨b1 + 1 + 1, 0, none⟩ c') ∧ SameX X W (W2.setCell ⟨b1 + 1 + 1, 0, none⟩ c') := by
  have hc3 := h.cb.lt
  have hsz : W.heap.size ≤ W2.heap.size := by have := hg.size; rw [World.size_alloc] at this; omega
  have hbl : ∀ b, b < W.heap.size → c.ownBlock ≠ some b → b ≠ b1 + 1 + 1 → (W2.setCell ⟨b1 + 1 + 1, 0, none⟩ c').heap[b]? = W.heap[b]? := fun b hb h1 h2 => by
    rw [Below.heap_setCell _ _ _ _ h2, hg.block b (by rw [World.size_alloc]; omega) (fun e => h1 e.symm)]
    exact Below.heap_alloc _ _ _ hb
  have hcl : ∀ g, c.ownBlock = some g → b1 + 1 + 1 + 1 ≤ g := fun g hg' => (h.lits.lt g hg').1
  have hcb : ∀ b, b ≤ b1 + 1 + 1 → c.ownBlock ≠ some b := fun b hb e => by have := hcl b e; omega
  have hss : (W2.setCell ⟨b1 + 1 + 1, 0, none⟩ c').heap.size = W2.heap.size := by simp [World.setCell]
  have hlt := h.lt
  have hc2 : Whole W2 (b1 + 1 + 1) 38 #[c] := h.cb.same (by
    rw [hg.block _ (by rw [World.size_alloc]; omega) (fun e => hcb _ (Nat.le_refl _) e.symm)]; exact Below.heap_alloc _ _ _ hc3)
  have hn' : ∀ g, c'.ownBlock = some g → c.ownBlock = some g ∨ W.heap.size ≤ g := fun g e => by
    rcases hat with y | y
    · exact .inl (y ▸ e)
    · rw [y] at e; cases e; rw [World.size_alloc]; exact .inr (Nat.le_succ _)
  refine ⟨⟨h.f.same (hbl _ h.f.lt (hcb _ (by omega)) (by omega)), h.p.same (hbl _ h.p.lt (hcb _ (by omega)) (by omega)), h.n.same (hbl _ h.n.lt (hcb _ (by omega)) (by omega)), hc2.store 0 c',
    owns_same h.row fun g hg' => hbl g (h.row.lt g hg').2 (h.ne g hg') (by have := (h.row.lt g hg').1; omega), ?_, ?_, ?_, h.x, ?_, hlt, ⟨h.len.1, by simp; omega⟩⟩, ?_, ?_⟩
  · rw [List.length_append, List.map_append]
    exact owns_same hown fun g hg' => Below.heap_setCell _ _ _ _ (by have := (hown.lt g hg').1; show g ≠ b1 + 1 + 1; omega)
  · intro g hg' e
    rcases hn' g e with y | y
    · exact h.ne g hg' y
    · have := (h.row.lt g hg').2; omega
  · refine h.ins.same (fun b hb hn => hbl b hb (fun e => hn (.inr (.inl e))) (fun e => hn (.inr (.inr (.inl (by omega)))))) (by rw [hss]; exact hsz) fun i hi => ?_
    rcases hi with y | y | y | y
    · exact .inl (.inl y)
    · exact (hn' i y).imp (fun z => .inr (.inl z)) id
    · exact .inl (.inr (.inr (.inl y)))
    · exact .inl (.inr (.inr (.inr y)))
  · rintro g (y | y) hx
    · exact h.xr g (.inl y) hx
    · rcases hn' g y with z | z
      · exact h.xr g (.inr z) hx
      · have := hXW g hx; omega
  · exact (((Below.refl bf W).alloc (by have := h.f.lt; omega) o).grown hg (by have := h.f.lt; rw [World.size_alloc]; omega) (fun k e => by have := hcl k e; omega)).setCell (p := ⟨b1 + 1 + 1, 0, none⟩) (by dsimp only; omega) _
  · exact ⟨by rw [hss]; exact hsz, fun x hx => hbl x (hXW x hx) (fun e => h.xr x (.inr e) hx) (fun e => h.x.2.2.2 (e ▸ hx))⟩
/-- One more clause. -/
theorem Tk.clause (h : Tk X bf b1 V C L cur v c svs W) (hXW : ∀ x, X x → x < W.heap.size) {o : Obj} {v' : Value} {W2 : World} (hown : W2.ownsRow (b1 + 1 + 1 + 1) 38 1 v' (L.length + 1) (svs ++ [c]))
    (hg : (W.alloc o).grownBy W2 v.ownBlock) (hat : v'.ownBlock = v.ownBlock ∨ v'.ownBlock = some (W.alloc o).heap.size) (hl : L.length + 1 ≤ 262144) {W4 : World} (e4 : W4 = (W2.setCell ⟨bf, 1, none⟩ v').setCell ⟨b1 + 1 + 1, 0, none⟩ (.slice none 0 0)) :
    Tk X bf b1 V C (L ++ [cur]) [] v' (.slice none 0 0) (svs ++ [c]) W4 ∧ Below bf W W4 ∧ SameX X W W4 := by
  have hc3 := h.cb.lt
  have hf3 := h.f.lt
  have hlt := h.lt
  have hsz : W.heap.size ≤ W2.heap.size := by have := hg.size; rw [World.size_alloc] at this; omega
  have hss : W4.heap.size = W2.heap.size := by rw [e4]; simp [World.setCell]
  have hbl : ∀ b, b < W.heap.size → v.ownBlock ≠ some b → b ≠ bf → b ≠ b1 + 1 + 1 → W4.heap[b]? = W.heap[b]? := fun b hb h1 h2 h3 => by
    rw [e4, Below.heap_setCell _ _ _ _ h3, Below.heap_setCell _ _ _ _ h2, hg.block b (by rw [World.size_alloc]; omega) (fun e => h1 e.symm)]
    exact Below.heap_alloc _ _ _ hb
  have hvl : ∀ g, v.ownBlock = some g → b1 + 1 + 1 + 1 ≤ g := fun g hg' => (h.row.lt g hg').1
  have hvb : ∀ b, b ≤ b1 + 1 + 1 → v.ownBlock ≠ some b := fun b hb e => by have := hvl b e; omega
  have hn' : ∀ g, v'.ownBlock = some g → v.ownBlock = some g ∨ W.heap.size ≤ g := fun g e => by
    rcases hat with y | y
    · exact .inl (y ▸ e)
    · rw [y] at e; cases e; rw [World.size_alloc]; exact .inr (Nat.le_succ _)
  have hc2 : Whole W2 (b1 + 1 + 1) 38 #[c] := h.cb.same (by
    rw [hg.block _ (by rw [World.size_alloc]; omega) (fun e => hvb _ (Nat.le_refl _) e.symm)]; exact Below.heap_alloc _ _ _ hc3)
  have hf2 : Whole W2 bf 24 #[.int .i64 V, v] := h.f.same (by
    rw [hg.block _ (by rw [World.size_alloc]; omega) (fun e => hvb _ (by omega) e.symm)]; exact Below.heap_alloc _ _ _ hf3)
  have hin : InK (tkK X (b1 + 1 + 1) v (.slice none 0 0)) W (svs ++ [c]) (cellsR (L ++ [cur])) := by
    rw [show cellsR (L ++ [cur]) = cellsR L ++ [cur.map (Value.int .i64)] by simp [cellsR]]
    refine (h.ins.same (fun _ _ _ => rfl) (Nat.le_refl _) fun i hi => ?_).push (rowF_owns h.lits fun g hg' hk => ?_)
    · rcases hi with y | y | y | y
      · exact .inl (.inl y)
      · cases y
      · exact .inl (.inr (.inr (.inl y)))
      · exact .inl (.inr (.inr (.inr y)))
    · rcases hk with y | y | y | y
      · exact h.ne g y hg'
      · cases y
      · have := (h.lits.lt g hg').1; omega
      · exact h.xr g (.inr hg') y
  refine ⟨⟨?_, h.p.same (hbl _ h.p.lt (hvb _ (by omega)) (by omega) (by omega)), h.n.same (hbl _ h.n.lt (hvb _ (by omega)) (by omega) (by omega)), ?_, ?_, World.ownsRow_nil _ _ _ _, ?_, ?_, h.x, ?_, hlt, ⟨by simp; omega, by simp⟩⟩, ?_, ?_⟩
  · rw [e4]; exact (hf2.store 1 v').beside (by omega) _
  · rw [e4]; exact (hc2.beside (by omega) _).store 0 _
  · rw [List.length_append]
    exact owns_same hown fun g hg' => by rw [e4, Below.heap_setCell _ _ _ _ (by have := (hown.lt g hg').1; show g ≠ b1 + 1 + 1; omega), Below.heap_setCell _ _ _ _ (by have := (hown.lt g hg').1; show g ≠ bf; omega)]
  · intro g _ e; cases e
  · refine hin.same (fun b hb hn => hbl b hb (fun e => hn (.inl e)) (fun e => hn (.inr (.inr (.inl (by omega))))) (fun e => hn (.inr (.inr (.inl (by omega)))))) (by rw [hss]; exact hsz) fun i hi => ?_
    rcases hi with y | y | y | y
    · exact (hn' i y).imp .inl id
    · cases y
    · exact .inl (.inr (.inr (.inl y)))
    · exact .inl (.inr (.inr (.inr y)))
  · rintro g (y | y) hx
    · rcases hn' g y with z | z
      · exact h.xr g (.inl z) hx
      · have := hXW g hx; omega
    · cases y
  · rw [e4]
    exact ((((Below.refl bf W).alloc (by omega) o).grown hg (by rw [World.size_alloc]; omega) (fun k e => by have := hvl k e; omega)).setCell (p := ⟨bf, 1, none⟩) (by dsimp only; omega) _).setCell (p := ⟨b1 + 1 + 1, 0, none⟩) (by dsimp only; omega) _
  · exact ⟨by rw [hss]; exact hsz, fun x hx => hbl x (hXW x hx) (fun e => h.xr x (.inl e) hx) (fun e => h.x.1 (e ▸ hx)) (fun e => h.x.2.2.2 (e ▸ hx))⟩
end
/-- A goal at which the walk stops. -/
def StopG (p : Prop) : Prop := p
theorem stopG {p : Prop} (h : StopG p) : p := h
set_option maxRecDepth 100000 in
set_option maxHeartbeats 2000000 in
theorem take_word (x : List UInt8) (hx : x.length ≤ 4000000000) (hx1 : x ≠ [48]) {X : Nat → Prop} {bf b1 : Nat} {V C : Int} {L : List (List Int)} {cur : List Int} {v c : Value} {svs : List Value} {W : World} (h : Tk X bf b1 V C L cur v c svs W) (hXW : ∀ x, X x → x < W.heap.size) :
    Calls Tryz.prog 91 #[str x, .pointer (some ⟨b1, 0, none⟩), .pointer (some ⟨b1 + 1, 0, none⟩), .pointer (some ⟨b1 + 1 + 1, 0, none⟩)] W fun e W' => e = .returned (.int .i64 (takeE V C L cur x)) ∧ Below bf W W' ∧ SameX X W W' ∧
      (takeE V C L cur x = 0 → ∃ c', Tk X bf b1 V C L (cur ++ [readI x]) v c' svs W') := by
  obtain ⟨Av, cv, rfl⟩ := own_shape0 h.row
  obtain ⟨Ac, cc, rfl⟩ := own_shape0 h.lits
  obtain ⟨n, hn⟩ : ∃ n, L.length = n := ⟨_, rfl⟩
  obtain ⟨m, hm⟩ : ∃ m, cur.length = m := ⟨_, rfl⟩
  obtain ⟨E, hE⟩ : ∃ E, readE x = E := ⟨_, rfl⟩
  obtain ⟨l, hl⟩ : ∃ l, readI x = l := ⟨_, rfl⟩
  have hrd := fun W => read_any ⟨x.toArray⟩ W (by show x.toArray.size ≤ _; rw [List.size_toArray]; omega)
  dsimp only at hrd
  rw [hE, hl] at hrd
  have c0 : W.cell? ⟨bf, 0, none⟩ = some (.int .i64 V) := h.f.cell 0
  have c1 : W.cell? ⟨bf, 1, none⟩ = some (.slice Av n cv) := by rw [← hn]; exact h.f.cell 1
  have c2 : W.cell? ⟨b1, 0, none⟩ = some (.pointer (some ⟨bf, 0, none⟩)) := h.p.cell 0
  have c3 : W.cell? ⟨b1 + 1, 0, none⟩ = some (.int .i64 C) := h.n.cell 0
  have c4 : W.cell? ⟨b1 + 1 + 1, 0, none⟩ = some (.slice Ac m cc) := by rw [← hm]; exact h.cb.cell 0
  have f0 := h.f.frozen 1
  have f1 := h.cb.frozen 0
  have hxb : (x == [48]) = false := by simpa using hx1
  have hte : takeE V C L cur x = if E ≠ 0 then 61 else if V < varI l then 62 else if (n : Int) = C then 63 else if m = 4096 then 5 else 0 := by unfold takeE; rw [hE, hl, hn, hm]; simp only [hx1, ne_eq, not_false_eq_true, and_true, ↓reduceIte]
  obtain ⟨u, hu⟩ : ∃ u, varI l = u := ⟨_, rfl⟩
  have hva := fun W => var_any l W
  rw [hu] at hte hva
  obtain ⟨i0, hi, hz0, hz1, hz2⟩ := info_parts infoLit
  have hmn : m ≤ 4096 := hm ▸ h.len.2
  have hrow : W.ownsRow (b1 + 1 + 1 + 1) 39 1 (.slice Ac m cc) m (cur.map (Value.int .i64)) := by rw [← hm]; exact h.lits
  have hb3 : b1 + 1 + 1 < W.heap.size := h.cb.lt
  have hcb : Whole W (b1 + 1 + 1) 38 #[.slice Ac m cc] := by rw [← hm]; exact h.cb
  have HT := Lib.hid h; have HR := Lib.hid hrd; have HTe := Lib.hid hte; have HN := Lib.hid hn; have HM := Lib.hid hm; have HE := Lib.hid hE; have HL := Lib.hid hl; have HX := Lib.hid hXW; have HV := Lib.hid hva; have HRow := Lib.hid hrow; have HB3 := Lib.hid hb3; have HCb := Lib.hid hcb
  clear h hrd hte hn hm hE hl hXW hva hu hrow hb3 hx1 hcb
  go_enter Tryz.func91, Tryz.ntmps91
  go_wp2_with (go_at_call 92; refine (HR.out _).mono ?_; rintro e w' ⟨rfl, rfl⟩)
  · go_region_held3 (fun W' => W'.cell? ⟨b1, 0, none⟩ = some (.pointer (some ⟨bf, 0, none⟩)) ∧ W'.cell? ⟨bf, 0, none⟩ = some (.int .i64 V)) (go_keep) (first | (go_at_call 93; (with_reducible refine (HV.out _).mono ?_); rintro r w5 ⟨rfl, rfl⟩))
    all_goals go_simp
    all_goals go_wp2_with fail
    · rename_i hE0 _ hV0
      go_ret
      have ht : takeE V C L cur x = 62 := by rw [HTe.out, if_neg (fun h => h hE0), if_pos hV0]
      exact ⟨by rw [ht]; rfl, (Below.refl _ _).drew, SameX.refl _ _, fun h => by rw [ht] at h; cases h⟩
    go_region_held3 (fun W' => W'.cell? ⟨b1, 0, none⟩ = some (.pointer (some ⟨bf, 0, none⟩)) ∧ W'.cell? ⟨bf, 1, none⟩ = some (.slice Av n cv) ∧ W'.cell? ⟨b1 + 1, 0, none⟩ = some (.int .i64 C)) (go_keep) (fail)
    all_goals go_simp
    go_wp2_with (at_builtin; refine stopG ?_)
    · rename_i hE0 _ hV0 _ hn0
      go_ret
      have ht : takeE V C L cur x = 63 := by rw [HTe.out, if_neg (fun h => h hE0), if_neg (by omega), if_pos (by simpa using hn0)]
      exact ⟨by rw [ht]; rfl, (Below.refl _ _).drew.drew, SameX.refl _ _, fun h => by rw [ht] at h; cases h⟩
    · rename_i hE0 _ hV0 _ hn0 hm0
      go_ret
      have ht : takeE V C L cur x = 5 := by
        rw [HTe.out, if_neg (fun h => h hE0), if_neg (by omega), if_neg (by simpa using hn0), if_pos]
        have : (m : Int) = 4096 := by simpa using hm0
        omega
      exact ⟨by rw [ht]; rfl, (Below.refl _ _).drew.drew, SameX.refl _ _, fun h => by rw [ht] at h; cases h⟩
    · rename_i hE0 _ hV0 _ hn0 hm0
      unfold StopG
      refine wpList_append_own_at _ rfl _ _ 38 rfl (b1 + 1 + 1 + 1) 39 i0 (.int .i64 0) 1 8 Tryz.underlying38 hi hz0 hz1 hz2 rfl (by decide) (.slice Ac m cc) m (cur.map (Value.int .i64)) rfl (((HRow.out.alloc _).drew.drew)) ⟨W.heap.size, 0, none⟩ 1 1 [.int .i64 l] rfl rfl (World.news_of_block (cs := #[.int .i64 l]) (t := 39) (fr := (0, 0)) (heap_alloc_new W _)) (by simp [Value.oneCell']) (by unfold maxLen; omega) (by omega) (by have := HB3.out; simp; omega) ?_
      intro v5 w5 hown5 hg5 _ hat5
      obtain ⟨A5, c5, rfl⟩ := own_shape0 hown5
      have hw5 : Whole w5 (b1 + 1 + 1) 38 #[.slice Ac m cc] := (whole_drew (whole_drew (whole_alloc HCb.out _))).same (hg5.block (b1 + 1 + 1) (by have := HB3.out; simp; omega) (fun e => by have := (HRow.out.lt _ e.symm).1; omega))
      have q0 : w5.cell? ⟨b1 + 1 + 1, 0, none⟩ = some (.slice Ac m cc) := hw5.cell 0
      have q1 := hw5.frozen 0
      have HG5 := Lib.hid hg5
      have HO5 := Lib.hid hown5
      have HA5 := Lib.hid hat5
      clear hg5 hown5 hat5 hw5
      go_wp2_with fail
      go_ret
      have ht : takeE V C L cur x = 0 := by
        rw [HTe.out, if_neg (fun h => h hE0), if_neg (by omega), if_neg (by simpa using hn0), if_neg]
        have : ¬ (m : Int) = 4096 := by simpa using hm0
        omega
      have h2 := HT.out.grow (X' := X) ((Below.refl _ W).drew.drew) (fun _ => .inl)
      have hm1 : m + 1 ≤ 4096 := by
        have : ¬ (m : Int) = 4096 := by simpa using hm0
        omega
      rw [HM.out] at h2
      obtain ⟨p1, p2, p3⟩ := h2.lit HX.out (l := l) (o := .cells #[.int .i64 l] 39) (c' := .slice A5 (m + 1) c5) (W2 := w5) (by rw [HM.out]; exact HO5.out) HG5.out HA5.out (by rw [HM.out]; exact hm1)
      refine ⟨by rw [ht]; rfl, ((Below.refl bf W).drew.drew).trans p2, ⟨p3.1, p3.2⟩, fun _ => ⟨_, by rw [HL.out]; exact p1⟩⟩
  · rename_i hE0 _
    go_ret
    have ht : takeE V C L cur x = 61 := by rw [HTe.out, if_pos hE0]
    exact ⟨by rw [ht]; rfl, Below.refl _ _, SameX.refl _ _, fun h => by rw [ht] at h; cases h⟩
theorem infoCl : (Tryz.prog.info? 38).map (fun i => (i.zero, i.size, i.bytes)) = some (some (.slice none 0 0), 1, 24) := by kernel_rfl
set_option maxRecDepth 100000 in
set_option maxHeartbeats 4000000 in
theorem take_end {X : Nat → Prop} {bf b1 : Nat} {V C : Int} {L : List (List Int)} {cur : List Int} {v c : Value} {svs : List Value} {W : World} (h : Tk X bf b1 V C L cur v c svs W) (hXW : ∀ x, X x → x < W.heap.size) (hV : 0 ≤ V) (hC : (L.length : Int) ≤ C ∧ C ≤ 262144) :
    Calls Tryz.prog 91 #[str [48], .pointer (some ⟨b1, 0, none⟩), .pointer (some ⟨b1 + 1, 0, none⟩), .pointer (some ⟨b1 + 1 + 1, 0, none⟩)] W fun e W' => e = .returned (.int .i64 (takeE V C L cur [48])) ∧ Below bf W W' ∧ SameX X W W' ∧
      (takeE V C L cur [48] = 0 → ∃ v' svs', Tk X bf b1 V C (L ++ [cur]) [] v' (.slice none 0 0) svs' W') := by
  obtain ⟨Av, cv, rfl⟩ := own_shape0 h.row
  obtain ⟨Ac, cc, rfl⟩ := own_shape0 h.lits
  obtain ⟨n, hn⟩ : ∃ n, L.length = n := ⟨_, rfl⟩
  obtain ⟨m, hm⟩ : ∃ m, cur.length = m := ⟨_, rfl⟩
  have hE : readE [48] = 10 := by decide
  have hl : readI [48] = 0 := by decide
  have hrd := fun W => read_any ⟨#[48]⟩ W (by decide)
  dsimp only at hrd
  rw [hE, hl] at hrd
  have c0 : W.cell? ⟨bf, 0, none⟩ = some (.int .i64 V) := h.f.cell 0
  have c1 : W.cell? ⟨bf, 1, none⟩ = some (.slice Av n cv) := by rw [← hn]; exact h.f.cell 1
  have c2 : W.cell? ⟨b1, 0, none⟩ = some (.pointer (some ⟨bf, 0, none⟩)) := h.p.cell 0
  have c3 : W.cell? ⟨b1 + 1, 0, none⟩ = some (.int .i64 C) := h.n.cell 0
  have c4 : W.cell? ⟨b1 + 1 + 1, 0, none⟩ = some (.slice Ac m cc) := by rw [← hm]; exact h.cb.cell 0
  have f0 := h.f.frozen 1
  have f1 := h.cb.frozen 0
  have hte : takeE V C L cur [48] = if (n : Int) = C then 63 else 0 := by
    unfold takeE
    rw [if_neg (fun h => h.2 rfl), hl, show varI 0 = 0 by decide, if_neg (by omega), hn]
    rfl
  have hva := fun W => var_any 0 W
  rw [show varI 0 = 0 by decide] at hva
  obtain ⟨i0, hi, hz0, hz1, hz2⟩ := info_parts infoCl
  have hnn : n ≤ 262144 := hn ▸ h.len.1
  have hV0 : ¬ V < 0 := by omega
  have hrow : W.ownsRow (b1 + 1 + 1 + 1) 38 1 (.slice Av n cv) n svs := by rw [← hn]; exact h.row
  have hb3 : b1 + 1 + 1 < W.heap.size := h.cb.lt
  have hcb : Whole W (b1 + 1 + 1) 38 #[.slice Ac m cc] := by rw [← hm]; exact h.cb
  have hfb : Whole W bf 24 #[.int .i64 V, .slice Av n cv] := by rw [← hn]; exact h.f
  have hlt := h.lt
  have hC2 := hC.2
  have HT := Lib.hid h; have HR := Lib.hid hrd; have HTe := Lib.hid hte; have HN := Lib.hid hn; have HM := Lib.hid hm; have HX := Lib.hid hXW; have HV := Lib.hid hva; have HRow := Lib.hid hrow; have HB3 := Lib.hid hb3; have HCb := Lib.hid hcb; have HFb := Lib.hid hfb; have HLt := Lib.hid hlt; have HC := Lib.hid hC
  clear h hrd hte hn hm hE hl hXW hva hrow hb3 hcb hfb hlt hC
  go_enter Tryz.func91, Tryz.ntmps91
  go_wp2_with (go_at_call 92; refine (HR.out _).mono ?_; rintro e w' ⟨rfl, rfl⟩)
  go_region_held3 (fun W' => W'.cell? ⟨b1, 0, none⟩ = some (.pointer (some ⟨bf, 0, none⟩)) ∧ W'.cell? ⟨bf, 0, none⟩ = some (.int .i64 V)) (go_keep) (first | (go_at_call 93; (with_reducible refine (HV.out _).mono ?_); rintro r w5 ⟨rfl, rfl⟩))
  all_goals go_simp
  all_goals go_wp2_with fail
  go_region_held3 (fun W' => W'.cell? ⟨b1, 0, none⟩ = some (.pointer (some ⟨bf, 0, none⟩)) ∧ W'.cell? ⟨bf, 1, none⟩ = some (.slice Av n cv) ∧ W'.cell? ⟨b1 + 1, 0, none⟩ = some (.int .i64 C)) (go_keep) (fail)
  all_goals go_simp
  go_wp2_with fail
  · rename_i hn0
    go_ret
    have ht : takeE V C L cur [48] = 63 := by rw [HTe.out, if_pos (by simpa using hn0)]
    exact ⟨by rw [ht]; rfl, (Below.refl _ _).drew.drew, SameX.refl _ _, fun h => by rw [ht] at h; cases h⟩
  · rename_i hn0 _ _
    have s1 : W.drew.drew.drew.cell? ⟨b1, 0, none⟩ = some (.pointer (some ⟨bf, 0, none⟩)) := c2
    have s3 : W.drew.drew.drew.cell? ⟨b1 + 1 + 1, 0, none⟩ = some (.slice Ac m cc) := c4
    have t1 : (W.alloc (.cells #[.slice Ac m cc] 38)).cell? ⟨b1, 0, none⟩ = some (.pointer (some ⟨bf, 0, none⟩)) := (whole_alloc HT.out.p _).cell 0
    have t3 : (W.alloc (.cells #[.slice Ac m cc] 38)).cell? ⟨b1 + 1 + 1, 0, none⟩ = some (.slice Ac m cc) := (whole_alloc HCb.out _).cell 0
    have t4 : (W.alloc (.cells #[.slice Ac m cc] 38)).cell? ⟨bf, 1, none⟩ = some (.slice Av n cv) := (whole_alloc HFb.out _).cell 1
    refine wp_region_held_drew (S := fun W' => W'.cell? ⟨b1, 0, none⟩ = some (.pointer (some ⟨bf, 0, none⟩)) ∧ W'.cell? ⟨b1 + 1 + 1, 0, none⟩ = some (.slice Ac m cc)) (by kernel_rfl) ⟨s1, s3⟩ (fun _ => ?_)
    refine wpAnyH_take (i := 0) (v := .pointer (some ⟨bf, 0, none⟩)) rfl (by kernel_rfl) (by kernel_rfl) (by kernel_rfl) (fun _ _ _ h => h) (Or.inl ⟨by kernel_rfl, fun w s => by obtain ⟨s1, s2⟩ := s; go_simp⟩) ⟨s1, s3⟩ ?_
    refine wpAnyH_take (i := 1) (v := .pointer (some ⟨bf, 0, none⟩)) rfl (by kernel_rfl) (by kernel_rfl) (by kernel_rfl) (fun _ _ _ h => h) (Or.inl ⟨by kernel_rfl, fun w s => by obtain ⟨s1, s2⟩ := s; go_simp⟩) ⟨s1, s3⟩ ?_
    refine wpAnyH_take (i := 2) (v := .pointer (some ⟨bf, 0, none⟩)) rfl (by kernel_rfl) (by kernel_rfl) (by kernel_rfl) (fun _ _ _ h => h) (Or.inl ⟨by kernel_rfl, fun w s => by go_simp⟩) ⟨s1, s3⟩ ?_
    refine wpAnyH_take (i := 3) (v := .pointer (some ⟨bf, 1, none⟩)) rfl (by kernel_rfl) (by kernel_rfl) (by kernel_rfl) (fun _ _ _ h => h) (Or.inl ⟨by kernel_rfl, fun w s => by go_simp⟩) ⟨s1, s3⟩ ?_
    refine wpAnyH_take (i := 5) (v := .slice Ac m cc) rfl (by kernel_rfl) (by kernel_rfl) (by kernel_rfl) (fun _ _ _ h => h) (Or.inl ⟨by kernel_rfl, fun w s => by obtain ⟨s1, s2⟩ := s; go_simp⟩) ⟨s1, s3⟩ ?_
    refine wpAnyH_ready (rs := [4, 6]) (by kernel_rfl) (by simp) (AllReadyH.cons rfl (fun K hK => ?_) (AllReadyH.cons rfl (fun K hK => ?_) AllReadyH.nil))
    go_simp
    refine hK.out _ _ ⟨s1, s3⟩ (fun _ => ?_)
    clear hK K
    refine wpAnyH_ready (rs := [6]) (by kernel_rfl) (by simp) (AllReadyH.cons rfl (fun K hK => ?_) AllReadyH.nil)
    go_simp
    refine hK.out _ _ ⟨t1, t3⟩ (fun _ => ?_)
    clear hK K
    rotate_left
    go_simp
    refine hK.out _ _ ⟨t1, t3⟩ (fun _ => ?_)
    clear hK K
    refine wpAnyH_ready (rs := [4]) (by kernel_rfl) (by simp) (AllReadyH.cons rfl (fun K hK => ?_) AllReadyH.nil)
    go_simp
    refine hK.out _ _ ⟨t1, t3⟩ (fun _ => ?_)
    clear hK K
    all_goals
      clear s1 s3 t1 t3 t4
      refine wpAnyH_ready (rs := [7]) (by kernel_rfl) (by simp) (AllReadyH.cons rfl (fun K hK => ?_) AllReadyH.nil)
      refine step_append_lies _ (by rfl) _ _ 22 (by rfl) (b1 + 1 + 1 + 1) 38 i0 _ 1 24 Tryz.underlying22 hi hz0 hz1 hz2 (by rfl) (by decide) (.slice Av n cv) n svs (by rfl) ((HRow.out.alloc _).drew.drew.drew) ⟨W.heap.size, 0, none⟩ 1 1 [.slice Ac m cc] (by rfl) (by rfl) (World.news_of_block (cs := #[.slice Ac m cc]) (t := 38) (fr := (0, 0)) (heap_alloc_new W _)) (by simp [Value.oneCell']) (by decide) (by unfold maxLen; omega) (by omega) (by have := HB3.out; simp; omega) _ rfl ?_
      intro gg cap w7 hown7 hg7 hloc hl7
      have hsm : ∀ b, b ≤ b1 + 1 + 1 → w7.heap[b]? = (W.alloc (.cells #[.slice Ac m cc] 38)).drew.drew.drew.heap[b]? := fun b hb => hg7.block b (by have := HB3.out; simp; omega) (fun e => by have := (HRow.out.lt _ e.symm).1; omega)
      have hp7 := (whole_drew (whole_drew (whole_drew (whole_alloc HT.out.p (.cells #[.slice Ac m cc] 38))))).same (hsm _ (by omega))
      have hc7 := (whole_drew (whole_drew (whole_drew (whole_alloc HCb.out (.cells #[.slice Ac m cc] 38))))).same (hsm _ (by omega))
      have hf7 := (whole_drew (whole_drew (whole_drew (whole_alloc HFb.out (.cells #[.slice Ac m cc] 38))))).same (hsm _ (by have := HLt.out; omega))
      have s1 : w7.cell? ⟨b1, 0, none⟩ = some (.pointer (some ⟨bf, 0, none⟩)) := hp7.cell 0
      have s3 : w7.cell? ⟨b1 + 1 + 1, 0, none⟩ = some (.slice Ac m cc) := hc7.cell 0
      have s4 : w7.cell? ⟨bf, 1, none⟩ = some (.slice Av n cv) := hf7.cell 1
      have s5 := hf7.frozen 1
      have hf8 := hf7.store 1 (.slice (some ⟨gg, 0, none⟩) (n + 1) cap)
      have hp8 := hp7.beside (b := bf) (i := 1) (by have := HLt.out; omega) (.slice (some ⟨gg, 0, none⟩) (n + 1) cap)
      have hc8 := hc7.beside (b := bf) (i := 1) (by have := HLt.out; omega) (.slice (some ⟨gg, 0, none⟩) (n + 1) cap)
      have r1 : (w7.setCell ⟨bf, 1, none⟩ (.slice (some ⟨gg, 0, none⟩) (n + 1) cap)).cell? ⟨b1, 0, none⟩ = some (.pointer (some ⟨bf, 0, none⟩)) := hp8.cell 0
      have r3 : (w7.setCell ⟨bf, 1, none⟩ (.slice (some ⟨gg, 0, none⟩) (n + 1) cap)).cell? ⟨b1 + 1 + 1, 0, none⟩ = some (.slice Ac m cc) := hc8.cell 0
      have r4 := hc8.frozen 0
      have HO7 := Lib.hid hown7; have HG7 := Lib.hid hg7; have HLo := Lib.hid hloc
      clear hown7 hg7 hloc hsm hp7 hc7 hf7 hf8 hp8 hc8
      refine hK.out _ _ ⟨s1, s3⟩ (fun _ => ?_)
      clear hK K
      refine wpAnyH_take (i := 8) (v := .pointer (some ⟨bf, 0, none⟩)) rfl (by kernel_rfl) (by kernel_rfl) (by kernel_rfl) (fun _ _ _ h => h) (Or.inl ⟨by kernel_rfl, fun w s => by go_simp⟩) ⟨s1, s3⟩ ?_
      refine wpAnyH_take (i := 9) (v := .pointer (some ⟨bf, 1, none⟩)) rfl (by kernel_rfl) (by kernel_rfl) (by kernel_rfl) (fun _ _ _ h => h) (Or.inl ⟨by kernel_rfl, fun w s => by go_simp⟩) ⟨s1, s3⟩ ?_
      refine wpAnyH_ready (rs := [10]) (by kernel_rfl) (by simp) (AllReadyH.cons rfl (fun K hK => ?_) AllReadyH.nil)
      go_simp
      refine hK.out _ _ ⟨r1, r3⟩ (fun _ => ?_)
      clear hK K
      refine wpAnyH_done (by kernel_rfl) ?_ _
      go_wp2_with fail
      go_ret
      have hnC : ¬ (n : Int) = C := by simpa using hn0
      have ht : takeE V C L cur [48] = 0 := by rw [HTe.out, if_neg hnC]
      have h2 := HT.out.grow (X' := X) ((Below.refl _ W).drew.drew.drew) (fun _ => .inl)
      have hC1 := HC.out.1
      rw [HN.out] at hC1
      rw [HN.out, HM.out] at h2
      obtain ⟨p1, p2, p3⟩ := h2.clause HX.out (o := .cells #[.slice Ac m cc] 38) (v' := .slice (some ⟨gg, 0, none⟩) (n + 1) cap) (W2 := w7) (by rw [HN.out]; exact HO7.out) HG7.out (HLo.out.imp Eq.symm (fun e => by rw [e]; rfl)) (by rw [HN.out]; omega) rfl
      exact ⟨by rw [ht]; rfl, ((Below.refl bf W).drew.drew.drew).trans p2, ⟨p3.1, p3.2⟩, fun _ => ⟨_, _, p1⟩⟩
end Go.Proofs.YticcgmegimiegaaGreatDoor
