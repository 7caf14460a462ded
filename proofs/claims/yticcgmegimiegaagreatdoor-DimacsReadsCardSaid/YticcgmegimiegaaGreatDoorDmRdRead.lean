/- A formula that the reference reads. -/
/- The reference's Read of formulas: its walk. -/
import Derived.Test.YticcgmegimiegaaGreatDoorDmRdSplit
import Derived.Test.YticcgmegimiegaaGreatDoorDmTaking
import Derived.Test.YticcgmegimiegaaGreatDoorDmEv
import Derived.Test.YticcgmegimiegaaGreatDoorRef02
namespace Go.Proofs.YticcgmegimiegaaGreatDoor
open Go.RowKit Go.ChangeAt Go.ChangeShapes Go.WideShapes Go.Shelf Go.Sort

/-- What is not to be touched by others. -/
def rkK (X : Nat → Prop) (bo : Nat) (v c : Value) (i : Nat) : Prop := v.ownBlock = some i ∨ c.ownBlock = some i ∨ i ≤ bo ∨ X i
/-- Its block is bo, its clauses are L; of the next one cur was read. No block of it is one of X. -/
structure Rk (X : Nat → Prop) (bo : Nat) (V : Int) (L : List (List Int)) (cur : List Int) (v c : Value) (svs : List Value) (W : World) : Prop where
  f : Whole W bo 69 #[.int .i64 V, v]
  row : W.ownsRow (bo + 1) 30 1 v L.length svs
  lits : W.ownsRow (bo + 1) 3 1 c cur.length (cur.map (Value.int .i64))
  ne : ∀ g, v.ownBlock = some g → c.ownBlock ≠ some g
  ins : InK (rkK X bo v c) W svs (cellsR L)
  x : ¬ X bo
  xr : ∀ g, v.ownBlock = some g ∨ c.ownBlock = some g → ¬ X g
  len : L.length ≤ 262144 ∧ cur.length ≤ 4096
section
variable {X : Nat → Prop} {bo : Nat} {V : Int} {L : List (List Int)} {cur : List Int} {v c : Value} {svs : List Value} {W W' : World}
/-- The world grows, and the new blocks are theirs. -/
theorem Rk.grow (h : Rk X bo V L cur v c svs W) (hb : Below W.heap.size W W') {X' : Nat → Prop} (hX : ∀ x, X' x → X x ∨ W.heap.size ≤ x) : Rk X' bo V L cur v c svs W' := by
  have hx : ∀ x, x < W.heap.size → ¬ X x → ¬ X' x := fun x hl hn hx' => by
    rcases hX x hx' with y | y
    · exact hn y
    · omega
  exact ⟨h.f.same (hb.block _ h.f.lt), owns_same h.row fun g hg => hb.block g (h.row.lt g hg).2, owns_same h.lits fun g hg => hb.block g (h.lits.lt g hg).2, h.ne,
   h.ins.same (fun b hl _ => hb.block b hl) hb.size (fun i hi => by
    rcases hi with y | y | y | y
    · exact .inl (.inl y)
    · exact .inl (.inr (.inl y))
    · exact .inl (.inr (.inr (.inl y)))
    · exact (hX i y).imp (fun z => .inr (.inr (.inr z))) id),
   hx _ h.f.lt h.x, fun g hg => hx g (hg.elim (fun y => (h.row.lt g y).2) (fun y => (h.lits.lt g y).2)) (h.xr g hg), h.len⟩
/-- The number of the variables. -/
theorem Rk.vars (h : Rk X bo V L cur v c svs W) (V' : Int) : Rk X bo V' L cur v c svs (W.setCell ⟨bo, 0, none⟩ (.int .i64 V')) ∧ Below bo W (W.setCell ⟨bo, 0, none⟩ (.int .i64 V')) ∧ SameX X W (W.setCell ⟨bo, 0, none⟩ (.int .i64 V')) := by
  have hss : (W.setCell ⟨bo, 0, none⟩ (.int .i64 V')).heap.size = W.heap.size := by simp [World.setCell]
  have hbl : ∀ b, b ≠ bo → (W.setCell ⟨bo, 0, none⟩ (.int .i64 V')).heap[b]? = W.heap[b]? := fun b h2 => Below.heap_setCell _ _ _ _ h2
  refine ⟨⟨h.f.store 0 _, owns_same h.row fun g hg => hbl g (by have := (h.row.lt g hg).1; omega), owns_same h.lits fun g hg => hbl g (by have := (h.lits.lt g hg).1; omega), h.ne,
    h.ins.same (fun b _ hn => hbl b (fun e => hn (.inr (.inr (.inl (by omega)))))) (by rw [hss]; exact Nat.le_refl _) (fun _ => .inl), h.x, h.xr, h.len⟩, ?_, ?_⟩
  · exact (Below.refl bo W).setCell (p := ⟨bo, 0, none⟩) (Nat.le_refl _) _
  · exact ⟨by rw [hss]; exact Nat.le_refl _, fun x hx => hbl x (fun e => h.x (e ▸ hx))⟩
/-- One more literal. -/
theorem Rk.lit (h : Rk X bo V L cur v c svs W) (hXW : ∀ x, X x → x < W.heap.size) {l : Int} {o : Obj} {c' : Value} {W2 : World} (hown : W2.ownsRow (bo + 1) 3 1 c' (cur.length + 1) (cur.map (Value.int .i64) ++ [.int .i64 l]))
    (hg : (W.alloc o).grownBy W2 c.ownBlock) (hat : c'.ownBlock = c.ownBlock ∨ c'.ownBlock = some (W.alloc o).heap.size) (hl : cur.length + 1 ≤ 4096) :
    Rk X bo V L (cur ++ [l]) v c' svs W2 ∧ Below bo W W2 ∧ SameX X W W2 := by
  have hf3 := h.f.lt
  have hsz : W.heap.size ≤ W2.heap.size := by have := hg.size; rw [World.size_alloc] at this; omega
  have hbl : ∀ b, b < W.heap.size → c.ownBlock ≠ some b → W2.heap[b]? = W.heap[b]? := fun b hb h1 => by
    rw [hg.block b (by rw [World.size_alloc]; omega) (fun e => h1 e.symm)]
    exact Below.heap_alloc _ _ _ hb
  have hcl : ∀ g, c.ownBlock = some g → bo + 1 ≤ g := fun g hg' => (h.lits.lt g hg').1
  have hcb : ∀ b, b ≤ bo → c.ownBlock ≠ some b := fun b hb e => by have := hcl b e; omega
  have hn' : ∀ g, c'.ownBlock = some g → c.ownBlock = some g ∨ W.heap.size ≤ g := fun g e => by
    rcases hat with y | y
    · exact .inl (y ▸ e)
    · rw [y] at e; cases e; rw [World.size_alloc]; exact .inr (Nat.le_succ _)
  refine ⟨⟨h.f.same (hbl _ h.f.lt (hcb _ (Nat.le_refl _))), owns_same h.row fun g hg' => hbl g (h.row.lt g hg').2 (h.ne g hg'), ?_, ?_, ?_, h.x, ?_, ⟨h.len.1, by simp; omega⟩⟩, ?_, ?_⟩
  · rw [List.length_append, List.map_append]
    exact hown
  · intro g hg' e
    rcases hn' g e with y | y
    · exact h.ne g hg' y
    · have := (h.row.lt g hg').2; omega
  · refine h.ins.same (fun b hb hn => hbl b hb (fun e => hn (.inr (.inl e)))) hsz fun i hi => ?_
    rcases hi with y | y | y | y
    · exact .inl (.inl y)
    · exact (hn' i y).imp (fun z => .inr (.inl z)) id
    · exact .inl (.inr (.inr (.inl y)))
    · exact .inl (.inr (.inr (.inr y)))
  · rintro g (y | y) hx
    · exact h.xr g (.inl y) hx
    · rcases hn' g y with z | z
      · exact h.xr g (.inr z) hx
      · have := hXW g hx; omega
  · exact ((Below.refl bo W).alloc (by omega) o).grown hg (by rw [World.size_alloc]; omega) (fun k e => by have := hcl k e; omega)
  · exact ⟨hsz, fun x hx => hbl x (hXW x hx) (fun e => h.xr x (.inr e) hx)⟩
/-- One more clause. -/
theorem Rk.clause (h : Rk X bo V L cur v c svs W) (hXW : ∀ x, X x → x < W.heap.size) {o : Obj} {v' : Value} {W2 : World} (hown : W2.ownsRow (bo + 1) 30 1 v' (L.length + 1) (svs ++ [c]))
    (hg : (W.alloc o).grownBy W2 v.ownBlock) (hat : v'.ownBlock = v.ownBlock ∨ v'.ownBlock = some (W.alloc o).heap.size) (hl : L.length + 1 ≤ 262144) {W4 : World} (e4 : W4 = W2.setCell ⟨bo, 1, none⟩ v') :
    Rk X bo V (L ++ [cur]) [] v' (.slice none 0 0) (svs ++ [c]) W4 ∧ Below bo W W4 ∧ SameX X W W4 := by
  have hf3 := h.f.lt
  have hsz : W.heap.size ≤ W2.heap.size := by have := hg.size; rw [World.size_alloc] at this; omega
  have hss : W4.heap.size = W2.heap.size := by rw [e4]; simp [World.setCell]
  have hbl : ∀ b, b < W.heap.size → v.ownBlock ≠ some b → b ≠ bo → W4.heap[b]? = W.heap[b]? := fun b hb h1 h2 => by
    rw [e4, Below.heap_setCell _ _ _ _ h2, hg.block b (by rw [World.size_alloc]; omega) (fun e => h1 e.symm)]
    exact Below.heap_alloc _ _ _ hb
  have hvl : ∀ g, v.ownBlock = some g → bo + 1 ≤ g := fun g hg' => (h.row.lt g hg').1
  have hvb : ∀ b, b ≤ bo → v.ownBlock ≠ some b := fun b hb e => by have := hvl b e; omega
  have hn' : ∀ g, v'.ownBlock = some g → v.ownBlock = some g ∨ W.heap.size ≤ g := fun g e => by
    rcases hat with y | y
    · exact .inl (y ▸ e)
    · rw [y] at e; cases e; rw [World.size_alloc]; exact .inr (Nat.le_succ _)
  have hf2 : Whole W2 bo 69 #[.int .i64 V, v] := h.f.same (by
    rw [hg.block _ (by rw [World.size_alloc]; omega) (fun e => hvb _ (Nat.le_refl _) e.symm)]; exact Below.heap_alloc _ _ _ hf3)
  have hin : InK (rkK X bo v (.slice none 0 0)) W (svs ++ [c]) (cellsR (L ++ [cur])) := by
    rw [show cellsR (L ++ [cur]) = cellsR L ++ [cur.map (Value.int .i64)] by simp [cellsR]]
    refine (h.ins.same (fun _ _ _ => rfl) (Nat.le_refl _) fun i hi => ?_).push (rowF_owns h.lits fun g hg' hk => ?_)
    · rcases hi with y | y | y | y
      · exact .inl (.inl y)
      · cases y
      · exact .inl (.inr (.inr (.inl y)))
      · exact .inl (.inr (.inr (.inr y)))
    · rcases hk with y | y | y | y
      · exact h.ne g y hg'
      · cases y
      · have := (h.lits.lt g hg').1; omega
      · exact h.xr g (.inr hg') y
  refine ⟨⟨?_, ?_, World.ownsRow_nil _ _ _ _, ?_, ?_, h.x, ?_, ⟨by simp; omega, by simp⟩⟩, ?_, ?_⟩
  · rw [e4]; exact hf2.store 1 v'
  · rw [List.length_append]
    exact owns_same hown fun g hg' => by rw [e4, Below.heap_setCell _ _ _ _ (by have := (hown.lt g hg').1; show g ≠ bo; omega)]
  · intro g _ e; cases e
  · refine hin.same (fun b hb hn => hbl b hb (fun e => hn (.inl e)) (fun e => hn (.inr (.inr (.inl (by omega)))))) (by rw [hss]; exact hsz) fun i hi => ?_
    rcases hi with y | y | y | y
    · exact (hn' i y).imp .inl id
    · cases y
    · exact .inl (.inr (.inr (.inl y)))
    · exact .inl (.inr (.inr (.inr y)))
  · rintro g (y | y) hx
    · rcases hn' g y with z | z
      · exact h.xr g (.inl z) hx
      · have := hXW g hx; omega
    · cases y
  · rw [e4]
    exact (((Below.refl bo W).alloc (by omega) o).grown hg (by rw [World.size_alloc]; omega) (fun k e => by have := hvl k e; omega)).setCell (p := ⟨bo, 1, none⟩) (Nat.le_refl _) _
  · exact ⟨by rw [hss]; exact hsz, fun x hx => hbl x (hXW x hx) (fun e => h.xr x (.inl e) hx) (fun e => h.x (e ▸ hx))⟩
end
end Go.Proofs.YticcgmegimiegaaGreatDoor
namespace Go.Proofs.YticcgmegimiegaaGreatDoor
open Go.RowKit Go.ChangeAt Go.ChangeShapes Go.WideShapes Go.Shelf Go.Sort

/-- What the reference says of a word is what taking says. -/
theorem rk_cases {V C : Int} {L : List (List Int)} {cur : List Int} {x : List UInt8} (hL : (L.length : Int) ≤ C) (hc : ∀ l ∈ cur, litB l = true) (hm : cur.length ≤ 4096) :
    (readI x = 0 ∧ x ≠ [48] ∧ takeE V C L cur x = 61) ∨ ((readI x ≠ 0 ∨ x = [48]) ∧ V < varI (readI x) ∧ takeE V C L cur x = 62) ∨
    ((readI x ≠ 0 ∨ x = [48]) ∧ ¬ V < varI (readI x) ∧ C ≤ (L.length : Int) ∧ takeE V C L cur x = 63) ∨
    (readI x = 0 ∧ x = [48] ∧ ¬ V < varI (readI x) ∧ ¬ C ≤ (L.length : Int) ∧ takeE V C L cur x = 0 ∧ takeN L cur x = (L ++ [cur], [])) ∨
    (readI x ≠ 0 ∧ x ≠ [48] ∧ ¬ V < varI (readI x) ∧ ¬ C ≤ (L.length : Int) ∧ rightB (cur ++ [readI x]) = false ∧ takeE V C L cur x = 5) ∨
    (readI x ≠ 0 ∧ x ≠ [48] ∧ ¬ V < varI (readI x) ∧ ¬ C ≤ (L.length : Int) ∧ rightB (cur ++ [readI x]) = true ∧ cur.length + 1 ≤ 4096 ∧ takeE V C L cur x = 0 ∧ takeN L cur x = (L, cur ++ [readI x]) ∧ litB (readI x) = true) := by
  by_cases h0 : x = [48]
  · have hr : readI x = 0 := by rw [h0]; decide
    unfold takeE
    rw [if_neg (fun h => h.2 h0)]
    by_cases h1 : V < varI (readI x)
    · exact .inr (.inl ⟨.inr h0, h1, by rw [if_pos h1]⟩)
    · rw [if_neg h1]
      by_cases h2 : (L.length : Int) = C
      · exact .inr (.inr (.inl ⟨.inr h0, h1, by omega, by rw [if_pos h2]⟩))
      · refine .inr (.inr (.inr (.inl ⟨hr, h0, h1, by omega, by rw [if_neg h2, if_pos h0], ?_⟩)))
        unfold takeN
        rw [if_pos h0]
  · rcases of_ie' x with ⟨he, hne, h5, h6, h8⟩ | ⟨he, hz⟩
    · have hlit : litB (readI x) = true := by
        refine litB_yes hne ?_ ?_ <;> rw [h8] <;> split <;> omega
      have hT : takeE V C L cur x = if V < varI (readI x) then 62 else if (L.length : Int) = C then 63 else if cur.length = 4096 then 5 else 0 := by
        unfold takeE
        rw [if_neg (fun h => h.1 he), if_neg h0]
      rw [hT]
      by_cases h1 : V < varI (readI x)
      · exact .inr (.inl ⟨.inl hne, h1, by rw [if_pos h1]⟩)
      · rw [if_neg h1]
        by_cases h2 : (L.length : Int) = C
        · exact .inr (.inr (.inl ⟨.inl hne, h1, by omega, by rw [if_pos h2]⟩))
        · rw [if_neg h2]
          by_cases h3 : cur.length = 4096
          · refine .inr (.inr (.inr (.inr (.inl ⟨hne, h0, h1, by omega, ?_, by rw [if_pos h3]⟩))))
            cases hr : rightB (cur ++ [readI x])
            · rfl
            · have := (rightB_of hr).1
              rw [List.length_append, h3] at this
              simp at this
          · refine .inr (.inr (.inr (.inr (.inr ⟨hne, h0, h1, by omega, rightB_mk (by rw [List.length_append]; simp; omega) ?_, by omega, by rw [if_neg h3], ?_, hlit⟩))))
            · intro l hl
              rcases List.mem_append.1 hl with hl | hl
              · exact hc l hl
              · rw [List.mem_singleton.1 hl]; exact hlit
            · unfold takeN
              rw [if_neg h0]
    · refine .inl ⟨hz, h0, ?_⟩
      unfold takeE
      rw [if_pos ⟨by rw [he]; decide, h0⟩]
/-- What is answered. -/
def RfE (w : World) (x : (Nat × Int) ⊕ (Int × List (List Int))) (e : Ending) (w' : World) : Prop := match x with
  | .inl x => e = .returned (.tuple #[.agg #[.int .i64 0, .slice none 0 0], .int .i64 x.1, .int .i64 x.2])
  | .inr x => ∃ v, e = .returned (.tuple #[.agg #[.int .i64 x.1, v], .int .i64 0, .int .i64 0]) ∧ OwnRows 30 w.heap.size w' v (cellsR x.2)
/-- What lies where while lines are read. -/
structure Rl (w : World) (X : Nat → Prop) (bo : Nat) (V : Int) (L : List (List Int)) (cur : List Int) (v c : Value) (svs : List Value) (lb : Nat) (ls : List (List UInt8)) (W : World) : Prop where
  r : Whole W w.heap.size 69 #[.int .i64 0, .slice none 0 0]
  z : Whole W (w.heap.size + 1) 69 #[.int .i64 0, .slice none 0 0]
  ln : ∀ (j : Nat) (x : List UInt8), ls[j]? = some x → W.cell? ⟨lb, j, none⟩ = some (str x)
  lo : w.heap.size + 1 < bo ∧ lb < bo
  k : Rk X bo V L cur v c svs W
  b : Below w.heap.size w W
section
variable {w : World} {X X' : Nat → Prop} {bo : Nat} {V V' : Int} {L L' : List (List Int)} {cur cur' : List Int} {v c v' c' : Value} {svs svs' : List Value} {lb : Nat} {ls : List (List UInt8)} {W W' : World}
theorem Rl.next (h : Rl w X bo V L cur v c svs lb ls W) (hk : Rk X' bo V' L' cur' v' c' svs' W') (hb : Below bo W W') : Rl w X' bo V' L' cur' v' c' svs' lb ls W' :=
  ⟨h.r.same (hb.block _ (by have := h.lo; omega)), h.z.same (hb.block _ (by have := h.lo; omega)), fun j x hx => (hb.cell (p := ⟨lb, j, none⟩) h.lo.2).trans (h.ln j x hx), h.lo, hk, h.b.trans (hb.mono (by have := h.lo; omega))⟩
theorem Rl.grow (h : Rl w X bo V L cur v c svs lb ls W) (hb : Below W.heap.size W W') (hX : ∀ x, X' x → X x ∨ W.heap.size ≤ x) : Rl w X' bo V L cur v c svs lb ls W' :=
  h.next (h.k.grow hb hX) (hb.mono (by have := h.k.f.lt; omega))
/-- The answer to a fault lies there. -/
theorem Rl.ret (h : Rl w X bo V L cur v c svs lb ls W) : Whole ((W.setCell ⟨w.heap.size, 0, none⟩ (.int .i64 0)).setCell ⟨w.heap.size, 1, none⟩ (.slice none 0 0)) w.heap.size 69 #[.int .i64 0, .slice none 0 0] ∧ Below w.heap.size w ((W.setCell ⟨w.heap.size, 0, none⟩ (.int .i64 0)).setCell ⟨w.heap.size, 1, none⟩ (.slice none 0 0)) :=
  ⟨(h.r.store 0 (.int .i64 0)).store 1 (.slice none 0 0), (h.b.setCell (p := ⟨w.heap.size, 0, none⟩) (Nat.le_refl _) _).setCell (p := ⟨w.heap.size, 1, none⟩) (Nat.le_refl _) _⟩
/-- Behind an append to the clause that is begun. -/
theorem Rk.low (h : Rk X bo V L cur v c svs W) {o : Obj} {W2 : World} (hg : (W.alloc o).grownBy W2 c.ownBlock) : Below bo W W2 := by
  have hf3 := h.f.lt
  exact ((Below.refl bo W).alloc (by omega) o).grown hg (by rw [World.size_alloc]; omega) (fun k e => by have := (h.lits.lt k e).1; omega)
theorem Rl.low (h : Rl w X bo V L cur v c svs lb ls W) (hb : Below bo W W') : (W'.cell? ⟨w.heap.size + 1, 0, none⟩ = some (.int .i64 0) ∧ W'.cell? ⟨w.heap.size + 1, 1, none⟩ = some (.slice none 0 0)) ∧ (W'.cell? ⟨w.heap.size, 0, none⟩ = some (.int .i64 0) ∧ (W'.setCell ⟨w.heap.size, 0, none⟩ (.int .i64 0)).cell? ⟨w.heap.size, 1, none⟩ = some (.slice none 0 0)) ∧
    (W'.frozen? ⟨w.heap.size, 0, none⟩ = false ∧ (W'.setCell ⟨w.heap.size, 0, none⟩ (.int .i64 0)).frozen? ⟨w.heap.size, 1, none⟩ = false) ∧
    Whole ((W'.setCell ⟨w.heap.size, 0, none⟩ (.int .i64 0)).setCell ⟨w.heap.size, 1, none⟩ (.slice none 0 0)) w.heap.size 69 #[.int .i64 0, .slice none 0 0] ∧ Below w.heap.size w ((W'.setCell ⟨w.heap.size, 0, none⟩ (.int .i64 0)).setCell ⟨w.heap.size, 1, none⟩ (.slice none 0 0)) := by
  have hlo := h.lo
  have r := h.r.same (hb.block _ (by omega))
  have z := h.z.same (hb.block _ (by omega))
  have b := h.b.trans (hb.mono (by omega))
  exact ⟨⟨z.cell 0, z.cell 1⟩, ⟨r.cell 0, (r.store 0 _).cell 1⟩, ⟨r.frozen 0, (r.store 0 (.int .i64 0)).frozen 1⟩, (r.store 0 (.int .i64 0)).store 1 (.slice none 0 0), (b.setCell (p := ⟨w.heap.size, 0, none⟩) (Nat.le_refl _) _).setCell (p := ⟨w.heap.size, 1, none⟩) (Nat.le_refl _) _⟩
/-- The formula that is answered. -/
theorem Rl.done (h : Rl w X bo V L cur v c svs lb ls W) : Whole ((W.setCell ⟨w.heap.size, 0, none⟩ (.int .i64 V)).setCell ⟨w.heap.size, 1, none⟩ v) w.heap.size 69 #[.int .i64 V, v] ∧ Below w.heap.size w ((W.setCell ⟨w.heap.size, 0, none⟩ (.int .i64 V)).setCell ⟨w.heap.size, 1, none⟩ v) ∧
    OwnRows 30 w.heap.size ((W.setCell ⟨w.heap.size, 0, none⟩ (.int .i64 V)).setCell ⟨w.heap.size, 1, none⟩ v) v (cellsR L) := by
  have hlo := h.lo
  have hsz : ((W.setCell ⟨w.heap.size, 0, none⟩ (.int .i64 V)).setCell ⟨w.heap.size, 1, none⟩ v).heap.size = W.heap.size := by simp [World.setCell]
  have hbk : ∀ b, b ≠ w.heap.size → ((W.setCell ⟨w.heap.size, 0, none⟩ (.int .i64 V)).setCell ⟨w.heap.size, 1, none⟩ v).heap[b]? = W.heap[b]? := fun b h1 => by
    rw [heap_set_ne h1, heap_set_ne h1]
  have hcl : (cellsR L).length = L.length := by simp [cellsR]
  refine ⟨(h.r.store 0 (.int .i64 V)).store 1 v, (h.b.setCell (p := ⟨w.heap.size, 0, none⟩) (Nat.le_refl _) _).setCell (p := ⟨w.heap.size, 1, none⟩) (Nat.le_refl _) _, svs, ?_, ?_⟩
  · rw [hcl]
    exact (owns_same h.k.row fun g hg => hbk g (by have := (h.k.row.lt g hg).1; omega)).mono (by omega)
  · exact h.k.ins.same (fun b _ hn => hbk b (fun e => hn (.inr (.inr (.inl (by omega)))))) (Nat.le_of_eq hsz.symm) (fun i hi => by
      rcases hi with y | y
      · exact .inl (.inl y)
      · exact .inl (.inr (.inr (.inl (by omega)))))
/-- What the walk reads and writes. -/
theorem Rl.cells (h : Rl w X bo V L cur v c svs lb ls W) : (W.cell? ⟨w.heap.size + 1, 0, none⟩ = some (.int .i64 0) ∧ W.cell? ⟨w.heap.size + 1, 1, none⟩ = some (.slice none 0 0)) ∧ (W.cell? ⟨w.heap.size, 0, none⟩ = some (.int .i64 0) ∧ (W.setCell ⟨w.heap.size, 0, none⟩ (.int .i64 0)).cell? ⟨w.heap.size, 1, none⟩ = some (.slice none 0 0)) ∧
    (W.frozen? ⟨w.heap.size, 0, none⟩ = false ∧ (W.setCell ⟨w.heap.size, 0, none⟩ (.int .i64 0)).frozen? ⟨w.heap.size, 1, none⟩ = false) ∧ W.cell? ⟨bo, 0, none⟩ = some (.int .i64 V) ∧ W.cell? ⟨bo, 1, none⟩ = some v ∧ W.frozen? ⟨bo, 0, none⟩ = false ∧ W.frozen? ⟨bo, 1, none⟩ = false :=
  ⟨⟨h.z.cell 0, h.z.cell 1⟩, ⟨h.r.cell 0, (h.r.store 0 _).cell 1⟩, ⟨h.r.frozen 0, (h.r.store 0 (.int .i64 0)).frozen 1⟩, h.k.f.cell 0, h.k.f.cell 1, h.k.f.frozen 0, h.k.f.frozen 1⟩
end
/-- The state at the head of the loop over the lines. -/
def OutRel (w : World) (bo lb : Nat) (ls : List (List UInt8)) (cv cs iv : Value) (W : World) : Prop := ∃ (i : Nat) (V C : Int) (L : List (List Int)) (cur : List Int) (v c : Value) (svs : List Value), c = cs ∧ iv = .int .i64 i ∧ i ≤ ls.length ∧ cv = .int .i64 C ∧ Rl w (fun _ => False) bo V L cur v c svs lb ls W ∧
  rfL 0 ls (-1) 0 [] [] = rfL i (ls.drop i) V C L cur ∧ (L.length : Int) ≤ C ∧ C ≤ 262144 ∧ V ≤ 1048576 ∧ (V < 0 → L = []) ∧ ∀ l ∈ cur, litB l = true
/-- The state at the head of the loop over a line's words. -/
def InRel (w : World) (bo lb : Nat) (ls : List (List UInt8)) (B : Nat) (wl : Value) (ys : List (List UInt8)) (nl : Nat) (V C : Int) (RW : (Nat × Int) ⊕ (List (List Int) × List Int)) (cs kv : Value) (W : World) : Prop := ∃ (k : Nat) (L : List (List Int)) (cur : List Int) (v c : Value) (svs : List Value), c = cs ∧ kv = .int .i64 k ∧ k ≤ ys.length ∧ Rl w (fun g => wl.ownBlock = some g) bo V L cur v c svs lb ls W ∧
  W.ownsRow B 9 1 wl ys.length (ys.map str) ∧ RW = readW V C ((ys.drop k).map fun y => (nl, y)) L cur ∧ (L.length : Int) ≤ C ∧ ∀ l ∈ cur, litB l = true
theorem infoIs : (Tryz.prog.info? 30).map (fun i => (i.zero, i.size, i.bytes)) = some (some (.slice none 0 0), 1, 24) := by kernel_rfl
theorem infoI8 : (Tryz.prog.info? 3).map (fun i => (i.zero, i.size, i.bytes)) = some (some (.int .i64 0), 1, 8) := by kernel_rfl
theorem rf_inl {S : List UInt8} {n : Nat} {e : Int} (h4 : ¬ 4194304 < S.length) (h : rfL 0 (segs 10 S) (-1) 0 [] [] = .inl (n, e)) : rfAll S = .inl (n, e) := by
  unfold rfAll; rw [if_neg h4, h]
theorem rf_inr {S : List UInt8} {y : Int × Int × List (List Int) × List Int} (h4 : ¬ 4194304 < S.length) (h : rfL 0 (segs 10 S) (-1) 0 [] [] = .inr y) : rfAll S = if y.1 < 0 then .inl ((segs 10 S).length + 1, 60) else if y.2.2.2 ≠ [] ∨ (y.2.2.1.length : Int) < y.2.1 then .inl ((segs 10 S).length + 1, 63) else .inr (y.1, y.2.2.1) := by
  unfold rfAll; rw [if_neg h4, h]
set_option maxRecDepth 100000 in
set_option maxHeartbeats 1000000 in
theorem read06_any (s : ByteArray) (w : World) (hs : s.size ≤ 4000000000) : Calls Tryz.prog 43 #[.string s] w fun e w' => RfE w (rfAll s.data.toList) e w' ∧ Below w.heap.size w w' := by
  have hl : s.data.toList.length = s.size := by simp
  have hw1 := Whole.made w 69 #[.int .i64 0, .slice none 0 0]
  have hb1 := below1a w (.cells #[.int .i64 0, .slice none 0 0] 69)
  have hb2 := below1a (w.alloc (.cells #[.int .i64 0, .slice none 0 0] 69)) (.cells #[.int .i64 0, .slice none 0 0] 69)
  by_cases h4 : 4194304 < s.size
  · have h4i : (4194304 : Int) < (s.size : Int) := by omega
    have hr : rfAll s.data.toList = .inl (0, 3) := by unfold rfAll; rw [if_pos (by omega)]
    rw [hr]
    have HW1 := Lib.hid (hw1.same (hb2.block _ hw1.lt)); have HB := Lib.hid (hb1.trans (hb2.mono (by simp)))
    clear hw1 hb1 hb2 hr
    go_enter Tryz.func43, Tryz.ntmps43
    go_wp2_with fail
    refine bodyPost_ret (results_row_tmp2 (fn := Tryz.f43) rfl _ _ w.heap.size 69 _ (0, 0) _ rfl HW1.out Tryz.underlying69 rfl (by kernel_rfl)) rfl ?_
    exact ⟨rfl, HB.out⟩
  · obtain ⟨i0, hi0, hz0, hz1, hz2⟩ := info_parts infoI8
    obtain ⟨i1, hi1, hy0, hy1, hy2⟩ := info_parts infoIs
    have h4i : ¬ (4194304 : Int) < (s.size : Int) := by omega
    have hsp := fun W => split06_any s (by omega) W
    have hnn := segs_pos 10 s.data.toList
    have hnl := segs_le 10 s.data.toList
    have hsh : ∀ x ∈ segs 10 s.data.toList, x.length ≤ s.size := fun x hx => by have := segs_short hx; omega
    have hin := fun n e => rf_inl (S := s.data.toList) (n := n) (e := e) (by omega)
    have hir := fun y => rf_inr (S := s.data.toList) (y := y) (by omega)
    obtain ⟨R, hR⟩ : ∃ R, rfAll s.data.toList = R := ⟨_, rfl⟩
    obtain ⟨ls, hls⟩ : ∃ ls, segs 10 s.data.toList = ls := ⟨_, rfl⟩
    rw [hR, hls] at hir
    rw [hR, hls] at hin
    rw [hls] at hsp hnn hnl hsh
    rw [hR]
    obtain ⟨n, hn⟩ : ∃ n, ls.length = n := ⟨_, rfl⟩
    rw [hn] at hsp hnn hnl hir
    have hn4 : (n : Int) ≤ 4194305 := by omega
    have HS := Lib.hid hsp; have HIn := Lib.hid hin; have HIr := Lib.hid hir; have HSh := Lib.hid hsh; have HN := Lib.hid hn; have HNn := Lib.hid hnn
    have HW1 := Lib.hid (hw1.same (hb2.block _ hw1.lt)); have HB := Lib.hid (hb1.trans (hb2.mono (by simp)))
    have HZ := Lib.hid (Whole.made (w.alloc (.cells #[.int .i64 0, .slice none 0 0] 69)) 69 #[.int .i64 0, .slice none 0 0])
    clear hsp hw1 hb1 hb2 hin hir hsh hn hnn hnl hR hls hl
    go_enter Tryz.func43, Tryz.ntmps43
    go_wp2_with fail
    refine (HS.out _).mono ?_
    rintro e w3 ⟨sl, rfl, hsl, hb3⟩
    have h3 : 1 ≤ n := HNn.out
    obtain ⟨lb, cap, rfl, hlb0, hlb1, hln⟩ : ∃ lb cap, sl = .slice (some ⟨lb, 0, none⟩) n cap ∧ w.heap.size + 1 + 1 ≤ lb ∧ lb < w3.heap.size ∧ ∀ (j : Nat) (x : List UInt8), ls[j]? = some x → w3.cell? ⟨lb, j, none⟩ = some (str x) := by
      rcases hsl.2 with ⟨-, h0⟩ | ⟨g, cap, cur, rfl, hbg, -, -, -⟩
      · omega
      · refine ⟨g, cap, rfl, by simpa using hbg, (hsl.lt g rfl).2, fun j x hx => ?_⟩
        have hj : j < ls.length := (List.getElem?_eq_some_iff.1 hx).1
        have hc := hsl.cellAt j (by rw [← HN.out, Nat.mul_one]; exact hj)
        rw [hc]
        simp [hx]
    have hz3 := HZ.out.same (hb3.block _ HZ.out.lt)
    have hr3 := HW1.out.same (hb3.block _ HW1.out.lt)
    have hbw3 := HB.out.trans (hb3.mono HB.out.size)
    rw [World.size_alloc] at hz3
    have hm4 := Whole.made w3 69 #[.int .i64 (-1), .slice none 0 0]
    have hb4 := below1a w3 (.cells #[.int .i64 (-1), .slice none 0 0] 69)
    have hst : OutRel w w3.heap.size lb ls (.int .i64 0) (.slice none 0 0) (.int .i64 0) (w3.alloc (.cells #[.int .i64 (-1), .slice none 0 0] 69)) := by
      refine ⟨0, -1, 0, [], [], .slice none 0 0, .slice none 0 0, [], rfl, rfl, Nat.zero_le _, rfl, ⟨hr3.same (hb4.block _ hr3.lt), hz3.same (hb4.block _ hz3.lt), fun j x hx => (hb4.cell (p := ⟨lb, j, none⟩) hlb1).trans (hln j x hx), ⟨by omega, hlb1⟩, ⟨hm4, World.ownsRow_nil _ _ _ _, World.ownsRow_nil _ _ _ _, fun g h => (by cases h), ⟨rfl, fun j xs h => (by cases h)⟩, fun h => h, fun g _ h => h, by simp⟩, hbw3.trans (hb4.mono hbw3.size)⟩, rfl, by simp, by omega, by omega, fun _ => rfl, fun l h => by cases h⟩
    have HSt := Lib.hid hst
    clear hst hsl hb3 hz3 hr3 hbw3 hm4 hb4 hln HS HZ HW1 hlb0 hlb1
    go_wp2_with fail
    obtain ⟨bo, hbo⟩ : ∃ bo, w3.heap.size = bo := ⟨_, rfl⟩
    obtain ⟨w4, hw4⟩ : ∃ W, w3.alloc (.cells #[.int .i64 (-1), .slice none 0 0] 69) = W := ⟨_, rfl⟩
    have hst := HSt.out
    rw [hbo, hw4] at hst ⊢
    have HSt := Lib.hid hst
    clear hbo hw4 hst
    go_loopw [8, 9, 10] (fun cv c iv wr => OutRel w bo lb ls cv c iv wr) (fun _ _ iv _ => n - (intOf iv).toNat)
    case atStart => exact HSt.out
    case round =>
      clear HSt
      obtain ⟨i, V, C, L, cur, v, c, svs, rfl, rfl, hi, rfl, hrl, heq, hLC, hC, hV, hVL, hcur⟩ := hrel
      rw [HN.out] at hi
      by_cases hlt : i < n
      · obtain ⟨x, hx⟩ : ∃ x, ls[i]? = some x := ⟨_, List.getElem?_eq_getElem (by have := HN.out; omega)⟩
        have hcx := hrl.ln i x hx
        have hxl := HSh.out x (List.mem_of_getElem? hx)
        have hdrop : ls.drop i = x :: ls.drop (i + 1) := by
          obtain ⟨h1, h2⟩ := List.getElem?_eq_some_iff.1 hx
          rw [← h2]; exact List.drop_eq_getElem_cons h1
        rw [hdrop, rfL_cons] at heq
        have hov := fun W => over06_any ⟨x.toArray⟩ (by show x.toArray.size ≤ _; rw [List.size_toArray]; omega) W
        have hpr := fun W => prs06_any ⟨x.toArray⟩ W (by show x.toArray.size ≤ _; rw [List.size_toArray]; omega)
        have hwo := fun W => words06_any ⟨x.toArray⟩ (by show x.toArray.size ≤ _; rw [List.size_toArray]; omega) W
        dsimp only at hov hpr hwo
        have hii : (i : Int) < (n : Int) := by omega
        have hi4 : (i : Int) ≤ 4194305 := by omega
        obtain ⟨⟨z0, z1⟩, ⟨r0, r1⟩, ⟨g0, g1⟩, c0, c1, e0, e1⟩ := hrl.cells
        have HP := Lib.hid hpr; have HW := Lib.hid hwo; have HLt := Lib.hid hlt
        have HRl := Lib.hid hrl
        clear hpr hwo hlt hx hdrop hrl hi
        cases hp : passB x
        · rw [hp, if_neg (by decide)] at heq
          rw [hp] at hov
          have HO := Lib.hid hov; have HEq := Lib.hid heq
          clear hov heq hp
          by_cases hV0 : V < 0
          · have heq' := HEq.out
            rw [if_pos hV0] at heq'
            obtain rfl := hVL hV0
            cases hh : prsH x
            · have hpn := fun W => (prsE_no hh) ▸ (HP.out W)
              rw [hh, if_neg (by decide)] at heq'
              have HPn := Lib.hid hpn; have HE := Lib.hid (HIn.out _ _ heq')
              clear hh heq' hpn
              go_wp2_with fail
              refine (HO.out _).mono ?_
              rintro e w5 ⟨rfl, rfl⟩
              go_wp2_with fail
              refine (HPn.out _).mono ?_
              rintro e w6 ⟨rfl, hb6⟩
              have hr6 := HRl.out.grow (X' := fun _ => False) hb6 (fun _ h => h.elim)
              obtain ⟨⟨z0, z1⟩, ⟨r0, r1⟩, ⟨g0, g1⟩, -, -, -, -⟩ := hr6.cells
              have HR6 := Lib.hid hr6
              clear hr6 hb6
              go_wp2_with fail
              refine bodyPost_ret (results_row_tmp2 (fn := Tryz.f43) rfl _ _ w.heap.size 69 _ (0, 0) _ rfl HR6.out.ret.1 Tryz.underlying69 rfl (by kernel_rfl)) rfl ?_
              exact ⟨by rw [HE.out]; rfl, HR6.out.ret.2⟩
            · have hpy := fun W => (prsE_yes hh rfl rfl) ▸ (HP.out W)
              have hpn := prs_nums hh
              rw [hh, if_pos rfl] at heq'
              obtain ⟨V', hV'⟩ : ∃ y, prsV x = y := ⟨_, rfl⟩
              obtain ⟨N', hN'⟩ : ∃ y, prsN x = y := ⟨_, rfl⟩
              rw [hV', hN'] at hpy hpn heq'
              have HPy := Lib.hid hpy; have HE := Lib.hid heq'; have HPn := Lib.hid hpn
              clear hh heq' hpy hpn hV' hN'
              go_wp2_with fail
              refine (HO.out _).mono ?_
              rintro e w5 ⟨rfl, rfl⟩
              go_wp2_with fail
              refine (HPy.out _).mono ?_
              rintro e w6 ⟨rfl, hb6⟩
              have hr6 := HRl.out.grow (X' := fun _ => False) hb6 (fun _ h => h.elim)
              obtain ⟨-, -, -, c0, -, e0, -⟩ := hr6.cells
              have hnx : OutRel w bo lb ls (.int .i64 N') c (.int .i64 ((i : Int) + 1)) (w6.setCell ⟨bo, 0, none⟩ (.int .i64 V')) := ⟨i + 1, V', N', [], cur, v, c, svs, rfl, by go_num, by have := HN.out; have := HLt.out; omega, rfl, hr6.next (hr6.k.vars V').1 (hr6.k.vars V').2.1, HE.out, by have := HPn.out; simp; omega, HPn.out.2.2.2, HPn.out.2.1, fun _ => rfl, hcur⟩
              have HNx := Lib.hid hnx
              clear hr6 hb6 hnx
              go_wp2_with fail
              go_roundw
              case rel => exact HNx.out
              case measure => simp [intOf]; have := HLt.out; omega
          · go_wp2_with fail
            refine (HO.out _).mono ?_
            rintro e w5 ⟨rfl, rfl⟩
            go_wp2_with fail
            refine (HW.out _).mono ?_
            rintro e w6 ⟨wl, rfl, hwl, hb6⟩
            have hr6 := HRl.out.grow (X' := fun g => wl.ownBlock = some g) hb6 (fun g hg => .inr (hwl.lt g hg).1)
            have heq' := HEq.out
            rw [if_neg (by omega)] at heq'
            obtain ⟨RW, hRW⟩ : ∃ y, readW V C (ws (i + 1) x) L cur = y := ⟨_, rfl⟩
            rw [hRW] at heq'
            unfold ws at hRW
            obtain ⟨ys, hys⟩ : ∃ y, wd x = y := ⟨_, rfl⟩
            rw [hys] at hRW hwl
            have hyl : ∀ y ∈ ys, y.length ≤ 4194304 := fun y hy => by
              rw [← hys] at hy
              have := segs_short (List.mem_filter.1 hy).1
              omega
            obtain ⟨q, hq⟩ : ∃ q, ys.length = q := ⟨_, rfl⟩
            have hq4 : q ≤ 4194305 := by
              rw [← hq, ← hys]
              have h1 : (wd x).length ≤ (segs 32 x).length := List.length_filter_le _ _
              have h2 := segs_le 32 x
              omega
            have hin : InRel w bo lb ls w5.heap.size wl ys (i + 1) V C RW c (.int .i64 0) w6 := ⟨0, L, cur, v, c, svs, rfl, rfl, Nat.zero_le _, hr6, hwl, by rw [List.drop_zero]; exact hRW.symm, hLC, hcur⟩
            obtain ⟨Aw, cw, rfl⟩ := own_shape0 hwl
            rw [hq]
            have HIr := Lib.hid hin; have HEr := Lib.hid heq'; have HYl := Lib.hid hyl; have HQ := Lib.hid hq
            have hV1 : (0 : Int) ≤ V := by omega
            clear hin heq' hr6 hwl hb6 hRW hys hyl hq HEq HRl hVL hcur
            clear c0 c1 e0 e1 z0 z1 r0 r1 g0 g1
            go_wp2_with fail
            go_loopw [9, 15] (fun cs kv W => InRel w bo lb ls w5.heap.size (.slice Aw ys.length cw) ys (i + 1) V C RW cs kv W) (fun _ kv _ => q - (intOf kv).toNat)
            case atStart => exact HIr.out
            case round =>
              clear HIr
              obtain ⟨k, L, cur, v, c, svs, rfl, rfl, hk, hrl, hwl, hRW, hLC, hcur⟩ := hrel
              rw [HQ.out] at hk
              obtain ⟨⟨z0, z1⟩, ⟨r0, r1⟩, ⟨g0, g1⟩, c0, c1, e0, e1⟩ := hrl.cells
              by_cases hkl : k < q
              · obtain ⟨y, hy⟩ : ∃ y, ys[k]? = some y := ⟨_, List.getElem?_eq_getElem (by have := HQ.out; omega)⟩
                have hyl := HYl.out y (List.mem_of_getElem? hy)
                obtain ⟨gw, rfl, hgw, hyc⟩ : ∃ gw, Aw = some ⟨gw, 0, none⟩ ∧ gw < wr.heap.size ∧ wr.cell? ⟨gw, k, none⟩ = some (str y) := by
                  have h' := hwl
                  rcases h'.2 with ⟨-, h0⟩ | ⟨g, cap, cu, e, hbg, -, -, -⟩
                  · have := HQ.out; omega
                  · injection e with e1 e2 e3
                    subst e1
                    refine ⟨g, rfl, (hwl.lt g rfl).2, ?_⟩
                    have hc := hwl.cellAt k (by have := HQ.out; rw [Nat.mul_one]; omega)
                    rw [hc]
                    simp [hy]
                have hdrop : ys.drop k = y :: ys.drop (k + 1) := by
                  obtain ⟨h1, h2⟩ := List.getElem?_eq_some_iff.1 hy
                  rw [← h2]; exact List.drop_eq_getElem_cons h1
                rw [hdrop, List.map_cons, readW_cons] at hRW
                have hcs := rk_cases (V := V) (x := y) hLC hcur hrl.k.len.2
                have hrd := fun W => ref_read ⟨y.toArray⟩ W (by show y.toArray.size ≤ _; rw [List.size_toArray]; omega)
                dsimp only at hrd
                obtain ⟨l, hl⟩ : ∃ l, readI y = l := ⟨_, rfl⟩
                rw [hl] at hrd hcs
                have hva := fun W => ref_var l W
                obtain ⟨u, hu⟩ : ∃ u, varI l = u := ⟨_, rfl⟩
                rw [hu] at hva hcs
                have hkq : (k : Int) < (q : Int) := by omega
                have hkb : (k : Int) ≤ 4194305 := by omega
                have herr : ∀ E, E ≠ 0 → takeE V C L cur y = E → R = .inl (i + 1, E) := fun E h0 hE => by
                  rw [hE, if_neg h0] at hRW
                  have h := HEr.out
                  rw [hRW] at h
                  exact HIn.out _ _ h
                have hgo : takeE V C L cur y = 0 → RW = readW V C ((ys.drop (k + 1)).map fun y => (i + 1, y)) (takeN L cur y).1 (takeN L cur y).2 := fun h0 => by
                  rw [h0, if_pos rfl] at hRW
                  exact hRW
                have HRd := Lib.hid hrd; have HVa := Lib.hid hva; have HErr := Lib.hid herr; have HGo := Lib.hid hgo; have HRl := Lib.hid hrl; have HWl := Lib.hid hwl; have HKl := Lib.hid hkl
                have HGw := Lib.hid hgw; have HYc := Lib.hid hyc; have HCs := Lib.hid hcs
                clear hrd hva herr hgo hrl hwl hkl hRW hdrop hl hu hy hyl hgw hcs
                go_wp2_with fail
                refine (HRd.out _).mono ?_
                rintro e w7 ⟨rfl, nd, hw7⟩
                have hb7 : Below wr.heap.size wr w7 := hw7 ▸ below_drewN (Below.refl _ _) nd
                have hr7 := HRl.out.grow hb7 (fun _ h => .inl h)
                have hyc7 : w7.cell? ⟨gw, k, none⟩ = some (str y) := (hb7.cell (p := ⟨gw, k, none⟩) HGw.out).trans HYc.out
                have hwl7 := owns_same HWl.out fun g hg => hb7.block g (HWl.out.lt g hg).2
                clear hyc z0 z1 r0 r1 g0 g1 c0 c1 e0 e1 HYc hw7 hb7
                obtain ⟨⟨z0, z1⟩, ⟨r0, r1⟩, ⟨g0, g1⟩, c0, c1, e0, e1⟩ := hr7.cells
                rcases HCs.out with ⟨hl0, hy0, hE⟩ | hcs
                · have hyb : (y == [48]) = false := by simpa using hy0
                  subst hl0
                  have HE := Lib.hid (HErr.out 61 (by decide) hE); have HR7 := Lib.hid hr7
                  clear hE hy0 hr7 hwl7 HCs
                  go_wp2_with fail
                  refine bodyPost_ret (results_row_tmp2 (fn := Tryz.f43) rfl _ _ w.heap.size 69 _ (0, 0) _ rfl HR7.out.ret.1 Tryz.underlying69 rfl (by kernel_rfl)) rfl ?_
                  exact ⟨by rw [HE.out]; rfl, HR7.out.ret.2⟩
                · obtain ⟨Av, cv, rfl⟩ := own_shape0 hr7.k.row
                  obtain ⟨Ac, cc, rfl⟩ := own_shape0 hr7.k.lits
                  have hr8 := hr7.grow (X' := fun g => (Value.slice (some ⟨gw, 0, none⟩) ys.length cw).ownBlock = some g) ((Below.refl _ w7).drew) (fun _ h => .inl h)
                  have hwl8 : w7.drew.ownsRow w5.heap.size 9 1 (.slice (some ⟨gw, 0, none⟩) ys.length cw) ys.length (ys.map str) := owns_same hwl7 fun g _ => rfl
                  have hz : ((l == 0) = false ∧ l ≠ 0) ∨ (l = 0 ∧ (y == [48]) = true ∧ y = [48]) := by
                    rcases hcs with ⟨h, -⟩ | ⟨h, -⟩ | ⟨h, h', -⟩ | ⟨h, -⟩ | ⟨h, -⟩
                    all_goals
                      by_cases h0 : l = 0
                      · first
                          | exact absurd h0 h
                          | exact .inr ⟨h0, by simpa using h.resolve_left (fun e => e h0), h.resolve_left (fun e => e h0)⟩
                          | exact .inr ⟨h0, by simpa using h', h'⟩
                      · exact .inl ⟨by simpa using h0, h0⟩
                  have HR8 := Lib.hid hr8; have HW8 := Lib.hid hwl8; have HC5 := Lib.hid hcs
                  clear hr7 hwl7 HCs hcs hr8 hwl8 HRl HWl
                  rcases hz with ⟨hlb, hlne⟩ | ⟨rfl, hyb, hy48⟩
                  · clear hlne
                    go_wp2_with fail
                    go_region_held3 (fun W' => W'.cell? ⟨bo, 0, none⟩ = some (.int .i64 V)) (go_keep) (first | (go_at_call 77; (with_reducible refine (HVa.out _).mono ?_); rintro r w8 ⟨rfl, rfl⟩))
                    all_goals go_simp
                    obtain ⟨w8, hw8⟩ : ∃ x, w7.drew = x := ⟨_, rfl⟩
                    rw [hw8] at HR8 HW8 ⊢
                    clear hw8 z0 z1 r0 r1 g0 g1 c0 c1 e0 e1 hyc7
                    obtain ⟨⟨z0, z1⟩, ⟨r0, r1⟩, ⟨g0, g1⟩, c0, c1, e0, e1⟩ := HR8.out.cells
                    have hlen := HR8.out.k.len
                    rcases HC5.out with ⟨-, h62, hE⟩ | ⟨-, h62, h63, hE⟩ | ⟨hl0, -⟩ | ⟨-, -, h62, h63, hrt, hE⟩ | ⟨-, -, h62, h63, hrt, hm, hE, hN, hlit⟩
                    · have HE := Lib.hid (HErr.out 62 (by decide) hE)
                      clear hE
                      go_wp2_with fail
                      refine bodyPost_ret (results_row_tmp2 (fn := Tryz.f43) rfl _ _ w.heap.size 69 _ (0, 0) _ rfl HR8.out.ret.1 Tryz.underlying69 rfl (by kernel_rfl)) rfl ?_
                      exact ⟨by rw [HE.out]; rfl, HR8.out.ret.2⟩
                    · have HE := Lib.hid (HErr.out 63 (by decide) hE)
                      clear hE
                      go_wp2_with fail
                      refine bodyPost_ret (results_row_tmp2 (fn := Tryz.f43) rfl _ _ w.heap.size 69 _ (0, 0) _ rfl HR8.out.ret.1 Tryz.underlying69 rfl (by kernel_rfl)) rfl ?_
                      exact ⟨by rw [HE.out]; rfl, HR8.out.ret.2⟩
                    · rw [hl0] at hlb; cases hlb
                    · have HE := Lib.hid (HErr.out 5 (by decide) hE)
                      clear hE
                      have hrow := HR8.out.k.lits
                      have HRow := Lib.hid hrow
                      have hbo8 := HR8.out.k.f.lt
                      have HBo8 := Lib.hid hbo8
                      clear hrow hbo8
                      go_wp2_with (at_builtin; refine wpList_append_own_at _ rfl _ _ 30 rfl (bo + 1) 3 i0 (.int .i64 0) 1 8 Tryz.underlying30 hi0 hz0 hz1 hz2 rfl (by decide) (.slice Ac cur.length cc) cur.length (cur.map (Value.int .i64)) rfl (HRow.out.alloc _) ⟨w8.heap.size, 0, none⟩ 1 1 [.int .i64 l] rfl rfl (World.news_of_block (cs := #[.int .i64 l]) (t := 3) (fr := (0, 0)) (heap_alloc_new w8 _)) (by simp [Value.oneCell']) (by unfold maxLen; omega) (by omega) (by have := HBo8.out; simp; omega) ?_; intro v9 w9 hown9 hg9 _ hat9; obtain ⟨A9, c9, rfl⟩ := own_shape0 hown9; have hlow := HR8.out.low (HR8.out.k.low hg9); obtain ⟨⟨y0, y1⟩, ⟨y2, y3⟩, ⟨y4, y5⟩, hret⟩ := hlow; have HRet := Lib.hid hret; have HOwn := Lib.hid hown9; have HG9 := Lib.hid hg9; have HAt9 := Lib.hid hat9; clear hret hown9 hg9 hat9)
                      have hint : Ints w9.heap.size w9 (.slice A9 (cur.length + 1) c9) (cur ++ [l]) := by
                        have h := HOwn.out
                        rw [show cur.map (Value.int .i64) ++ [Value.int .i64 l] = (cur ++ [l]).map (Value.int .i64) by rw [List.map_append]; rfl] at h
                        exact ints_own h
                      refine (ref02_right _ _ _ (by rw [List.length_append]; simp; omega) _ hint).mono ?_
                      rintro e wz ⟨rfl, rfl⟩
                      rw [hrt]
                      clear hrt hint
                      go_wp2_with fail
                      refine bodyPost_ret (results_row_tmp2 (fn := Tryz.f43) rfl _ _ w.heap.size 69 _ (0, 0) _ rfl HRet.out.1 Tryz.underlying69 rfl (by kernel_rfl)) rfl ?_
                      exact ⟨by rw [HE.out]; rfl, HRet.out.2⟩
                    · have hgo := HGo.out hE
                      rw [hN] at hgo
                      dsimp only at hgo
                      have HGo' := Lib.hid hgo; have HM := Lib.hid hm; have HLit := Lib.hid hlit
                      clear hE hgo hN hm hlit
                      have hrow := HR8.out.k.lits
                      have HRow := Lib.hid hrow
                      have hbo8 := HR8.out.k.f.lt
                      have HBo8 := Lib.hid hbo8
                      clear hrow hbo8
                      go_wp2_with (at_builtin; refine wpList_append_own_at _ rfl _ _ 30 rfl (bo + 1) 3 i0 (.int .i64 0) 1 8 Tryz.underlying30 hi0 hz0 hz1 hz2 rfl (by decide) (.slice Ac cur.length cc) cur.length (cur.map (Value.int .i64)) rfl (HRow.out.alloc _) ⟨w8.heap.size, 0, none⟩ 1 1 [.int .i64 l] rfl rfl (World.news_of_block (cs := #[.int .i64 l]) (t := 3) (fr := (0, 0)) (heap_alloc_new w8 _)) (by simp [Value.oneCell']) (by unfold maxLen; omega) (by omega) (by have := HBo8.out; simp; omega) ?_; intro v9 w9 hown9 hg9 _ hat9; obtain ⟨A9, c9, rfl⟩ := own_shape0 hown9; have hlow := HR8.out.low (HR8.out.k.low hg9); obtain ⟨⟨y0, y1⟩, ⟨y2, y3⟩, ⟨y4, y5⟩, hret⟩ := hlow; have HRet := Lib.hid hret; have HOwn := Lib.hid hown9; have HG9 := Lib.hid hg9; have HAt9 := Lib.hid hat9; clear hret hown9 hg9 hat9)
                      have hint : Ints w9.heap.size w9 (.slice A9 (cur.length + 1) c9) (cur ++ [l]) := by
                        have h := HOwn.out
                        rw [show cur.map (Value.int .i64) ++ [Value.int .i64 l] = (cur ++ [l]).map (Value.int .i64) by rw [List.map_append]; rfl] at h
                        exact ints_own h
                      refine (ref02_right _ _ _ (by rw [List.length_append]; simp; omega) _ hint).mono ?_
                      rintro e wz ⟨rfl, rfl⟩
                      rw [hrt]
                      clear hrt hint
                      have hp := HR8.out.k.lit (fun g hg => (HW8.out.lt g hg).2) HOwn.out HG9.out HAt9.out HM.out
                      have hnx : InRel w bo lb ls w5.heap.size (.slice (some ⟨gw, 0, none⟩) ys.length cw) ys (i + 1) V C RW (.slice A9 (cur.length + 1) c9) (.int .i64 ((k : Int) + 1)) w9 := ⟨k + 1, L, cur ++ [l], _, _, _, rfl, by go_num, by have := HQ.out; have := HKl.out; omega, HR8.out.next hp.1 hp.2.1, owns_same HW8.out fun g hg => hp.2.2.2 g hg, HGo'.out, hLC, fun x hx => by
                        rcases List.mem_append.1 hx with h | h
                        · exact hcur x h
                        · rw [List.mem_singleton.1 h]; exact HLit.out⟩
                      have HNx := Lib.hid hnx
                      clear hp hnx
                      go_wp2_with fail
                      go_roundw
                      case rel => exact HNx.out
                      case measure => simp [intOf]; have := HKl.out; omega
                  · go_wp2_with fail
                    go_region_held3 (fun W' => W'.cell? ⟨bo, 0, none⟩ = some (.int .i64 V)) (go_keep) (first | (go_at_call 77; (with_reducible refine (HVa.out _).mono ?_); rintro r w8 ⟨rfl, rfl⟩))
                    all_goals go_simp
                    obtain ⟨w8, hw8⟩ : ∃ x, w7.drew = x := ⟨_, rfl⟩
                    rw [hw8] at HR8 HW8 ⊢
                    clear hw8 z0 z1 r0 r1 g0 g1 c0 c1 e0 e1 hyc7
                    obtain ⟨⟨z0, z1⟩, ⟨r0, r1⟩, ⟨g0, g1⟩, c0, c1, e0, e1⟩ := HR8.out.cells
                    have hlen := HR8.out.k.len
                    rcases HC5.out with ⟨-, h62, hE⟩ | ⟨-, h62, h63, hE⟩ | ⟨-, -, h62, h63, hE, hN⟩ | ⟨hl0, -⟩ | ⟨hl0, -⟩
                    · have HE := Lib.hid (HErr.out 62 (by decide) hE)
                      clear hE
                      go_wp2_with fail
                      refine bodyPost_ret (results_row_tmp2 (fn := Tryz.f43) rfl _ _ w.heap.size 69 _ (0, 0) _ rfl HR8.out.ret.1 Tryz.underlying69 rfl (by kernel_rfl)) rfl ?_
                      exact ⟨by rw [HE.out]; rfl, HR8.out.ret.2⟩
                    · have HE := Lib.hid (HErr.out 63 (by decide) hE)
                      clear hE
                      go_wp2_with fail
                      refine bodyPost_ret (results_row_tmp2 (fn := Tryz.f43) rfl _ _ w.heap.size 69 _ (0, 0) _ rfl HR8.out.ret.1 Tryz.underlying69 rfl (by kernel_rfl)) rfl ?_
                      exact ⟨by rw [HE.out]; rfl, HR8.out.ret.2⟩
                    · have hgo := HGo.out hE
                      rw [hN] at hgo
                      dsimp only at hgo
                      have HGo' := Lib.hid hgo
                      clear hE hgo hN
                      have hrow := HR8.out.k.row
                      have HRow := Lib.hid hrow
                      have hbo8 := HR8.out.k.f.lt
                      have HBo8 := Lib.hid hbo8
                      have hL1 : L.length + 1 ≤ 262144 := by omega
                      have HL1 := Lib.hid hL1
                      clear hrow hbo8 hL1
                      go_wp2_with (at_builtin; refine wpList_append_own_at _ rfl _ _ 32 rfl (bo + 1) 30 i1 (.slice none 0 0) 1 24 Tryz.underlying32 hi1 hy0 hy1 hy2 rfl (by decide) (.slice Av L.length cv) L.length svs rfl (HRow.out.alloc _) ⟨w8.heap.size, 0, none⟩ 1 1 [.slice Ac cur.length cc] rfl rfl (World.news_of_block (cs := #[.slice Ac cur.length cc]) (t := 30) (fr := (0, 0)) (heap_alloc_new w8 _)) (by simp [Value.oneCell']) (by unfold maxLen; omega) (by omega) (by have := HBo8.out; simp; omega) ?_; intro v9 w9 hown9 hg9 _ hat9; obtain ⟨A9, c9, rfl⟩ := own_shape0 hown9; have hf9 := (whole_alloc HR8.out.k.f (.cells #[.slice Ac cur.length cc] 30)).same (hg9.block bo (by have := HBo8.out; simp; omega) (fun e => by have := (HRow.out.lt _ e.symm).1; omega)); have y0 : w9.cell? ⟨bo, 1, none⟩ = some (.slice Av L.length cv) := hf9.cell 1; have y1 := hf9.frozen 1; have HOwn := Lib.hid hown9; have HG9 := Lib.hid hg9; have HAt9 := Lib.hid hat9; clear hown9 hg9 hat9 hf9)
                      have hp := HR8.out.k.clause (fun g hg => (HW8.out.lt g hg).2) HOwn.out HG9.out HAt9.out HL1.out rfl
                      have hnx : InRel w bo lb ls w5.heap.size (.slice (some ⟨gw, 0, none⟩) ys.length cw) ys (i + 1) V C RW (.slice none 0 0) (.int .i64 ((k : Int) + 1)) (w9.setCell ⟨bo, 1, none⟩ (.slice A9 (L.length + 1) c9)) := ⟨k + 1, L ++ [cur], [], _, _, _, rfl, by go_num, by have := HQ.out; have := HKl.out; omega, HR8.out.next hp.1 hp.2.1, owns_same HW8.out fun g hg => hp.2.2.2 g hg, HGo'.out, by rw [List.length_append]; simp; omega, fun x hx => by cases hx⟩
                      have HNx := Lib.hid hnx
                      clear hp hnx
                      go_wp2_with fail
                      go_roundw
                      case rel => exact HNx.out
                      case measure => simp [intOf]; have := HKl.out; omega
                    · exact absurd rfl hl0
                    · exact absurd rfl hl0
              · obtain rfl : k = q := by omega
                rw [List.drop_of_length_le (by rw [HQ.out]; exact Nat.le_refl _), List.map_nil, readW] at hRW
                have h := HEr.out
                rw [hRW] at h
                have hnx : OutRel w bo lb ls (.int .i64 C) c (.int .i64 ((i : Int) + 1)) wr := ⟨i + 1, V, C, L, cur, v, c, svs, rfl, by go_num, by have := HN.out; have := HLt.out; omega, rfl, hrl.grow (Below.refl _ _) (fun _ h => h.elim), h, hLC, hC, hV, fun h => by omega, hcur⟩
                have HNx := Lib.hid hnx
                clear hnx hrl hwl hRW h hkl HEr
                go_wp2_with fail
                go_roundw
                case rel => exact HNx.out
                case measure => simp [intOf]; have := HLt.out; omega
        · rw [hp, if_pos rfl] at heq
          rw [hp] at hov
          have hnext : OutRel w bo lb ls (.int .i64 C) c (.int .i64 ((i : Int) + 1)) wr := ⟨i + 1, V, C, L, cur, v, c, svs, rfl, by go_num, by have := HN.out; have := HLt.out; omega, rfl, HRl.out, heq, hLC, hC, hV, hVL, hcur⟩
          have HO := Lib.hid hov; have HNx := Lib.hid hnext
          clear hov heq hp hnext
          go_wp2_with fail
          refine (HO.out _).mono ?_
          rintro e w5 ⟨rfl, rfl⟩
          go_wp2_with fail
          go_roundw
          case rel => exact HNx.out
          case measure => simp [intOf]; have := HLt.out; omega
      · obtain rfl : i = n := by omega
        have hrr : rfL 0 ls (-1) 0 [] [] = .inr (V, C, L, cur) := by
          rw [heq, List.drop_of_length_le (by have := HN.out; omega)]
          rfl
        have hR := HIr.out _ hrr
        dsimp only at hR
        obtain ⟨Av, cv, rfl⟩ := own_shape0 hrl.k.row
        obtain ⟨Ac, cc, rfl⟩ := own_shape0 hrl.k.lits
        have hlen := hrl.k.len
        obtain ⟨⟨z0, z1⟩, ⟨r0, r1⟩, ⟨g0, g1⟩, c0, c1, e0, e1⟩ := hrl.cells
        have s1 : (wr.setCell ⟨w.heap.size, 0, none⟩ (.int .i64 V)).cell? ⟨w.heap.size, 1, none⟩ = some (.slice none 0 0) := (hrl.r.store 0 _).cell 1
        have s2 : (wr.setCell ⟨w.heap.size, 0, none⟩ (.int .i64 V)).frozen? ⟨w.heap.size, 1, none⟩ = false := (hrl.r.store 0 (.int .i64 V)).frozen 1
        have HRl := Lib.hid hrl
        clear hrl heq hrr hlt
        by_cases hV0 : V < 0
        · rw [if_pos hV0] at hR
          have HR := Lib.hid hR
          clear hR s1 s2
          go_wp2_with fail
          refine bodyPost_ret (results_row_tmp2 (fn := Tryz.f43) rfl _ _ w.heap.size 69 _ (0, 0) _ rfl HRl.out.ret.1 Tryz.underlying69 rfl (by kernel_rfl)) rfl ?_
          exact ⟨by rw [HR.out]; rfl, HRl.out.ret.2⟩
        · rw [if_neg hV0] at hR
          obtain ⟨m, hm⟩ : ∃ m, cur.length = m := ⟨_, rfl⟩
          obtain ⟨q, hq⟩ : ∃ q, L.length = q := ⟨_, rfl⟩
          rw [hm, hq] at hlen
          have hc0 : cur ≠ [] ↔ (0 : Int) < (m : Int) := by
            rw [← hm]
            cases cur
            · simp
            · simp
          rw [hq] at hLC hR c1
          rw [hm]
          by_cases hbad : cur ≠ [] ∨ (q : Int) < C
          · rw [if_pos hbad] at hR
            have HR := Lib.hid hR
            have hcs : (0 : Int) < (m : Int) ∨ (¬ (0 : Int) < (m : Int) ∧ (q : Int) < C) := by
              by_cases h : (0 : Int) < (m : Int)
              · exact .inl h
              · exact .inr ⟨h, hbad.resolve_left fun h' => h (hc0.1 h')⟩
            clear hR s1 s2 hbad hc0 hm hq
            rcases hcs with h1 | ⟨h1, h2⟩
            all_goals
              go_wp2_with fail
              refine bodyPost_ret (results_row_tmp2 (fn := Tryz.f43) rfl _ _ w.heap.size 69 _ (0, 0) _ rfl HRl.out.ret.1 Tryz.underlying69 rfl (by kernel_rfl)) rfl ?_
              exact ⟨by rw [HR.out]; rfl, HRl.out.ret.2⟩
          · rw [if_neg hbad] at hR
            have HR := Lib.hid hR
            have h1 : ¬ (0 : Int) < (m : Int) := fun h => hbad (.inl (hc0.2 h))
            have h2 : ¬ (q : Int) < C := fun h => hbad (.inr h)
            have HQ := Lib.hid hq
            clear hR hbad hc0 hm hq
            go_wp2_with fail
            have hd := HRl.out.done
            rw [HQ.out] at hd
            refine bodyPost_ret (results_row_tmp2 (fn := Tryz.f43) rfl _ _ w.heap.size 69 _ (0, 0) _ rfl hd.1 Tryz.underlying69 rfl (by kernel_rfl)) rfl ?_
            exact ⟨by rw [HR.out]; exact ⟨_, rfl, hd.2.2⟩, hd.2.1⟩
end Go.Proofs.YticcgmegimiegaaGreatDoor
