/- The law FormulaWrong: its walk. -/
import Derived.Test.YtfbmagmelebkbaaFoAwake
import Derived.Test.YtfbmagmelebkbaaFoContains
import Derived.Test.YtfbmagmelebkbaaFoUse
import Derived.Test.YtfbmagmelebkbaaFoCopy
import Derived.Test.YtfbmagmelebkbaaFoInsert
namespace Go.Proofs.Ytfbmagmelebkbaa.formulaWrong
open Go.RowKit Go.ChangeAt Go.ChangeShapes Go.WideShapes Go.Shelf Go.Sort

theorem ins_at {α : Type} (c : List α) (x : α) (t j : Nat) (ht : t ≤ c.length) : (c.take t ++ x :: c.drop t)[j]? = if j < t then c[j]? else if j = t then some x else c[j - 1]? := by
  have hl : (c.take t).length = t := by rw [List.length_take]; omega
  by_cases h1 : j < t
  · rw [if_pos h1, List.getElem?_append_left (by omega), List.getElem?_take_of_lt h1]
  · rw [if_neg h1, List.getElem?_append_right (by omega), hl]
    by_cases h2 : j = t
    · rw [if_pos h2, h2, Nat.sub_self]; rfl
    · obtain ⟨m, rfl⟩ : ∃ m, j = m + 1 := ⟨j - 1, by omega⟩
      rw [if_neg h2, show m + 1 - t = (m - t) + 1 by omega, List.getElem?_cons_succ, List.getElem?_drop, show t + (m - t) = m + 1 - 1 by omega]
theorem cells_ins (L : List (List Int)) (bad : List Int) (t : Nat) : cellsL (L.take t ++ bad :: L.drop t) = (cellsL L).take t ++ (bad.map (Value.int .i64)) :: (cellsL L).drop t := by
  simp [cellsL, List.map_take, List.map_drop]
/-- Behind an insertion: the rows. -/
theorem insert_rows {wr w2 w4 w6 : World} {v2 v6 badv : Value} {L : List (List Int)} {svs : List Value} {bad : List Int} {t : Nat} (ht : t ≤ L.length) (hrow : w2.ownsRow wr.heap.size 30 1 v2 (cellsL L).length svs) (hin : InRows wr.heap.size w2 v2 svs (cellsL L))
    (hb2 : Below wr.heap.size wr w2) (hb4 : Below w2.heap.size w2 w4) (h6 : RowV w6.heap.size w6 v6 (svs.take t ++ badv :: svs.drop t)) (hk : Keeps (fun b => v2.ownBlock = some b ∨ b = w2.heap.size) w4 w6) (hbad : Lits wr.heap.size wr badv bad) :
    RowsL w6.heap.size w6 v6 (L.take t ++ bad :: L.drop t) ∧ Below wr.heap.size wr w6 := by
  have hb46 : Below wr.heap.size w4 w6 := hk.below (Nat.le_trans hb2.size hb4.size) (fun b hb => by
    rcases hb with hb | rfl
    · exact (hrow.lt b hb).1
    · exact hb2.size)
  have hb6 : Below wr.heap.size wr w6 := (hb2.trans (hb4.mono hb2.size)).trans hb46
  refine ⟨?_, hb6⟩
  have hsl := hin.1
  rw [cellsL_len] at hsl
  have hbad6 : RowV w6.heap.size w6 badv (bad.map (Value.int .i64)) := (rowV_lits.2 (hbad.below hb6)).more hb6.size
  show RowsV w6.heap.size w6 v6 (cellsL (L.take t ++ bad :: L.drop t))
  rw [cells_ins]
  have hle : (svs.take t ++ badv :: svs.drop t).length = ((cellsL L).take t ++ (bad.map (Value.int .i64)) :: (cellsL L).drop t).length := by simp [hsl, cellsL_len]
  rcases h6 with ⟨A, c, -, -, h0⟩ | ⟨b, off, cap, e, hb, hc⟩
  · exact absurd (congrArg List.length h0) (by simp)
  · refine .inr ⟨b, off, cap, by rw [e, hle], hb, fun j xs hx => ?_⟩
    have hj := (List.getElem?_eq_some_iff.1 hx).1
    obtain ⟨c1, c2⟩ := hc j (by rw [hle]; exact hj)
    rw [ins_at _ _ _ _ (by rw [cellsL_len]; exact ht)] at hx
    rw [ins_at _ _ _ _ (by omega)] at c1
    have hold : ∀ i, (cellsL L)[i]? = some xs → w6.cell? ⟨b, off + j, none⟩ = svs[i]? → ∃ sv, w6.cell? ⟨b, off + j, none⟩ = some sv ∧ w6.frozen? ⟨b, off + j, none⟩ = false ∧ RowV w6.heap.size w6 sv xs := fun i hi hci => by
      obtain ⟨sv, a1, a2⟩ := hin.2 i xs hi
      refine ⟨sv, hci.trans a1, c2, ?_⟩
      rcases a2 with e | ⟨b', off', cap', e, hl2, hn, hc2⟩
      · exact .inl e
      have hl := Nat.lt_of_lt_of_le hl2 hb4.size
      have hc' : ∀ j, j < xs.length → w4.cell? ⟨b', off' + j, none⟩ = xs[j]? ∧ w4.frozen? ⟨b', off' + j, none⟩ = false := fun j hj => ⟨(World.cell?_of_block (hb4.block b' hl2)).trans (hc2 j hj).1, (World.frozen?_of_block (hb4.block b' hl2)).trans (hc2 j hj).2⟩
      · have hbk := hk.block b' hl (fun x => by
          rcases x with x | rfl
          · exact hn (.inl x)
          · omega)
        exact .inr ⟨b', off', cap', e, Nat.lt_of_lt_of_le hl hk.size, fun j hj => ⟨(World.cell?_of_block hbk).trans (hc' j hj).1, (World.frozen?_of_block hbk).trans (hc' j hj).2⟩⟩
    by_cases h1 : j < t
    · rw [if_pos h1] at hx c1
      exact hold j hx c1
    · rw [if_neg h1] at hx c1
      by_cases h2 : j = t
      · rw [if_pos h2] at hx c1
        cases hx
        exact ⟨_, c1, c2, hbad6⟩
      · rw [if_neg h2] at hx c1
        exact hold _ hx c1

def badC (a b : Int) (k : Nat) : List Int := if k = 0 then [1, 0] else if k = 1 then [-2, a] else [b]
theorem badC_len (a b : Int) (k : Nat) : (badC a b k).length ≤ 2 := by
  unfold badC
  split
  · simp
  · split <;> simp
/-- The three wrong clauses, and the formula, where they lie. -/
structure Bd (W : World) (p : Nat) (v : Value) (L : List (List Int)) (a b : Int) : Prop where
  fi : Fi W p 8 v L
  at_ : ∀ k, k < 3 → ∃ g n, W.cell? ⟨p + 1 + 1 + 1 + 1, k, none⟩ = some (.slice (some ⟨g, 0, none⟩) n n) ∧ Lits W.heap.size W (.slice (some ⟨g, 0, none⟩) n n) (badC a b k)
  lt : p + 1 + 1 + 1 + 1 < W.heap.size
  old : RowsL p W v L
theorem Bd.on {W W' : World} {p : Nat} {v : Value} {L : List (List Int)} {a b : Int} (h : Bd W p v L a b) (hb : Below W.heap.size W W') : Bd W' p v L a b :=
  ⟨h.fi.on hb, fun k hk => by
    obtain ⟨g, n, h1, h2⟩ := h.at_ k hk
    exact ⟨g, n, (hb.cell (p := ⟨_, k, none⟩) h.lt).trans h1, rowV_lits.1 (((RowV.below hb (rowV_lits.2 h2))).more hb.size)⟩, Nat.lt_of_lt_of_le h.lt hb.size, RowsV.below (hb.mono (by have := h.lt; omega)) h.old⟩
theorem bd_made {w : World} {v : Value} {L : List (List Int)} {a b : Int} (hr : RowsL w.heap.size w v L) {W : World}
    (hW : ((((w.alloc (.cells #[.int .i64 8, v] 42)).alloc (.cells #[.int .i64 1, .int .i64 0] 65)).alloc (.cells #[.int .i64 (-2), .int .i64 a] 65)).alloc (.cells #[.int .i64 b] 65)).alloc
      (.cells #[.slice (some ⟨w.heap.size + 1, 0, none⟩) 2 2, .slice (some ⟨w.heap.size + 1 + 1, 0, none⟩) 2 2, .slice (some ⟨w.heap.size + 1 + 1 + 1, 0, none⟩) 1 1] 30) = W) : Bd W w.heap.size v L a b ∧ Below w.heap.size w W := by
  have a0 := Whole.made w 42 #[.int .i64 8, v]
  have b0 := below1a w (.cells #[.int .i64 8, v] 42)
  obtain ⟨w1, h1⟩ : ∃ x, w.alloc (.cells #[.int .i64 8, v] 42) = x := ⟨_, rfl⟩
  have s1 : w1.heap.size = w.heap.size + 1 := by rw [← h1]; simp
  rw [h1] at a0 b0 hW
  have a1 := Whole.made w1 65 #[.int .i64 1, .int .i64 0]
  have b1 := below1a w1 (.cells #[.int .i64 1, .int .i64 0] 65)
  obtain ⟨w2, h2⟩ : ∃ x, w1.alloc (.cells #[.int .i64 1, .int .i64 0] 65) = x := ⟨_, rfl⟩
  have s2 : w2.heap.size = w.heap.size + 1 + 1 := by rw [← h2]; simp [s1]
  rw [h2] at a1 b1 hW
  have a2 := Whole.made w2 65 #[.int .i64 (-2), .int .i64 a]
  have b2 := below1a w2 (.cells #[.int .i64 (-2), .int .i64 a] 65)
  obtain ⟨w3, h3⟩ : ∃ x, w2.alloc (.cells #[.int .i64 (-2), .int .i64 a] 65) = x := ⟨_, rfl⟩
  have s3 : w3.heap.size = w.heap.size + 1 + 1 + 1 := by rw [← h3]; simp [s2]
  rw [h3] at a2 b2 hW
  have a3 := Whole.made w3 65 #[.int .i64 b]
  have b3 := below1a w3 (.cells #[.int .i64 b] 65)
  obtain ⟨w4, h4⟩ : ∃ x, w3.alloc (.cells #[.int .i64 b] 65) = x := ⟨_, rfl⟩
  have s4 : w4.heap.size = w.heap.size + 1 + 1 + 1 + 1 := by rw [← h4]; simp [s3]
  rw [h4] at a3 b3 hW
  have a4 := Whole.made w4 30 #[.slice (some ⟨w.heap.size + 1, 0, none⟩) 2 2, .slice (some ⟨w.heap.size + 1 + 1, 0, none⟩) 2 2, .slice (some ⟨w.heap.size + 1 + 1 + 1, 0, none⟩) 1 1]
  have b4 := below1a w4 (.cells #[.slice (some ⟨w.heap.size + 1, 0, none⟩) 2 2, .slice (some ⟨w.heap.size + 1 + 1, 0, none⟩) 2 2, .slice (some ⟨w.heap.size + 1 + 1 + 1, 0, none⟩) 1 1] 30)
  rw [hW] at a4 b4
  rw [s1] at a1
  rw [s2] at a2
  rw [s3] at a3
  rw [s4] at a4
  have b34 := below_cat b3 b4
  have b24 := below_cat b2 b34
  have b14 := below_cat b1 b24
  have b04 := below_cat b0 b14
  refine ⟨⟨⟨a0.same (b14.block _ a0.lt), (RowsV.below b04 hr).more b04.size⟩, fun k hk => ?_, a4.lt, RowsV.below b04 hr⟩, b04⟩
  have hk3 : k = 0 ∨ k = 1 ∨ k = 2 := by omega
  rcases hk3 with rfl | rfl | rfl
  · exact ⟨_, _, a4.cell 0, lits_block [1, 0] (a1.same (b24.block _ a1.lt)) (Nat.lt_of_lt_of_le a1.lt b24.size)⟩
  · exact ⟨_, _, a4.cell 1, lits_block [-2, a] (a2.same (b34.block _ a2.lt)) (Nat.lt_of_lt_of_le a2.lt b34.size)⟩
  · exact ⟨_, _, a4.cell 2, lits_block [b] (a3.same (b4.block _ a3.lt)) (Nat.lt_of_lt_of_le a3.lt b4.size)⟩
/-- What is wrong with each of them. -/
theorem bad_e {n : Int} {k : Nat} (hk : k < 3) : (k = 0 ∧ badE 8 (badC (max n 9) (min n (-9)) k) = 20) ∨ (k ≠ 0 ∧ rightB (badC (max n 9) (min n (-9)) k) = true ∧ badE 8 (badC (max n 9) (min n (-9)) k) = 51) ∨ (k ≠ 0 ∧ rightB (badC (max n 9) (min n (-9)) k) = false ∧ badE 8 (badC (max n 9) (min n (-9)) k) = 20) := by
  have hk3 : k = 0 ∨ k = 1 ∨ k = 2 := by omega
  rcases hk3 with rfl | rfl | rfl
  · exact .inl ⟨rfl, badE_none (show rightB [1, 0] = false by decide)⟩
  · have e : badC (max n 9) (min n (-9)) 1 = [-2, max n 9] := rfl
    rw [e]
    cases h : rightB [-2, max n 9]
    · exact .inr (.inr ⟨by decide, rfl, badE_none h⟩)
    · have hl := (rightB_of h).2 (max n 9) (by simp)
      exact .inr (.inl ⟨by decide, rfl, badE_lit h (l := max n 9) (by simp) (by rw [varI_small hl]; omega)⟩)
  · have e : badC (max n 9) (min n (-9)) 2 = [min n (-9)] := rfl
    rw [e]
    cases h : rightB [min n (-9)]
    · exact .inr (.inr ⟨by decide, rfl, badE_none h⟩)
    · have hl := (rightB_of h).2 (min n (-9)) (by simp)
      exact .inr (.inl ⟨by decide, rfl, badE_lit h (l := min n (-9)) (by simp) (by rw [varI_small hl]; omega)⟩)
theorem chk_ins {zss : List (List Int)} {t : Nat} {bad : List Int} {e : Int} (ht : t ≤ (madeF zss).length) (he : badE 8 bad = e) (h0 : e ≠ 0) : chkI 8 ((madeF zss).take t ++ bad :: (madeF zss).drop t) = ((t : Int), e) := by
  have hl := madeF_len zss
  have hat := fun j => ins_at (madeF zss) bad t j ht
  refine chkI_at (by omega) (by simp; omega) (k := t) (zs := bad) (by rw [hat]; simp) (fun m ys hm hy => ?_) he h0
  rw [hat, if_pos hm] at hy
  have hc := madeF_cl ys (List.mem_of_getElem? hy)
  exact cl_bad (by have := hc.1; omega) hc.2
theorem has_far {n : Int} : hasV 8 (max n 9) = false := by
  unfold hasV
  cases h : litB (max n 9)
  · rfl
  · rw [varI_small h, Bool.true_and, decide_eq_false_iff_not]; omega
theorem mdl_far {n : Int} : mdlE 8 [1, min n (-9)] = 51 := by
  unfold mdlE
  rw [if_neg (by omega)]
  have h1 : litE 8 ([] ++ [1, min n (-9)].take 1) (min n (-9)) = 51 := by
    unfold litE
    rw [if_pos]
    cases h : litB (min n (-9))
    · left; unfold varI; rw [if_neg (by rw [h]; decide)]; omega
    · right; rw [varI_small h]; omega
  have h2 := modE_at (vars := 8) [1, min n (-9)] [] 1 (min n (-9)) rfl (fun m x hm hx => by
    obtain rfl : m = 0 := by omega
    obtain rfl : 1 = x := by simpa using hx
    show litE 8 [] 1 = 0
    decide) (by rw [h1]; decide)
  rw [h2, h1]
theorem mdl_none {n : Int} : mdlE (min n (-1)) [] = 50 := by
  unfold mdlE
  rw [if_pos (by omega)]
theorem rowF_one {K : Nat → Prop} {W : World} {sv : Value} {xs : List Value} (h : RowF K W sv xs) : sv.oneCell' = true := by
  rcases h with ⟨A, c, rfl, -⟩ | ⟨b, off, cap, rfl, -⟩ <;> simp [Value.oneCell']
theorem rowV_set {W : World} {sv : Value} {xs : List Value} {g : Nat} (h : RowV W.heap.size W sv xs) (hn : sv.ownBlock ≠ some g) (i : Nat) (u : Value) : RowV (W.setCell ⟨g, i, none⟩ u).heap.size (W.setCell ⟨g, i, none⟩ u) sv xs := by
  rcases h with e | ⟨b, off, cap, e, hb, hc⟩
  · exact .inl e
  · have hbg : b ≠ g := fun e' => hn (by rw [e, e']; rfl)
    have hk := Below.heap_setCell W ⟨g, i, none⟩ u b hbg
    exact .inr ⟨b, off, cap, e, by simpa [World.setCell] using hb, fun j hj => ⟨(World.cell?_of_block hk).trans (hc j hj).1, (World.frozen?_of_block hk).trans (hc j hj).2⟩⟩
/-- The clause put in: its formula, behind the store. -/
theorem wr_insert {wr w2 : World} {A2 : Option Addr} {c2 m gb nb t : Nat} {L : List (List Int)} {bad : List Int} (hm : L.length = m) (hm30 : m ≤ 30) (ht : t ≤ m) (hown : OwnL wr.heap.size w2 (.slice A2 m c2) L) (hb2 : Below wr.heap.size wr w2) (hbl : Lits wr.heap.size wr (.slice (some ⟨gb, 0, none⟩) nb nb) bad) :
    Calls Try.prog 33 #[.slice A2 m c2, .int .i64 t, .slice (some ⟨w2.heap.size + 1, 0, none⟩) 1 1] ((w2.alloc (.cells #[.int .i64 8, .slice A2 m c2] 42)).alloc (.cells #[.slice (some ⟨gb, 0, none⟩) nb nb] 30))
      fun e w' => ∃ A6 n6 c6, e = .returned (.slice A6 n6 c6) ∧ Whole w' w2.heap.size 42 #[.int .i64 8, .slice A2 m c2] ∧
        ∀ W, w'.setCell ⟨w2.heap.size, 1, none⟩ (.slice A6 n6 c6) = W → Fi W w2.heap.size 8 (.slice A6 n6 c6) (L.take t ++ bad :: L.drop t) ∧ Below wr.heap.size wr W := by
  obtain ⟨svs, hrow, hin⟩ := hown
  have hsl : svs.length = m := by rw [hin.1, cellsL_len, hm]
  have hone : ∀ u ∈ svs, u.oneCell' = true := fun u hu => by
    obtain ⟨j, hj, rfl⟩ := List.mem_iff_getElem.1 hu
    have hjc : j < (cellsL L).length := by rw [← hin.1]; exact hj
    obtain ⟨sv, h1, h2⟩ := hin.2 j _ (List.getElem?_eq_getElem hjc)
    rw [List.getElem?_eq_getElem hj] at h1
    cases h1
    exact rowF_one h2
  have b1 := below1a w2 (.cells #[.int .i64 8, .slice A2 m c2] 42)
  have b2 := below1a (w2.alloc (.cells #[.int .i64 8, .slice A2 m c2] 42)) (.cells #[.slice (some ⟨gb, 0, none⟩) nb nb] 30)
  have hb4 := below_cat b1 b2
  have n1 := Whole.made w2 42 #[.int .i64 8, .slice A2 m c2]
  have n1 := n1.same (b2.block _ n1.lt)
  have n2 := Whole.made (w2.alloc (.cells #[.int .i64 8, .slice A2 m c2] 42)) 30 #[.slice (some ⟨gb, 0, none⟩) nb nb]
  rw [World.size_alloc] at n2
  have hown : ∀ b, (Value.slice A2 m c2).ownBlock = some b → wr.heap.size ≤ b ∧ b < w2.heap.size := fun b e => hrow.lt b e
  have hrow4 := owns_on0 hrow hb4
  rw [← hin.1] at hrow4
  have hins := insert_row _ (.slice A2 m c2) svs t (.slice (some ⟨gb, 0, none⟩) nb nb) (w2.heap.size + 1) _ wr.heap.size (by simp [Value.oneCell']) hone (by omega) (by omega) hrow4 n2 (fun e => by have := (hown _ e).2; omega)
  refine hins.mono ?_
  rintro e w6 ⟨v6, rfl, h6, hk6, hv6⟩
  obtain ⟨A6, c6, rfl, -⟩ := h6.shape
  have hw6 := n1.same (hk6.block _ n1.lt (fun e => by have := (hown _ e).2; omega))
  refine ⟨A6, _, c6, rfl, hw6, ?_⟩
  rintro W rfl
  have hv : (Value.slice A6 (svs.take t ++ Value.slice (some ⟨gb, 0, none⟩) nb nb :: svs.drop t).length c6).ownBlock ≠ some w2.heap.size := fun e => by
    rcases hv6 _ e with h | h
    · have := (hown _ h).2; omega
    · have := b1.size; simp at h; omega
  have hkW : Keeps (fun b => (Value.slice A2 m c2).ownBlock = some b ∨ b = w2.heap.size) _ w6 := ⟨hk6.os, hk6.tape, hk6.output, hk6.size, fun k hk hn => hk6.block k hk (fun x => hn (.inl x))⟩
  obtain ⟨h7, h8⟩ := insert_rows (by omega) hrow hin hb2 hb4 (rowV_set h6 hv 1 _) (hkW.setCell (p := ⟨w2.heap.size, 1, none⟩) (.inl (.inr rfl)) _) hbl
  exact ⟨⟨hw6.store 1 _, h7⟩, h8⟩
theorem few_ins {zss : List (List Int)} {t : Nat} {bad : List Int} (hb : bad.length ≤ 2) : (((madeF zss).take t ++ bad :: (madeF zss).drop t).length ≤ 1000) ∧ ∀ zs ∈ (madeF zss).take t ++ bad :: (madeF zss).drop t, zs.length ≤ 1000000 := by
  have hl := madeF_len zss
  refine ⟨by simp; omega, fun zs hz => ?_⟩
  rcases List.mem_append.1 hz with h | h
  · exact short_made _ (List.mem_of_mem_take h)
  · rcases List.mem_cons.1 h with rfl | h
    · omega
    · exact short_made _ (List.mem_of_mem_drop h)
section
variable {W : World} {p : Nat} {v : Value} {L : List (List Int)} {t : Nat} {E : Int}
theorem e_check (h : Fi W p 8 v L) (hs : L.length ≤ 1000 ∧ ∀ zs ∈ L, zs.length ≤ 1000000) (hc : chkI 8 L = ((t : Int), E)) : Calls Try.prog 35 #[.agg #[.int .i64 8, v]] W fun e w' => e = .returned (.tuple #[.int .i64 t, .int .i64 E]) ∧ Below W.heap.size W w' := by
  have := check_any 8 W (Nat.le_refl _) (by omega) hs.2 h.rows
  rw [hc] at this
  exact this
theorem e_value (h : Fi W p 8 v L) (hs : L.length ≤ 1000 ∧ ∀ zs ∈ L, zs.length ≤ 1000000) (hc : chkI 8 L = ((t : Int), E)) (h0 : E ≠ 0) : Calls Try.prog 22 #[.agg #[.int .i64 8, v], .slice none 0 0] W fun e w' => ∃ b, e = .returned (.tuple #[.bool b, .int .i64 E]) ∧ Below W.heap.size W w' := by
  refine (value_any (bs := []) 8 W (Nat.le_refl _) (by omega) hs.2 h.rows (.inl ⟨_, _, rfl, fun _ => rfl, rfl⟩)).mono fun e w' ⟨he, hB⟩ => ⟨valueR 8 L [], ?_, hB⟩
  rw [he]
  unfold failsR
  rw [hc, if_neg h0]
theorem e_norm (h : Fi W p 8 v L) (hs : L.length ≤ 1000 ∧ ∀ zs ∈ L, zs.length ≤ 1000000) (hc : chkI 8 L = ((t : Int), E)) (h0 : E ≠ 0) : Calls Try.prog 36 #[.agg #[.int .i64 8, v]] W fun e w' => e = .returned (.tuple #[.agg #[.int .i64 0, .slice none 0 0], .int .i64 E]) ∧ Below W.heap.size W w' :=
  fonorm_bad 8 W (Nat.le_refl _) (by omega) hs.2 h.rows E (by rw [hc]) h0
theorem e_assign (h : Fi W p 8 v L) (hs : L.length ≤ 1000 ∧ ∀ zs ∈ L, zs.length ≤ 1000000) (l : Int) (hc : (if (chkI 8 L).2 = 0 then (if hasV 8 l then 0 else 51) else (chkI 8 L).2) = E) (h0 : E ≠ 0) : Calls Try.prog 37 #[.agg #[.int .i64 8, v], .int .i64 l] W fun e w' => e = .returned (.tuple #[.agg #[.int .i64 0, .slice none 0 0], .int .i64 E]) ∧ Below W.heap.size W w' :=
  assign_bad 8 l W (Nat.le_refl _) (by omega) hs.2 h.rows E hc h0
theorem e_count (h : Fi W p 8 v L) (hs : L.length ≤ 1000 ∧ ∀ zs ∈ L, zs.length ≤ 1000000) (hc : chkI 8 L = ((t : Int), E)) (h0 : E ≠ 0) : Calls Try.prog 19 #[.agg #[.int .i64 8, v]] W fun e w' => e = .returned (.tuple #[.int .i64 0, .int .i64 E]) ∧ Below W.heap.size W w' :=
  count_bad 8 W (Nat.le_refl _) (by omega) hs.2 h.rows E (by unfold triedE; rw [hc, if_neg h0]) h0
end
/-- As many falses. -/
def falsesA (k : Nat) : Array Value := ((List.replicate k false).map Value.bool).toArray
theorem falses_made (k : Nat) : madeCells #[.bool false] k = falsesA k := by
  unfold madeCells falsesA
  apply Array.ext
  · simp
  · intro i h1 h2
    simp [Nat.mod_one]
theorem mk_falses (k : Nat) (hk : k ≤ 1000) (W : World) : (Instr.makeSlice 23 (.int .i64 (k : Nat)) (.int .i64 (k : Nat))).run Try.prog W = .ok (.slice (some ⟨W.heap.size, 0, none⟩) k k) (W.alloc (.cells (falsesA k) 4)) := by
  have h := run_make_row' 23 4 (.bool false) 1 Try.underlying23 infoBool rfl .i64 .i64 k (by omega) (by omega) W
  rw [h, falses_made]
section
variable {W : World} {p : Nat} {v : Value} {zss : List (List Int)}
theorem bools_falses (W : World) (k : Nat) : Bools (W.alloc (.cells (falsesA k) 4)).heap.size (W.alloc (.cells (falsesA k) 4)) (.slice (some ⟨W.heap.size, 0, none⟩) k k) (List.replicate k false) := by
  have h := bools_block (C := (W.alloc (.cells (falsesA k) 4)).heap.size) (List.replicate k false) (Whole.made W 4 (falsesA k)) (by simp)
  rwa [List.length_replicate] at h
theorem f_value (h : Fi W p 8 v (madeF zss)) : Calls Try.prog 22 #[.agg #[.int .i64 8, v], .slice (some ⟨W.heap.size, 0, none⟩) 7 7] (W.alloc (.cells (falsesA 7) 4)).drew fun e w' => e = .returned (.tuple #[.bool false, .int .i64 52]) ∧ Below W.heap.size W w' := by
  have hb := ((Below.refl W.heap.size W).alloc (Nat.le_refl _) (.cells (falsesA 7) 4)).drew
  have hf := h.on hb
  have hr : failsR 8 (madeF zss) (List.replicate 7 false) = (0, false, 52) := by unfold failsR; rw [chk_made]; rfl
  refine (value_any (bs := List.replicate 7 false) 8 _ (Nat.le_refl _) (by have := madeF_len zss; omega) short_made hf.rows (bools_falses W 7)).mono fun e w' ⟨he, hB⟩ => ⟨?_, hb.trans (hB.mono hb.size)⟩
  rw [he]
  unfold valueR
  rw [hr]
  rfl
theorem f_fails (h : Fi W p 8 v (madeF zss)) : Calls Try.prog 25 #[.agg #[.int .i64 8, v], .slice (some ⟨W.heap.size, 0, none⟩) 9 9] (W.alloc (.cells (falsesA 9) 4)).drew fun e w' => e = .returned (.tuple #[.int .i64 0, .bool false, .int .i64 52]) ∧ Below W.heap.size W w' := by
  have hb := ((Below.refl W.heap.size W).alloc (Nat.le_refl _) (.cells (falsesA 9) 4)).drew
  have hf := h.on hb
  have hr : failsR 8 (madeF zss) (List.replicate 9 false) = (0, false, 52) := by unfold failsR; rw [chk_made]; rfl
  refine (fails_any (bs := List.replicate 9 false) 8 _ (Nat.le_refl _) (by have := madeF_len zss; omega) short_made hf.rows (bools_falses W 9)).mono fun e w' ⟨he, hB⟩ => ⟨?_, hb.trans (hB.mono hb.size)⟩
  rw [he, hr]
end
def WrRel (w5 : World) (i : Value) (wr : World) : Prop := ∃ k : Nat, k ≤ 3 ∧ i = .int .i64 k ∧ Below w5.heap.size w5 wr
set_option maxRecDepth 100000 in
set_option maxHeartbeats 4000000 in
theorem formulaWrong_walk (v : Value) (zss : List (List Int)) (_hl : zss.length ≤ maxLen) (hz : ∀ zs ∈ zss, zs.length ≤ maxLen ∧ ∀ x ∈ zs, (Lit.int .u8 x).wf = true) (at_ : Int) (ha : (Lit.int .u8 at_).wf = true) (n : Int) (_hn : (Lit.int .i64 n).wf = true) (w : World) (hR : Rows2 .u8 w.heap.size w v zss) :
    Calls Try.prog 6 #[v, .int .u8 at_, .int .i64 n] w fun e w' => e = .returned (.bool true) ∧ Below w.heap.size w w' := by
  have ha := u8_wf ha
  obtain ⟨m, hm⟩ : ∃ m, (madeF zss).length = m := ⟨_, rfl⟩
  have hm30 : m ≤ 30 := by have := madeF_len zss; omega
  have hmade := foMade_any w (Nat.le_refl _) hz hR
  have HMade := Lib.hid hmade; have HM := Lib.hid hm
  clear hmade hm hR hz
  go_enter Try.func6, Try.ntmps6
  go_wp2_with fail
  refine HMade.out.mono ?_
  rintro e w1 ⟨vf, rfl, hown, hb1⟩
  have hsh := hown.len
  rw [cellsL_len, HM.out] at hsh
  obtain ⟨A, c, rfl⟩ := hsh
  have HF := Lib.hid hown.rowsL; have HB1 := Lib.hid hb1
  clear hown hb1 HMade
  go_wp2_with fail
  obtain ⟨t, ht⟩ : ∃ t : Nat, at_ % ((m : Int) + 1) = (t : Int) := ⟨(at_ % ((m : Int) + 1)).toNat, (Int.toNat_of_nonneg (Int.emod_nonneg _ (by omega))).symm⟩
  have htm : t ≤ m := by have := Int.emod_lt_of_pos at_ (show (0 : Int) < (m : Int) + 1 by omega); omega
  rw [ht]
  clear ht
  obtain ⟨w5, hw5⟩ : ∃ W, (((((w1.alloc (.cells #[.int .i64 8, .slice A m c] 42)).alloc (.cells #[.int .i64 1, .int .i64 0] 65)).alloc (.cells #[.int .i64 (-2), .int .i64 (max n 9)] 65)).alloc (.cells #[.int .i64 (min n (-9))] 65)).alloc
      (.cells #[.slice (some ⟨w1.heap.size + 1, 0, none⟩) 2 2, .slice (some ⟨w1.heap.size + 1 + 1, 0, none⟩) 2 2, .slice (some ⟨w1.heap.size + 1 + 1 + 1, 0, none⟩) 1 1] 30)) = W := ⟨_, rfl⟩
  obtain ⟨hbd, hb5⟩ := bd_made HF.out hw5
  rw [hw5]
  obtain ⟨p, hp⟩ : ∃ p, w1.heap.size = p := ⟨_, rfl⟩
  rw [hp] at hbd ⊢
  have HPw : w.heap.size ≤ p := by rw [← hp]; exact HB1.out.size
  have HBd := Lib.hid hbd; have HB5 := Lib.hid (below_cat HB1.out hb5)
  clear hbd hb5 hw5 hp HB1 HF
  go_loopw [56] (fun i wr => WrRel w5 i wr) (fun i _ => 3 - (intOf i).toNat)
  case atStart => exact ⟨0, by omega, rfl, Below.refl _ _⟩
  case round =>
    obtain ⟨k, hk, rfl, hbr⟩ := hrel
    have hbd := HBd.out.on hbr
    have c0 := hbd.fi.c0
    have c1 := hbd.fi.c1
    by_cases hlt : k < 3
    · obtain ⟨gb, nb, hx, hbl⟩ := hbd.at_ k hlt
      have hki : (k : Int) < 3 := by omega
      have hcp := copy_any (L := madeF zss) 8 wr (Nat.le_refl _) (by have := madeF_len zss; omega) short_made hbd.fi.rows
      have hlb := badC_len (max n 9) (min n (-9)) k
      have hri := clright_any wr.heap.size (.slice (some ⟨gb, 0, none⟩) nb nb) (badC (max n 9) (min n (-9)) k) (by omega)
      have hbe := bad_e (n := n) hlt
      obtain ⟨bad, hbad⟩ : ∃ x, badC (max n 9) (min n (-9)) k = x := ⟨_, rfl⟩
      rw [hbad] at hbl hri hbe hlb
      have HBl := Lib.hid hbl; have HCp := Lib.hid hcp; have HRi := Lib.hid hri; have HNx := Lib.hid hlt; have HBr := Lib.hid hbr; have HLb := Lib.hid hlb
      clear hbl hcp hri hbad hlt hbr hbd hlb
      rcases hbe with ⟨hk0, he⟩ | ⟨hk0, hr, he⟩ | ⟨hk0, hr, he⟩
      · have hq : ((k : Int) == 0) = true := by rw [hk0]; rfl
        have hck := chk_ins (zss := zss) (t := t) (by rw [HM.out]; exact htm) he (by decide)
        have has : (if (chkI 8 ((madeF zss).take t ++ bad :: (madeF zss).drop t)).2 = 0 then (if hasV 8 0 then 0 else 51) else (chkI 8 ((madeF zss).take t ++ bad :: (madeF zss).drop t)).2) = 20 := by rw [hck]; rfl
        have HCk := Lib.hid hck; have HAs := Lib.hid has; have HFw := Lib.hid (few_ins (zss := zss) (t := t) HLb.out)
        clear hck has he
        clear hk0 HRi
        go_wp2_with fail
        refine HCp.out.mono ?_
        rintro e w2 ⟨v2, rfl, hown2, hb2⟩
        obtain ⟨A2, c2, hv2⟩ := hown2.len
        rw [cellsL_len, HM.out] at hv2
        subst hv2
        have hwi := wr_insert HM.out hm30 htm hown2 hb2 HBl.out
        have hbl2 := rowV_lits.1 (RowV.below hb2 (rowV_lits.2 HBl.out))
        have HWi := Lib.hid hwi; have HB2 := Lib.hid hb2
        clear hown2 hb2 hwi hbl2 HCp HBl c0 c1 hx
        go_wp2_with fail
        refine HWi.out.mono ?_
        rintro e w6 ⟨A6, n6, c6, rfl, hwh6, hfi⟩
        have d0 : w6.cell? ⟨w2.heap.size, 0, none⟩ = some (.int .i64 8) := hwh6.cell 0
        have d1 : w6.cell? ⟨w2.heap.size, 1, none⟩ = some (.slice A2 m c2) := hwh6.cell 1
        have f1 := hwh6.frozen 1
        have hlt6 := hwh6.lt
        have HFi := Lib.hid hfi
        clear hwh6 hfi HWi
        go_wp2_with fail
        obtain ⟨w7, hw7⟩ : ∃ W, w6.setCell ⟨w2.heap.size, 1, none⟩ (.slice A6 n6 c6) = W := ⟨_, rfl⟩
        obtain ⟨hf7, hb7⟩ := HFi.out w7 hw7
        rw [hw7]
        obtain ⟨p2, hp2⟩ : ∃ x, w2.heap.size = x := ⟨_, rfl⟩
        rw [hp2] at hf7 ⊢
        have HF7 := Lib.hid hf7; have HB7 := Lib.hid hb7
        clear hf7 hb7 hw7 hp2 HFi d0 d1 f1 hlt6
        refine (e_check HF7.out HFw.out HCk.out).mono ?_
        rintro e w8 ⟨rfl, hb8⟩
        have hf8 := HF7.out.on hb8
        have d0 := hf8.c0
        have d1 := hf8.c1
        have HF8 := Lib.hid hf8; have HB8 := Lib.hid (HB7.out.trans (hb8.mono HB7.out.size))
        clear hf8 hb8 HF7 HB7
        go_wp2_with fail
        refine (e_value HF8.out HFw.out HCk.out (by decide)).mono ?_
        rintro e w9 ⟨b9, rfl, hb9⟩
        have hf9 := HF8.out.on hb9
        have d0 := hf9.c0
        have d1 := hf9.c1
        have HF9 := Lib.hid hf9; have HB9 := Lib.hid (HB8.out.trans (hb9.mono HB8.out.size))
        clear hf9 hb9 HF8 HB8
        go_wp2_with fail
        refine (e_norm HF9.out HFw.out HCk.out (by decide)).mono ?_
        rintro e w10 ⟨rfl, hb10⟩
        have hba := below1a w10 (.cells #[.int .i64 0, .slice none 0 0] 42)
        have hf10 := (HF9.out.on hb10).on hba
        have d0 := hf10.c0
        have d1 := hf10.c1
        have HF10 := Lib.hid hf10; have HB10 := Lib.hid (HB9.out.trans ((below_cat hb10 hba).mono HB9.out.size))
        clear hf10 hb10 hba HF9 HB9
        go_wp2_with fail
        refine (e_assign HF10.out HFw.out 0 HAs.out (by decide)).mono ?_
        rintro e w11 ⟨rfl, hb11⟩
        have hba := below1a w11 (.cells #[.int .i64 0, .slice none 0 0] 42)
        have hf11 := (HF10.out.on hb11).on hba
        have d0 := hf11.c0
        have d1 := hf11.c1
        have HF11 := Lib.hid hf11; have HB11 := Lib.hid (HB10.out.trans ((below_cat hb11 hba).mono HB10.out.size))
        clear hf11 hb11 hba HF10 HB10
        go_wp2_with fail
        refine (e_count HF11.out HFw.out HCk.out (by decide)).mono ?_
        rintro e w12 ⟨rfl, hb12⟩
        have HB12 := Lib.hid (HB11.out.trans (hb12.mono HB11.out.size))
        clear hb12 HF11 HB11
        go_wp2_with fail
        go_roundw
        case rel => exact ⟨k + 1, HNx.out, by go_num, below_cat HBr.out HB12.out⟩
        case measure => simp [intOf]; omega
      · have hq : ((k : Int) == 0) = false := by rw [beq_eq_false_iff_ne]; omega
        have hck := chk_ins (zss := zss) (t := t) (by rw [HM.out]; exact htm) he (by decide)
        have has : (if (chkI 8 ((madeF zss).take t ++ bad :: (madeF zss).drop t)).2 = 0 then (if hasV 8 0 then 0 else 51) else (chkI 8 ((madeF zss).take t ++ bad :: (madeF zss).drop t)).2) = 51 := by rw [hck]; rfl
        have HCk := Lib.hid hck; have HAs := Lib.hid has; have HFw := Lib.hid (few_ins (zss := zss) (t := t) HLb.out)
        clear hck has he
        have HR := Lib.hid hr
        clear hk0 hr
        go_wp2_with fail
        refine HCp.out.mono ?_
        rintro e w2 ⟨v2, rfl, hown2, hb2⟩
        obtain ⟨A2, c2, hv2⟩ := hown2.len
        rw [cellsL_len, HM.out] at hv2
        subst hv2
        have hwi := wr_insert HM.out hm30 htm hown2 hb2 HBl.out
        have hbl2 := rowV_lits.1 (RowV.below hb2 (rowV_lits.2 HBl.out))
        have HWi := Lib.hid hwi; have HB2 := Lib.hid hb2
        have HBl2 := HBl
        clear hown2 hb2 hwi hbl2 HCp HBl c0 c1 hx
        go_wp2_with fail
        refine HWi.out.mono ?_
        rintro e w6 ⟨A6, n6, c6, rfl, hwh6, hfi⟩
        have d0 : w6.cell? ⟨w2.heap.size, 0, none⟩ = some (.int .i64 8) := hwh6.cell 0
        have d1 : w6.cell? ⟨w2.heap.size, 1, none⟩ = some (.slice A2 m c2) := hwh6.cell 1
        have f1 := hwh6.frozen 1
        have hlt6 := hwh6.lt
        have HFi := Lib.hid hfi
        clear hwh6 hfi HWi
        go_wp2_with fail
        obtain ⟨w7, hw7⟩ : ∃ W, w6.setCell ⟨w2.heap.size, 1, none⟩ (.slice A6 n6 c6) = W := ⟨_, rfl⟩
        obtain ⟨hf7, hb7⟩ := HFi.out w7 hw7
        rw [hw7]
        obtain ⟨p2, hp2⟩ : ∃ x, w2.heap.size = x := ⟨_, rfl⟩
        rw [hp2] at hf7 ⊢
        have HF7 := Lib.hid hf7; have HB7 := Lib.hid hb7
        clear hf7 hb7 hw7 hp2 HFi d0 d1 f1 hlt6
        refine (HRi.out w7 (rowV_lits.1 (RowV.below HB7.out (rowV_lits.2 HBl2.out))).ints).mono ?_
        rintro e w8 ⟨rfl, rfl⟩
        rw [HR.out]
        have d0 := HF7.out.c0
        have d1 := HF7.out.c1
        go_wp2_with fail
        refine (e_check HF7.out HFw.out HCk.out).mono ?_
        rintro e w8 ⟨rfl, hb8⟩
        have hf8 := HF7.out.on hb8
        have d0 := hf8.c0
        have d1 := hf8.c1
        have HF8 := Lib.hid hf8; have HB8 := Lib.hid (HB7.out.trans (hb8.mono HB7.out.size))
        clear hf8 hb8 HF7 HB7
        go_wp2_with fail
        refine (e_value HF8.out HFw.out HCk.out (by decide)).mono ?_
        rintro e w9 ⟨b9, rfl, hb9⟩
        have hf9 := HF8.out.on hb9
        have d0 := hf9.c0
        have d1 := hf9.c1
        have HF9 := Lib.hid hf9; have HB9 := Lib.hid (HB8.out.trans (hb9.mono HB8.out.size))
        clear hf9 hb9 HF8 HB8
        go_wp2_with fail
        refine (e_norm HF9.out HFw.out HCk.out (by decide)).mono ?_
        rintro e w10 ⟨rfl, hb10⟩
        have hba := below1a w10 (.cells #[.int .i64 0, .slice none 0 0] 42)
        have hf10 := (HF9.out.on hb10).on hba
        have d0 := hf10.c0
        have d1 := hf10.c1
        have HF10 := Lib.hid hf10; have HB10 := Lib.hid (HB9.out.trans ((below_cat hb10 hba).mono HB9.out.size))
        clear hf10 hb10 hba HF9 HB9
        go_wp2_with fail
        refine (e_assign HF10.out HFw.out 0 HAs.out (by decide)).mono ?_
        rintro e w11 ⟨rfl, hb11⟩
        have hba := below1a w11 (.cells #[.int .i64 0, .slice none 0 0] 42)
        have hf11 := (HF10.out.on hb11).on hba
        have d0 := hf11.c0
        have d1 := hf11.c1
        have HF11 := Lib.hid hf11; have HB11 := Lib.hid (HB10.out.trans ((below_cat hb11 hba).mono HB10.out.size))
        clear hf11 hb11 hba HF10 HB10
        go_wp2_with fail
        refine (e_count HF11.out HFw.out HCk.out (by decide)).mono ?_
        rintro e w12 ⟨rfl, hb12⟩
        have HB12 := Lib.hid (HB11.out.trans (hb12.mono HB11.out.size))
        clear hb12 HF11 HB11
        go_wp2_with fail
        go_roundw
        case rel => exact ⟨k + 1, HNx.out, by go_num, below_cat HBr.out HB12.out⟩
        case measure => simp [intOf]; omega
      · have hq : ((k : Int) == 0) = false := by rw [beq_eq_false_iff_ne]; omega
        have hck := chk_ins (zss := zss) (t := t) (by rw [HM.out]; exact htm) he (by decide)
        have has : (if (chkI 8 ((madeF zss).take t ++ bad :: (madeF zss).drop t)).2 = 0 then (if hasV 8 0 then 0 else 51) else (chkI 8 ((madeF zss).take t ++ bad :: (madeF zss).drop t)).2) = 20 := by rw [hck]; rfl
        have HCk := Lib.hid hck; have HAs := Lib.hid has; have HFw := Lib.hid (few_ins (zss := zss) (t := t) HLb.out)
        clear hck has he
        have HR := Lib.hid hr
        clear hk0 hr
        go_wp2_with fail
        refine HCp.out.mono ?_
        rintro e w2 ⟨v2, rfl, hown2, hb2⟩
        obtain ⟨A2, c2, hv2⟩ := hown2.len
        rw [cellsL_len, HM.out] at hv2
        subst hv2
        have hwi := wr_insert HM.out hm30 htm hown2 hb2 HBl.out
        have hbl2 := rowV_lits.1 (RowV.below hb2 (rowV_lits.2 HBl.out))
        have HWi := Lib.hid hwi; have HB2 := Lib.hid hb2
        have HBl2 := HBl
        clear hown2 hb2 hwi hbl2 HCp HBl c0 c1 hx
        go_wp2_with fail
        refine HWi.out.mono ?_
        rintro e w6 ⟨A6, n6, c6, rfl, hwh6, hfi⟩
        have d0 : w6.cell? ⟨w2.heap.size, 0, none⟩ = some (.int .i64 8) := hwh6.cell 0
        have d1 : w6.cell? ⟨w2.heap.size, 1, none⟩ = some (.slice A2 m c2) := hwh6.cell 1
        have f1 := hwh6.frozen 1
        have hlt6 := hwh6.lt
        have HFi := Lib.hid hfi
        clear hwh6 hfi HWi
        go_wp2_with fail
        obtain ⟨w7, hw7⟩ : ∃ W, w6.setCell ⟨w2.heap.size, 1, none⟩ (.slice A6 n6 c6) = W := ⟨_, rfl⟩
        obtain ⟨hf7, hb7⟩ := HFi.out w7 hw7
        rw [hw7]
        obtain ⟨p2, hp2⟩ : ∃ x, w2.heap.size = x := ⟨_, rfl⟩
        rw [hp2] at hf7 ⊢
        have HF7 := Lib.hid hf7; have HB7 := Lib.hid hb7
        clear hf7 hb7 hw7 hp2 HFi d0 d1 f1 hlt6
        refine (HRi.out w7 (rowV_lits.1 (RowV.below HB7.out (rowV_lits.2 HBl2.out))).ints).mono ?_
        rintro e w8 ⟨rfl, rfl⟩
        rw [HR.out]
        have d0 := HF7.out.c0
        have d1 := HF7.out.c1
        go_wp2_with fail
        refine (e_check HF7.out HFw.out HCk.out).mono ?_
        rintro e w8 ⟨rfl, hb8⟩
        have hf8 := HF7.out.on hb8
        have d0 := hf8.c0
        have d1 := hf8.c1
        have HF8 := Lib.hid hf8; have HB8 := Lib.hid (HB7.out.trans (hb8.mono HB7.out.size))
        clear hf8 hb8 HF7 HB7
        go_wp2_with fail
        refine (e_value HF8.out HFw.out HCk.out (by decide)).mono ?_
        rintro e w9 ⟨b9, rfl, hb9⟩
        have hf9 := HF8.out.on hb9
        have d0 := hf9.c0
        have d1 := hf9.c1
        have HF9 := Lib.hid hf9; have HB9 := Lib.hid (HB8.out.trans (hb9.mono HB8.out.size))
        clear hf9 hb9 HF8 HB8
        go_wp2_with fail
        refine (e_norm HF9.out HFw.out HCk.out (by decide)).mono ?_
        rintro e w10 ⟨rfl, hb10⟩
        have hba := below1a w10 (.cells #[.int .i64 0, .slice none 0 0] 42)
        have hf10 := (HF9.out.on hb10).on hba
        have d0 := hf10.c0
        have d1 := hf10.c1
        have HF10 := Lib.hid hf10; have HB10 := Lib.hid (HB9.out.trans ((below_cat hb10 hba).mono HB9.out.size))
        clear hf10 hb10 hba HF9 HB9
        go_wp2_with fail
        refine (e_assign HF10.out HFw.out 0 HAs.out (by decide)).mono ?_
        rintro e w11 ⟨rfl, hb11⟩
        have hba := below1a w11 (.cells #[.int .i64 0, .slice none 0 0] 42)
        have hf11 := (HF10.out.on hb11).on hba
        have d0 := hf11.c0
        have d1 := hf11.c1
        have HF11 := Lib.hid hf11; have HB11 := Lib.hid (HB10.out.trans ((below_cat hb11 hba).mono HB10.out.size))
        clear hf11 hb11 hba HF10 HB10
        go_wp2_with fail
        refine (e_count HF11.out HFw.out HCk.out (by decide)).mono ?_
        rintro e w12 ⟨rfl, hb12⟩
        have HB12 := Lib.hid (HB11.out.trans (hb12.mono HB11.out.size))
        clear hb12 HF11 HB11
        go_wp2_with fail
        go_roundw
        case rel => exact ⟨k + 1, HNx.out, by go_num, below_cat HBr.out HB12.out⟩
        case measure => simp [intOf]; omega
    · obtain rfl : k = 3 := by omega
      go_wp2_with fail
      have hmk := fun W => mk_falses 7 (by omega) W
      rw [show ((7 : Nat) : Int) = 7 from rfl] at hmk
      have hfv := f_value hbd.fi
      have HFv := Lib.hid hfv; have HBr := Lib.hid hbr; have HFi := Lib.hid hbd.fi
      clear hfv hbr hbd
      go_region_held3 (fun W' => W'.cell? ⟨p, 0, none⟩ = some (.int .i64 8) ∧ W'.cell? ⟨p, 1, none⟩ = some (.slice A m c)) (first | go_keep | exact ⟨hy0, hy1⟩) (first
        | (go_at_call 22; (with_reducible refine HFv.out.mono ?_); rintro e w2 ⟨rfl, hb2⟩; have hy0 := (HFi.out.on hb2).c0; have hy1 := (HFi.out.on hb2).c1))
      have hf2 := HFi.out.on hb2
      have HF2 := Lib.hid hf2; have HB2 := Lib.hid (below_cat HBr.out hb2)
      clear hf2 hb2 hy0 hy1 HFi HBr HFv c0 c1
      have c0 := HF2.out.c0
      have c1 := HF2.out.c1
      go_wp2_with fail
      have hmk := fun W => mk_falses 9 (by omega) W
      rw [show ((9 : Nat) : Int) = 9 from rfl] at hmk
      have hfv := f_fails HF2.out
      have HFv := Lib.hid hfv
      clear hfv
      go_region_held3 (fun W' => W'.cell? ⟨p, 0, none⟩ = some (.int .i64 8) ∧ W'.cell? ⟨p, 1, none⟩ = some (.slice A m c)) (first | go_keep | exact ⟨hy0, hy1⟩) (first
        | (go_at_call 25; (with_reducible refine HFv.out.mono ?_); rintro e w3 ⟨rfl, hb3⟩; have hy0 := (HF2.out.on hb3).c0; have hy1 := (HF2.out.on hb3).c1))
      have hf3 := HF2.out.on hb3
      have HF3 := Lib.hid hf3; have HB3 := Lib.hid (HB2.out.trans (hb3.mono HB2.out.size))
      have HCk := Lib.hid (chk_made zss)
      have HSm := Lib.hid (show (madeF zss).length ≤ 1000 ∧ ∀ zs ∈ madeF zss, zs.length ≤ 1000000 from ⟨by have := madeF_len zss; omega, short_made⟩)
      have HA1 := Lib.hid (show (if (chkI 8 (madeF zss)).2 = 0 then (if hasV 8 (max n 9) then 0 else 51) else (chkI 8 (madeF zss)).2) = (51 : Int) by rw [chk_made, has_far]; rfl)
      have HA2 := Lib.hid (show (if (chkI 8 (madeF zss)).2 = 0 then (if hasV 8 0 then 0 else 51) else (chkI 8 (madeF zss)).2) = (51 : Int) by rw [chk_made]; rfl)
      clear hf3 hb3 hy0 hy1 HF2 HB2 HFv c0 c1 hmk
      have c0 := HF3.out.c0
      have c1 := HF3.out.c1
      go_wp2_with fail
      refine (e_assign HF3.out HSm.out (max n 9) HA1.out (by decide)).mono ?_
      rintro e w4 ⟨rfl, hb4⟩
      have hba := below1a w4 (.cells #[.int .i64 0, .slice none 0 0] 42)
      have hf4 := (HF3.out.on hb4).on hba
      have d0 := hf4.c0
      have d1 := hf4.c1
      have HF4 := Lib.hid hf4; have HB4 := Lib.hid (HB3.out.trans ((below_cat hb4 hba).mono HB3.out.size))
      clear hf4 hb4 hba HF3 HB3 c0 c1
      go_wp2_with fail
      refine (e_assign HF4.out HSm.out 0 HA2.out (by decide)).mono ?_
      rintro e w5' ⟨rfl, hb5⟩
      have hba := below1a w5' (.cells #[.int .i64 0, .slice none 0 0] 42)
      have hf5 := (HF4.out.on hb5).on hba
      have d0 := hf5.c0
      have d1 := hf5.c1
      have HF5 := Lib.hid hf5; have HB5' := Lib.hid (HB4.out.trans ((below_cat hb5 hba).mono HB4.out.size))
      clear hf5 hb5 hba HF4 HB4
      go_wp2_with fail
      have hba := below1a (w5'.alloc (.cells #[.int .i64 0, .slice none 0 0] 42)) (.cells #[.int .i64 1, .int .i64 (min n (-9))] 65)
      have hnw := Whole.made (w5'.alloc (.cells #[.int .i64 0, .slice none 0 0] 42)) 65 #[.int .i64 1, .int .i64 (min n (-9))]
      rw [World.size_alloc] at hnw
      have hlt := lits_block (C := ((w5'.alloc (.cells #[.int .i64 0, .slice none 0 0] 42)).alloc (.cells #[.int .i64 1, .int .i64 (min n (-9))] 65)).heap.size) [1, min n (-9)] hnw hnw.lt
      refine (model_any (ls := [1, min n (-9)]) 8 (by simp) _ (Nat.le_refl _) hlt.ints).mono ?_
      rintro e w6 ⟨v6, rfl, hr6, hb6⟩
      rw [mdl_far] at hr6 ⊢
      rw [if_neg (by decide)] at hr6
      obtain ⟨A6, c6, rfl⟩ := own_shape0 hr6
      have hb56 := below_cat hba hb6
      have hf6 := HF5.out.on hb56
      have d0 := hf6.c0
      have d1 := hf6.c1
      have HF6 := Lib.hid hf6; have HB6 := Lib.hid (HB5'.out.trans (hb56.mono HB5'.out.size))
      clear hba hnw hlt hr6 hb6 hb56 hf6 HF5 HB5'
      go_wp2_with fail
      refine (model_any (ls := []) (min n (-1)) (by simp) w6 (Nat.le_refl _) (lits_none _ _).ints).mono ?_
      rintro e w7 ⟨v7, rfl, hr7, hb7⟩
      rw [mdl_none] at hr7 ⊢
      rw [if_neg (by decide)] at hr7
      obtain ⟨A7, c7, rfl⟩ := own_shape0 hr7
      have hf7 := HF6.out.on hb7
      have d0 := hf7.c0
      have d1 := hf7.c1
      have f0 := hf7.whole.frozen 0
      have HF7 := Lib.hid hf7; have HB7 := Lib.hid (HB6.out.trans (hb7.mono HB6.out.size))
      clear hr7 hb7 hf7 HF6 HB6
      go_wp2_with fail
      have hol := (HBd.out.on HB7.out).old
      have hbs := (Below.refl p w7).setCell (p := ⟨p, 0, none⟩) (Nat.le_refl _) (.int .i64 (min n (-1)))
      have hps := HF7.out.whole.lt
      have hpw : w.heap.size ≤ p := HPw
      refine (check_any (C := p) (min n (-1)) (w7.setCell ⟨p, 0, none⟩ (.int .i64 (min n (-1)))) (by have := hbs.size; omega) (by have := HSm.out.1; omega) HSm.out.2 (RowsV.below hbs hol)).mono ?_
      rintro e w8 ⟨rfl, hb8⟩
      rw [show chkI (min n (-1)) (madeF zss) = (-1, 50) from chkI_vars (by omega)]
      have HB8 := Lib.hid (((HB5.out.trans (HB7.out.mono HB5.out.size)).trans (hbs.mono hpw)).trans (hb8.mono (by have := hbs.size; omega)))
      clear hol hbs hps hb8 HF7 HB7 d0 d1 f0 HBd HSm HCk HA1 HA2
      go_wp2_with fail
      refine (awake_any w8).mono ?_
      rintro e w' ⟨rfl, hb⟩
      go_wp2_with fail
      go_ret
      exact ⟨rfl, below_cat HB8.out hb⟩
end Go.Proofs.Ytfbmagmelebkbaa.formulaWrong
