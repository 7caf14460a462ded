/- slices.Insert of one clause, into a row of clauses of the call's own. -/
import Derived.Test.YtfbmagmelebkbaaFoFails
import Derived.Test.YtfbmagmelebkbaaOwnRows
import Derived.Laws.CopyOwn
import Derived.Lib.AppendZerosOnto
import Derived.Lib.JoinLaws
import Derived.Shelf.Spec.SlicesInsert
import Derived.Laws.Externs
namespace Go.Proofs.Ytfbmagmelebkbaa
open Go.RowKit Go.ChangeAt Go.ChangeShapes Go.WideShapes Go.Lib Go.Sort

theorem infoClI : (Try.prog.info? 30).map (fun i => (i.zero, i.size, i.bytes)) = some (some (.slice none 0 0), 1, 24) := by kernel_rfl
theorem own_form' {W : World} {base n : Nat} {e : TypeId} {A : Option Addr} {cap : Nat} {xs : List Value} (h : W.ownsRow base e 1 (.slice A n cap) n xs) : (A = none ∧ n = 0 ∧ cap = 0) ∨ ∃ g, A = some ⟨g, 0, none⟩ ∧ n ≤ cap ∧ cap ≤ 9223372036854775807 := by
  rcases h.2 with ⟨h1, h0⟩ | ⟨g, cap', cur, h1, h2, h3, h4, h5, h6⟩
  · injection h1 with h1 h2 h3
    exact .inl ⟨h1, h0, h3⟩
  · injection h1 with h1 h2 h3
    subst h3
    exact .inr ⟨g, h1, h4, h5⟩
theorem ins_len {c : List Value} {i : Nat} (h : i ≤ c.length) (x : Value) : (c.take i ++ x :: c.drop i).length = c.length + 1 := by
  rw [List.length_append, List.length_cons, List.length_take, List.length_drop]; omega
theorem rowV_heapn {W : World} {g cap n : Nat} {cur : List Value} {t : TypeId} {l : List Value} (hn : l.length = n) (hg : W.heap[g]? = some (.cells cur.toArray t (0, 0))) (hl : cur.take n = l) (hc : cur.length = cap) (hm : cap ≤ maxLen) (hle : n ≤ cap) : RowV W.heap.size W (.slice (some ⟨g, 0, none⟩) n cap) l := by
  have h : W.ownsRow 0 t 1 (.slice (some ⟨g, 0, none⟩) n cap) n l :=
    ⟨by simp [hn], .inr ⟨g, cap, cur.toArray, rfl, Nat.zero_le _, hg, hle, hm, by simp [hc], by simp [hl]⟩⟩
  exact rowV_own h
theorem one_news {W : World} {g : Nat} {x : Value} {T : TypeId} (h : W.heap[g]? = some (.cells #[x] T (0, 0))) : ∀ (j : Nat) (u : Value), [x][j]? = some u → W.cell? ((⟨g, 0, none⟩ : Addr).add j) = some u := fun j u hj => by
  cases j with
  | zero => simp at hj; subst hj; simp [World.cell?, h, Addr.add]
  | succ j => simp at hj
theorem src_one {w : World} {g2 : Nat} {x : Value} (hx1 : x.oneCell' = true) {T : TypeId} (h2 : w.heap[g2]? = some (.cells #[x] T (0, 0))) : Src Try.prog 1 40 (.slice (some ⟨g2, 0, none⟩) 1 1) 1 [x] w :=
  Src.ofSlice w Try.underlying40 ⟨g2, 0, none⟩ 1 1 [x] rfl (one_news h2) (by simpa using hx1)
theorem Keeps.drew {K : Nat → Prop} {a w : World} (h : Keeps K a w) : Keeps K a w.drew := ⟨h.os, h.tape, h.output, h.size, h.block⟩

set_option maxRecDepth 100000 in
set_option maxHeartbeats 4000000 in
/-- At the end, no room: a new row. -/
theorem insert_end_grow (w : World) (A : Option Addr) (n cap : Nat) (c : List Value) (x : Value) (g2 : Nat) (T : TypeId) (K : Nat → Prop) (hx1 : x.oneCell' = true) (hl : n ≤ 1000) (hcn : c.length = n) (hle : n ≤ cap) (hcap : cap < n + 1) (hnil : A = none → n = 0) (hA : ∀ a, A = some a → ∀ (j : Nat) (u : Value), c[j]? = some u → w.cell? (a.add j) = some u)
    (hsh : ∀ a, A = some a → a.spot = none) (h2 : w.heap[g2]? = some (.cells #[x] T (0, 0))) :
    Calls Try.prog 33 #[.slice A n cap, .int .i64 n, .slice (some ⟨g2, 0, none⟩) 1 1] w fun e w' => ∃ v', e = .returned v' ∧ RowV w'.heap.size w' v' (c ++ [x]) ∧ Keeps K w w' ∧ ∀ b, v'.ownBlock = some b → K b ∨ w.heap.size ≤ b := by
  obtain ⟨i0, hi0, hz0, hz1, hz2⟩ := info_parts infoClI
  have hsrc : Src Try.prog i0.size 40 (.slice (some ⟨g2, 0, none⟩) 1 1) 1 [x] w := by rw [hz1]; exact src_one hx1 h2
  obtain ⟨C, hC⟩ : ∃ C, c = C := ⟨_, rfl⟩
  rw [hC] at hA
  have hCl : C.length = n := by rw [← hC, hcn]
  have hold : (Builtin.firstCells i0.size n (.slice A n cap)).run Try.prog w.drew = .ok C.toArray w.drew := by
    rw [hz1]
    cases A with
    | none =>
      have h0 := hnil rfl
      subst h0
      rw [List.length_eq_zero_iff.1 hCl]
      exact run_firstCells_none w.drew 1 0 0 cap
    | some a => exact run_firstCells_some w.drew 1 n a n cap C (by omega) (fun j v hj => hA a rfl j v hj)
  have hrun : ∀ ty, (Builtin.append_ #[40, 40] ty #[.slice A n cap, .slice (some ⟨g2, 0, none⟩) 1 1]).run Try.prog w = _ := fun ty =>
    run_append_grow_src w 40 40 ty 30 i0 _ Try.underlying40 hi0 hz0 A n cap C hold _ 1 [x] hsrc hcap (by omega) (by rw [hz2]; exact growslice_fits hcap (by omega))
  have hge := grownCap_ge w (n + 1) cap 30
  have hlm := grownCap_le_maxLen w (n + 1) cap 30 (by unfold maxLen; omega)
  obtain ⟨G, hG⟩ : ∃ G, grownCap w (n + 1) cap 30 = G := ⟨_, rfl⟩
  rw [hG] at hrun hge hlm
  have hfin : RowV (w.drew.alloc (.cells ((C ++ [x]).toArray ++ Builtin.zeroCells (Value.slice none 0 0).cells (G - (n + 1))) 30)).heap.size (w.drew.alloc (.cells ((C ++ [x]).toArray ++ Builtin.zeroCells (Value.slice none 0 0).cells (G - (n + 1))) 30)) (.slice (some ⟨w.heap.size, 0, none⟩) (n + 1) G) (c ++ [x]) := by
    have hln : (c ++ [x]).length = n + 1 := by rw [List.length_append, hcn]; rfl
    refine rowV_heapn hln (cur := ((C ++ [x]).toArray ++ Builtin.zeroCells (Value.slice none 0 0).cells (G - (n + 1))).toList) (t := 30) ?_ ?_ ?_ hlm (by omega)
    · rw [Array.toArray_toList]; exact World.alloc_heap_new w.drew _
    · rw [hC, Array.toList_append]
      exact List.take_left' (by simp [hCl])
    · rw [Array.length_toList, Array.size_append, size_zeroCells]
      simp [hCl, Value.cells]
      omega
  have hb : Keeps K w (w.drew.alloc (.cells ((C ++ [x]).toArray ++ Builtin.zeroCells (Value.slice none 0 0).cells (G - (n + 1))) 30)) := ((Keeps.refl K w).drew).alloc _
  have HF := Lib.hid hfin; have HRun := Lib.hid hrun; clear hfin hrun hC hA hG hold hsrc hz0 hz1 hz2 hCl hcn
  cases A with
  | none =>
    obtain rfl : n = 0 := hnil rfl
    rw [show ((0 : Nat) : Int) = 0 from rfl]
    clear hnil hsh
    go_enter Try.func33, Try.ntmps33
    go_wp2_with (at_builtin; refine Lib.wpList_append_run _ rfl _ _ _ _ rfl _ _ rfl rfl _ _ (HRun.out _) ?_)
    go_ret
    exact ⟨_, rfl, HF.out, hb, fun b e => .inr (by cases e; exact Nat.le_refl _)⟩
  | some a =>
    obtain ⟨ab, ao, asp⟩ := a
    obtain rfl : asp = none := hsh _ rfl
    obtain rfl : cap = n := by omega
    clear hnil hsh
    go_enter Try.func33, Try.ntmps33
    go_wp2_with (at_builtin; refine Lib.wpList_append_run _ rfl _ _ _ _ rfl _ _ rfl rfl _ _ (HRun.out _) ?_)
    all_goals
      go_ret
      exact ⟨_, rfl, HF.out, hb, fun b e => .inr (by cases e; exact Nat.le_refl _)⟩

set_option maxRecDepth 100000 in
set_option maxHeartbeats 4000000 in
/-- At the end, room: the spare cell takes the literal. -/
theorem insert_end_room (w : World) (g n cap : Nat) (cur : List Value) (c : List Value) (x : Value) (g2 : Nat) (T : TypeId) (K : Nat → Prop) (hx1 : x.oneCell' = true) (_ : n ≤ 1000) (hcn : c.length = n) (hcap : n + 1 ≤ cap) (hmx : cap ≤ 9223372036854775807) (hg : w.heap[g]? = some (.cells cur.toArray 30 (0, 0))) (hcl : cur.length = cap) (hct : cur.take n = c) (hBg : K g)
    (h2 : w.heap[g2]? = some (.cells #[x] T (0, 0))) :
    Calls Try.prog 33 #[.slice (some ⟨g, 0, none⟩) n cap, .int .i64 n, .slice (some ⟨g2, 0, none⟩) 1 1] w fun e w' => ∃ v', e = .returned v' ∧ RowV w'.heap.size w' v' (c ++ [x]) ∧ Keeps K w w' ∧ ∀ b, v'.ownBlock = some b → K b ∨ w.heap.size ≤ b := by
  have hsrc := src_one hx1 h2
  have hrow : w.ownsRow 0 30 1 (.slice (some ⟨g, 0, none⟩) (n + 1) cap) (n + 1) (cur.take (n + 1)) := ⟨by rw [List.length_take]; omega, .inr ⟨g, cap, cur.toArray, rfl, Nat.zero_le _, hg, hcap, hmx, by simp [hcl], by simp⟩⟩
  have hset := (hrow.stored n x).1
  have hls : (cur.take (n + 1)).set n x = (c ++ [x]) := by
    rw [← hct, List.take_succ_eq_append_getElem (by omega), List.set_append_right _ _ (by rw [List.length_take]; omega), List.length_take, show n - min n cur.length = 0 by omega]
    rfl
  rw [hls] at hset
  have hc1 : (w.cell? ⟨g, n, none⟩).isSome = true := by
    simp [World.cell?, hg]; omega
  have hf1 : w.frozen? ⟨g, n, none⟩ = false := by simp [World.frozen?, hg]
  have hb : Keeps K w (w.setCell ⟨g, n, none⟩ x) := (Keeps.refl K w).setCell (p := ⟨g, n, none⟩) (.inl hBg) _
  have hno : ¬ cap = n := by omega
  have HS := Lib.hid hset; have HSr := Lib.hid hsrc; have HC := Lib.hid hc1; have HF := Lib.hid hf1
  clear hrow hset hls hg h2 hct hsrc hcl hcn hc1 hf1
  go_enter Try.func33, Try.ntmps33
  go_wp2_with (at_builtin; refine wpList_append_room1 _ rfl _ _ 40 40 rfl 30 _ _ Try.underlying40 infoClI g 0 n cap rfl _ rfl 1 [x] HSr.out hcap (fun j hj => by have h0 : j = 0 := Nat.lt_one_iff.1 hj; subst h0; simpa using HC.out) (fun j hj => by have h0 : j = 0 := Nat.lt_one_iff.1 hj; subst h0; simpa using HF.out) ?_)
  go_ret
  refine ⟨_, rfl, ?_, ?_, fun b e => .inl (by cases e; exact hBg)⟩
  · have := rowV_own HS.out
    simpa [World.setCells] using this
  · simpa [World.setCells] using hb

theorem keeps_setCells {K : Nat → Prop} {g : Nat} {w0 : World} (hBg : K g ∨ w0.heap.size ≤ g) : ∀ (vs : List Value) (o : Nat) {w : World}, Keeps K w0 w → Keeps K w0 (w.setCells g o vs)
  | [], _, _, h => h
  | v :: r, o, w, h => by rw [World.setCells]; exact keeps_setCells hBg r (o + 1) (h.setCell (p := ⟨g, o, none⟩) hBg v)
/-- A row with a literal put in, cell by cell. -/
theorem row_ins {W : World} {g n cap i : Nat} {c : List Value} {x : Value} (hn : c.length = n) (hi : i < n) (hA : ∀ j, j < i → W.cell? ⟨g, j, none⟩ = some ((c[j]?.getD undef))) (hB : W.cell? ⟨g, i, none⟩ = some x) (hC : ∀ j, i ≤ j → j < n → W.cell? ⟨g, j + 1, none⟩ = some ((c[j]?.getD undef)))
    (hf : ∀ j, j < n + 1 → W.frozen? ⟨g, j, none⟩ = false) : RowV W.heap.size W (.slice (some ⟨g, 0, none⟩) (n + 1) cap) (c.take i ++ x :: c.drop i) := by
  have hl := ins_len (by omega : i ≤ c.length) x
  refine .inr ⟨g, 0, cap, by rw [hl, hn], World.block_lt_of_cell? W _ hB, fun j hj => ?_⟩
  have hj' : j < n + 1 := by rw [hl, hn] at hj; exact hj
  rw [Nat.zero_add]
  refine ⟨?_, hf j hj'⟩
  have hti : (c.take i).length = i := by rw [List.length_take]; omega
  by_cases h1 : j < i
  · rw [hA j h1, List.getElem?_append_left (by omega), List.getElem?_take_of_lt h1, List.getElem?_eq_getElem (by omega)]; rfl
  · rw [List.getElem?_append_right (by omega), hti]
    by_cases h2 : j = i
    · subst h2
      rw [hB, Nat.sub_self]
      rfl
    · obtain ⟨m, rfl⟩ : ∃ m, j = m + 1 := ⟨j - 1, by omega⟩
      rw [hC m (by omega) (by omega), show m + 1 - i = (m - i) + 1 by omega, List.getElem?_cons_succ, List.getElem?_drop, show i + (m - i) = m by omega, List.getElem?_eq_getElem (by omega)]; rfl
theorem drop_get {c : List Value} {n i j : Nat} (hn : c.length = n) (hi : i ≤ j) (hj : j < n) (h : j - i < (c.drop i).length) : (c.drop i)[j - i] = (c[j]?.getD undef) := by
  rw [List.getElem_drop]
  have e : i + (j - i) = j := by omega
  simp only [e]
  rw [List.getElem?_eq_getElem (by omega), Option.getD_some]

set_option maxRecDepth 100000 in
set_option maxHeartbeats 4000000 in
/-- In the midst, room: in place. -/
theorem insert_mid_room (w : World) (g n cap i : Nat) (cur : List Value) (c : List Value) (x : Value) (g2 : Nat) (T : TypeId) (K : Nat → Prop) (hx1 : x.oneCell' = true) (hc1 : ∀ u ∈ c, u.oneCell' = true) (hl : n ≤ 1000) (hi : i < n) (hcn : c.length = n) (hcap : n + 1 ≤ cap) (_ : cap ≤ 9223372036854775807) (hg : w.heap[g]? = some (.cells cur.toArray 30 (0, 0))) (hcl : cur.length = cap) (hct : cur.take n = c) (hBg : K g)
    (h2 : w.heap[g2]? = some (.cells #[x] T (0, 0))) (hne : g2 ≠ g) :
    Calls Try.prog 33 #[.slice (some ⟨g, 0, none⟩) n cap, .int .i64 i, .slice (some ⟨g2, 0, none⟩) 1 1] w fun e w' => ∃ v', e = .returned v' ∧ RowV w'.heap.size w' v' (c.take i ++ x :: c.drop i) ∧ Keeps K w w' ∧ ∀ b, v'.ownBlock = some b → K b ∨ w.heap.size ≤ b := by
  have hcell : ∀ j, j < n → w.cell? ⟨g, j, none⟩ = some ((c[j]?.getD undef)) := fun j hj => by
    have e : cur[j]? = some ((c[j]?.getD undef)) := by
      rw [← List.getElem?_take_of_lt hj, hct, List.getElem?_eq_getElem (by omega)]; rfl
    simp only [World.cell?, hg]
    simpa using e
  have hsome : ∀ j, j < n + 1 → (w.cell? ⟨g, j, none⟩).isSome = true := fun j hj => by simp [World.cell?, hg]; omega
  have hfz : ∀ j, w.frozen? ⟨g, j, none⟩ = false := fun j => by simp [World.frozen?, hg]
  have hone : ∀ u ∈ c.drop i, u.oneCell' = true := fun u h => hc1 u (List.mem_of_mem_drop h)
  have hget := fun j (h1 : i ≤ j) (h2 : j < n) => drop_get hcn h1 h2
  have hsrcC : ∀ (j : Nat) (u : Value), (c.drop i)[j]? = some u → w.cell? ⟨g, i + j, none⟩ = some u := fun j u hj => by
    rw [List.getElem?_drop] at hj
    cases e : c[i + j]? with
    | none => rw [e] at hj; cases hj
    | some z =>
      have hlt := (List.getElem?_eq_some_iff.1 e).1
      rw [e] at hj
      rw [hcell (i + j) (by omega), e]
      exact hj
  have hdl : (c.drop i).length = n - i := by rw [List.length_drop, hcn]
  obtain ⟨D, hD⟩ : ∃ D, c.drop i = D := ⟨_, rfl⟩
  rw [hD] at hone hsrcC hdl
  simp only [hD] at hget
  have hsz : (Try.prog.info? 30).map (·.size) = some 1 := by
    obtain ⟨i0, hi0, h0, h1, h2⟩ := info_parts infoClI
    rw [hi0]; simp [h1]
  have hov : ∀ lb cb, (callFunc 57 #[.slice (some ⟨g2, 0, none⟩) 1 1, .slice (some ⟨g, i + 1, none⟩) lb cb]).run Try.prog w = .ok (.value (.bool false)) w := fun lb cb => by
    rw [run_callFunc_extern Try.func57 (by kernel_rfl) (by kernel_rfl) (by kernel_rfl) (e := Extern.SlicesOverlaps.overlaps #[40, 40] #[4]) (by kernel_rfl),
      Lib.run_overlaps_apart w 40 4 30 Try.underlying40 1 Try.sizeOf30 ⟨g2, 0, none⟩ ⟨g, i + 1, none⟩ 1 1 lb cb hne T 30 1 cap (by simp [World.shape?, h2]) (by simp [World.shape?, hg, hcl]) (by omega) (by simp [World.frozen?, h2]) (by simp [World.frozen?, h2])]
    rfl
  obtain ⟨W1, hW1⟩ : ∃ W1, W1 = w.drew.setCells g (i + 1) D := ⟨_, rfl⟩
  have hcp1 : ∀ ty dc sc, (Builtin.copy_ #[40, 40] ty #[.slice (some ⟨g, i + 1, none⟩) (n - i) dc, .slice (some ⟨g, i, none⟩) (n + 1 - i) sc]).run Try.prog w.drew = .ok (goInt D.length) W1 := fun ty dc sc => by
    rw [hW1]
    exact run_copy_cells w.drew _ _ ty 30 g (i + 1) (n - i) dc ⟨g, i, none⟩ (n + 1 - i) sc D Try.underlying40 hsz (by rw [hdl]; simp only [Nat.min_def]; split <;> omega)
      (fun j v hj => by rw [addr_add]; exact hsrcC j v hj) (fun j hj => hsome _ (by omega)) (fun j _ => hfz _) hone
  have hW1c : ∀ j, j < i → W1.cell? ⟨g, j, none⟩ = some ((c[j]?.getD undef)) := fun j hj => by
    rw [hW1, World.cell?_setCells_out g D (i + 1) w.drew ⟨g, j, none⟩ (fun _ _ => .inl (by show j < i + 1; omega))]
    exact hcell j (by omega)
  have hW1i : (W1.cell? ⟨g, i, none⟩).isSome = true := by
    rw [hW1, World.cell?_setCells_out g D (i + 1) w.drew ⟨g, i, none⟩ (fun _ _ => .inl (by show i < i + 1; omega))]
    exact hsome i (by omega)
  have hW1d : ∀ j, i ≤ j → j < n → W1.cell? ⟨g, j + 1, none⟩ = some ((c[j]?.getD undef)) := fun j h1 h3 => by
    have h4 := World.cell?_setCells_in g D (i + 1) w.drew (fun j hj => hsome _ (by omega)) (j - i) (by omega)
    rw [show i + 1 + (j - i) = j + 1 by omega] at h4
    rw [hW1, h4, hget j h1 h3 (by omega)]
  have hW1f : ∀ j, W1.frozen? ⟨g, j, none⟩ = false := fun j => by rw [hW1, World.frozen?_setCells]; exact hfz j
  have hW12 : W1.cell? ⟨g2, 0, none⟩ = some x := by
    rw [hW1, World.cell?_setCells_out g D (i + 1) w.drew ⟨g2, 0, none⟩ (fun h _ => absurd h hne)]
    show w.cell? ⟨g2, 0, none⟩ = _
    simp [World.cell?, h2]
  have hb1 : Keeps K w W1 := by rw [hW1]; exact keeps_setCells (.inl hBg) D (i + 1) ((Keeps.refl K w).drew)
  have hcp2 : ∀ (W : World), (∀ x, W.cell? x = W1.cell? x) → (∀ x, W.frozen? x = W1.frozen? x) → ∀ ty dc, (Builtin.copy_ #[40, 40] ty #[.slice (some ⟨g, i, none⟩) (n + 1 - i) dc, .slice (some ⟨g2, 0, none⟩) 1 1]).run Try.prog W = .ok (goInt 1) (W.setCells g i [x]) := fun W hWc hWf ty dc =>
    run_copy_cells W _ _ ty 30 g i (n + 1 - i) dc ⟨g2, 0, none⟩ 1 1 [x] Try.underlying40 hsz (by simp only [Nat.min_def, List.length_singleton]; split <;> omega)
      (fun j v hj => by
        cases j with
        | zero => simp at hj; subst hj; rw [addr_add, hWc]; exact hW12
        | succ j => simp at hj)
      (fun j hj => by have h0 : j = 0 := Nat.lt_one_iff.1 hj; subst h0; rw [hWc]; exact hW1i) (fun j _ => by rw [hWf]; exact hW1f _) (by simpa using hx1)
  have hfin : RowV (W1.setCells g i [x]).heap.size (W1.setCells g i [x]) (.slice (some ⟨g, 0, none⟩) (n + 1) cap) (c.take i ++ x :: c.drop i) := by
    refine row_ins hcn hi (fun j hj => ?_) ?_ (fun j h1 h3 => ?_) (fun j _ => ?_)
    · rw [World.cell?_setCells_out g _ i W1 ⟨g, j, none⟩ (fun _ _ => .inl (by show j < i; omega))]; exact hW1c j hj
    · exact World.cell?_setCells_in g [x] i W1 (fun j hj => by have h0 : j = 0 := Nat.lt_one_iff.1 hj; subst h0; exact hW1i) 0 (by simp)
    · rw [World.cell?_setCells_out g _ i W1 ⟨g, j + 1, none⟩ (fun _ _ => .inr (by show i + 1 ≤ j + 1; omega))]; exact hW1d j h1 h3
    · rw [World.frozen?_setCells]; exact hW1f j
  have hb : Keeps K w (W1.setCells g i [x]) := keeps_setCells (.inl hBg) _ i hb1
  have HF := Lib.hid hfin; have H1 := Lib.hid hcp1; have H2 := Lib.hid hcp2; have HOv := Lib.hid hov
  clear hfin hcp1 hcp2 hov hW1c hW1i hW1d hW1f hW12 hb1 hW1 hsrcC hget hone hcell hsome hfz hD hdl hsz hct hcl hcn hg h2
  have hw1 : IntKind.i64.wrap ((i : Int) + 1) = (i : Int) + 1 := by rw [IntKind.wrap_i64]; omega
  have hz2 : ¬ ((i : Int) = (n : Int)) := by omega
  have hb2 : ¬ (cap = i + 1) := by omega
  have hb3 : (i : Int) ≤ (n : Int) + 1 := by omega
  have hb4 : ¬ (cap = i) := by omega
  have hin : i ≤ n := by omega
  have htn : ((i : Int) + 1).toNat = i + 1 := by omega
  have hb0 : (0 : Int) ≤ (i : Int) + 1 := by omega
  have hov := HOv.out
  go_enter Try.func33, Try.ntmps33
  go_wp2_with (simp only [hov])
  go_region_law (refine step_copy_runI rfl _ _ 40 40 rfl (.slice (some ⟨g, i + 1, none⟩) (n - i) (cap - (i + 1))) (.slice (some ⟨g, i, none⟩) (n + 1 - i) (cap - i)) (by simp [Act.eval, Act.put]) (by simp [Act.eval, Act.put]) (H1.out 3 (cap - (i + 1)) (cap - i)) ?_)
  go_wp2_with (refine wpList_copy_runI _ rfl _ _ 40 40 rfl (.slice (some ⟨g, i, none⟩) (n + 1 - i) (cap - i)) (.slice (some ⟨g2, 0, none⟩) 1 1) rfl rfl (H2.out W1 (fun _ => rfl) (fun _ => rfl) _ (cap - i)) ?_)
  go_ret
  exact ⟨_, rfl, HF.out, hb, fun b e => .inl (by cases e; exact hBg)⟩

set_option maxRecDepth 100000 in
set_option maxHeartbeats 4000000 in
/-- In the midst, no room: a new row. -/
theorem insert_mid_grow (w : World) (g n i : Nat) (cur : List Value) (c : List Value) (x : Value) (g2 : Nat) (T : TypeId) (K : Nat → Prop) (hx1 : x.oneCell' = true) (hc1 : ∀ u ∈ c, u.oneCell' = true) (hl : n ≤ 1000) (hi : i < n) (hcn : c.length = n) (hg : w.heap[g]? = some (.cells cur.toArray 30 (0, 0))) (hct : cur.take n = c)
    (h2 : w.heap[g2]? = some (.cells #[x] T (0, 0))) :
    Calls Try.prog 33 #[.slice (some ⟨g, 0, none⟩) n n, .int .i64 i, .slice (some ⟨g2, 0, none⟩) 1 1] w fun e w' => ∃ v', e = .returned v' ∧ RowV w'.heap.size w' v' (c.take i ++ x :: c.drop i) ∧ Keeps K w w' ∧ ∀ b, v'.ownBlock = some b → K b ∨ w.heap.size ≤ b := by
  obtain ⟨i0, hi0, hz0, hz1, hz2⟩ := info_parts infoClI
  have hgw : g < w.heap.size := (Array.getElem?_eq_some_iff.1 hg).1
  have h2w : g2 < w.heap.size := (Array.getElem?_eq_some_iff.1 h2).1
  have hcell : ∀ j, j < n → w.cell? ⟨g, j, none⟩ = some ((c[j]?.getD undef)) := fun j hj => by
    have e : cur[j]? = some ((c[j]?.getD undef)) := by
      rw [← List.getElem?_take_of_lt hj, hct, List.getElem?_eq_getElem (by omega)]; rfl
    simp only [World.cell?, hg]
    simpa using e
  have hone : ∀ u ∈ c.drop i, u.oneCell' = true := fun u h => hc1 u (List.mem_of_mem_drop h)
  have hget := fun j (h1 : i ≤ j) (h2 : j < n) => drop_get hcn h1 h2
  have hsrcC : ∀ (j : Nat) (u : Value), c[j]? = some u → w.cell? ⟨g, j, none⟩ = some u := fun j u hj => by
    cases e : c[j]? with
    | none => rw [e] at hj; cases hj
    | some z =>
      have hlt := (List.getElem?_eq_some_iff.1 e).1
      rw [e] at hj
      rw [hcell j (by omega), e]
      exact hj
  have hCl : c.length = n := hcn
  have hCg : ∀ j, j < n → c[j]? = some ((c[j]?.getD undef)) := fun j hj => by rw [List.getElem?_eq_getElem (by omega)]; rfl
  have hdl : (c.drop i).length = n - i := by rw [List.length_drop, hcn]
  have hold : (Builtin.firstCells i0.size i (.slice (some ⟨g, 0, none⟩) i n)).run Try.prog w.drew = .ok (c.take i).toArray w.drew := by
    rw [hz1]
    exact run_firstCells_some w.drew 1 i ⟨g, 0, none⟩ i n _ (by rw [List.length_take]; omega) (fun j v hj => by
      rw [addr_add, Nat.zero_add]
      rw [List.getElem?_take] at hj
      split at hj
      · exact hsrcC j v hj
      · cases hj)
  have hsz : (Try.prog.info? 30).map (·.size) = some 1 := by rw [hi0]; simp [hz1]
  have hik : i + (n + 1 - i) = n + 1 := by omega
  have hkk : (n : Int) + 1 - (i : Int) = ((n + 1 - i : Nat) : Int) := by omega
  obtain ⟨G, hG⟩ : ∃ G, G = grownCap w (n + 1) n 30 := ⟨_, rfl⟩
  have hge : n + 1 ≤ G := by rw [hG]; exact grownCap_ge w _ _ _
  have hlm : G ≤ 9223372036854775807 := by
    have := grownCap_le_maxLen w (n + 1) n 30 (by unfold maxLen; omega)
    rw [← hG] at this
    exact this
  obtain ⟨ROW, hROW⟩ : ∃ ROW : Array Value, ROW = (c.take i).toArray ++ Builtin.zeroCells (Value.slice none 0 0).cells (n + 1 - i) ++ Builtin.zeroCells (Value.slice none 0 0).cells (G - (n + 1)) := ⟨_, rfl⟩
  obtain ⟨W1, hW1⟩ : ∃ W1, W1 = w.drew.alloc (.cells ROW 30) := ⟨_, rfl⟩
  have hrz : ∀ ty, (Builtin.append_ #[40, 3] ty #[.slice (some ⟨g, 0, none⟩) i n, .int .i64 ((n : Int) + 1 - (i : Int))]).run Try.prog w = .ok (.slice (some ⟨w.heap.size, 0, none⟩) (n + 1) G) W1 := fun ty => by
    have h := Lib.run_append_grow_zeros w 40 3 ty 30 i0 _ .i64 .i64 Try.underlying40 Try.underlying3 hi0 hz0 (some ⟨g, 0, none⟩) i n _ hold (n + 1 - i) (by omega) (by omega) (by omega) (by omega) (by rw [hz2]; omega) (by rw [hz2, hik]; exact growslice_fits (by omega) (by omega))
    rw [hik, ← hG, ← hROW, ← hW1] at h
    rw [hkk]
    exact h
  have hRl : n + 1 ≤ ROW.size := by rw [hROW]; simp [Builtin.zeroCells, Value.cells]; omega
  have hN : ∀ j, j < n + 1 → (W1.cell? ⟨w.heap.size, j, none⟩).isSome = true := fun j hj => by
    rw [hW1, World.cell?_alloc_at (w := w.drew) ROW _ w.heap.size j rfl, Array.getElem?_eq_getElem (by omega)]; rfl
  have hNf : ∀ j, W1.frozen? ⟨w.heap.size, j, none⟩ = false := fun j => by rw [hW1]; exact World.frozen?_alloc_at (w := w.drew) ROW _ w.heap.size j rfl
  have hNc : ∀ j, j < i → W1.cell? ⟨w.heap.size, j, none⟩ = some ((c[j]?.getD undef)) := fun j hj => by
    rw [hW1, World.cell?_alloc_at (w := w.drew) ROW _ w.heap.size j rfl, hROW, Array.getElem?_append_left (by simp; omega), Array.getElem?_append_left (by simp; omega), List.getElem?_toArray, List.getElem?_take_of_lt hj, hCg j (by omega)]; rfl
  have hOg : ∀ (b j : Nat) v, b < w.heap.size → w.cell? ⟨b, j, none⟩ = some v → W1.cell? ⟨b, j, none⟩ = some v := fun b j v hb h => by rw [hW1, World.cell?_alloc_past (w := w.drew) _ b j hb]; exact h
  have hb1 : Keeps K w W1 := by rw [hW1]; exact ((Keeps.refl K w).drew).alloc _
  have h2c : W1.cell? ⟨g2, 0, none⟩ = some x := hOg g2 0 _ h2w (by simp [World.cell?, h2])
  clear hROW hW1 hold hG hRl
  obtain ⟨W2, hW2⟩ : ∃ W2, W2 = W1.setCells w.heap.size i [x] := ⟨_, rfl⟩
  have hcpA : ∀ ty dc, (Builtin.copy_ #[40, 40] ty #[.slice (some ⟨w.heap.size, i, none⟩) (n + 1 - i) dc, .slice (some ⟨g2, 0, none⟩) 1 1]).run Try.prog W1 = .ok (goInt 1) W2 := fun ty dc => by
    rw [hW2]
    exact run_copy_cells W1 _ _ ty 30 w.heap.size i (n + 1 - i) dc ⟨g2, 0, none⟩ 1 1 [x] Try.underlying40 hsz (by simp only [Nat.min_def, List.length_singleton]; split <;> omega)
      (fun j v hj => by
        cases j with
        | zero => simp at hj; subst hj; rw [addr_add]; exact h2c
        | succ j => simp at hj)
      (fun j hj => by have h0 : j = 0 := Nat.lt_one_iff.1 hj; subst h0; exact hN _ (by omega)) (fun j _ => hNf _) (by simpa using hx1)
  have hMg : ∀ j v, W1.cell? ⟨g, j, none⟩ = some v → W2.cell? ⟨g, j, none⟩ = some v := fun j v h => by
    rw [hW2, World.cell?_setCells_out _ _ _ _ ⟨g, j, none⟩ (fun e _ => absurd e (by show g ≠ w.heap.size; omega))]; exact h
  have hMc : ∀ j, j < i → W2.cell? ⟨w.heap.size, j, none⟩ = some ((c[j]?.getD undef)) := fun j hj => by
    rw [hW2, World.cell?_setCells_out _ _ _ _ ⟨w.heap.size, j, none⟩ (fun _ _ => .inl (by show j < i; omega))]; exact hNc j hj
  have hMi : W2.cell? ⟨w.heap.size, i, none⟩ = some x := by
    rw [hW2]; exact World.cell?_setCells_in w.heap.size [x] i W1 (fun j hj => by have h0 : j = 0 := Nat.lt_one_iff.1 hj; subst h0; exact hN _ (by omega)) 0 (by simp)
  have hMs : ∀ j, i < j → j < n + 1 → (W2.cell? ⟨w.heap.size, j, none⟩).isSome = true := fun j h1 h3 => by
    rw [hW2, World.cell?_setCells_out _ _ _ _ ⟨w.heap.size, j, none⟩ (fun _ _ => .inr (by show i + 1 ≤ j; omega))]; exact hN j h3
  have hMf : ∀ j, W2.frozen? ⟨w.heap.size, j, none⟩ = false := fun j => by rw [hW2, World.frozen?_setCells]; exact hNf j
  have hb2 : Keeps K w W2 := by rw [hW2]; exact keeps_setCells (.inr (Nat.le_refl _)) _ i hb1
  clear hW2 hN hNf hNc h2c
  obtain ⟨D, hD⟩ : ∃ D, c.drop i = D := ⟨_, rfl⟩
  rw [hD] at hone hdl
  simp only [hD] at hget
  obtain ⟨W3, hW3⟩ : ∃ W3, W3 = W2.drew.setCells w.heap.size (i + 1) D := ⟨_, rfl⟩
  have hcpB : ∀ ty dc sc, (Builtin.copy_ #[40, 40] ty #[.slice (some ⟨w.heap.size, i + 1, none⟩) (n - i) dc, .slice (some ⟨g, i, none⟩) (n - i) sc]).run Try.prog W2.drew = .ok (goInt D.length) W3 := fun ty dc sc => by
    rw [hW3]
    exact run_copy_cells W2.drew _ _ ty 30 w.heap.size (i + 1) (n - i) dc ⟨g, i, none⟩ (n - i) sc D Try.underlying40 hsz (by rw [hdl]; simp only [Nat.min_def]; split <;> omega)
      (fun j v hj => by
        rw [addr_add]
        rw [← hD, List.getElem?_drop] at hj
        exact hMg _ v (hOg g _ v hgw (hsrcC _ v hj)))
      (fun j hj => hMs _ (by omega) (by omega)) (fun j _ => hMf _) hone
  have hfin : RowV W3.heap.size W3 (.slice (some ⟨w.heap.size, 0, none⟩) (n + 1) G) (c.take i ++ x :: c.drop i) := by
    rw [hW3]
    refine row_ins hcn hi (fun j hj => ?_) ?_ (fun j h1 h3 => ?_) (fun j _ => ?_)
    · rw [World.cell?_setCells_out _ _ _ _ ⟨w.heap.size, j, none⟩ (fun _ _ => .inl (by show j < i + 1; omega))]; exact hMc j hj
    · rw [World.cell?_setCells_out _ _ _ _ ⟨w.heap.size, i, none⟩ (fun _ _ => .inl (by show i < i + 1; omega))]; exact hMi
    · have h4 := World.cell?_setCells_in w.heap.size D (i + 1) W2.drew (fun j hj => hMs _ (by omega) (by omega)) (j - i) (by omega)
      rw [show i + 1 + (j - i) = j + 1 by omega] at h4
      rw [h4, hget j h1 h3 (by omega)]
    · rw [World.frozen?_setCells]; exact hMf j
  have hb : Keeps K w W3 := by rw [hW3]; exact keeps_setCells (.inr (Nat.le_refl _)) _ (i + 1) hb2.drew
  have HF := Lib.hid hfin; have HZ := Lib.hid hrz; have HA := Lib.hid hcpA; have HB := Lib.hid hcpB
  clear hfin hrz hcpA hcpB hW3 hMg hMc hMi hMs hMf hb1 hb2 hOg hsrcC hCg hget hone hcell hD hdl hsz hct hcn hg h2 hik hkk hCl hi0 hz0 hz1 hz2
  obtain ⟨hs, hhs⟩ : ∃ hs, w.heap.size = hs := ⟨_, rfl⟩
  rw [hhs] at HF HZ HA HB
  have hhs' : w.heap.size ≤ hs := Nat.le_of_eq hhs
  clear hhs
  have hw1 : IntKind.i64.wrap ((i : Int) + 1) = (i : Int) + 1 := by rw [IntKind.wrap_i64]; omega
  have hz2 : ¬ ((i : Int) = (n : Int)) := by omega
  have hc2 : ¬ (n = i) := by omega
  have hc4 : ¬ (G = i) := by omega
  have hc5 : ¬ (G = i + 1) := by omega
  have hc0 : (0 : Int) ≤ (i : Int) + 1 := by omega
  have hin : i ≤ n := by omega
  have htn : ((i : Int) + 1).toNat = i + 1 := by omega
  go_enter Try.func33, Try.ntmps33
  go_wp2_with (first
    | (at_builtin; refine Lib.wpList_append_run _ rfl _ _ _ _ rfl _ _ rfl rfl _ _ (HZ.out _) ?_)
    | (refine wpList_copy_runI _ rfl _ _ 40 40 rfl (.slice (some ⟨hs, i, none⟩) (n + 1 - i) (G - i)) (.slice (some ⟨g2, 0, none⟩) 1 1) rfl rfl (HA.out _ (G - i)) ?_))
  go_region_law (refine step_copy_runI rfl _ _ 40 40 rfl (.slice (some ⟨hs, i + 1, none⟩) (n - i) (G - (i + 1))) (.slice (some ⟨g, i, none⟩) (n - i) (n - i)) (by simp [Act.eval, Act.put]) (by simp [Act.eval, Act.put]) (HB.out 3 (G - (i + 1)) (n - i)) ?_)
  go_wp2_with fail
  go_ret
  exact ⟨_, rfl, HF.out, hb, fun b e => .inr (by cases e; exact hhs')⟩

/-- slices.Insert of one clause. -/
theorem insert_row (w : World) (v : Value) (c : List Value) (i : Nat) (x : Value) (g2 : Nat) (T : TypeId) (B : Nat) (hx1 : x.oneCell' = true) (hc1 : ∀ u ∈ c, u.oneCell' = true) (hl : c.length ≤ 1000) (hi : i ≤ c.length) (hrow : w.ownsRow B 30 1 v c.length c) (h2 : w.heap[g2]? = some (.cells #[x] T (0, 0))) (hne : v.ownBlock ≠ some g2) :
    Calls Try.prog 33 #[v, .int .i64 i, .slice (some ⟨g2, 0, none⟩) 1 1] w fun e w' => ∃ v', e = .returned v' ∧ RowV w'.heap.size w' v' (c.take i ++ x :: c.drop i) ∧ Keeps (fun b => v.ownBlock = some b) w w' ∧ ∀ b, v'.ownBlock = some b → v.ownBlock = some b ∨ w.heap.size ≤ b := by
  rcases hrow.2 with ⟨rfl, h0⟩ | ⟨g, cap, cur, rfl, hBg, hg, hle, hmx, hcs, hct⟩
  · have hc := List.eq_nil_of_length_eq_zero h0
    subst hc
    obtain rfl : i = 0 := by simpa using hi
    exact insert_end_grow w none 0 0 [] x g2 T _ hx1 (by omega) rfl (by omega) (by omega) (fun _ => rfl) (fun a e => by cases e) (fun a e => by cases e) h2
  · have hgg : g2 ≠ g := fun e => hne (by rw [e]; rfl)
    have hcl : cur.toList.length = cap := by simpa using hcs
    have hg' : w.heap[g]? = some (.cells cur.toList.toArray 30 (0, 0)) := by simpa using hg
    have hct' : cur.toList.take c.length = c := by simpa using hct
    have hK : (fun b => (Value.slice (some ⟨g, 0, none⟩) c.length cap).ownBlock = some b) g := rfl
    by_cases hi' : i = c.length
    · subst hi'
      rw [List.take_length, List.drop_length]
      by_cases hcap : c.length + 1 ≤ cap
      · exact insert_end_room w g c.length cap cur.toList c x g2 T _ hx1 hl rfl hcap hmx hg' hcl hct' hK h2
      · refine insert_end_grow w (some ⟨g, 0, none⟩) c.length cap c x g2 T _ hx1 hl rfl hle (by omega) (fun e => by cases e) (fun a e j u hj => ?_) (fun a e => by injection e with e; subst e; rfl) h2
        injection e with e
        subst e
        rw [addr_add, Nat.zero_add]
        rw [← hct', List.getElem?_take] at hj
        split at hj
        · simp only [World.cell?, hg]
          simpa using hj
        · cases hj
    · by_cases hcap : c.length + 1 ≤ cap
      · exact insert_mid_room w g c.length cap i cur.toList c x g2 T _ hx1 hc1 hl (by omega) rfl hcap hmx hg' hcl hct' hK h2 hgg
      · obtain rfl : cap = c.length := by omega
        exact insert_mid_grow w g c.length i cur.toList c x g2 T _ hx1 hc1 hl (by omega) rfl hg' hct' h2
end Go.Proofs.Ytfbmagmelebkbaa
