/- The first statement of salvorlaw05.tells: three calls, and two blocks that are laid before, between or behind them. -/
/- What salvorlaw05.tells asks of the answers: their mathematics. -/
import Derived.Test.YtgoflapolglfcaaGreatFoTl
namespace Go.Proofs.YtgoflapolglfcaaGreat
open Go.RowKit Go.ChangeAt Go.ChangeShapes Go.WideShapes Go.Shelf Go.Sort

/-- Clauses that lie in no block of K. -/
def GRows (K : Nat → Prop) (W : World) (v : Value) (L : List (List Int)) : Prop :=
  (∃ A c, v = .slice A 0 c ∧ (A = none → c = 0) ∧ L = []) ∨ ∃ b off cap, v = .slice (some ⟨b, off, none⟩) L.length cap ∧ b < W.heap.size ∧ ¬ K b ∧ ∀ (j : Nat) (zs : List Int), L[j]? = some zs → ∃ sv, W.cell? ⟨b, off + j, none⟩ = some sv ∧ W.frozen? ⟨b, off + j, none⟩ = false ∧ RowF K W sv (zs.map (Value.int .i64))
theorem rowF_keep5 {K : Nat → Prop} {W W' : World} {sv : Value} {xs : List Value} (h : RowF K W sv xs) (hk : Keeps K W W') : RowF K W' sv xs := by
  rcases h with e | ⟨b, off, cap, e, hl, hn, hc⟩
  · exact .inl e
  · have hb := hk.block b hl hn
    exact .inr ⟨b, off, cap, e, Nat.lt_of_lt_of_le hl hk.size, hn, fun j hj => ⟨(World.cell?_of_block hb).trans (hc j hj).1, (World.frozen?_of_block hb).trans (hc j hj).2⟩⟩
theorem GRows.keep {K : Nat → Prop} {W W' : World} {v : Value} {L : List (List Int)} (h : GRows K W v L) (hk : Keeps K W W') : GRows K W' v L := by
  rcases h with e | ⟨b, off, cap, e, hl, hn, hc⟩
  · exact .inl e
  · have hb := hk.block b hl hn
    refine .inr ⟨b, off, cap, e, Nat.lt_of_lt_of_le hl hk.size, hn, fun j zs hz => ?_⟩
    obtain ⟨sv, h1, h2, h3⟩ := hc j zs hz
    exact ⟨sv, (World.cell?_of_block hb).trans h1, (World.frozen?_of_block hb).trans h2, rowF_keep5 h3 hk⟩
theorem GRows.rows {K : Nat → Prop} {W : World} {v : Value} {L : List (List Int)} (h : GRows K W v L) : RowsL W.heap.size W v L := by
  rcases h with ⟨A, c, e, h0, rfl⟩ | ⟨b, off, cap, e, hl, hn, hc⟩
  · exact .inl ⟨A, c, e, h0, rfl⟩
  · refine .inr ⟨b, off, cap, by rw [List.length_map]; exact e, hl, fun j xs hx => ?_⟩
    rw [List.getElem?_map] at hx
    cases hz : L[j]? with
    | none => rw [hz] at hx; cases hx
    | some zs =>
      rw [hz] at hx
      obtain rfl : zs.map (Value.int .i64) = xs := by simpa using hx
      obtain ⟨sv, h1, h2, h3⟩ := hc j zs hz
      exact ⟨sv, h1, h2, h3.rowV⟩
abbrev outOf (lo hi : Nat) : Nat → Prop := fun i => i < lo ∨ hi ≤ i
theorem rowF_out {K : Nat → Prop} {B : Nat} {W : World} {sv : Value} {xs : List Value} (h : RowF K W sv xs) (hK : ∀ i, i < B → K i) : RowF (outOf B W.heap.size) W sv xs := by
  rcases h with e | ⟨b, off, cap, e, hl, hn, hc⟩
  · exact .inl e
  · exact .inr ⟨b, off, cap, e, hl, fun h => h.elim (fun h => hn (hK b h)) (fun h => by omega), hc⟩
theorem grows_own {e : TypeId} {B : Nat} {W : World} {v : Value} {L : List (List Int)} (h : OwnRows e B W v (cellsL L)) : GRows (outOf B W.heap.size) W v L := by
  obtain ⟨svs, hrow, hl, hin⟩ := h
  rcases hrow.2 with ⟨rfl, h0⟩ | ⟨g, cap, cur, rfl, hb, hg, hn, hm, hs, ht⟩
  · exact .inl ⟨none, 0, rfl, fun _ => rfl, by rw [cellsL_len] at h0; exact List.eq_nil_of_length_eq_zero h0⟩
  · rw [cellsL_len] at hl
    have hlt := (hrow.lt g rfl).2
    refine .inr ⟨g, 0, cap, by rw [cellsL_len], hlt, (fun h => h.elim (fun h => by omega) (fun h => by omega)), fun j zs hz => ?_⟩
    obtain ⟨sv, h1, h2⟩ := hin j (zs.map (Value.int .i64)) (by simp [cellsL, hz])
    have hj := (List.getElem?_eq_some_iff.1 hz).1
    rw [Nat.zero_add]
    exact ⟨sv, (hrow.cellAt j (by rw [cellsL_len]; omega)).trans h1, hrow.frozenAt j, rowF_out h2 fun i hi => .inr hi⟩
theorem rowF_new {e : TypeId} {B n : Nat} {W : World} {v : Value} {xs : List Value} (h : W.ownsRow B e 1 v n xs) : RowF (outOf B W.heap.size) W v xs :=
  rowF_owns5 h fun g hg hx => by
    have := h.lt g hg
    rcases hx with hx | hx <;> omega
/-- What has come up so far: the boxes p7 and p8 are laid; what was copied, what was turned, and the bits are there. -/
structure R1 (w1 W : World) (L : List (List Int)) (x : List Bool) (n m : Nat) (p7 p8 : Option Nat) (rc rt rb : Option (Option Addr × Nat)) : Prop where
  bl : Below w1.heap.size w1 W
  b7 : ∀ p, p7 = some p → w1.heap.size ≤ p ∧ Whole W p 27 #[.int .i64 0, .slice none 0 0]
  b8 : ∀ p, p8 = some p → w1.heap.size ≤ p ∧ Whole W p 40 #[.int .i64 0, .slice none 0 0]
  ne : ∀ p q, p7 = some p → p8 = some q → p ≠ q
  gc : ∀ A c, rc = some (A, c) → ∃ lo hi, hi ≤ W.heap.size ∧ GRows (outOf lo hi) W (.slice A n c) L ∧ ∀ p, p7 = some p ∨ p8 = some p → p < lo ∨ hi ≤ p
  gt : ∀ A c, rt = some (A, c) → ∃ lo hi, hi ≤ W.heap.size ∧ GRows (outOf lo hi) W (.slice A n c) L ∧ ∀ p, p7 = some p ∨ p8 = some p → p < lo ∨ hi ≤ p
  gb : ∀ A c, rb = some (A, c) → ∃ lo hi, hi ≤ W.heap.size ∧ RowF (outOf lo hi) W (.slice A m c) ((x.map b2i).map (Value.int .i64)) ∧ ∀ p, p7 = some p ∨ p8 = some p → p < lo ∨ hi ≤ p
section
variable {w1 W W' : World} {L : List (List Int)} {x : List Bool} {n m : Nat} {p7 p8 : Option Nat} {rc rt rb : Option (Option Addr × Nat)}
theorem R1.start (w1 : World) : R1 w1 w1.drew L x n m none none none none none :=
  ⟨(Below.refl _ _).drew, (fun _ h => by cases h), (fun _ h => by cases h), (fun _ _ h => by cases h), (fun _ _ h => by cases h), (fun _ _ h => by cases h), (fun _ _ h => by cases h)⟩
theorem R1.on (h : R1 w1 W L x n m p7 p8 rc rt rb) (hb : Below W.heap.size W W') : R1 w1 W' L x n m p7 p8 rc rt rb :=
  ⟨h.bl.trans (hb.mono h.bl.size), fun p hp => ⟨(h.b7 p hp).1, (h.b7 p hp).2.same (hb.block _ (h.b7 p hp).2.lt)⟩, fun p hp => ⟨(h.b8 p hp).1, (h.b8 p hp).2.same (hb.block _ (h.b8 p hp).2.lt)⟩, h.ne,
   fun A c e => by obtain ⟨lo, hi, h1, h2, h3⟩ := h.gc A c e; exact ⟨lo, hi, Nat.le_trans h1 hb.size, h2.keep (Keeps.of_below hb), h3⟩,
   fun A c e => by obtain ⟨lo, hi, h1, h2, h3⟩ := h.gt A c e; exact ⟨lo, hi, Nat.le_trans h1 hb.size, h2.keep (Keeps.of_below hb), h3⟩,
   fun A c e => by obtain ⟨lo, hi, h1, h2, h3⟩ := h.gb A c e; exact ⟨lo, hi, Nat.le_trans h1 hb.size, rowF_keep5 h2 (Keeps.of_below hb), h3⟩⟩
theorem R1.alloc7 (h : R1 w1 W L x n m none p8 rc rt rb) : R1 w1 (W.alloc (.cells #[.int .i64 0, .slice none 0 0] 27)) L x n m (some W.heap.size) p8 rc rt rb := by
  have k := h.on (below1a W (.cells #[.int .i64 0, .slice none 0 0] 27))
  refine ⟨k.bl, fun p hp => by cases hp; exact ⟨h.bl.size, Whole.made W _ _⟩, k.b8, fun p q hp hq => by cases hp; have := (h.b8 q hq).2.lt; omega, fun A c e => ?_, fun A c e => ?_, fun A c e => ?_⟩
  · obtain ⟨lo, hi, h1, h2, h3⟩ := h.gc A c e
    obtain ⟨lo', hi', k1, k2, k3⟩ := k.gc A c e
    exact ⟨lo, hi, by simp; omega, h2.keep (Keeps.of_below (below1a W _)), fun p hp => hp.elim (fun e => by cases e; exact .inr h1) (fun e => h3 p (.inr e))⟩
  · obtain ⟨lo, hi, h1, h2, h3⟩ := h.gt A c e
    exact ⟨lo, hi, by simp; omega, h2.keep (Keeps.of_below (below1a W _)), fun p hp => hp.elim (fun e => by cases e; exact .inr h1) (fun e => h3 p (.inr e))⟩
  · obtain ⟨lo, hi, h1, h2, h3⟩ := h.gb A c e
    exact ⟨lo, hi, by simp; omega, rowF_keep5 h2 (Keeps.of_below (below1a W _)), fun p hp => hp.elim (fun e => by cases e; exact .inr h1) (fun e => h3 p (.inr e))⟩
theorem R1.alloc8 (h : R1 w1 W L x n m p7 none rc rt rb) : R1 w1 (W.alloc (.cells #[.int .i64 0, .slice none 0 0] 40)) L x n m p7 (some W.heap.size) rc rt rb := by
  have k := h.on (below1a W (.cells #[.int .i64 0, .slice none 0 0] 40))
  refine ⟨k.bl, k.b7, fun p hp => by cases hp; exact ⟨h.bl.size, Whole.made W _ _⟩, fun p q hp hq => by cases hq; have := (h.b7 p hp).2.lt; omega, fun A c e => ?_, fun A c e => ?_, fun A c e => ?_⟩
  · obtain ⟨lo, hi, h1, h2, h3⟩ := h.gc A c e
    exact ⟨lo, hi, by simp; omega, h2.keep (Keeps.of_below (below1a W _)), fun p hp => hp.elim (fun e => h3 p (.inl e)) (fun e => by cases e; exact .inr h1)⟩
  · obtain ⟨lo, hi, h1, h2, h3⟩ := h.gt A c e
    exact ⟨lo, hi, by simp; omega, h2.keep (Keeps.of_below (below1a W _)), fun p hp => hp.elim (fun e => h3 p (.inl e)) (fun e => by cases e; exact .inr h1)⟩
  · obtain ⟨lo, hi, h1, h2, h3⟩ := h.gb A c e
    exact ⟨lo, hi, by simp; omega, rowF_keep5 h2 (Keeps.of_below (below1a W _)), fun p hp => hp.elim (fun e => h3 p (.inl e)) (fun e => by cases e; exact .inr h1)⟩
theorem R1.old (h : R1 w1 W L x n m p7 p8 rc rt rb) : ∀ p, p7 = some p ∨ p8 = some p → p < W.heap.size := fun p hp => hp.elim (fun e => (h.b7 p e).2.lt) (fun e => (h.b8 p e).2.lt)
theorem R1.copy {A : Option Addr} {c : Nat} (h : R1 w1 W L x n m p7 p8 none rt rb) (hb : Below W.heap.size W W') (ho : OwnL W.heap.size W' (.slice A n c) L) : R1 w1 W' L x n m p7 p8 (some (A, c)) rt rb :=
  have k := h.on hb
  ⟨k.bl, k.b7, k.b8, k.ne, fun A' c' e => by cases e; exact ⟨W.heap.size, W'.heap.size, Nat.le_refl _, grows_own ho, fun p hp => .inl (h.old p hp)⟩, k.gt, k.gb⟩
theorem R1.theirs {A : Option Addr} {c : Nat} (h : R1 w1 W L x n m p7 p8 rc none rb) (hb : Below W.heap.size W W') (ho : OwnI W.heap.size W' (.slice A n c) L) : R1 w1 W' L x n m p7 p8 rc (some (A, c)) rb :=
  have k := h.on hb
  ⟨k.bl, k.b7, k.b8, k.ne, k.gc, fun A' c' e => by cases e; exact ⟨W.heap.size, W'.heap.size, Nat.le_refl _, grows_own ho, fun p hp => .inl (h.old p hp)⟩, k.gb⟩
theorem R1.bits {A : Option Addr} {c : Nat} (h : R1 w1 W L x n m p7 p8 rc rt none) (hb : Below W.heap.size W W') (ho : W'.ownsRow W.heap.size 3 1 (.slice A m c) m ((x.map b2i).map (Value.int .i64))) : R1 w1 W' L x n m p7 p8 rc rt (some (A, c)) :=
  have k := h.on hb
  ⟨k.bl, k.b7, k.b8, k.ne, k.gc, k.gt, fun A' c' e => by cases e; exact ⟨W.heap.size, W'.heap.size, Nat.le_refl _, rowF_new ho, fun p hp => .inl (h.old p hp)⟩⟩
end
/-- What stands behind the statement. -/
def TCut (w1 : World) (L : List (List Int)) (x : List Bool) (vars : Int) (n m : Nat) (s7 s8 s9 : Value) (wx : World) : Prop :=
  ∃ p7 p8 A1 c1 A2 c2 A3 c3, s7 = .pointer (some ⟨p7, 0, none⟩) ∧ s8 = .pointer (some ⟨p8, 0, none⟩) ∧ s9 = .slice A3 m c3 ∧
    ∃ W, W = wx ∧ Tl w1 W [(.slice A1 n c1, L), (.slice A2 n c2, L)] [] [(.slice A3 m c3, x.map b2i)] [(p7, 27, #[.int .i64 vars, .slice A1 n c1]), (p8, 40, #[.int .i64 vars, .slice A2 n c2])]
theorem tcut_of {w1 W W' : World} {L : List (List Int)} {x : List Bool} {vars : Int} {n m p7 p8 : Nat} {A1 A2 A3 : Option Addr} {c1 c2 c3 : Nat} (h : R1 w1 W L x n m (some p7) (some p8) (some (A1, c1)) (some (A2, c2)) (some (A3, c3)))
    (hk : Keeps (fun i => i = p7 ∨ i = p8) W W') (h7 : Whole W' p7 27 #[.int .i64 vars, .slice A1 n c1]) (h8 : Whole W' p8 40 #[.int .i64 vars, .slice A2 n c2]) :
    TCut w1 L x vars n m (.pointer (some ⟨p7, 0, none⟩)) (.pointer (some ⟨p8, 0, none⟩)) (.slice A3 m c3) W' := by
  obtain ⟨lo1, hi1, a1, a2, a3⟩ := h.gc _ _ rfl
  obtain ⟨lo2, hi2, b1, b2, b3⟩ := h.gt _ _ rfl
  obtain ⟨lo3, hi3, d1, d2, d3⟩ := h.gb _ _ rfl
  have hle : ∀ {lo hi : Nat}, (∀ p, some p7 = some p ∨ some p8 = some p → p < lo ∨ hi ≤ p) → Keeps (outOf lo hi) W W' := fun hp =>
    ⟨hk.os, hk.tape, hk.output, hk.size, fun k hk1 hn => hk.block k hk1 fun e => hn (e.elim (fun e => by subst e; exact hp _ (.inl rfl)) (fun e => by subst e; exact hp _ (.inr rfl)))⟩
  have hbw : Below w1.heap.size w1 W' := by
    refine h.bl.trans (hk.below h.bl.size fun i e => ?_)
    rcases e with rfl | rfl
    · exact (h.b7 _ rfl).1
    · exact (h.b8 _ rfl).1
  exact ⟨p7, p8, A1, c1, A2, c2, A3, c3, rfl, rfl, rfl, W', rfl, ⟨hbw, fun p hp => by
    rcases List.mem_cons.1 hp with rfl | hp
    · exact (a2.keep (hle a3)).rows
    · obtain rfl := List.mem_singleton.1 hp
      exact (b2.keep (hle b3)).rows, (fun p hp => by cases hp), fun p hp => by
    obtain rfl := List.mem_singleton.1 hp
    exact (rowV_lits.1 (rowF_keep5 d2 (hle d3)).rowV).ints, fun p hp => by
    rcases List.mem_cons.1 hp with rfl | hp
    · exact h7
    · obtain rfl := List.mem_singleton.1 hp
      exact h8⟩⟩
/-- At the end of an order: what the two stores ask for, and what comes of them. -/
theorem leaf_of {w1 W : World} {L : List (List Int)} {x : List Bool} {vars : Int} {n m p7 p8 : Nat} {A1 A2 A3 : Option Addr} {c1 c2 c3 : Nat} (h : R1 w1 W L x n m (some p7) (some p8) (some (A1, c1)) (some (A2, c2)) (some (A3, c3))) :
    (W.cell? ⟨p7, 0, none⟩ = some (.int .i64 0) ∧ W.cell? ⟨p7, 1, none⟩ = some (.slice none 0 0) ∧ W.frozen? ⟨p7, 0, none⟩ = false ∧ W.frozen? ⟨p7, 1, none⟩ = false ∧ W.cell? ⟨p8, 0, none⟩ = some (.int .i64 0) ∧ W.cell? ⟨p8, 1, none⟩ = some (.slice none 0 0) ∧ W.frozen? ⟨p8, 0, none⟩ = false ∧ W.frozen? ⟨p8, 1, none⟩ = false ∧ w1.heap.size ≤ p7 ∧ w1.heap.size ≤ p8) ∧ p7 ≠ p8 ∧
    Whole W p7 27 #[.int .i64 0, .slice none 0 0] ∧ Whole W p8 40 #[.int .i64 0, .slice none 0 0] ∧
    TCut w1 L x vars n m (.pointer (some ⟨p7, 0, none⟩)) (.pointer (some ⟨p8, 0, none⟩)) (.slice A3 m c3) ((((W.setCell ⟨p7, 0, none⟩ (.int .i64 vars)).setCell ⟨p7, 1, none⟩ (.slice A1 n c1)).setCell ⟨p8, 0, none⟩ (.int .i64 vars)).setCell ⟨p8, 1, none⟩ (.slice A2 n c2)) ∧
    TCut w1 L x vars n m (.pointer (some ⟨p7, 0, none⟩)) (.pointer (some ⟨p8, 0, none⟩)) (.slice A3 m c3) ((((W.setCell ⟨p8, 0, none⟩ (.int .i64 vars)).setCell ⟨p8, 1, none⟩ (.slice A2 n c2)).setCell ⟨p7, 0, none⟩ (.int .i64 vars)).setCell ⟨p7, 1, none⟩ (.slice A1 n c1)) := by
  obtain ⟨h7a, h7⟩ := h.b7 _ rfl
  obtain ⟨h8a, h8⟩ := h.b8 _ rfl
  have hne := h.ne _ _ rfl rfl
  refine ⟨⟨h7.cell 0, h7.cell 1, h7.frozen 0, h7.frozen 1, h8.cell 0, h8.cell 1, h8.frozen 0, h8.frozen 1, h7a, h8a⟩, hne, h7, h8, ?_, ?_⟩
  · refine tcut_of h ?_ ?_ ?_
    · exact ((((Keeps.refl (fun i => i = p7 ∨ i = p8) W).setCell (p := ⟨p7, 0, none⟩) (.inl (.inl rfl)) _).setCell (p := ⟨p7, 1, none⟩) (.inl (.inl rfl)) _).setCell (p := ⟨p8, 0, none⟩) (.inl (.inr rfl)) _).setCell (p := ⟨p8, 1, none⟩) (.inl (.inr rfl)) _
    · exact (((h7.store 0 _).store 1 _).beside hne _).beside hne _
    · exact (((h8.beside hne.symm _).beside hne.symm _).store 0 _).store 1 _
  · refine tcut_of h ?_ ?_ ?_
    · exact ((((Keeps.refl (fun i => i = p7 ∨ i = p8) W).setCell (p := ⟨p8, 0, none⟩) (.inl (.inr rfl)) _).setCell (p := ⟨p8, 1, none⟩) (.inl (.inr rfl)) _).setCell (p := ⟨p7, 0, none⟩) (.inl (.inl rfl)) _).setCell (p := ⟨p7, 1, none⟩) (.inl (.inl rfl)) _
    · exact (((h7.beside hne _).beside hne _).store 0 _).store 1 _
    · exact (((h8.store 0 _).store 1 _).beside hne.symm _).beside hne.symm _
theorem tl_box {w W : World} {fs : List (Value × List (List Int))} {ms : List (Value × List Bool)} {is : List (Value × List Int)} {ss : List (Nat × TypeId × Array Value)} (h : Tl w W fs ms is ss) {g : Nat} {t : TypeId} {u v : Value} (hp : (g, t, #[u, v]) ∈ ss) : W.cell? ⟨g, 0, none⟩ = some u ∧ W.cell? ⟨g, 1, none⟩ = some v := ⟨(h.s hp).cell 0, (h.s hp).cell 1⟩
theorem Tl.restart {w W : World} {fs : List (Value × List (List Int))} {ms : List (Value × List Bool)} {is : List (Value × List Int)} {ss : List (Nat × TypeId × Array Value)} (h : Tl w W fs ms is ss) : Tl W W fs ms is ss := ⟨Below.refl _ _, h.fo, h.mo, h.io, h.st⟩
theorem Tl.dropF {w W : World} {p : Value × List (List Int)} {fs : List (Value × List (List Int))} {ms : List (Value × List Bool)} {is : List (Value × List Int)} {ss : List (Nat × TypeId × Array Value)} (h : Tl w W (p :: fs) ms is ss) : Tl w W fs ms is ss := ⟨h.below, fun q hq => h.fo q (List.mem_cons_of_mem _ hq), h.mo, h.io, h.st⟩
theorem okt_asg {L : List (List Int)} (h : OkT L) (l : Int) : OkT (asgL l L) := ⟨by have := asg_len l L; have := h.len; omega, fun zs hz => by
  unfold asgL at hz
  obtain ⟨ys, h1, rfl⟩ := List.mem_map.1 hz
  have := List.length_filter_le (fun x => decide (x ≠ -l)) ys
  have := h.cl ys (List.mem_filter.1 h1).1
  omega⟩
theorem okt_nrm {L : List (List Int)} (h : OkT L) (hr : ∀ zs ∈ L, rightB zs = true) : OkT (nrmF L) := ⟨by
  have h1 := nodup_le ((nrmF_is L).1.imp fun {a b} h e => by subst e; rw [clCmp_zero.2 rfl] at h; omega) fun x hx => ((nrmF_is L).2 x).1 hx
  have := nrmRaw_len L
  have := h.len
  omega, fun zs hz => by
  have := (rightB_of (nrmRaw_right hr zs (((nrmF_is L).2 zs).1 hz))).1
  omega⟩
theorem okt_nil : OkT [] := ⟨by simp, fun _ h => by cases h⟩
/-- The frame of salvorlaw05.tells in its first statement. -/
def frT (f m l p s7 s8 s9 s33 s35 s37 : Value) : Act := { tmps := #[f, m, l, p, undef, undef, .bool false, s7, s8, s9, undef, undef, undef, undef, undef, undef, undef, undef, undef, undef, undef, undef, undef, undef, undef, undef, undef, undef, undef, undef, undef, undef, f, s33, f, s35, m, s37, undef, undef, undef, undef, undef, undef, undef, undef, undef, undef, undef, undef, undef, undef, undef, undef, undef, undef, undef, undef, undef, undef, undef, undef, undef, undef, undef, undef, undef, undef, undef, undef, undef, undef, undef, undef, undef, undef, undef, undef, undef, undef, undef, undef, undef, undef, undef, undef, undef, undef, undef, undef, undef, undef, undef, undef, undef, undef, undef, undef, undef, undef, undef, undef, undef, undef, undef, undef, undef, undef, undef, undef, undef, undef, undef, undef, undef, undef, undef, undef, undef, undef, undef, undef, undef, undef, undef, undef, undef, undef, undef, undef, undef, undef, undef, undef, undef, undef, undef, undef, undef, undef, undef, undef, undef, undef, undef, undef, undef, undef, undef, undef, undef, undef, undef, undef, undef, undef, undef, undef, undef, undef, undef, undef, undef, undef, undef, undef, undef, undef, undef, undef, undef, undef, undef, undef, undef, undef, undef, undef, undef, undef, undef, undef, undef, undef, undef, undef, undef, undef, undef, undef, undef, undef, undef, undef, undef, undef, undef, undef, undef, undef, undef, undef, undef, undef, undef, undef, undef, undef, undef, undef, undef, undef, undef, undef, undef, undef, undef, undef, undef, undef, undef, undef, undef, undef, undef, undef, undef, undef, undef, undef, undef, undef, undef, undef, undef, undef, undef, undef, undef, undef, undef, undef, undef, undef, undef, undef, undef, undef, undef, undef, undef, undef, undef, undef, undef, undef, undef, undef, undef, undef, undef, undef, undef, undef, undef, undef, undef, undef, undef, undef, undef, undef, undef, undef, undef, undef, undef, undef, undef, undef, undef, undef, undef, undef, undef, undef, undef, undef, undef, undef, undef, undef, undef, undef, undef, undef, undef, undef, undef, undef, undef, undef, undef, undef, undef, undef, undef, undef, undef, undef, undef, undef, undef, undef, undef, undef, undef, undef, undef, undef, undef, undef, undef, undef, undef, undef, undef, undef, undef, undef, undef, undef, undef, undef, undef, undef, undef, undef], defers := [] }
/-- A region's states by a name: what is reached in several orders is walked once. -/
theorem tl_dag {P : Program} {md : Region.Mode} {ops : Array Oper} {Q : Exit → Act → World → Prop} {S : World → Prop} {f : Nat} {l : Array Bool} {a : Act} {w : World}
    (h : ∀ G : Nat → Array Bool → Act → World → Prop, Hid ((∀ f l a w, wpAnyH P md ops Q S f l a w → G f l a w) ∧ ∀ f l l' a w, l = l' → G f l' a w → wpAnyH P md ops Q S f l a w) → wpAnyH P md ops Q S f l a w) : wpAnyH P md ops Q S f l a w :=
  h _ (Lib.hid ⟨fun _ _ _ _ h => h, fun _ _ _ _ _ e h => by subst e; exact h⟩)
end Go.Proofs.YtgoflapolglfcaaGreat
namespace Go.Proofs.YtgoflapolglfcaaGreat
open Go.RowKit Go.ChangeAt Go.ChangeShapes Go.WideShapes Go.Shelf Go.Sort

theorem tl_eql_nil (W : World) : (binOp .eql 57 .nilFunc .nilFunc).run Tryz.prog W = .ok (.bool true) W := by
  have run_eq : ∀ (d : Nat) (t : TypeId) {x y : Array TypeId} {b : Bool}, Tryz.prog.underlying t = some (.func x y b) → (Op.equalIn (d + 1) t .nilFunc .nilFunc).run Tryz.prog W = .ok true W := fun d t x y b h => by simp [Op.equalIn, run_underlying h]
  simp only [binOp]
  simp [Op.equal, Op.maxDepth, run_eq 9999 _ Tryz.underlying57]
theorem tl_neq_fn (W : World) (env : Array Value) : (binOp .neq 57 (.func (.func 51) #[] env) .nilFunc).run Tryz.prog W = .ok (.bool true) W := by
  have run_eq : ∀ (d : Nat) (t : TypeId) {x y : Array TypeId} {b : Bool} (f : Fn) (ts env : Array Value), Tryz.prog.underlying t = some (.func x y b) → (Op.equalIn (d + 1) t (.func f ts env) .nilFunc).run Tryz.prog W = .ok false W := fun d t x y b f ts env h => by simp [Op.equalIn, run_underlying h]
  simp only [binOp]
  simp [Op.equal, Op.maxDepth, run_eq 9999 _ _ _ env Tryz.underlying57]
section
variable {vars l ci cE fi fE aV aE nV nE T : Int} {vq fq : Bool} {L aN nN : List (List Int)} {x fx : List Bool} {K : Nat}
/-- A formula that Check rejects. -/
theorem bad_all (h : chkI vars L = (ci, cE)) (h0 : ¬ cE = 0) (hv : valueR vars L x = vq) (hf : failsR vars L x = (fi, fq, fE)) (ha : asgR vars l L = (aV, aN, aE)) (hn : nrmR vars L = (nV, nN, nE)) (hT : triedE vars L = T) (hK : (mdlR vars L).length = K) (hx : (mdlR vars L)[0]?.getD [] = fx) :
    vq = false ∧ (fi = 0 ∧ fq = false ∧ fE = cE) ∧ (aV = 0 ∧ aN = [] ∧ aE = cE) ∧ (nV = 0 ∧ nN = [] ∧ nE = cE) ∧ T = cE ∧ K = 0 ∧ fx = [] := by
  have h2 : ¬ (chkI vars L).2 = 0 := by rw [h]; exact h0
  have e : (chkI vars L).2 = cE := by rw [h]
  have hF : failsR vars L x = (0, false, cE) := by unfold failsR; rw [if_neg h2, e]
  have hT' : triedE vars L = cE := by unfold triedE; rw [if_neg h2, e]
  have hm : mdlR vars L = [] := mdlR_no (by rw [hT']; exact h0)
  unfold asgR at ha
  unfold nrmR at hn
  rw [if_neg h2, e] at ha hn
  rw [hm] at hK hx
  rw [hF] at hf
  unfold valueR at hv
  rw [hF] at hv
  simp only [Prod.mk.injEq] at hf ha hn
  refine ⟨by rw [← hv]; simp [h0], ⟨hf.1.symm, hf.2.1.symm, hf.2.2.symm⟩, ⟨ha.1.symm, ha.2.1.symm, ha.2.2.symm⟩, ⟨hn.1.symm, hn.2.1.symm, hn.2.2.symm⟩, by rw [← hT, hT'], by rw [← hK]; rfl, by rw [← hx]; rfl⟩
theorem far_all (h : chkI vars L = (ci, 0)) (hm : ¬ (x.length : Int) = vars) (hv : valueR vars L x = vq) (hf : failsR vars L x = (fi, fq, fE)) : vq = false ∧ fi = 0 ∧ fq = false ∧ fE = 52 := by
  have h2 : (chkI vars L).2 = 0 := by rw [h]
  have hF : failsR vars L x = (0, false, 52) := by unfold failsR; rw [if_pos h2, if_neg hm]
  rw [hF] at hf
  unfold valueR at hv
  rw [hF] at hv
  simp only [Prod.mk.injEq] at hf
  exact ⟨by rw [← hv]; rfl, hf.1.symm, hf.2.1.symm, hf.2.2.symm⟩
/-- A model of the formula's length: what stands in Fails, and in the plain one. -/
theorem near_all (h : chkI vars L = (ci, 0)) (hm : (x.length : Int) = vars) (hv : valueR vars L x = vq) (hf : failsR vars L x = (fi, fq, fE)) : ∃ f : Int, failI (x.map b2i) 0 L = f ∧ vq = decide (f < 0) ∧ fq = decide (0 ≤ f) ∧ fi = max f 0 ∧ fE = 0 ∧ -1 ≤ f ∧ f ≤ 1000000000 := by
  have h2 : (chkI vars L).2 = 0 := by rw [h]
  have hF : failsR vars L x = ((failP x 0 L).1, (failP x 0 L).2, 0) := by unfold failsR; rw [if_pos h2, if_pos hm]
  have hI := failI_failP (bs := x) L 0 (by subst hm; exact hold_near (n := x.length) (by rw [h]) rfl)
  have hb := failP_bd (bs := x) L 0
  have hlen := (chk_ok h2).2.2.1
  rw [hF] at hf
  unfold valueR at hv
  rw [hF] at hv
  simp only [Prod.mk.injEq] at hf
  obtain ⟨rfl, rfl, rfl⟩ := hf
  refine ⟨_, hI, ?_, ?_, ?_, rfl, ?_, ?_⟩
  · rw [← hv]
    cases (failP x 0 L).2
    · simp
    · simp; omega
  · cases (failP x 0 L).2
    · simp
    · simp; omega
  · cases h3 : (failP x 0 L).2
    · rw [hb.2.2 h3]; rfl
    · simp; omega
  · split <;> omega
  · split <;> omega
theorem has_iff (h : chkI vars L = (ci, 0)) : hasV vars l = decide (¬ (l = 0 ∨ l < -vars ∨ vars < l)) := by
  have h2 := chk_ok (vars := vars) (L := L) (by rw [h])
  unfold hasV varI litB
  by_cases h0 : l ≠ 0 ∧ -1048576 ≤ l ∧ l ≤ 1048576
  · rw [if_pos (by simpa using h0), decide_eq_true h0, Bool.true_and]
    congr 1
    split <;> (rw [eq_iff_iff]; omega)
  · rw [decide_eq_false h0, Bool.false_and]
    symm
    rw [decide_eq_false_iff_not]
    omega
theorem lit_no (h : chkI vars L = (ci, 0)) (hl : l = 0 ∨ l < -vars ∨ vars < l) (ha : asgR vars l L = (aV, aN, aE)) : aV = 0 ∧ aN = [] ∧ aE = 51 := by
  have h2 : (chkI vars L).2 = 0 := by rw [h]
  unfold asgR at ha
  rw [if_pos h2, has_iff h, decide_eq_false (fun h => h hl), if_neg (by decide)] at ha
  simp only [Prod.mk.injEq] at ha
  exact ⟨ha.1.symm, ha.2.1.symm, ha.2.2.symm⟩
theorem lit_yes (h : chkI vars L = (ci, 0)) (hl : ¬ (l = 0 ∨ l < -vars ∨ vars < l)) (ha : asgR vars l L = (aV, aN, aE)) : vars = aV ∧ aN = asgL l L ∧ aE = 0 := by
  have h2 : (chkI vars L).2 = 0 := by rw [h]
  unfold asgR at ha
  rw [if_pos h2, has_iff h, decide_eq_true hl, if_pos rfl] at ha
  simp only [Prod.mk.injEq] at ha
  exact ⟨ha.1, ha.2.1.symm, ha.2.2.symm⟩
theorem nrm_yes (h : chkI vars L = (ci, 0)) (hn : nrmR vars L = (nV, nN, nE)) : vars = nV ∧ nN = nrmF L ∧ nE = 0 := by
  have h2 : (chkI vars L).2 = 0 := by rw [h]
  unfold nrmR at hn
  rw [if_pos h2] at hn
  simp only [Prod.mk.injEq] at hn
  exact ⟨hn.1, hn.2.1.symm, hn.2.2.symm⟩
theorem many_all (h : chkI vars L = (ci, 0)) (hm : 16 < vars) (hT : triedE vars L = T) (hK : (mdlR vars L).length = K) (hx : (mdlR vars L)[0]?.getD [] = fx) : T = 5 ∧ K = 0 ∧ fx = [] := by
  have h2 : (chkI vars L).2 = 0 := by rw [h]
  have hT' : triedE vars L = 5 := by unfold triedE; rw [if_pos h2, if_pos hm]
  rw [mdlR_no (by rw [hT']; decide)] at hK hx
  exact ⟨by rw [← hT, hT'], by rw [← hK]; rfl, by rw [← hx]; rfl⟩
theorem some_all (h : chkI vars L = (ci, 0)) (hm : ¬ 16 < vars) (hT : triedE vars L = T) (hK : (mdlR vars L).length = K) (hx : (mdlR vars L)[0]?.getD [] = fx) : T = 0 ∧ ∃ n : Nat, vars = (n : Nat) ∧ (chkI (n : Int) L).2 = 0 ∧ (modelsB n L).length = K ∧ (modelsB n L)[0]?.getD [] = fx := by
  have h2 : (chkI vars L).2 = 0 := by rw [h]
  have hc := chk_ok h2
  have hT' : triedE vars L = 0 := by unfold triedE; rw [if_pos h2, if_neg hm]
  obtain ⟨n, rfl⟩ : ∃ n : Nat, vars = (n : Nat) := ⟨vars.toNat, by omega⟩
  rw [mdlR_ok hT'] at hK hx
  exact ⟨by rw [← hT, hT'], n, rfl, h2, hK, hx⟩
end
end Go.Proofs.YtgoflapolglfcaaGreat
