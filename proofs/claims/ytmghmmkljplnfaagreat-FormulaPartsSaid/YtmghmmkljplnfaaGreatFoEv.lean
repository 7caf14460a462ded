/- What lies in a world: formulas' clauses, models, lists of models, blocks; what lay below has not turned. -/
import Derived.Test.YtmghmmkljplnfaaGreatFoCollected
import Derived.Test.YtmghmmkljplnfaaGreatFoUse
import Derived.Control
namespace Go.Proofs.YtmghmmkljplnfaaGreat
open Go.RowKit Go.ChangeAt Go.ChangeShapes Go.WideShapes Go.Shelf Go.Sort

attribute [local go_sem] Oper.semAt_some

abbrev Bls (C : Nat) (W : World) (v : Value) (ms : List (List Bool)) : Prop := RowsV C W v (boolsL ms)
structure Ev (w W : World) (fs : List (Value × List (List Int))) (ms : List (Value × List Bool)) (rs : List (Value × List (List Bool))) (ss : List (Nat × TypeId × Array Value)) (ds : List Nat) : Prop where
  below : Below w.heap.size w W
  fo : ∀ p ∈ fs, RowsL W.heap.size W p.1 p.2
  mo : ∀ p ∈ ms, Bools W.heap.size W p.1 p.2
  ro : ∀ p ∈ rs, Bls W.heap.size W p.1 p.2
  st : ∀ p ∈ ss, Whole W p.1 p.2.1 p.2.2
  de : ∀ d ∈ ds, W.heap[d]? = some (.deferred (some []))
section
variable {w W W' : World} {fs : List (Value × List (List Int))} {ms : List (Value × List Bool)} {rs : List (Value × List (List Bool))} {ss : List (Nat × TypeId × Array Value)} {ds : List Nat}
theorem Ev.start (w : World) : Ev w w [] [] [] [] [] := ⟨Below.refl _ _, fun _ h => (by cases h), fun _ h => (by cases h), fun _ h => (by cases h), fun _ h => (by cases h), fun _ h => (by cases h)⟩
theorem Ev.on (h : Ev w W fs ms rs ss ds) (hb : Below W.heap.size W W') : Ev w W' fs ms rs ss ds :=
  ⟨h.below.trans (hb.mono h.below.size), fun p hp => (RowsV.below hb (h.fo p hp)).more hb.size, fun p hp => ((h.mo p hp).below hb).more hb.size, fun p hp => (RowsV.below hb (h.ro p hp)).more hb.size, fun p hp => (h.st p hp).same (hb.block _ (h.st p hp).lt),
    fun d hd => (hb.block d (Array.getElem?_eq_some_iff.1 (h.de d hd)).1).trans (h.de d hd)⟩
theorem Ev.addF (h : Ev w W fs ms rs ss ds) {v : Value} {L : List (List Int)} (hL : RowsL W.heap.size W v L) : Ev w W ((v, L) :: fs) ms rs ss ds :=
  ⟨h.below, fun p hp => (List.mem_cons.1 hp).elim (fun e => e ▸ hL) (h.fo p), h.mo, h.ro, h.st, h.de⟩
theorem Ev.addM (h : Ev w W fs ms rs ss ds) {v : Value} {m : List Bool} (hm : Bools W.heap.size W v m) : Ev w W fs ((v, m) :: ms) rs ss ds :=
  ⟨h.below, h.fo, fun p hp => (List.mem_cons.1 hp).elim (fun e => e ▸ hm) (h.mo p), h.ro, h.st, h.de⟩
theorem Ev.addR (h : Ev w W fs ms rs ss ds) {v : Value} {l : List (List Bool)} (hl : Bls W.heap.size W v l) : Ev w W fs ms ((v, l) :: rs) ss ds :=
  ⟨h.below, h.fo, h.mo, fun p hp => (List.mem_cons.1 hp).elim (fun e => e ▸ hl) (h.ro p), h.st, h.de⟩
theorem Ev.addS (h : Ev w W fs ms rs ss ds) {g : Nat} {t : TypeId} {cs : Array Value} (hw : Whole W g t cs) : Ev w W fs ms rs ((g, t, cs) :: ss) ds :=
  ⟨h.below, h.fo, h.mo, h.ro, fun p hp => (List.mem_cons.1 hp).elim (fun e => e ▸ hw) (h.st p), h.de⟩
theorem Ev.addD (h : Ev w W fs ms rs ss ds) {d : Nat} (hd : W.heap[d]? = some (.deferred (some []))) : Ev w W fs ms rs ss (d :: ds) :=
  ⟨h.below, h.fo, h.mo, h.ro, h.st, fun x hx => (List.mem_cons.1 hx).elim (fun e => e ▸ hd) (h.de x)⟩
/-- A new block. -/
theorem Ev.box (h : Ev w W fs ms rs ss ds) (t : TypeId) (cs : Array Value) : Ev w (W.alloc (.cells cs t)) fs ms rs ((W.heap.size, t, cs) :: ss) ds := (h.on (below1a W _)).addS (Whole.made W t cs)
theorem Ev.f (h : Ev w W fs ms rs ss ds) {v : Value} {L : List (List Int)} (hp : (v, L) ∈ fs) : RowsL W.heap.size W v L := h.fo _ hp
theorem Ev.m (h : Ev w W fs ms rs ss ds) {v : Value} {m : List Bool} (hp : (v, m) ∈ ms) : Bools W.heap.size W v m := h.mo _ hp
theorem Ev.r (h : Ev w W fs ms rs ss ds) {v : Value} {l : List (List Bool)} (hp : (v, l) ∈ rs) : Bls W.heap.size W v l := h.ro _ hp
theorem Ev.s (h : Ev w W fs ms rs ss ds) {g : Nat} {t : TypeId} {cs : Array Value} (hp : (g, t, cs) ∈ ss) : Whole W g t cs := h.st _ hp
theorem Ev.dropM (h : Ev w W fs ms rs ss ds) : Ev w W fs [] rs ss ds := ⟨h.below, h.fo, fun p hp => (by cases hp), h.ro, h.st, h.de⟩
theorem Ev.sub (h : Ev w W fs ms rs ss ds) {ss' : List (Nat × TypeId × Array Value)} (hs : ∀ p ∈ ss', p ∈ ss) : Ev w W fs ms rs ss' ds := ⟨h.below, h.fo, h.mo, h.ro, fun p hp => h.st p (hs p hp), h.de⟩
end
/-- Steady, where what comes is a list that lies in blocks of cells. -/
theorem steady_rowV {B : Nat} (C : Nat) (sv : Value) (xs : List Value) : Steady B fun W => RowV C W sv xs ∧ C ≤ W.heap.size := fun W W' row ⟨h, hs⟩ hg hr => by
  refine ⟨?_, Nat.le_trans hs hg.size⟩
  rcases h with e | ⟨b, off, cap, e, hl, hc⟩
  · exact .inl e
  · refine .inr ⟨b, off, cap, e, hl, fun j hj => ?_⟩
    obtain ⟨h1, h2⟩ := hc j hj
    rw [List.getElem?_eq_getElem hj] at h1
    obtain ⟨o, ho, hp⟩ := cell_plain h1
    have hb := hg.block b (by omega) (odd_ne hr ho hp)
    rw [List.getElem?_eq_getElem hj]
    exact ⟨(World.cell?_of_block hb).trans h1, (World.frozen?_of_block hb).trans h2⟩
theorem steady_rowsV {B : Nat} (C : Nat) (v : Value) (L : List (List Value)) : Steady B fun W => RowsV C W v L ∧ C ≤ W.heap.size := fun W W' row ⟨h, hs⟩ hg hr => by
  refine ⟨?_, Nat.le_trans hs hg.size⟩
  rcases h with e | ⟨b, off, cap, e, hl, hc⟩
  · exact .inl e
  · refine .inr ⟨b, off, cap, e, hl, fun j xs hx => ?_⟩
    obtain ⟨sv, h1, h2, h3⟩ := hc j xs hx
    obtain ⟨o, ho, hp⟩ := cell_plain h1
    have hb := hg.block b (by omega) (odd_ne hr ho hp)
    exact ⟨sv, (World.cell?_of_block hb).trans h1, (World.frozen?_of_block hb).trans h2, (steady_rowV (B := B) C sv xs W W' row ⟨h3, hs⟩ hg hr).1⟩
/-- What lies in w1 lies there, whatever is laid anew, and whatever befalls the loop's own objects. -/
theorem Ev.keep {w w1 W : World} {fs : List (Value × List (List Int))} {ms : List (Value × List Bool)} {rs : List (Value × List (List Bool))} {ss : List (Nat × TypeId × Array Value)} {ds : List Nat} (h : Ev w w1 fs ms rs ss ds) (hb : Below w1.heap.size w1 W) : Ev w W fs ms rs ss ds := h.on hb
theorem bls_shape {C : Nat} {W : World} {v : Value} {l : List (List Bool)} (h : Bls C W v l) : ∃ A cap, v = .slice A l.length cap ∧ ∀ (j : Nat) (m : List Bool), l[j]? = some m → ∃ b off As cs, A = some ⟨b, off, none⟩ ∧ b < C ∧ W.cell? ⟨b, off + j, none⟩ = some (.slice As m.length cs) ∧ Bools C W (.slice As m.length cs) m := by
  obtain ⟨A, cap, e, h⟩ := RowsV.shape h
  refine ⟨A, cap, by rw [e]; unfold boolsL; rw [List.length_map], fun j m hj => ?_⟩
  obtain ⟨b, off, As, cs, h1, h2, h3, h4⟩ := h j (m.map Value.bool) (by unfold boolsL; rw [List.getElem?_map, hj]; rfl)
  rw [List.length_map] at h3 h4
  exact ⟨b, off, As, cs, h1, h2, h3, h4⟩
/-- A loop over the models that may be left, and what follows. -/
theorem range_models2 {n' : Nat} (hn : 2 ≤ n') {gop : Operand} {ps : Array Tmp} {assign body : Code} {j : Nat} {Kn : Act → World → Prop} {Q : Exit → Act → World → Prop} {a : Act} {w : World} (n : Nat) (hn16 : n ≤ 16) (L : List (List Int)) (bf bv g cf B : Nat)
    (hg : a.eval gop = .func (.func 72) #[] #[.pointer (some ⟨bf, 0, none⟩), .pointer (some ⟨bv, 0, none⟩)]) (hps : ps.size = 1)
    (I : Nat → World → Prop) (Ix : World → Prop) (hI : ∀ s, Steady w.heap.size (I s)) (hIx : Steady w.heap.size Ix) (h0 : I 0 w) (hA : ∀ s W, I s W → MdAt n L bf bv g cf B W)
    (a₁ : Value → Act)
    (hassign : ∀ (l : Nat) (v : Value) (W : World) (K : Act → World → Prop), K (a₁ v) W →
      assign.wpIn (Fence.wide.inRound l) (n' - 1 - 1) Tryz.prog (Exit.then K (fun _ _ _ => False)) { tmps := (ps.zip #[v]).foldl (fun t (p, v) => t.setIfInBounds p v) a.tmps, defers := [] } W)
    (hbody : ∀ (l s : Nat) (x : List Bool) (v : Value) (W : World), I s W → (modelsB n L)[s]? = some x → W.ownsRow B 4 1 v n (x.map Value.bool) →
      body.wpIn (Fence.wide.inRound l) (n' - 1 - 1) Tryz.prog (outs (fun s' : Nat => s' = s + 1) I (fun c W => c = .exit j ∧ Ix W) W) (a₁ v) W)
    (hend : ∀ (D : Nat) (W : World), w.heap.size ≤ D → (I (modelsB n L).length W ∨ Ix W) → W.heap[D]? = some (.deferred (some [])) → Kn { a with defers := { target := .collected D, args := #[] } :: a.defers } W) :
    (Code.rangeFunc gop ps assign body).wpIn .wide n' Tryz.prog (Exit.inBlock j (Exit.then Kn Q)) a w := by
  refine range_models hn n hn16 L bf bv g cf B hg hps I (fun c W => c = .exit j ∧ Ix W) hI (fun c => (steady_true _).and hIx) h0 hA a₁ hassign hbody ?_ ?_
  · intro D W hD hi hd
    exact hend D W hD (.inl hi) hd
  · rintro D c W hD ⟨rfl, hi⟩ hd
    refine wpIn_exit ?_
    simp only [Exit.inBlock, if_true]
    exact hend D W hD (.inr hi) hd
end Go.Proofs.YtmghmmkljplnfaaGreat
namespace Go.Proofs.YtmghmmkljplnfaaGreat
open Go.RowKit Go.ChangeAt Go.ChangeShapes Go.WideShapes Go.Shelf Go.Sort
theorem ev_at {w W : World} {fs : List (Value × List (List Int))} {ms : List (Value × List Bool)} {rs : List (Value × List (List Bool))} {ss : List (Nat × TypeId × Array Value)} {ds : List Nat} {Aa : Option Addr} {K ca : Nat} {l : List (List Bool)} (h : Ev w W fs ms rs ss ds) (hp : (Value.slice Aa K ca, l) ∈ rs) {j : Nat} {x : List Bool} (hx : l[j]? = some x) :
    ∃ b off As cs, Aa = some ⟨b, off, none⟩ ∧ W.cell? ⟨b, off + j, none⟩ = some (.slice As x.length cs) ∧ Bools W.heap.size W (.slice As x.length cs) x := by
  obtain ⟨A, cap, e, hj⟩ := bls_shape (h.r hp)
  injection e with e1 e2 e3
  subst e1
  obtain ⟨b, off, As, cs, h1, -, h2, h3⟩ := hj j x hx
  exact ⟨b, off, As, cs, h1, h2, h3⟩
/-! ### what is done, over such worlds -/
/-- Right, and small enough. -/
structure Ok8 (L : List (List Int)) : Prop where
  len : L.length ≤ 1000
  cl : ∀ zs ∈ L, zs.length ≤ 100 ∧ ∀ l ∈ zs, 1 ≤ l.natAbs ∧ l.natAbs ≤ 8
theorem Ok8.chk {L : List (List Int)} (h : Ok8 L) : chkI 8 L = (-1, 0) := chk8 (by have := h.len; omega) fun zs hz => ⟨by have := (h.cl zs hz).1; omega, (h.cl zs hz).2⟩
theorem Ok8.chk2 {L : List (List Int)} (h : Ok8 L) : (chkI ((8 : Nat) : Int) L).2 = 0 := by rw [show ((8 : Nat) : Int) = 8 from rfl, h.chk]
theorem Ok8.short {L : List (List Int)} (h : Ok8 L) : ∀ zs ∈ L, zs.length ≤ 1000000 := fun zs hz => by have := (h.cl zs hz).1; omega
theorem Ok8.small {L : List (List Int)} (h : Ok8 L) : Small 8 L := fun zs hz => (h.cl zs hz).2
theorem ok_made (zss : List (List Int)) : Ok8 (madeF zss) := ⟨by have := madeF_len zss; omega, fun zs hz => ⟨by have := (madeF_cl zs hz).1; omega, (madeF_cl zs hz).2⟩⟩
section
variable {w W : World} {fs : List (Value × List (List Int))} {ms : List (Value × List Bool)} {rs : List (Value × List (List Bool))} {ss : List (Nat × TypeId × Array Value)} {ds : List Nat} {v : Value} {L : List (List Int)}
theorem ev_made {zss : List (List Int)} (h : Ev w W fs ms rs ss ds) (hz : ∀ zs ∈ zss, zs.length ≤ maxLen ∧ ∀ x ∈ zs, (Lit.int .u8 x).wf = true) (hR : Rows2 .u8 w.heap.size w v zss) :
    Calls Tryz.prog 13 #[v] W fun e w' => ∃ A c, e = .returned (.agg #[.int .i64 8, .slice A (madeF zss).length c]) ∧ Ev w w' ((.slice A (madeF zss).length c, madeF zss) :: fs) ms rs ss ds :=
  (foMade_any W (Nat.le_refl _) hz (rows2_more h.below.size (hR.below h.below))).mono fun e w' ⟨v', he, ho, hB⟩ => by
    obtain ⟨A, c, rfl⟩ := ho.len
    rw [cellsL_len] at he ho
    exact ⟨A, c, he, (h.on hB).addF ho.rowsL⟩
theorem ev_collected (h : Ev w W fs ms rs ss ds) (hp : (v, L) ∈ fs) (hk : Ok8 L) (k : Nat) (hl : (modelsB 8 L).length = k) :
    Calls Tryz.prog 16 #[.agg #[.int .i64 8, v]] W fun e w' => ∃ A c, e = .returned (.tuple #[.slice A k c, .bool true]) ∧ Ev w w' fs ms ((.slice A k c, modelsB 8 L) :: rs) ss ds :=
  (callsIn_wide.1 (collected_in 8 (Nat.le_refl _) W (Nat.le_refl _) hk.short (h.f hp) hk.chk2)).mono fun e w' ⟨v', he, ho, hB⟩ => by
    obtain ⟨A, c, rfl⟩ := ho.len
    rw [show (boolsL (modelsB 8 L)).length = k by unfold boolsL; rw [List.length_map, hl]] at he ho
    exact ⟨A, c, he, (h.on hB).addR ho.rowsV⟩
theorem ev_count (h : Ev w W fs ms rs ss ds) (hp : (v, L) ∈ fs) (hk : Ok8 L) (k : Nat) (hl : (modelsB 8 L).length = k) :
    Calls Tryz.prog 11 #[.agg #[.int .i64 8, v]] W fun e w' => e = .returned (.tuple #[.int .i64 (k : Nat), .int .i64 0]) ∧ Ev w w' fs ms rs ss ds :=
  (count_ok 8 (by omega) W (Nat.le_refl _) hk.short (h.f hp) hk.chk2).mono fun e w' ⟨he, hB⟩ => ⟨by rw [he, hl], h.on hB⟩
theorem ev_first (h : Ev w W fs ms rs ss ds) (hp : (v, L) ∈ fs) (hk : Ok8 L) (x : List Bool) (hx : (modelsB 8 L)[0]?.getD [] = x) :
    Calls Tryz.prog 35 #[.agg #[.int .i64 8, v]] W fun e w' => ∃ A c, e = .returned (.tuple #[.slice A x.length c, .bool (decide (modelsB 8 L ≠ [])), .int .i64 0]) ∧ Ev w w' fs ((.slice A x.length c, x) :: ms) rs ss ds :=
  (callsIn_wide.1 (first_in 8 (by omega) W (Nat.le_refl _) hk.short (h.f hp) hk.chk2)).mono fun e w' ⟨fv, he, hr, hB⟩ => by
    rw [hx] at hr
    obtain ⟨A, c, rfl⟩ := own_shape0 hr
    exact ⟨A, c, he, (h.on hB).addM (rowV_own hr)⟩
theorem ev_models (h : Ev w W fs ms rs ss ds) (hp : (v, L) ∈ fs) (hk : Ok8 L) :
    Calls Tryz.prog 36 #[.agg #[.int .i64 8, v]] W fun e w' => ∃ bf bv g cf, e = .returned (.tuple #[.func (.func 72) #[] #[.pointer (some ⟨bf, 0, none⟩), .pointer (some ⟨bv, 0, none⟩)], .int .i64 0]) ∧ MdAt 8 L bf bv g cf w'.heap.size w' ∧ Ev w w' fs ms rs ss ds :=
  (models_ok 8 (by omega) W (Nat.le_refl _) hk.short (h.f hp) hk.chk2).mono fun e w' ⟨bf, bv, g, cf, he, hm, hB⟩ => ⟨bf, bv, g, cf, he, hm, h.on hB⟩
theorem fails_ok {x : List Bool} (hk : Ok8 L) (hx : x.length = 8) : failsR 8 L x = ((failP x 0 L).1, (failP x 0 L).2, 0) := by
  unfold failsR
  rw [hk.chk, if_pos rfl, if_pos (by omega)]
theorem ev_value {mv : Value} {x : List Bool} (h : Ev w W fs ms rs ss ds) (hp : (v, L) ∈ fs) (hk : Ok8 L) (hm : Bools W.heap.size W mv x) (hx : x.length = 8) (b : Bool) (hb : (failP x 0 L).2 = !b) :
    Calls Tryz.prog 32 #[.agg #[.int .i64 8, v], mv] W fun e w' => e = .returned (.tuple #[.bool b, .int .i64 0]) ∧ Ev w w' fs ms rs ss ds :=
  (value_any 8 W (Nat.le_refl _) (by have := hk.len; omega) hk.short (h.f hp) hm).mono fun e w' ⟨he, hB⟩ => ⟨by
    rw [he]
    unfold valueR
    rw [fails_ok hk hx, hb]
    simp, h.on hB⟩
theorem ev_fails {mv : Value} {x : List Bool} (h : Ev w W fs ms rs ss ds) (hp : (v, L) ∈ fs) (hk : Ok8 L) (hm : Bools W.heap.size W mv x) (hx : x.length = 8) :
    Calls Tryz.prog 33 #[.agg #[.int .i64 8, v], mv] W fun e w' => e = .returned (.tuple #[.int .i64 (failP x 0 L).1, .bool (failP x 0 L).2, .int .i64 0]) ∧ Ev w w' fs ms rs ss ds :=
  (fails_any 8 W (Nat.le_refl _) (by have := hk.len; omega) hk.short (h.f hp) hm).mono fun e w' ⟨he, hB⟩ => ⟨by rw [he, fails_ok hk hx], h.on hB⟩
theorem ev_equal {mv mv' : Value} {x y : List Bool} (h : Ev w W fs ms rs ss ds) (hm : Bools W.heap.size W mv x) (hm' : Bools W.heap.size W mv' y) (hl : x.length ≤ 1000) (b : Bool) (hb : decide (x = y) = b) :
    Calls Tryz.prog 25 #[mv, mv'] W fun e w' => e = .returned (.bool b) ∧ Ev w w' fs ms rs ss ds :=
  (equal_bools W (by omega) hm hm').mono fun e w' ⟨he, q, hw⟩ => ⟨by rw [he, hb], by rw [hw]; exact h.on (below_dN _ _)⟩
end
end Go.Proofs.YtmghmmkljplnfaaGreat
