/- The walk of TrailYields. -/
import Derived.Test.YtdeedmfofjdbjaaTrYieldMath
import Derived.Test.YtdeedmfofjdbjaaTrRange2
import Derived.Test.YtdeedmfofjdbjaaTrLiterals
import Derived.Test.YtdeedmfofjdbjaaEqual
import Derived.Deep.RegionHeld3
import Derived.Deep.QuietTactic
import Derived.BigQuiet
import Derived.Deep.DeepCutAuto
namespace Go.Proofs.Ytdeedmfofjdbjaa.trailYields
open Go.RowKit Go.ChangeAt Go.ChangeShapes Go.WideShapes

attribute [local go_sem] Oper.semAt_some

/-- A new cell for another row. -/
theorem refresh {S : List Blk} {fb : Nat} {K1 K : Nat → Prop} {w1 : World} {g nv : Nat} {its : List It} {st : List Nat} {v : Value} {xs : List Int} {W : World} (h : TY S fb K1 w1 K g nv its st v xs W) : TY S W.heap.size K1 w1 K g nv its st (.slice none 0 0) [] (W.alloc (.cells #[.slice none 0 0] 39)) := by
  have hn := h.on (below1a W (.cells #[.slice none 0 0] 39))
  exact ⟨hn.tr, hn.trn, hn.cells, h.nd, Whole.made W _ _, fun x => Nat.lt_irrefl _ (h.tr.kok.lt x), fun x hx e => by have := (h.cells x hx).1.lt; omega, h.trn.1.size, World.ownsRow_nil _ _ _ _, fun b e => (by cases e)⟩
theorem old {S : List Blk} {fb : Nat} {K1 K : Nat → Prop} {w1 : World} {g nv : Nat} {its : List It} {st : List Nat} {xs : List Int} {W : World} (h : TY S fb K1 w1 K g nv its st (.slice none 0 0) xs W) {b : Nat} {t : TypeId} {cs : Array Value} (hw : Whole W b t cs) (hk : ¬ K b) (hf : b ≠ fb) (hS : ∀ x ∈ S, x.1 ≠ b) : TY ((b, t, cs) :: S) fb K1 w1 K g nv its st (.slice none 0 0) xs W :=
  h.cons hw hk hf (by simp [Value.ownBlock]) hS
/-- The cells of the law, up to the first loop. -/
def S1 (w : World) (b9 g : Nat) (al : Value) (at_ stop : Int) : List Blk :=
  [(b9 + 5, 3, #[.int .i64 at_]), (b9 + 4, 28, #[.pointer (some ⟨g, 0, none⟩)]), (b9 + 2, 3, #[.int .i64 at_]), (b9 + 1, 39, #[al]), (b9, 28, #[.pointer (some ⟨g, 0, none⟩)]), (w.heap.size + 1, 4, #[.bool false]), (w.heap.size, 5, #[.int .u8 stop])]
theorem start1 {w w1 : World} {g : Nat} {its : List It} {st : List Nat} {al lv : Value} {K : Nat → Prop} {stop at_ : Int}
    (hP : PS ((w.alloc (.cells #[.int .u8 stop] 5)).alloc (.cells #[.bool false] 4)) g 8 its st al lv (litsOf its) (levsOf its) K w1) :
    TY (S1 w w1.heap.size g al at_ stop) (w1.heap.size + 3) K w1 K g 8 its st (.slice none 0 0) []
      ((((((w1.alloc (.cells #[.pointer (some ⟨g, 0, none⟩)] 28)).alloc (.cells #[al] 39)).alloc (.cells #[.int .i64 at_] 3)).alloc (.cells #[.slice none 0 0] 39)).alloc (.cells #[.pointer (some ⟨g, 0, none⟩)] 28)).alloc (.cells #[.int .i64 at_] 3)) := by
  have hsz := hP.below.size
  simp only [World.size_alloc] at hsz
  have hK := hP.base
  simp only [World.size_alloc] at hK
  -- the two cells that were there
  have c6 : Whole ((w.alloc (.cells #[.int .u8 stop] 5)).alloc (.cells #[.bool false] 4)) w.heap.size 5 #[.int .u8 stop] := (Whole.made w _ _).same ((below1a _ _).block _ (by simp))
  have c8 : Whole ((w.alloc (.cells #[.int .u8 stop] 5)).alloc (.cells #[.bool false] 4)) (w.heap.size + 1) 4 #[.bool false] := by
    have := Whole.made (w.alloc (.cells #[.int .u8 stop] 5)) 4 #[.bool false]
    rwa [World.size_alloc] at this
  have d6 := c6.same (hP.below.block _ c6.lt)
  have d8 := c8.same (hP.below.block _ c8.lt)
  -- three new ones
  let wa := w1.alloc (.cells #[.pointer (some ⟨g, 0, none⟩)] 28)
  let wb := wa.alloc (.cells #[al] 39)
  let wc := wb.alloc (.cells #[.int .i64 at_] 3)
  have sa : wa.heap.size = w1.heap.size + 1 := by simp [wa]
  have sb : wb.heap.size = w1.heap.size + 2 := by simp [wb, sa]
  have sc : wc.heap.size = w1.heap.size + 3 := by simp [wc, sb]
  have b1 : Below w1.heap.size w1 wa := below1a w1 _
  have b2 : Below wa.heap.size wa wb := below1a wa _
  have b3 : Below wb.heap.size wb wc := below1a wb _
  have b12 : Below w1.heap.size w1 wb := b1.trans (b2.mono (by omega))
  have b13 : Below w1.heap.size w1 wc := b12.trans (b3.mono (by omega))
  have e9 : Whole wa w1.heap.size 28 #[.pointer (some ⟨g, 0, none⟩)] := Whole.made w1 _ _
  have e10 : Whole wb (w1.heap.size + 1) 39 #[al] := by have := Whole.made wa 39 #[al]; rwa [sa] at this
  have e13 : Whole wc (w1.heap.size + 2) 3 #[.int .i64 at_] := by have := Whole.made wb 3 #[.int .i64 at_]; rwa [sb] at this
  have f9 := (e9.same (b2.block _ e9.lt)).same (b3.block _ (by omega))
  have f10 := e10.same (b3.block _ e10.lt)
  have y0 := ty_start (hP.tr.on b13) (Turn.of_below (K := K) b13)
  have b4 : Below wc.heap.size wc (wc.alloc (.cells #[.slice none 0 0] 39)) := below1a wc _
  have hkl := fun i => hP.tr.kok.lt (i := i)
  rw [sc] at y0
  have y1 := old y0 ((d6.same (b13.block _ d6.lt)).same (b4.block _ (by have := d6.lt; omega))) (fun x => by have := hK _ x; omega) (by omega) (by simp)
  have y2 := old y1 ((d8.same (b13.block _ d8.lt)).same (b4.block _ (by have := d8.lt; omega))) (fun x => by have := hK _ x; omega) (by omega) (by simp)
  have y3 := old y2 (f9.same (b4.block _ (by omega))) (fun x => Nat.lt_irrefl _ (hkl _ x)) (by omega) (by simp; omega)
  have y4 := old y3 (f10.same (b4.block _ (by omega))) (fun x => by have := hkl _ x; omega) (by omega) (by simp; omega)
  have y5 := old y4 (e13.same (b4.block _ (by omega))) (fun x => by have := hkl _ x; omega) (by omega) (by simp; omega)
  have y6 := y5.new 28 #[.pointer (some ⟨g, 0, none⟩)]
  have y7 := y6.new 3 #[.int .i64 at_]
  simp only [World.size_alloc, sc] at y7
  exact y7
def I1 (w w1 : World) (g : Nat) (its : List It) (st : List Nat) (al : Value) (K : Nat → Prop) (a b : Nat) (stop : Int) (s : TrS) (W : World) : Prop :=
  ∃ v, s.2 = K ∧ s.1 ≤ b ∧ TY (S1 w w1.heap.size g al (a : Int) stop) (w1.heap.size + 3) K w1 s.2 g 8 its st v (((litsOf its).drop a).take s.1) W
def X1 (w w1 : World) (g : Nat) (its : List It) (st : List Nat) (al : Value) (K : Nat → Prop) (a b : Nat) (stop : Int) (W : World) : Prop :=
  ∃ v, TY (S1 w w1.heap.size g al (a : Int) stop) (w1.heap.size + 3) K w1 K g 8 its st v (((litsOf its).drop a).take b) W
theorem I1.steady {w w1 : World} {g : Nat} {its : List It} {st : List Nat} {al : Value} {K : Nat → Prop} {a b : Nat} {stop : Int} {B : Nat} (hB : w1.heap.size ≤ B) (s : TrS) : Steady B (I1 w w1 g its st al K a b stop s) :=
  steady_ex fun _ => (steady_true _).and ((steady_true _).and (TY.steady hB))
theorem X1.steady {w w1 : World} {g : Nat} {its : List It} {st : List Nat} {al : Value} {K : Nat → Prop} {a b : Nat} {stop : Int} {B : Nat} (hB : w1.heap.size ≤ B) : Steady B (X1 w w1 g its st al K a b stop) :=
  steady_ex fun _ => TY.steady hB
theorem drop_snoc {its : List It} {a k : Nat} {x : It} (hx : its[a + k]? = some x) : ((litsOf its).drop a).take (k + 1) = ((litsOf its).drop a).take k ++ [x.lit] := by
  rw [List.take_add_one]
  congr 1
  rw [List.getElem?_drop, litsOf_at hx]; rfl
theorem end_level {nv : Nat} {its : List It} {st : List Nat} (h : TG nv its st) {k : Nat} (hk : k ≤ st.length) {p : Nat} {x : It} (hx : its[p]? = some x) : (p < endOf its st k ↔ x.level ≤ k) := by
  have hl := (List.getElem?_eq_some_iff.1 hx).1
  have hlev := h.lev p x hx
  rcases Nat.lt_or_ge k st.length with h1 | h1
  · have he : endOf its st k = st[k] := by unfold endOf; rw [List.getElem?_eq_getElem h1]; rfl
    rw [he]
    constructor
    · intro h2; rw [hlev]; exact countP_le' h.inc h1 h2
    · intro h2
      rcases Nat.lt_or_ge p st[k] with h3 | h3
      · exact h3
      · have := countP_ge h.inc h1 h3
        omega
  · obtain rfl : k = st.length := by omega
    rw [endOf_now]
    have : st.countP (fun s => decide (s ≤ p)) ≤ st.length := List.countP_le_length
    constructor
    · intro _; omega
    · intro _; exact hl
/-- The cells of the law in the second loop. -/
def S2 (w : World) (b9 bq g : Nat) (al : Value) (at_ stop : Int) (kk : Nat) : List Blk :=
  (bq + 2, 28, #[.pointer (some ⟨g, 0, none⟩)]) :: (bq, 3, #[.int .i64 (kk : Int)]) :: S1 w b9 g al at_ stop
theorem steady_old {B D : Nat} {o : Obj} (h : D < B) : Steady B fun W => W.heap[D]? = some o := fun _ _ _ hi hg hr =>
  (hg.block D (Array.getElem?_eq_some_iff.1 hi).1 (fun e => by have := (hr D e.symm).1; omega)).trans hi
def I2 (w w1 : World) (bq D g : Nat) (its : List It) (st : List Nat) (al : Value) (K : Nat → Prop) (a b m N kk : Nat) (stop : Int) (s : TrS) (W : World) : Prop :=
  ∃ v, W.heap[D]? = some (.deferred (some [])) ∧ s.1 ≤ m ∧ TY (S2 w w1.heap.size bq g al (a : Int) stop kk) (bq + 1) K w1 s.2 g 8 (yIt its b N s.1) (ySt st b kk s.1) v (wantL its m b N s.1) W
theorem I2.steady {w w1 : World} {bq D g : Nat} {its : List It} {st : List Nat} {al : Value} {K : Nat → Prop} {a b m N kk : Nat} {stop : Int} {B : Nat} (hB : w1.heap.size ≤ B) (hD : D < B) (s : TrS) : Steady B (I2 w w1 bq D g its st al K a b m N kk stop s) :=
  steady_ex fun _ => (steady_old hD).and ((steady_true _).and (TY.steady hB))
theorem I2.skip {w w1 : World} {bq D g : Nat} {its : List It} {st : List Nat} {al : Value} {K : Nat → Prop} {a b m N kk : Nat} {stop : Int} (hm : its.length = m) (hN : N ≤ m) (s : TrS) (W : World) (h : I2 w w1 bq D g its st al K a b m N kk stop s W) (hk : s.1 < m) (hl : (yIt its b N s.1).length ≤ m - 1 - s.1) : I2 w w1 bq D g its st al K a b m N kk stop (s.1 + 1, s.2) W := by
  obtain ⟨k, K'⟩ := s
  dsimp only at hk hl ⊢
  obtain ⟨v, h1, h2, hy⟩ := h
  dsimp only at hy
  have hb : ¬ (b = 0 ∨ k < b) := fun hb => by
    unfold yIt at hl
    rw [if_pos hb] at hl
    omega
  unfold yIt at hl
  rw [if_neg hb, List.length_take] at hl
  refine ⟨v, h1, hk, ?_⟩
  show TY _ _ _ _ K' _ _ (yIt its b N (k + 1)) (ySt st b kk (k + 1)) v (wantL its m b N (k + 1)) W
  rw [yIt_same (by omega), ySt_same (by omega), wantL_succ, if_neg (by unfold wantB; rw [decide_eq_true_eq]; omega), List.append_nil]
  exact hy
def WantRel (its : List It) (m b N : Nat) (w : World) (o i : Value) (wr : World) : Prop :=
  ∃ (j : Nat) (v : Value), o = v ∧ j ≤ m ∧ i = .int .i64 ((m : Int) - 1 - (j : Int)) ∧ wr.ownsRow w.heap.size 36 1 v (wantL its m b N j).length ((wantL its m b N j).map (Value.int .i64)) ∧ Below w.heap.size w wr
theorem want_below {W wr W2 : World} {v : Value} {ys : List Int} {y : Int} {T : TypeId} (hrow : wr.ownsRow W.heap.size 36 1 v ys.length (ys.map (Value.int .i64))) (hB : Below W.heap.size W wr) (hg : (wr.alloc (laidO [y] T)).grownBy W2 v.ownBlock) : Below W.heap.size W W2 :=
  (hB.alloc hB.size _).grown hg (Nat.le_trans hB.size (by rw [World.size_alloc]; exact Nat.le_succ _)) (fun k e => (hrow.lt k e).1)
theorem want_own {W2 : World} {B : Nat} {v : Value} {ys zs : List Int} {y : Int} (h : W2.ownsRow B 36 1 v (ys.length + 1) (ys.map (Value.int .i64) ++ [y].map (Value.int .i64))) (e : zs = ys ++ [y]) : W2.ownsRow B 36 1 v zs.length (zs.map (Value.int .i64)) := by
  subst e; rw [List.length_append, List.map_append]; exact h
theorem row_drewN {W : World} {B n : Nat} {e : TypeId} {v : Value} {xs : List Value} (h : W.ownsRow B e 1 v n xs) (q : Nat) : (W.drewN q).ownsRow B e 1 v n xs := owns_on0 h (below_drewN (Below.refl _ _) q)
theorem part_ints {W : World} {B m ca a a2 f : Nat} {Aa : Option Addr} {L : List Int} (h : W.ownsRow B 36 1 (.slice Aa m ca) m (L.map (Value.int .i64))) (ha : min a m = a2) (hf : f ≤ m - a2) : Ints W.heap.size W (.slice (Aa.map fun x => x.add a2) f (ca - a2)) ((L.drop a).take f) := by
  have hl : L.length = m := by have := h.1; simpa using this
  by_cases h0 : f = 0
  · subst h0
    refine .inl ⟨_, _, rfl, fun e => ?_, by simp⟩
    rcases h.2 with ⟨he, -⟩ | ⟨g, c, cur, he, -⟩
    · injection he with _ _ h3; rw [h3]; omega
    · injection he with h1 _ _; rw [h1] at e; cases e
  · have hn : min a m = a := by omega
    obtain rfl : a = a2 := by omega
    have hc := fun b => h.cells (g := b)
    rcases h.2 with ⟨he, h1⟩ | ⟨g, c, cur, he, -, hg, -⟩
    · omega
    · injection he with h1 h2 h3
      subst h1
      have hfl : ((L.drop a).take f).length = f := by rw [List.length_take, List.length_drop]; omega
      refine .inr ⟨g, a, ca - a, ?_, (Array.getElem?_eq_some_iff.1 hg).1, fun j hj => ?_⟩
      · rw [hfl]
        show Value.slice (some ((⟨g, 0, none⟩ : Addr).add a)) f _ = _
        rw [addr_add, Nat.zero_add]
      · rw [hfl] at hj
        have hx : L[a + j]? = some (L[a + j]'(by omega)) := List.getElem?_eq_getElem _
        have := hc g rfl (a + j) (.int .i64 (L[a + j]'(by omega))) (by rw [List.getElem?_map, hx]; rfl)
        rw [addr_add, Nat.zero_add] at this
        rw [this, List.getElem?_take_of_lt hj, List.getElem?_drop, hx]
        rfl
/-- What lies there in the third loop. -/
def S3 (bq bn g2 : Nat) (k : Int) : List Blk := [(bn + 2, 3, #[.int .i64 0]), (bn + 1, 28, #[.pointer (some ⟨g2, 0, none⟩)]), (bn, 3, #[.int .i64 k]), (bq, 28, #[.pointer (some ⟨g2, 0, none⟩)])]
structure FI (V : World) (g2 bq bn : Nat) (n : Int) (k : Nat) (K : Nat → Prop) (W : World) : Prop where
  tr : Trl K W g2 8 (freeI k) []
  base : ∀ i, K i → V.heap.size ≤ i
  below : Below V.heap.size V W
  cells : ∀ x ∈ S3 bq bn g2 n, Whole W x.1 x.2.1 x.2.2 ∧ ¬ K x.1
theorem FI.steady {V : World} {g2 bq bn : Nat} {n : Int} {k : Nat} {K : Nat → Prop} {B : Nat} (hB : V.heap.size ≤ B) : Steady B (FI V g2 bq bn n k K) := fun W W' row h hg hr =>
  ⟨steady_trl _ _ _ _ _ W W' row h.tr hg hr, h.base, steady_below' V hB W W' row h.below hg hr, fun x hx => ⟨steady_whole _ _ _ W W' row (h.cells x hx).1 hg hr, (h.cells x hx).2⟩⟩
theorem FI.turn {V W W' : World} {g2 bq bn : Nat} {n : Int} {k k' : Nat} {K K' : Nat → Prop} (h : FI V g2 bq bn n k K W) (t : Turn K W K' W') (hA : Trl K' W' g2 8 (freeI k') []) : FI V g2 bq bn n k' K' W' :=
  ⟨hA, t.from_ h.below.size h.base, h.below.trans (t.below h.below.size h.base), fun x hx => ⟨(h.cells x hx).1.same (t.1.block _ (h.cells x hx).1.lt (h.cells x hx).2), t.off (h.cells x hx).1.lt (h.cells x hx).2⟩⟩
theorem FI.set {V W : World} {g2 bq bn : Nat} {n : Int} {k : Nat} {K : Nat → Prop} (h : FI V g2 bq bn n k K W) (hV : V.heap.size ≤ bn) (hq : bq < bn) (n' : Int) : FI V g2 bq bn n' k K (W.setCell ⟨bn, 0, none⟩ (.int .i64 n')) := by
  have hn := h.cells (bn, 3, #[.int .i64 n]) (by simp [S3])
  refine ⟨h.tr.set hn.2 _, h.base, h.below.setCell (p := ⟨bn, 0, none⟩) hV _, fun x hx => ?_⟩
  simp only [S3, List.mem_cons, List.not_mem_nil, or_false] at hx
  rcases hx with rfl | rfl | rfl | rfl
  · have := h.cells (bn + 2, 3, #[.int .i64 0]) (by simp [S3])
    exact ⟨this.1.beside (by show bn + 2 ≠ bn; omega) _, this.2⟩
  · have := h.cells (bn + 1, 28, #[.pointer (some ⟨g2, 0, none⟩)]) (by simp [S3])
    exact ⟨this.1.beside (by show bn + 1 ≠ bn; omega) _, this.2⟩
  · exact ⟨hn.1.store 0 _, hn.2⟩
  · have := h.cells (bq, 28, #[.pointer (some ⟨g2, 0, none⟩)]) (by simp [S3])
    exact ⟨this.1.beside (by show bq ≠ bn; omega) _, this.2⟩
theorem FI.last {V W : World} {g2 bq bn : Nat} {k : Nat} {K : Nat → Prop} (hk : k = 7) (h : FI V g2 bq bn ((k : Int) + 1) k K W) : FI V g2 bq bn ((k + 1 : Nat) : Int) (k + 1) K W := by
  subst hk
  have e : ((7 + 1 : Nat) : Int) = ((7 : Nat) : Int) + 1 := rfl
  refine ⟨?_, h.base, h.below, ?_⟩
  · rw [show freeI (7 + 1) = freeI 7 from freeI_last]; exact h.tr
  · rw [e]; exact h.cells
theorem FI.start {V W : World} {g2 bq : Nat} {K : Nat → Prop} (hA : Trl K W g2 8 (freeI 0) []) (hK : ∀ i, K i → V.heap.size ≤ i) (hB : Below V.heap.size V W) (hw : Whole W bq 28 #[.pointer (some ⟨g2, 0, none⟩)]) (hk : ¬ K bq) :
    FI V g2 bq W.heap.size 0 0 K (((W.alloc (.cells #[.int .i64 0] 3)).alloc (.cells #[.pointer (some ⟨g2, 0, none⟩)] 28)).alloc (.cells #[.int .i64 0] 3)) := by
  let wa := W.alloc (.cells #[.int .i64 0] 3)
  let wb := wa.alloc (.cells #[.pointer (some ⟨g2, 0, none⟩)] 28)
  have sa : wa.heap.size = W.heap.size + 1 := by simp [wa]
  have sb : wb.heap.size = W.heap.size + 2 := by simp [wb, sa]
  have b1 : Below W.heap.size W wa := below1a W _
  have b2 : Below wa.heap.size wa wb := below1a wa _
  have b3 : Below wb.heap.size wb (wb.alloc (.cells #[.int .i64 0] 3)) := below1a wb _
  have b13 := (b1.trans (b2.mono (by omega))).trans (b3.mono (by omega))
  have hs := hB.size
  have no : ∀ j, W.heap.size ≤ j → ¬ K j := fun j hj x => by have := hA.kok.lt x; omega
  refine ⟨hA.on b13, hK, hB.trans (b13.mono hs), fun x hx => ?_⟩
  simp only [S3, List.mem_cons, List.not_mem_nil, or_false] at hx
  rcases hx with rfl | rfl | rfl | rfl
  · have := Whole.made wb 3 #[.int .i64 0]
    rw [sb] at this
    exact ⟨this, no _ (by show W.heap.size ≤ W.heap.size + 2; omega)⟩
  · have := Whole.made wa 28 #[.pointer (some ⟨g2, 0, none⟩)]
    rw [sa] at this
    exact ⟨this.same (b3.block _ (by omega)), no _ (by show W.heap.size ≤ W.heap.size + 1; omega)⟩
  · have := Whole.made W 3 #[.int .i64 0]
    exact ⟨(this.same (b2.block _ (by omega))).same (b3.block _ (by omega)), no _ (Nat.le_refl _)⟩
  · exact ⟨hw.same (b13.block _ hw.lt), hk⟩
def I3 (V : World) (g2 bq bn : Nat) (s : TrS) (W : World) : Prop := s.1 ≤ 8 ∧ FI V g2 bq bn (s.1 : Int) s.1 s.2 W
set_option maxRecDepth 100000 in
set_option maxHeartbeats 8000000 in
theorem core (v : Value) (zs : List Int) (from_ stop tz : Int) (hf0 : 0 ≤ from_) (hf1 : from_ ≤ 255) (hs0 : 0 ≤ stop) (hs1 : stop ≤ 255) (ht0 : 0 ≤ tz) (ht1 : tz ≤ 255) (w : World) (hI : IntsK .u8 w.heap.size w v zs) (hF : Fits v) (hm : zs.length ≤ maxLen) (hw : ∀ x ∈ zs, (Lit.int .u8 x).wf = true) :
    Calls Try.prog 7 #[v, .int .u8 from_, .int .u8 stop, .int .u8 tz] w fun e w' => e = .returned (.bool true) ∧ Below w.heap.size w w' := by
  have hput := put_any v zs ((w.alloc (.cells #[.int .u8 stop] 5)).alloc (.cells #[.bool false] 4)) (hI.on ((below1a w _).trans ((below1a _ _).mono (by simp)))) hF hm hw
  obtain ⟨A0, cap0, rfl, -⟩ := intsK_shape hI
  have HPut := Lib.hid hput
  obtain ⟨a, ha⟩ : ∃ a : Nat, from_ % 10 = (a : Int) := ⟨(from_ % 10).toNat, by omega⟩
  obtain ⟨b, hb⟩ : ∃ b : Nat, stop % 10 = (b : Int) := ⟨(stop % 10).toNat, by omega⟩
  have ha9 : (a : Int) ≤ 9 := by omega
  have hb9 : (b : Int) ≤ 9 := by omega
  clear hput hI hF hm hw
  refine (callsIn_wide (n := 5)).1 ?_
  refine callsIn_of_wp_marks Try.func7 rfl trivial ?_ rfl
  simp only [Try.ntmps7, List.size_toArray, List.length_cons, List.length_nil, Nat.reduceAdd, Nat.reduceSub, Array.replicate_succ, Array.replicate_zero, List.push_toArray, List.append_toArray, List.nil_append, List.cons_append]
  refine wpIn_wide.2 ?_
  go_wp2_with fail
  refine (HPut.out).mono ?_
  rintro r w1 ⟨g, K, its, st, al, lv, rfl, hst, hP⟩
  obtain ⟨m, hml⟩ : ∃ m, its.length = m := ⟨_, rfl⟩
  have hm8 := hP.tr.good.len
  have hall := hP.all
  have hlev := hP.lev
  rw [litsOf_len, hml] at hall
  rw [levsOf_len, hml] at hlev
  obtain ⟨Aa, ca, rfl⟩ := own_shape1 hall
  obtain ⟨Al, cl, rfl⟩ := own_shape1 hlev
  rw [hml] at hm8
  have HMl := Lib.hid hml; have HP := Lib.hid hP
  clear HPut hP hall hlev hml
  go_wp2_with fail
  refine (lits_any _ _ _).mono ?_
  rintro r w' ⟨rfl, rfl⟩
  go_wp2_with fail
  have y7 := start1 (at_ := (a : Int)) HP.out
  obtain ⟨W0, hW0⟩ : ∃ W, (((((w1.alloc (.cells #[.pointer (some ⟨g, 0, none⟩)] 28)).alloc (.cells #[.slice Aa m ca] 39)).alloc (.cells #[.int .i64 (a : Int)] 3)).alloc (.cells #[.slice none 0 0] 39)).alloc (.cells #[.pointer (some ⟨g, 0, none⟩)] 28)).alloc (.cells #[.int .i64 (a : Int)] 3) = W := ⟨_, rfl⟩
  rw [hW0] at y7 ⊢
  have hW1 : w1.heap.size ≤ W0.heap.size := by rw [← hW0]; simp; omega
  have h0 : I1 w w1 g its st (.slice Aa m ca) K a b stop (0, K) W0 := ⟨_, rfl, Nat.zero_le _, y7⟩
  have H0 := Lib.hid h0
  obtain ⟨i0, hi, hz0, hz1, hz2⟩ := info_parts infoLit
  clear y7 h0 hW0
  refine wpIn_wide.1 (range_lits2 (n := 5) (by decide) (g := g) (nv := 8) (bf := w1.heap.size + 5) (bt := w1.heap.size + 4) (a : Int) a (by omega) (by decide) rfl (enters_of Try.func45 (by kernel_rfl) rfl) rfl (fun _ => its) (fun _ => st) (I1 w w1 g its st (.slice Aa m ca) K a b stop) (X1 w w1 g its st (.slice Aa m ca) K a b stop) (I1.steady hW1) (X1.steady hW1) K H0.out ?has ?a1 ?assign ?body ?hend)
  case has =>
    rintro s W ⟨v, -, -, hy⟩
    exact ⟨⟨hy.tr, (hy.cells (w1.heap.size + 4, 28, #[.pointer (some ⟨g, 0, none⟩)]) (by simp [S1])).1.cell 0⟩, (hy.cells (w1.heap.size + 5, 3, #[.int .i64 (a : Int)]) (by simp [S1])).1.cell 0⟩
  case assign =>
    intro l i x W K hK
    gi_wp2
    exact hK
  case body =>
    rintro l ⟨k, K'⟩ x W ⟨v, hK, hkb, hy⟩ hx
    dsimp only at hy hK hkb hx ⊢
    subst hK
    have hxl := (List.getElem?_eq_some_iff.1 hx).1
    have hmm := HMl.out
    have hlk : (((litsOf its).drop a).take k).length = k := by rw [List.length_take, List.length_drop, litsOf_len]; omega
    have hsn := drop_snoc hx
    have hc6 : W.cell? ⟨w.heap.size, 0, none⟩ = some (.int .u8 stop) := (hy.cells (w.heap.size, 5, #[.int .u8 stop]) (by simp [S1])).1.cell 0
    have hc13 : W.cell? ⟨w1.heap.size + 2, 0, none⟩ = some (.int .i64 (a : Int)) := (hy.cells (w1.heap.size + 2, 3, #[.int .i64 (a : Int)]) (by simp [S1])).1.cell 0
    have hrow := hy.row
    rw [hlk] at hrow
    obtain ⟨Ag, cg, rfl⟩ := own_shape1 hrow
    have hc14 : W.cell? ⟨w1.heap.size + 3, 0, none⟩ = some (.slice Ag k cg) := hy.cell.cell 0
    have hf14 := hy.cell.frozen 0
    have hgl := hy.cell.lt
    obtain ⟨y, hyy⟩ : ∃ y, x.lit = y := ⟨_, rfl⟩
    rw [hyy] at hsn ⊢
    by_cases hkb2 : k = b
    · subst hkb2
      have HX : Hid (X1 w w1 g its st (.slice Aa m ca) K' a k stop W) := ⟨_, hy⟩
      clear hy hrow hsn hlk hx hyy hmm H0
      gi_wp2_with fail
      exact ⟨Odd.refl _, rfl, HX.out⟩
    · have hkb3 : ¬ (k : Int) = (b : Int) := by omega
      have hks : k ≤ 8 := by omega
      have hak : ((a + k : Nat) : Int) = (a : Int) + (k : Int) := by omega
      have hw1s := hy.trn.1.size
      obtain ⟨ys, hys⟩ : ∃ ys, ((litsOf its).drop a).take k = ys := ⟨_, rfl⟩
      rw [hys] at hy hlk hsn
      have HY := Lib.hid hy; have HSn := Lib.hid hsn; have HLk := Lib.hid hlk
      clear hy hrow hsn hlk hx hyy hmm hys H0
      gi_wp2_with (gi_at_builtin; refine wpListIn_append2 rfl _ _ 39 39 rfl 36 i0 (.int .i64 0) 8 Try.underlying39 Try.underlying39 hi hz0 hz1 hz2 rfl w1.heap.size _ _ _ rfl (HY.out.row.alloc _) .i64 _ _ [y] rfl (ints_laid W [y] 36) (by have := HLk.out; unfold maxLen; simp; omega) (by have := HLk.out; simp; omega) (by simp; omega) ?_; intro v' w2 hown hg hb; obtain ⟨Av, cv, rfl⟩ := own_shape0 hown; have hcf2 := (HY.out.cell2 hg).cell 0; have hff2 := (HY.out.cell2 hg).frozen 0; have HPu := Lib.hid (HY.out.push hown hg hb); clear hown hg hb)
      have hfin := HPu.out.1
      rw [← HSn.out] at hfin
      exact ⟨HPu.out.2, (k + 1, K'), rfl, .slice Av (ys.length + 1) cv, rfl, by show k + 1 ≤ b; omega, hfin⟩
  case hend =>
    intro D W hD hi2 hd
    have hmm := HMl.out
    have hX : X1 w w1 g its st (.slice Aa m ca) K a b stop W := by
      rcases hi2 with ⟨⟨k, K'⟩, hx, v, hK, hkb, hy⟩ | h
      · dsimp only at hx hK hkb hy
        subst hK
        refine ⟨v, ?_⟩
        have e : ((litsOf its).drop a).take b = ((litsOf its).drop a).take k := by
          rw [List.take_of_length_le (by rw [List.length_drop, litsOf_len]; omega), List.take_of_length_le (by rw [List.length_drop, litsOf_len]; omega)]
        rw [e]
        exact hy
      · exact h
    obtain ⟨vg, hy⟩ := hX
    have hal := row_turn HP.out.all hy.trn.1 HP.out.offa
    rw [litsOf_len, hmm] at hal
    obtain ⟨a2, ha2⟩ : ∃ a2, min a m = a2 := ⟨_, rfl⟩
    have hmin : min (a : Int) (m : Int) = (a2 : Int) := by omega
    have ha2m : a2 ≤ m := by omega
    obtain ⟨f, hfe⟩ : ∃ f, min (m - a2) b = f := ⟨_, rfl⟩
    have hmin2 : min ((m - a2 : Nat) : Int) (b : Int) = (f : Int) := by omega
    have hG : (((litsOf its).drop a).take b).length = f := by rw [List.length_take, List.length_drop, litsOf_len]; omega
    have hrow := hy.row
    rw [hG] at hrow
    obtain ⟨Ag, cg, rfl⟩ := own_shape1 hrow
    have hc6 : W.cell? ⟨w.heap.size, 0, none⟩ = some (.int .u8 stop) := (hy.cells (w.heap.size, 5, #[.int .u8 stop]) (by simp [S1])).1.cell 0
    have hc13 : W.cell? ⟨w1.heap.size + 2, 0, none⟩ = some (.int .i64 (a : Int)) := (hy.cells (w1.heap.size + 2, 3, #[.int .i64 (a : Int)]) (by simp [S1])).1.cell 0
    have hc10 : W.cell? ⟨w1.heap.size + 1, 0, none⟩ = some (.slice Aa m ca) := (hy.cells (w1.heap.size + 1, 39, #[.slice Aa m ca]) (by simp [S1])).1.cell 0
    have hc9 : W.cell? ⟨w1.heap.size, 0, none⟩ = some (.pointer (some ⟨g, 0, none⟩)) := (hy.cells (w1.heap.size, 28, #[.pointer (some ⟨g, 0, none⟩)]) (by simp [S1])).1.cell 0
    have hc14 : W.cell? ⟨w1.heap.size + 3, 0, none⟩ = some (.slice Ag f cg) := hy.cell.cell 0
    have hca : m ≤ ca := by
      rcases hal.2 with ⟨he, h0⟩ | ⟨_, c, _, he, -, -, hnc, -⟩
      · omega
      · injection he with _ _ h3; subst h3; exact hnc
    have hcai : (a2 : Int) ≤ (ca : Int) := by omega
    have ha2mi : (a2 : Int) ≤ (m : Int) := by omega
    have HY := Lib.hid hy; have HAl := Lib.hid hal; have HD := Lib.hid hd; have HG := Lib.hid hG
    clear hy hal hd hG hrow hi2 H0 hmm hfe
    go_upto_region 13 with fail
    dsimp only
    go_cut [17] from 63 (fun s17 wx => (∃ A c, s17 = .slice A (m - a2) c ∧ m - a2 ≤ c ∧ ∀ f, f ≤ m - a2 → Ints W.heap.size W (.slice A f c) (((litsOf its).drop a).take f)) ∧ wx = W)
    case first =>
      by_cases hcn : ca = a2
      · have hz : m - a2 = 0 := by omega
        go_wp2_with fail
        go_meet
        refine ⟨⟨Aa, 0, by rw [hz], by omega, fun f hf => ?_⟩, rfl⟩
        obtain rfl : f = 0 := by omega
        exact .inl ⟨_, _, rfl, fun _ => rfl, by simp⟩
      · go_wp2_with fail
        go_meet
        exact ⟨⟨_, _, rfl, by omega, fun f hf => part_ints HAl.out ha2 hf⟩, rfl⟩
    case rest =>
      obtain ⟨⟨A7, c7, rfl, hc7, hin7⟩, hWc⟩ := hcut
      subst hWc
      obtain ⟨W, hWW⟩ : ∃ X, X = wc := ⟨_, rfl⟩
      subst hWW
      have hfm : f ≤ m - a2 := by omega
      have hin := hin7 f hfm
      have htk : ((litsOf its).drop a).take f = ((litsOf its).drop a).take b := by
        by_cases hb2 : b ≤ m - a2
        · rw [show f = b by omega]
        · rw [List.take_of_length_le (by rw [List.length_drop, litsOf_len]; have := HMl.out; omega), List.take_of_length_le (by rw [List.length_drop, litsOf_len]; have := HMl.out; omega)]
      rw [htk] at hin
      have hfc : (f : Int) ≤ (c7 : Int) := by omega
      have hfc' : f ≤ c7 := by omega
      have hgi : Ints W.heap.size W (.slice Ag f cg) (((litsOf its).drop a).take b) := ints_own (HY.out.row)
      have hlb : (((litsOf its).drop a).take b).length ≤ 9223372036854775807 := by rw [HG.out]; omega
      have heq : ∀ q, Calls Try.prog 29 #[.slice Ag f cg, .slice A7 f c7] (W.drewN q) fun e w' => e = .returned (.bool true) ∧ ∃ n, w' = (W.drewN q).drewN n := fun q => by
        refine (equal_cl (W.drewN q) hlb hlb (hgi.below (below_drewN (Below.refl _ _) q)) (hin.below (below_drewN (Below.refl _ _) q))).mono ?_
        rintro r w' ⟨rfl, h⟩
        rw [beq_self_eq_true]
        exact ⟨rfl, h⟩
      have HEq := Lib.hid heq
      clear heq hgi hlb hin hin7 htk HAl
      go_upto_region 14 with fail
      go_quiet (first | (go_at_call 29; exact Calls.quiet_of (HEq.out _)))
      go_wp2_with fail
      have hbd := below_drewN (Below.refl W.heap.size W) nq
      have hy3 := HY.out.on hbd
      have hd3 := (Odd.of_below hbd).same D _ HD.out rfl
      obtain ⟨W3, hW3⟩ : ∃ X, W.drewN nq = X := ⟨_, rfl⟩
      rw [hW3] at hy3 hd3 ⊢
      have hnow := now_tr W3 hy3.tr
      obtain ⟨sl, hsl⟩ : ∃ sl : Int, (st.length : Int) = sl := ⟨_, rfl⟩
      rw [hsl] at hnow
      have hs0' : 0 ≤ sl := by omega
      have hs4 : sl ≤ 40 := by omega
      obtain ⟨kk, hkk⟩ : ∃ kk : Nat, tz % (sl + 1) = (kk : Int) := ⟨(tz % (sl + 1)).toNat, (Int.toNat_of_nonneg (Int.emod_nonneg _ (by omega))).symm⟩
      have hkl : (kk : Int) < sl + 1 := by rw [← hkk]; exact Int.emod_lt_of_pos _ (by omega)
      have hq : tz.tmod (sl + 1) = (kk : Int) := by rw [Int.tmod_eq_emod_of_nonneg ht0, hkk]
      have hnz : ¬ (sl + 1 = 0) := by omega
      have hwt : IntKind.i64.wrap tz = tz := by rw [IntKind.wrap_i64]; omega
      have hks : kk ≤ st.length := by omega
      obtain ⟨N, hN⟩ : ∃ N, endOf its st kk = N := ⟨_, rfl⟩
      have hNm := hy3.tr.good.end_le kk
      have helv := fun p x (hx : its[p]? = some x) => end_level hy3.tr.good hks hx
      rw [hN] at hNm helv
      rw [HMl.out] at hNm
      have HNow := Lib.hid hnow; have HY3 := Lib.hid hy3; have HD3 := Lib.hid hd3; have HN := Lib.hid hN; have HEl := Lib.hid helv; have HKs := Lib.hid hks
      have hc9 : W3.cell? ⟨w1.heap.size, 0, none⟩ = some (.pointer (some ⟨g, 0, none⟩)) := (hy3.cells (w1.heap.size, 28, #[.pointer (some ⟨g, 0, none⟩)]) (by simp [S1])).1.cell 0
      have hw13 := hy3.trn.1.size
      have hlt9 : w1.heap.size < W3.heap.size := (hy3.cells (w1.heap.size, 28, #[.pointer (some ⟨g, 0, none⟩)]) (by simp [S1])).1.lt
      clear hnow hy3 hd3 hN helv hks hbd hW3 HY HD HEq hsl hkk hc6 hc10 hc13 hc14 hst
      refine (HNow.out).mono ?_
      rintro r w' ⟨rfl, rfl⟩
      go_wp2_with fail
      refine (down_any _ _).mono ?_
      rintro r w' ⟨rfl, rfl⟩
      go_wp2_with fail
      have hdb : D < W3.heap.size := (Array.getElem?_eq_some_iff.1 HD3.out).1
      have y1 := HY3.out.new 3 #[.int .i64 (kk : Int)]
      have y2 := refresh y1
      have y3 := y2.new 28 #[.pointer (some ⟨g, 0, none⟩)]
      simp only [World.size_alloc] at y3
      have hd4 : (((W3.alloc (.cells #[.int .i64 (kk : Int)] 3)).alloc (.cells #[.slice none 0 0] 39)).alloc (.cells #[.pointer (some ⟨g, 0, none⟩)] 28)).heap[D]? = some (.deferred (some [])) := by
        rw [Below.heap_alloc _ _ _ (by simp; omega), Below.heap_alloc _ _ _ (by simp; omega), Below.heap_alloc _ _ _ hdb]
        exact HD3.out
      obtain ⟨W4, hW4⟩ : ∃ X, ((W3.alloc (.cells #[.int .i64 (kk : Int)] 3)).alloc (.cells #[.slice none 0 0] 39)).alloc (.cells #[.pointer (some ⟨g, 0, none⟩)] 28) = X := ⟨_, rfl⟩
      obtain ⟨bq, hbq⟩ : ∃ x, W3.heap.size = x := ⟨_, rfl⟩
      have hW34 : W4.heap.size = bq + 3 := by rw [← hW4, ← hbq]; simp
      rw [hW4] at y3 hd4 ⊢
      rw [hbq] at y3 hdb ⊢
      have h2 : I2 w w1 bq D g its st (.slice Aa m ca) K a b m N kk stop (0, K) W4 := ⟨_, hd4, Nat.zero_le _, by rw [yIt_0, ySt_0]; exact y3⟩
      have H2 := Lib.hid h2
      have hDB : D < W4.heap.size := by omega
      have hWB : w1.heap.size ≤ W4.heap.size := by omega
      clear h2 hd4 y1 y2 y3 hW4 hc9 hlt9 HD3 HY3
      refine wpIn_wide.1 (range_down (n := 5) (by decide) (g := g) (nv := 8) (bt := bq + 2) m (by decide) rfl (enters_of Try.func46 (by kernel_rfl) rfl) rfl (yIt its b N) (ySt st b kk) (by rw [yIt_0]; exact HMl.out) (I2 w w1 bq D g its st (.slice Aa m ca) K a b m N kk stop) (fun _ _ => False) (I2.steady hWB hDB) (fun _ => steady_true False) K H2.out ?has2 (I2.skip HMl.out hNm) ?a2 ?assign2 ?body2 ?done2 ?stop2)
      case has2 =>
        rintro s W ⟨v, -, -, hy⟩
        exact ⟨hy.tr, (hy.cells (bq + 2, 28, #[.pointer (some ⟨g, 0, none⟩)]) (by simp [S2])).1.cell 0⟩
      case assign2 =>
        intro l i x W K hK
        gi_wp2
        exact hK
      case stop2 => intro D c W _ h; cases h
      case body2 =>
        rintro l ⟨k, K'⟩ x W ⟨v, hdk, hkm, hy⟩ hk hx
        dsimp only at hy hk hkm hx ⊢
        obtain ⟨hx1, hx2⟩ := yIt_at hx
        have hmm := HMl.out
        have hwb : wantB m b N k = true := by unfold wantB; rw [decide_eq_true_eq]; exact hx2
        have hws := wantL_succ its m b N k
        rw [if_pos hwb, litsOf_at hx1] at hws
        have hwl := wantL_le its m b N k
        have hhit := wantL_hit its m b N k
        obtain ⟨q, hq⟩ : ∃ q, m - 1 - k = q := ⟨_, rfl⟩
        have hqm : (q : Int) < (m : Int) := by omega
        have hq0 : ¬ (q : Int) < 0 := by omega
        rw [hq]
        obtain ⟨ys, hys⟩ : ∃ ys, wantL its m b N k = ys := ⟨_, rfl⟩
        rw [hys] at hy hws hwl hhit
        have hmem : ∀ x, x ∈ S1 w w1.heap.size g (.slice Aa m ca) (a : Int) stop → x ∈ S2 w w1.heap.size bq g (.slice Aa m ca) (a : Int) stop kk := fun x hx => List.mem_cons_of_mem _ (List.mem_cons_of_mem _ hx)
        have hc10 : W.cell? ⟨w1.heap.size + 1, 0, none⟩ = some (.slice Aa m ca) := (hy.cells (w1.heap.size + 1, 39, #[.slice Aa m ca]) (hmem _ (by simp [S1]))).1.cell 0
        obtain ⟨Ad, cd, rfl⟩ := own_shape1 hy.row
        have hc19 : W.cell? ⟨bq + 1, 0, none⟩ = some (.slice Ad ys.length cd) := hy.cell.cell 0
        have hf19 := hy.cell.frozen 0
        have hl19 := hy.cell.lt
        have hd8 : ys.length ≤ 8 := by omega
        have hd8' : ¬ (10 : Int) < (ys.length : Int) := by omega
        have hw1s := hy.trn.1.size
        obtain ⟨y, hyy⟩ : ∃ y, x.lit = y := ⟨_, rfl⟩
        have hgo : (some x.lit).getD 0 = y := hyy
        rw [hgo] at hws
        rw [hyy]
        have HY5 := Lib.hid hy; have HWs := Lib.hid hws; have HD5 := Lib.hid hdk; have HMem := Lib.hid hmem
        clear hy hws hx hx1 hx2 hwb hmm hys hyy hgo hdk hmem H2
        by_cases hkb : k + 1 = b
        · have hbk : ((ys.length + 1 : Nat) : Int) = (b : Int) := by have := hhit.2 hkb; omega
          gi_wp2_with (gi_at_builtin; refine wpListIn_append2 rfl _ _ 39 39 rfl 36 i0 (.int .i64 0) 8 Try.underlying39 Try.underlying39 hi hz0 hz1 hz2 rfl w1.heap.size _ _ _ rfl (HY5.out.row.alloc _) .i64 _ _ [y] rfl (ints_laid W [y] 36) (by unfold maxLen; simp; omega) (by simp; omega) (by simp; omega) ?_; intro v' w2 hown hg hb; obtain ⟨Av, cv, rfl⟩ := own_shape0 hown; have hcf2 := (HY5.out.cell2 hg).cell 0; have hff2 := (HY5.out.cell2 hg).frozen 0; have hPu : TY (S2 w w1.heap.size bq g (.slice Aa m ca) (a : Int) stop kk) (bq + 1) K w1 K' g 8 (yIt its b N k) (ySt st b kk k) (.slice Av (ys.length + 1) cv) (ys ++ [y]) (w2.setCell ⟨bq + 1, 0, none⟩ (.slice Av (ys.length + 1) cv)) ∧ Odd W (w2.setCell ⟨bq + 1, 0, none⟩ (.slice Av (ys.length + 1) cv)) := HY5.out.push hown hg hb; have hk6 := (hPu.1.cells (w.heap.size, 5, #[.int .u8 stop]) (HMem.out _ (by simp [S1]))).1.cell 0; have hk9 := (hPu.1.cells (w1.heap.size, 28, #[.pointer (some ⟨g, 0, none⟩)]) (HMem.out _ (by simp [S1]))).1.cell 0; have hk18 := (hPu.1.cells (bq, 3, #[.int .i64 (kk : Int)]) (by simp [S2])).1.cell 0; have hk19 := hPu.1.cell.cell 0; have HPu := Lib.hid hPu; clear hown hg hb hPu)
          refine ⟨trivial, ?_⟩
          gi_at_call 17
          have e1 : yIt its b N k = its := by unfold yIt; rw [if_pos (by omega)]
          have e2 : ySt st b kk k = st := by unfold ySt; rw [if_pos (by omega)]
          have e3 : yIt its b N (k + 1) = its.take N := by unfold yIt; rw [if_neg (by omega)]
          have e4 : ySt st b kk (k + 1) = st.take kk := by unfold ySt; rw [if_neg (by omega)]
          have htr := HPu.out.1.tr
          rw [e1, e2] at htr
          have hbk2 := back_tr kk HKs.out _ htr
          rw [HN.out] at hbk2
          refine (CallsIn.inRound l (callsIn_wide.2 hbk2)).mono ?_
          rintro r w5 ⟨K5, rfl, hA5, hT5⟩
          have hy5 := HPu.out.1.turn hT5 hA5
          have hod := HPu.out.2.trans (Odd.of_keeps hT5.1 htr.kok)
          rw [← HWs.out, ← e3, ← e4] at hy5
          have HF := Lib.hid (⟨hod, (k + 1, K5), rfl, .slice Av (ys.length + 1) cv, hod.same D _ HD5.out rfl, (by show k + 1 ≤ m; omega), hy5⟩ : Odd W w5 ∧ ∃ s' : TrS, s'.1 = k + 1 ∧ I2 w w1 bq D g its st (.slice Aa m ca) K a b m N kk stop s' w5)
          clear e1 e2 e3 e4 htr hbk2 hA5 hT5 hy5 hod
          gi_wp2_with fail
          exact HF.out
        · have hbk : ¬ ((ys.length + 1 : Nat) : Int) = (b : Int) := fun e => hkb (hhit.1 (by omega))
          gi_wp2_with (gi_at_builtin; refine wpListIn_append2 rfl _ _ 39 39 rfl 36 i0 (.int .i64 0) 8 Try.underlying39 Try.underlying39 hi hz0 hz1 hz2 rfl w1.heap.size _ _ _ rfl (HY5.out.row.alloc _) .i64 _ _ [y] rfl (ints_laid W [y] 36) (by unfold maxLen; simp; omega) (by simp; omega) (by simp; omega) ?_; intro v' w2 hown hg hb; obtain ⟨Av, cv, rfl⟩ := own_shape0 hown; have hcf2 := (HY5.out.cell2 hg).cell 0; have hff2 := (HY5.out.cell2 hg).frozen 0; have hPu : TY (S2 w w1.heap.size bq g (.slice Aa m ca) (a : Int) stop kk) (bq + 1) K w1 K' g 8 (yIt its b N k) (ySt st b kk k) (.slice Av (ys.length + 1) cv) (ys ++ [y]) (w2.setCell ⟨bq + 1, 0, none⟩ (.slice Av (ys.length + 1) cv)) ∧ Odd W (w2.setCell ⟨bq + 1, 0, none⟩ (.slice Av (ys.length + 1) cv)) := HY5.out.push hown hg hb; have hk6 := (hPu.1.cells (w.heap.size, 5, #[.int .u8 stop]) (HMem.out _ (by simp [S1]))).1.cell 0; have hk19 := hPu.1.cell.cell 0; have HPu := Lib.hid hPu; clear hown hg hb hPu)
          refine ⟨trivial, ?_⟩
          have hy5 := HPu.out.1
          rw [← HWs.out, ← yIt_same (its := its) (N := N) hkb, ← ySt_same (st := st) (kk := kk) hkb] at hy5
          have HF := Lib.hid (⟨HPu.out.2, (k + 1, K'), rfl, .slice Av (ys.length + 1) cv, HPu.out.2.same D _ HD5.out rfl, (by show k + 1 ≤ m; omega), hy5⟩ : Odd W (w2.setCell ⟨bq + 1, 0, none⟩ (.slice Av (ys.length + 1) cv)) ∧ ∃ s' : TrS, s'.1 = k + 1 ∧ I2 w w1 bq D g its st (.slice Aa m ca) K a b m N kk stop s' (w2.setCell ⟨bq + 1, 0, none⟩ (.slice Av (ys.length + 1) cv)))
          clear hy5
          gi_wp2_with fail
          exact HF.out
      case done2 =>
        rintro D2 ⟨k, K'⟩ W hD2 hk ⟨v, hdk, hkm, hy⟩ hd2
        dsimp only at hy hk
        obtain rfl : m = k := hk.symm
        have hmem : ∀ x, x ∈ S1 w w1.heap.size g (.slice Aa m ca) (a : Int) stop → x ∈ S2 w w1.heap.size bq g (.slice Aa m ca) (a : Int) stop kk := fun x hx => List.mem_cons_of_mem _ (List.mem_cons_of_mem _ hx)
        have hc10 : W.cell? ⟨w1.heap.size + 1, 0, none⟩ = some (.slice Aa m ca) := (hy.cells (w1.heap.size + 1, 39, #[.slice Aa m ca]) (hmem _ (by simp [S1]))).1.cell 0
        obtain ⟨Ad, cd, rfl⟩ := own_shape1 hy.row
        have HYd := Lib.hid hy; have HDd := Lib.hid hdk; have HD2 := Lib.hid hd2; have HMem := Lib.hid hmem
        have hw1s := hy.trn.1.size
        clear hy hdk hd2 H2 hmem hkm
        go_wp2_with fail
        go_loopw [22, 23] (fun o i wr => WantRel its m b N W o i wr) (fun _ i _ => (intOf i + 1).toNat)
        case atStart => exact ⟨0, _, rfl, Nat.zero_le _, by simp, World.ownsRow_nil _ _ _ _, Below.refl _ _⟩
        case round =>
          obtain ⟨j, ov, rfl, hj, rfl, hrow, hB⟩ := hrel
          have hy := HYd.out.on hB
          have HYe := Lib.hid hy; have HB := Lib.hid hB; have HRow := Lib.hid hrow
          have hc10 : _ := (hy.cells (w1.heap.size + 1, 39, #[.slice Aa m ca]) (HMem.out _ (by simp [S1]))).1.cell 0
          have hc6 : _ := (hy.cells (w.heap.size, 5, #[.int .u8 stop]) (HMem.out _ (by simp [S1]))).1.cell 0
          have hc18 : _ := (hy.cells (bq, 3, #[.int .i64 (kk : Int)]) (by simp [S2])).1.cell 0
          have hbs := hB.size
          by_cases hjm : j < m
          · have hal := row_turn HP.out.all hy.trn.1 HP.out.offa
            have hlv := row_turn HP.out.lev hy.trn.1 HP.out.offl
            have hmm := HMl.out
            rw [litsOf_len, hmm] at hal
            rw [levsOf_len, hmm] at hlv
            obtain ⟨q, hq⟩ : ∃ q, m - 1 - j = q := ⟨_, rfl⟩
            have hqi : (m : Int) - 1 - (j : Int) = (q : Int) := by omega
            rw [hqi]
            have hqj : (m : Int) - 1 - (q : Int) = (j : Int) := by omega
            have hqk : (m : Int) - 1 - ((j + 1 : Nat) : Int) = (q : Int) - 1 := by omega
            have hqm : (q : Int) < (m : Int) := by omega
            have s1 : IntKind.i64.wrap ((q : Int) - 1) = (q : Int) - 1 := IntWalk.i64_in _ (by omega)
            obtain ⟨x, hx⟩ : ∃ x, its[q]? = some x := ⟨its[q]'(by omega), List.getElem?_eq_getElem _⟩
            obtain ⟨ba, rfl, -, hba, hcx⟩ := own_at hal (litsOf_at hx)
            obtain ⟨bl, rfl, -, hbl, hcy⟩ := own_at hlv (levsOf_at hx)
            have hel := HEl.out q x hx
            have hws := wantL_succ its m b N j
            rw [hq, litsOf_at hx] at hws
            have hwl := wantL_le its m b N j
            obtain ⟨y, hyy⟩ : ∃ y, x.lit = y := ⟨_, rfl⟩
            have hgo : (some x.lit).getD 0 = y := hyy
            rw [hgo] at hws
            obtain ⟨e, he⟩ : ∃ e : Int, (x.level : Int) = e := ⟨_, rfl⟩
            rw [hyy] at hcx
            rw [he] at hcy
            have hcase : (wantB m b N j = true ∧ ((b : Int) = 0 ∨ ((b : Int) ≠ 0 ∧ (j : Int) < (b : Int)) ∨ ((b : Int) ≠ 0 ∧ ¬ (j : Int) < (b : Int) ∧ e ≤ (kk : Int)))) ∨ (wantB m b N j = false ∧ (b : Int) ≠ 0 ∧ ¬ (j : Int) < (b : Int) ∧ ¬ e ≤ (kk : Int)) := by
              unfold wantB
              by_cases h1 : b = 0
              · exact .inl ⟨decide_eq_true (.inl h1), .inl (by omega)⟩
              · by_cases h2 : j < b
                · exact .inl ⟨decide_eq_true (.inr (.inl h2)), .inr (.inl ⟨by omega, by omega⟩)⟩
                · by_cases h3 : q < N
                  · exact .inl ⟨decide_eq_true (.inr (.inr (by omega))), .inr (.inr ⟨by omega, by omega, by have := hel.1 h3; omega⟩)⟩
                  · exact .inr ⟨decide_eq_false (by omega), by omega, by omega, by have := mt hel.2 h3; omega⟩
            obtain ⟨ys, hys⟩ : ∃ ys, wantL its m b N j = ys := ⟨_, rfl⟩
            rw [hys] at hws hwl HRow hrow
            obtain ⟨Aw, cw, rfl⟩ := own_shape1 hrow
            have HWs := Lib.hid hws; have HQk := Lib.hid hqk
            clear hal hlv hmm hx hel hws hys hyy hgo he hy hB hrow hq hqi hqk
            rcases hcase with ⟨hwb, hb0 | ⟨hb0, hjb⟩ | ⟨hb0, hjb, hek⟩⟩ | ⟨hwb, hb0, hjb, hek⟩
            all_goals
              have HWb := Lib.hid hwb
              clear hwb
              first
                | (have hbq : ((b : Int) == 0) = true := by rw [beq_iff_eq]; exact hb0); clear hb0
                | have hbq : ((b : Int) == 0) = false := by rw [beq_eq_false_iff_ne]; exact hb0
              try first
                | have hjd : decide ((j : Int) < (b : Int)) = true := decide_eq_true hjb
                | have hjd : decide ((j : Int) < (b : Int)) = false := decide_eq_false hjb
              go_upto_region 31 with fail
              go_quiet (fail)
              have HB2 := Lib.hid (HB.out.trans ((below_drewN (Below.refl _ _) nq).mono hbs)); have HRow2 := Lib.hid (row_drewN HRow.out nq)
              have hbs2 := HB2.out.size
            · have hwe : wantL its m b N (j + 1) = ys ++ [y] := by rw [HWs.out, if_pos HWb.out]
              have HWe := Lib.hid hwe
              clear hwe
              obtain ⟨V, hV⟩ : ∃ X, wr.drewN nq = X := ⟨_, rfl⟩
              have hc10V : V.cell? ⟨w1.heap.size + 1, 0, none⟩ = some (.slice (some ⟨ba, 0, none⟩) m ca) := by rw [← hV]; exact hc10
              have hcxV : V.cell? ⟨ba, q, none⟩ = some (.int .i64 y) := by rw [← hV]; exact hcx
              have hbaV : ba < V.heap.size := by rw [← hV]; exact hba
              rw [hV] at HB2 HRow2 hbs2 ⊢
              clear hV hc10 hc6 hc18 hcx hcy hba hbl
              go_wp2_with (at_builtin; refine wpList_append2 rfl _ _ 39 39 rfl 36 i0 (.int .i64 0) 8 Try.underlying39 Try.underlying39 hi hz0 hz1 hz2 rfl W.heap.size _ _ _ rfl (HRow2.out.alloc _) .i64 _ _ [y] rfl (ints_laid V [y] 36) (by unfold maxLen; simp; omega) (by simp; omega) (by simp; omega) ?_; intro v' w2 hown hg hb; have HBn := Lib.hid (want_below HRow2.out HB2.out hg); have HOn := Lib.hid (want_own hown HWe.out); clear hown hg hb)
              refine ⟨⟨j + 1, _, rfl, hjm, by rw [HQk.out], HOn.out, HBn.out⟩, by simp [intOf] <;> omega⟩
            · have hwe : wantL its m b N (j + 1) = ys ++ [y] := by rw [HWs.out, if_pos HWb.out]
              have HWe := Lib.hid hwe
              clear hwe
              obtain ⟨V, hV⟩ : ∃ X, wr.drewN nq = X := ⟨_, rfl⟩
              have hc10V : V.cell? ⟨w1.heap.size + 1, 0, none⟩ = some (.slice (some ⟨ba, 0, none⟩) m ca) := by rw [← hV]; exact hc10
              have hcxV : V.cell? ⟨ba, q, none⟩ = some (.int .i64 y) := by rw [← hV]; exact hcx
              have hbaV : ba < V.heap.size := by rw [← hV]; exact hba
              rw [hV] at HB2 HRow2 hbs2 ⊢
              clear hV hc10 hc6 hc18 hcx hcy hba hbl
              go_wp2_with (at_builtin; refine wpList_append2 rfl _ _ 39 39 rfl 36 i0 (.int .i64 0) 8 Try.underlying39 Try.underlying39 hi hz0 hz1 hz2 rfl W.heap.size _ _ _ rfl (HRow2.out.alloc _) .i64 _ _ [y] rfl (ints_laid V [y] 36) (by unfold maxLen; simp; omega) (by simp; omega) (by simp; omega) ?_; intro v' w2 hown hg hb; have HBn := Lib.hid (want_below HRow2.out HB2.out hg); have HOn := Lib.hid (want_own hown HWe.out); clear hown hg hb)
              refine ⟨⟨j + 1, _, rfl, hjm, by rw [HQk.out], HOn.out, HBn.out⟩, by simp [intOf] <;> omega⟩
            · have hwe : wantL its m b N (j + 1) = ys ++ [y] := by rw [HWs.out, if_pos HWb.out]
              have HWe := Lib.hid hwe
              clear hwe
              obtain ⟨V, hV⟩ : ∃ X, wr.drewN nq = X := ⟨_, rfl⟩
              have hc10V : V.cell? ⟨w1.heap.size + 1, 0, none⟩ = some (.slice (some ⟨ba, 0, none⟩) m ca) := by rw [← hV]; exact hc10
              have hcxV : V.cell? ⟨ba, q, none⟩ = some (.int .i64 y) := by rw [← hV]; exact hcx
              have hbaV : ba < V.heap.size := by rw [← hV]; exact hba
              rw [hV] at HB2 HRow2 hbs2 ⊢
              clear hV hc10 hc6 hc18 hcx hcy hba hbl
              go_wp2_with (at_builtin; refine wpList_append2 rfl _ _ 39 39 rfl 36 i0 (.int .i64 0) 8 Try.underlying39 Try.underlying39 hi hz0 hz1 hz2 rfl W.heap.size _ _ _ rfl (HRow2.out.alloc _) .i64 _ _ [y] rfl (ints_laid V [y] 36) (by unfold maxLen; simp; omega) (by simp; omega) (by simp; omega) ?_; intro v' w2 hown hg hb; have HBn := Lib.hid (want_below HRow2.out HB2.out hg); have HOn := Lib.hid (want_own hown HWe.out); clear hown hg hb)
              refine ⟨⟨j + 1, _, rfl, hjm, by rw [HQk.out], HOn.out, HBn.out⟩, by simp [intOf] <;> omega⟩
            · have hwe : wantL its m b N (j + 1) = ys := by rw [HWs.out, if_neg (by rw [HWb.out]; decide), List.append_nil]
              have HWe := Lib.hid hwe
              clear hwe
              obtain ⟨V, hV⟩ : ∃ X, wr.drewN nq = X := ⟨_, rfl⟩
              rw [hV] at HB2 HRow2 hbs2 ⊢
              clear hV hc10 hc6 hc18 hcx hcy hba hbl
              go_wp2_with fail
              refine ⟨⟨j + 1, _, rfl, hjm, by rw [HQk.out], by rw [HWe.out]; exact HRow2.out, HB2.out⟩, by simp [intOf] <;> omega⟩
          · obtain rfl : m = j := by omega
            have hm1 : (m : Int) - 1 - (m : Int) = -1 := by omega
            rw [hm1]
            have hc19 : wr.cell? ⟨bq + 1, 0, none⟩ = some (.slice Ad (wantL its m b N m).length cd) := hy.cell.cell 0
            obtain ⟨Aw, cw, rfl⟩ := own_shape1 hrow
            have hi1 : Ints wr.heap.size wr (.slice Ad (wantL its m b N m).length cd) (wantL its m b N m) := ints_own hy.row
            have hi2 : Ints wr.heap.size wr (.slice Aw (wantL its m b N m).length cw) (wantL its m b N m) := ints_own hrow
            have hwl := wantL_le its m b N m
            have heq : Calls Try.prog 29 #[.slice Ad (wantL its m b N m).length cd, .slice Aw (wantL its m b N m).length cw] wr fun e w' => e = .returned (.bool true) ∧ Below wr.heap.size wr w' := by
              refine (equal_cl wr (by omega) (by omega) hi1 hi2).mono ?_
              rintro r w' ⟨rfl, n, rfl⟩
              rw [beq_self_eq_true]
              exact ⟨rfl, below_drewN (Below.refl _ _) n⟩
            -- what lies outside
            have hres : Whole wr (w.heap.size + 1) 4 #[.bool false] := (hy.cells (w.heap.size + 1, 4, #[.bool false]) (HMem.out _ (by simp [S1]))).1
            have hdd := (Odd.of_below hB).same D _ HDd.out rfl
            have hdd2 := (Odd.of_below hB).same D2 _ HD2.out rfl
            have hbw : Below w.heap.size w wr := ((below1a w (.cells #[.int .u8 stop] 5)).trans ((below1a _ (.cells #[.bool false] 4)).mono (by simp))).trans (HP.out.below.trans (hy.trn.below HP.out.below.size HP.out.base) |>.mono (by simp; omega))
            have HEq := Lib.hid heq; have HRes := Lib.hid hres; have HDd := Lib.hid hdd; have HDd2 := Lib.hid hdd2; have HBw := Lib.hid hbw
            clear hi1 hi2 heq hres hdd hdd2 hbw
            obtain ⟨L, hL⟩ : ∃ L, (wantL its m b N m).length = L := ⟨_, rfl⟩
            rw [hL] at hc19 HEq ⊢
            clear hy hrow hB hc10 hc6 hc18 hm1 hL HYd HYe HRow hwl
            go_wp2_with fail
            refine (HEq.out).mono ?_
            rintro r V ⟨rfl, hBe⟩
            have hbw := HBw.out.trans (hBe.mono HBw.out.size)
            have hres := HRes.out.same (hBe.block _ HRes.out.lt)
            have hdd := (Odd.of_below hBe).same D _ HDd.out rfl
            have hdd2 := (Odd.of_below hBe).same D2 _ HDd2.out rfl
            have HBw := Lib.hid hbw; have HRes := Lib.hid hres; have HDd := Lib.hid hdd; have HDd2 := Lib.hid hdd2
            clear hBe hbw hres hdd hdd2 HEq hc19
            go_wp2_with fail
            refine (new_tr 8 (by decide) _).mono ?_
            rintro r V1 ⟨g2, K2, rfl, hA2, hK2, hB2⟩
            have HA2 := Lib.hid hA2; have HK2 := Lib.hid hK2; have HB2 := Lib.hid hB2
            clear hA2 hK2 hB2
            go_wp2_with fail
            have hA2' := HA2.out.on (below1a V1 (.cells #[.pointer (some ⟨g2, 0, none⟩)] 28))
            refine (assign_tr 1 0 (by decide) (by decide) (by simp) (by decide) (by decide) _ hA2').mono ?_
            rintro r V3 ⟨K3, rfl, hA3, hT3⟩
            have hA3 : Trl K3 V3 g2 8 (freeI 0) [] := hA3
            have hk2 : ¬ K2 V1.heap.size := fun x => Nat.lt_irrefl _ (HA2.out.kok.lt x)
            have hw24 : Whole V3 V1.heap.size 28 #[.pointer (some ⟨g2, 0, none⟩)] := (Whole.made V1 _ _).same (hT3.1.block _ (by simp) hk2)
            have hk3 : ¬ K3 V1.heap.size := hT3.off (by simp) hk2
            have hb3 : Below V.heap.size V V3 := (HB2.out.alloc HB2.out.size _).trans (hT3.below (by have := HB2.out.size; simp; omega) HK2.out)
            have hKV3 := hT3.from_ (B := V.heap.size) (by have := HB2.out.size; simp; omega) HK2.out
            have hc24 : V3.cell? ⟨V1.heap.size, 0, none⟩ = some (.pointer (some ⟨g2, 0, none⟩)) := hw24.cell 0
            have hlt24 := hw24.lt
            have HA3 := Lib.hid hA3; have HT3 := Lib.hid hT3; have HW24 := Lib.hid hw24; have HK3 := Lib.hid hk3; have HB3 := Lib.hid hb3; have HKV3 := Lib.hid hKV3
            clear hA2' hA3 hT3 hk2 hw24 hk3 hb3 hKV3 HA2 HK2
            go_wp2_with fail
            refine (lits_any _ _ _).mono ?_
            rintro r w' ⟨rfl, rfl⟩
            go_wp2_with fail
            have h3 : I3 V g2 V1.heap.size V3.heap.size (0, K3) (((V3.alloc (.cells #[.int .i64 0] 3)).alloc (.cells #[.pointer (some ⟨g2, 0, none⟩)] 28)).alloc (.cells #[.int .i64 0] 3)) :=
              ⟨Nat.zero_le _, FI.start HA3.out HKV3.out HB3.out HW24.out HK3.out⟩
            have hVs := HB3.out.size
            have H3 := Lib.hid h3
            clear h3 hc24 HW24 HK3 HA3 HT3 HKV3
            refine wpIn_wide.1 (range_lits (n := 5) (by decide) (g := g2) (nv := 8) (bf := V3.heap.size + 1 + 1) (bt := V3.heap.size + 1) 0 0 rfl (by decide) rfl (enters_of Try.func45 (by kernel_rfl) rfl) rfl freeI (fun _ => []) (I3 V g2 V1.heap.size V3.heap.size) (fun _ _ => False) (fun s => (steady_true _).and (FI.steady (by simp; omega))) (fun _ => steady_true False) K3 H3.out ?has3 ?a3 ?assign3 ?body3 ?done3 ?stop3)
            case has3 =>
              rintro s W ⟨-, hF⟩
              exact ⟨⟨hF.tr, (hF.cells (V3.heap.size + 1, 28, #[.pointer (some ⟨g2, 0, none⟩)]) (by simp [S3])).1.cell 0⟩, (hF.cells (V3.heap.size + 2, 3, #[.int .i64 0]) (by simp [S3])).1.cell 0⟩
            case assign3 =>
              intro l i x W K hK
              gi_wp2
              exact hK
            case stop3 => intro D c W _ h; cases h
            case body3 =>
              rintro l ⟨k, K'⟩ x Wb ⟨hk8, hF⟩ hx
              dsimp only at hF hk8 hx ⊢
              rw [Nat.zero_add] at hx
              obtain ⟨hxl, hk⟩ := freeI_at hx
              rw [hxl]
              have hc27 : Wb.cell? ⟨V3.heap.size, 0, none⟩ = some (.int .i64 (k : Int)) := (hF.cells (V3.heap.size, 3, #[.int .i64 (k : Int)]) (by simp [S3])).1.cell 0
              have hf27 := (hF.cells (V3.heap.size, 3, #[.int .i64 (k : Int)]) (by simp [S3])).1.frozen 0
              have hl27 := (hF.cells (V3.heap.size, 3, #[.int .i64 (k : Int)]) (by simp [S3])).1.lt
              have hc25 : Wb.cell? ⟨V1.heap.size, 0, none⟩ = some (.pointer (some ⟨g2, 0, none⟩)) := (hF.cells (V1.heap.size, 28, #[.pointer (some ⟨g2, 0, none⟩)]) (by simp [S3])).1.cell 0
              have hF1 := hF.set (by omega) hlt24 ((k : Int) + 1)
              have hO1 := Odd.set (hF.cells (V3.heap.size, 3, #[.int .i64 (k : Int)]) (by simp [S3])).1 0 (.int .i64 ((k : Int) + 1))
              have hc25' : (Wb.setCell ⟨V3.heap.size, 0, none⟩ (.int .i64 ((k : Int) + 1))).cell? ⟨V1.heap.size, 0, none⟩ = some (.pointer (some ⟨g2, 0, none⟩)) := (hF1.cells (V1.heap.size, 28, #[.pointer (some ⟨g2, 0, none⟩)]) (by simp [S3])).1.cell 0
              have hc27' : (Wb.setCell ⟨V3.heap.size, 0, none⟩ (.int .i64 ((k : Int) + 1))).cell? ⟨V3.heap.size, 0, none⟩ = some (.int .i64 ((k : Int) + 1)) := (hF1.cells (V3.heap.size, 3, #[.int .i64 ((k : Int) + 1)]) (by simp [S3])).1.cell 0
              have s1 : IntKind.i64.wrap ((k : Int) + 1) = (k : Int) + 1 := IntWalk.i64_in _ (by omega)
              have s2 : IntKind.i64.wrap ((k : Int) + 1 + 1) = (k : Int) + 1 + 1 := IntWalk.i64_in _ (by omega)
              have hn8 : ¬ (8 : Int) < (k : Int) + 1 := by omega
              have HF1 := Lib.hid hF1; have HO1 := Lib.hid hO1
              clear hF hF1 hO1 hx hxl H3
              by_cases h7 : k < 7
              · have h78 : (k : Int) + 1 < 8 := by omega
                gi_wp2_with fail
                refine ⟨trivial, ?_⟩
                gi_at_call 16
                refine (CallsIn.inRound l (callsIn_wide.2 (assign_tr ((k : Int) + 1 + 1) 0 (by omega) (by omega) (fun x hx => by have h1 := freeI_no hx (n := k + 2) (by omega); rwa [show ((k : Int) + 1 + 1).natAbs = k + 2 by omega]) (by decide) (by decide) _ HF1.out.tr))).mono ?_
                rintro r w5 ⟨K5, rfl, hA5, hT5⟩
                have e1 : ((k + 1 : Nat) : Int) = (k : Int) + 1 := by omega
                have hA5 : Trl K5 w5 g2 8 (freeI (k + 1)) [] := by rw [freeI_succ h7, e1]; exact hA5
                have hF5 := HF1.out.turn hT5 hA5
                have HF := Lib.hid (⟨HO1.out.trans (Odd.of_keeps hT5.1 HF1.out.tr.kok), (k + 1, K5), rfl, (by show k + 1 ≤ 8; omega), (by show FI V g2 V1.heap.size V3.heap.size ((k + 1 : Nat) : Int) (k + 1) K5 w5; rw [e1]; exact hF5)⟩ : Odd Wb w5 ∧ ∃ s' : TrS, s'.1 = k + 1 ∧ I3 V g2 V1.heap.size V3.heap.size s' w5)
                clear e1 hA5 hT5 hF5
                gi_wp2_with fail
                exact HF.out
              · have h78 : ¬ (k : Int) + 1 < 8 := by omega
                have hk7 : k = 7 := by omega
                have hF8 : FI V g2 V1.heap.size V3.heap.size ((k + 1 : Nat) : Int) (k + 1) K' (Wb.setCell ⟨V3.heap.size, 0, none⟩ (.int .i64 ((k : Int) + 1))) := FI.last hk7 HF1.out
                have HF := Lib.hid (⟨HO1.out, (k + 1, K'), rfl, (by show k + 1 ≤ 8; omega), hF8⟩ : Odd Wb (Wb.setCell ⟨V3.heap.size, 0, none⟩ (.int .i64 ((k : Int) + 1))) ∧ ∃ s' : TrS, s'.1 = k + 1 ∧ I3 V g2 V1.heap.size V3.heap.size s' (Wb.setCell ⟨V3.heap.size, 0, none⟩ (.int .i64 ((k : Int) + 1))))
                clear hF8 hk7
                gi_wp2_with fail
                refine ⟨trivial, ?_⟩
                gi_wp2_with fail
                exact HF.out
            case done3 =>
              rintro D3 ⟨k, K'⟩ Wf hD3 hk ⟨hk8, hF⟩ hd3
              dsimp only at hF hk hk8
              rw [freeI_len] at hk
              obtain rfl : k = 8 := by omega
              have hc27 : Wf.cell? ⟨V3.heap.size, 0, none⟩ = some (.int .i64 8) := (hF.cells (V3.heap.size, 3, #[.int .i64 8]) (by simp [S3])).1.cell 0
              have hbf := HBw.out.trans (hF.below.mono HBw.out.size)
              have hres := HRes.out.same (hF.below.block _ HRes.out.lt)
              have hdd := (Odd.of_below hF.below).same D _ HDd.out rfl
              have hdd2 := (Odd.of_below hF.below).same D2 _ HDd2.out rfl
              have hD2V : D2 < V.heap.size := (Array.getElem?_eq_some_iff.1 HDd2.out).1
              have hw2 : w.heap.size + 2 ≤ w1.heap.size := by have := HP.out.below.size; simpa using this
              simp only [World.size_alloc] at hD3
              have HBf := Lib.hid hbf; have HRf := Lib.hid hres; have HDf := Lib.hid hdd; have HDf2 := Lib.hid hdd2; have HDf3 := Lib.hid hd3
              clear hF hbf hres hdd hdd2 hd3 H3 hk hk8
              go_wp2_with fail
              refine (trawake_any _).mono ?_
              rintro r wz ⟨rfl, hb⟩
              have hbz := HBf.out.trans (hb.mono HBf.out.size)
              have mW := HRf.out.same (hb.block _ HRf.out.lt)
              have hD1 := (Odd.of_below hb).same D _ HDf.out rfl
              have hD2' := (Odd.of_below hb).same D2 _ HDf2.out rfl
              have hD3' := (Odd.of_below hb).same D3 _ HDf3.out rfl
              have hD1s := (Odd.set mW 0 (.bool true)).same D _ hD1 rfl
              have hD2s := (Odd.set mW 0 (.bool true)).same D2 _ hD2' rfl
              have hD3s := (Odd.set mW 0 (.bool true)).same D3 _ hD3' rfl
              have cr : wz.cell? ⟨w.heap.size + 1, 0, none⟩ = some (.bool false) := mW.cell 0
              have hfr := mW.frozen 0
              have cr2 : (wz.setCell ⟨w.heap.size + 1, 0, none⟩ (.bool true)).cell? ⟨w.heap.size + 1, 0, none⟩ = some (.bool true) := (mW.store 0 _).cell 0
              have hbw : Below w.heap.size w (wz.setCell ⟨w.heap.size + 1, 0, none⟩ (.bool true)) := hbz.setCell (p := ⟨w.heap.size + 1, 0, none⟩) (Nat.le_succ _) _
              have HD1s := Lib.hid hD1s; have HD2s := Lib.hid hD2s; have HD3s := Lib.hid hD3s; have HC2 := Lib.hid cr2; have HBz := Lib.hid hbw
              clear hbz mW hD1 hD2' hD3' hD1s hD2s hD3s cr2 hbw hb HBf HRf HDf HDf2 HDf3
              go_wp2_with fail
              refine ⟨by simp, .inl ⟨_, _, rfl, run_takeDeferred HD3s.out, ?_⟩⟩
              obtain ⟨wy, hwy⟩ : ∃ X, wz.setCell ⟨w.heap.size + 1, 0, none⟩ (.bool true) = X := ⟨_, rfl⟩
              rw [hwy] at HD1s HD2s HC2 HBz ⊢
              have hD2t : (wy.putObj D3 (.deferred none)).heap[D2]? = some (.deferred (some [])) := (World.putObj_heap_other (k := D2) (by omega)).trans HD2s.out
              have hD1t : (wy.putObj D3 (.deferred none)).heap[D]? = some (.deferred (some [])) := (World.putObj_heap_other (k := D) (by omega)).trans HD1s.out
              have hc3 : (wy.putObj D3 (.deferred none)).cell? ⟨w.heap.size + 1, 0, none⟩ = some (.bool true) := (World.cell?_of_block (World.putObj_heap_other (k := w.heap.size + 1) (by omega))).trans HC2.out
              have hb3 := HBz.out.grown (grownBy_putObj' _ D3 (.deferred none)) HBz.out.size (fun k e => by cases e; omega)
              refine ⟨by simp, .inl ⟨_, _, rfl, run_takeDeferred hD2t, ?_⟩⟩
              have hD1u : ((wy.putObj D3 (.deferred none)).putObj D2 (.deferred none)).heap[D]? = some (.deferred (some [])) := (World.putObj_heap_other (k := D) (by omega)).trans hD1t
              have hc4 : ((wy.putObj D3 (.deferred none)).putObj D2 (.deferred none)).cell? ⟨w.heap.size + 1, 0, none⟩ = some (.bool true) := (World.cell?_of_block (World.putObj_heap_other (k := w.heap.size + 1) (by omega))).trans hc3
              have hb4 := hb3.grown (grownBy_putObj' _ D2 (.deferred none)) hb3.size (fun k e => by cases e; omega)
              refine ⟨by simp, .inl ⟨_, _, rfl, run_takeDeferred hD1u, ?_⟩⟩
              have hc5 : (((wy.putObj D3 (.deferred none)).putObj D2 (.deferred none)).putObj D (.deferred none)).cell? ⟨w.heap.size + 1, 0, none⟩ = some (.bool true) := (World.cell?_of_block (World.putObj_heap_other (k := w.heap.size + 1) (by omega))).trans hc4
              have hb5 := hb4.grown (grownBy_putObj' _ D (.deferred none)) hb4.size (fun k e => by cases e; omega)
              refine ⟨.bool true, ?_, rfl, hb5⟩
              simp [results, Try.f7, go_sem, hc5]
theorem trailYields_walk (v : Value) (zs : List Int) (hm : zs.length ≤ maxLen) (hw : ∀ x ∈ zs, (Lit.int .u8 x).wf = true) (hF : Fits v) (f : Int) (hf : (Lit.int .u8 f).wf = true) (t : Int) (ht : (Lit.int .u8 t).wf = true) (q : Int) (hq : (Lit.int .u8 q).wf = true) (w : World) (hI : IntsK .u8 w.heap.size w v zs) :
    Calls Try.prog 7 #[v, .int .u8 f, .int .u8 t, .int .u8 q] w fun e w' => e = .returned (.bool true) ∧ Below w.heap.size w w' := core v zs f t q (u8_wf hf).1 (u8_wf hf).2 (u8_wf ht).1 (u8_wf ht).2 (u8_wf hq).1 (u8_wf hq).2 w hI hF hm hw
end Go.Proofs.Ytdeedmfofjdbjaa.trailYields
