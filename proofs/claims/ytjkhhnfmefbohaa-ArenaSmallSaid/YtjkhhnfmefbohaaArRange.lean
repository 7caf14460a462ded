/- A loop over an arena's clauses. -/
import Derived.Test.YtjkhhnfmefbohaaArAll
namespace Go.Proofs.Ytjkhhnfmefbohaa
open Go.RowKit Go.ChangeAt Go.ChangeShapes Go.WideShapes

set_option maxHeartbeats 400000 in
theorem all_any (p : Option Addr) (w : World) : Calls Try.prog 20 #[.pointer p] w fun e w' => e = .returned (.func (.func 43) #[] #[.pointer (some ⟨w.heap.size, 0, none⟩)]) ∧ w' = w.alloc (.cells #[.pointer p] 31) := by
  go_enter Try.func20, Try.ntmps20
  go_wp2
  go_ret
  exact ⟨rfl, rfl⟩

/-! ### what holds on while a loop is walked -/
theorem odd_ne {W : World} {row : Option Nat} {B : Nat} (hr : ∀ r, row = some r → B ≤ r ∧ ∃ o : Obj, W.heap[r]? = some o ∧ Obj.plain o = false) {b : Nat} {o : Obj} (hb : W.heap[b]? = some o) (ho : Obj.plain o = true) : some b ≠ row := fun e => by
  obtain ⟨-, o', h1, h2⟩ := hr b e.symm
  rw [hb] at h1; cases h1; rw [ho] at h2; cases h2
theorem steady_whole {B : Nat} (g : Nat) (t : TypeId) (cs : Array Value) : Steady B fun W => Whole W g t cs := fun W _ _ h hg hr =>
  h.same (hg.block g h.lt (odd_ne hr (show W.heap[g]? = _ from h) rfl))
theorem steady_row {B : Nat} (base : Nat) (e : TypeId) (size n : Nat) (v : Value) (xs : List Value) : Steady B fun W => W.ownsRow base e size v n xs := fun _ _ _ h hg hr => by
  refine h.kept hg ?_
  cases hb : v.ownBlock with
  | none => exact .inl rfl
  | some b =>
    obtain ⟨o, ho, hp⟩ := row_plain h hb
    exact .inr (odd_ne hr ho hp)
theorem steady_map {B : Nat} (k : TypeId) (R : Value → Option (DataW Unit × List MemPlace)) (b n : Nat) (D : DataW Unit) : Steady B fun W => W.ownsMap Try.prog k R b n D := fun _ _ _ h hg hr => by
  obtain ⟨es, ck, hb⟩ := map_block h
  exact h.kept hg (fun e => odd_ne hr hb rfl e)
theorem steady_kok {B : Nat} (K : Nat → Prop) : Steady B fun W => KOk K W := fun _ _ _ h hg hr i hi => by
  obtain ⟨o, ho, hp⟩ := h i hi
  exact ⟨o, (hg.block i (Array.getElem?_eq_some_iff.1 ho).1 (odd_ne hr ho hp)).trans ho, hp⟩
theorem steady_ar {B : Nat} (K : Nat → Prop) (g : Nat) (L : List (Int × List Int)) (last : Int) : Steady B fun W => Ar K W g L last := fun W W' row h hg hr => by
  obtain ⟨es, ⟨sv, ev, m, n, D, h1, h2, h3, h4, h5, h6, h7, h8, h9, h10, h11, h12⟩, hL, hH⟩ := h
  exact ⟨es, ⟨sv, ev, m, n, D, steady_whole _ _ _ W W' row h1 hg hr, steady_row _ _ _ _ _ _ W W' row h2 hg hr, steady_row _ _ _ _ _ _ W W' row h3 hg hr, steady_map _ _ _ _ _ W W' row h4 hg hr, h5, h6, h7, h8, h9, h10, h11, steady_kok _ W W' row h12 hg hr⟩, hL, hH⟩
theorem steady_imp {B : Nat} {p : Prop} {I : World → Prop} (h : p → Steady B I) : Steady B fun W => p → I W := fun W W' row hi hg hr x => h x W W' row (hi x) hg hr
theorem steady_all {B : Nat} {γ : Type} {I : γ → World → Prop} (h : ∀ x, Steady B (I x)) : Steady B fun W => ∀ x, I x W := fun W W' row hi hg hr x => h x W W' row (hi x) hg hr
theorem steady_size {B : Nat} (C : Nat) : Steady B fun W => C ≤ W.heap.size := fun _ _ _ h hg _ => Nat.le_trans h hg.size
theorem steady_step {B : Nat} (Lof : List (Int × List Int) → List (Int × List Int)) (s : AllS) (x : Int × List Int) (args : Array Value) : Steady B (AllStep Lof s x args) := fun W W' row ⟨h1, v, B, h2, h3, h4⟩ hg hr =>
  ⟨h1, v, B, h2, steady_row _ _ _ _ _ _ W W' row h3 hg hr, h4⟩

/-- The blocks that a loop over an arena keeps its word on: the arena's, and the walk's own. -/
def BoxOk (s : AllS) (W : World) : Prop := ∀ b cs, s.2.2 = some (b, cs) → Whole W b 77 cs ∧ ¬ s.2.1 b
theorem steady_box {B : Nat} (s : AllS) : Steady B (BoxOk s) := steady_all fun b => steady_all fun cs => steady_imp fun _ => (steady_whole b _ cs).and (steady_true _)
/-- .. through a step of the arena. -/
theorem BoxOk.turn {s : AllS} {W W' : World} {K' : Nat → Prop} (h : BoxOk s W) (t : Turn s.2.1 W K' W') (xs : List (Int × List Int)) : BoxOk (xs, K', s.2.2) W' := fun b cs e => by
  obtain ⟨h1, h2⟩ := h b cs e
  exact ⟨h1.same (t.1.block b h1.lt h2), t.off h1.lt h2⟩
theorem BoxOk.link {s s' : AllS} {W W' : World} (h : BoxOk s W) (hk : KOk s.2.1 W) (l : AllLk s W s' W') : BoxOk s' W' := fun b cs e => by
  obtain ⟨-, h2, h3⟩ := l
  rw [← h2]
  rcases h3 with ⟨h3, hb⟩ | ⟨cs', h3, rfl⟩
  · obtain ⟨a1, a2⟩ := h b cs (h3.trans e)
    exact ⟨a1.same (hb.block b a1.lt), a2⟩
  · rw [h3] at e
    cases e
    exact ⟨Whole.made W _ _, fun x => Nat.lt_irrefl _ (hk.lt x)⟩
theorem AllLk.below {s s' : AllS} {W W' : World} (h : AllLk s W s' W') : Below W.heap.size W W' := by
  obtain ⟨-, -, ⟨-, hb⟩ | ⟨cs, -, rfl⟩⟩ := h
  · exact hb
  · exact below1a _ _

theorem range_all {n : Nat} (hn : 2 ≤ n) {gop : Operand} {ps : Array Tmp} {assign body : Code} {Q : Exit → Act → World → Prop} {a : Act} {w : World} {g bx : Nat}
    (hg : a.eval gop = .func (.func 43) #[] #[.pointer (some ⟨bx, 0, none⟩)]) (eg : ∀ args w, (callFunc 43 args).run Try.prog w = .ok (.enter 43 args) w) (hps : ps.size = 2)
    (Lof : List (Int × List Int) → List (Int × List Int)) (I : AllS → World → Prop) (Ix : Code → World → Prop) (hI : ∀ s, Steady w.heap.size (I s)) (hIx : ∀ c, Steady w.heap.size (Ix c)) (K0 : Nat → Prop) (h0 : I ([], K0, none) w)
    (hLk : ∀ s s' W W', AllLk s W s' W' → I s W → I s' W')
    (hA : ∀ s W, I s W → (∃ last, Ar s.2.1 W g (Lof s.1) last) ∧ W.cell? ⟨bx, 0, none⟩ = some (.pointer (some ⟨g, 0, none⟩)) ∧ BoxOk s W)
    (a₁ : Int → Value → Act)
    (hassign : ∀ (l : Nat) (id : Int) (v : Value) (W : World) (K : Act → World → Prop), K (a₁ id v) W →
      assign.wpIn (Fence.wide.inRound l) (n - 1 - 1) Try.prog (Exit.then K (fun _ _ _ => False)) { tmps := (ps.zip #[.int .i64 id, v]).foldl (fun t (p, v) => t.setIfInBounds p v) a.tmps, defers := [] } W)
    (hbody : ∀ (l : Nat) (s : AllS) (id : Int) (ls : List Int) (v : Value) (B : Nat) (W : World), I s W → nextOf (Lof s.1) (posOf s.1) = some (id, ls) → W.ownsRow B 30 1 v ls.length (ls.map (Value.int .i64)) → (∀ b, v.ownBlock = some b → ¬ s.2.1 b) →
      body.wpIn (Fence.wide.inRound l) (n - 1 - 1) Try.prog (outs (AllNx s (id, ls)) I Ix W) (a₁ id v) W)
    (hdone : ∀ (D : Nat) (s : AllS) (W : World), w.heap.size ≤ D → nextOf (Lof s.1) (posOf s.1) = none → I s W → W.heap[D]? = some (.deferred (some [])) → Q .normal { a with defers := { target := .collected D, args := #[] } :: a.defers } W)
    (hstop : ∀ (D : Nat) (c : Code) (W : World), w.heap.size ≤ D → Ix c W → W.heap[D]? = some (.deferred (some [])) → c.wpIn .wide n Try.prog Q { a with defers := { target := .collected D, args := #[] } :: a.defers } W) :
    (Code.rangeFunc gop ps assign body).wpIn .wide n Try.prog Q a w := by
  refine wide_range hg eg I Ix hI hIx ([], K0, none) h0 AllLk hLk (fun _ _ _ _ h => h.odd) (AllStep Lof) (fun s x args => steady_step Lof s x args) AllNx (fun s => nextOf (Lof s.1) (posOf s.1) = none) ?_ ?_ (fun args => a₁ (intOf (args.getD 0 undef)) (args.getD 1 undef)) ?_ ?_ hdone hstop
  · rintro s x args W ⟨-, v, B, rfl, -⟩
    rw [hps]; rfl
  · intro l J Jx W hJ hJx hJI hs0 hY
    exact all1_in (n - 1) (by omega) g bx Lof l J Jx hJ hJx (fun s W h => by
      obtain ⟨b1, b2, b3⟩ := hA s W (hJI s W h)
      exact ⟨b1, b2, fun b cs e => (b3 b cs e).1⟩) W K0 hs0 hY
  · rintro l s ⟨id, ls⟩ args W K ⟨-, v, B, rfl, -⟩ hK
    exact hassign l id v W K hK
  · rintro l s ⟨id, ls⟩ args W hi ⟨h1, v, B, rfl, h2, h3⟩
    exact hbody l s id ls v B W hi h1 h2 h3
end Go.Proofs.Ytjkhhnfmefbohaa
