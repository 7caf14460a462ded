/- A loop over a trail's literals, up and down. -/
import Derived.Test.YtdeedmfofjdbjaaTrLits
namespace Go.Proofs.Ytdeedmfofjdbjaa
open Go.RowKit Go.ChangeAt Go.ChangeShapes Go.WideShapes

set_option maxHeartbeats 400000 in
theorem lits_any (p : Option Addr) (from_ : Int) (w : World) : Calls Try.prog 24 #[.pointer p, .int .i64 from_] w fun e w' => e = .returned (.func (.func 45) #[] #[.pointer (some ⟨w.heap.size + 1, 0, none⟩), .pointer (some ⟨w.heap.size, 0, none⟩)]) ∧ w' = (w.alloc (.cells #[.pointer p] 28)).alloc (.cells #[.int .i64 from_] 3) := by
  go_enter Try.func24, Try.ntmps24
  go_wp2
  go_ret
  exact ⟨rfl, rfl⟩
set_option maxHeartbeats 400000 in
theorem down_any (p : Option Addr) (w : World) : Calls Try.prog 25 #[.pointer p] w fun e w' => e = .returned (.func (.func 46) #[] #[.pointer (some ⟨w.heap.size, 0, none⟩)]) ∧ w' = w.alloc (.cells #[.pointer p] 28) := by
  go_enter Try.func25, Try.ntmps25
  go_wp2
  go_ret
  exact ⟨rfl, rfl⟩

/-! ### what holds on while a loop is walked -/
theorem odd_ne {W : World} {row : Option Nat} {B : Nat} (hr : ∀ r, row = some r → B ≤ r ∧ ∃ o : Obj, W.heap[r]? = some o ∧ Obj.plain o = false) {b : Nat} {o : Obj} (hb : W.heap[b]? = some o) (ho : Obj.plain o = true) : some b ≠ row := fun e => by
  obtain ⟨-, o', h1, h2⟩ := hr b e.symm
  rw [hb] at h1; cases h1; rw [ho] at h2; cases h2
theorem steady_whole {B : Nat} (g : Nat) (t : TypeId) (cs : Array Value) : Steady B fun W => Whole W g t cs := fun W _ _ h hg hr =>
  h.same (hg.block g h.lt (odd_ne hr (show W.heap[g]? = _ from h) rfl))
theorem steady_row {B : Nat} (base : Nat) (e : TypeId) (size n : Nat) (v : Value) (xs : List Value) : Steady B fun W => W.ownsRow base e size v n xs := fun _ _ _ h hg hr => by
  refine h.kept hg ?_
  cases hb : v.ownBlock with
  | none => exact .inl rfl
  | some b =>
    obtain ⟨o, ho, hp⟩ := row_plain h hb
    exact .inr (odd_ne hr ho hp)
theorem steady_kok {B : Nat} (K : Nat → Prop) : Steady B fun W => KOk K W := fun _ _ _ h hg hr i hi => by
  obtain ⟨o, ho, hp⟩ := h i hi
  exact ⟨o, (hg.block i (Array.getElem?_eq_some_iff.1 ho).1 (odd_ne hr ho hp)).trans ho, hp⟩
theorem steady_trl {B : Nat} (K : Nat → Prop) (g nv : Nat) (its : List It) (st : List Nat) : Steady B fun W => Trl K W g nv its st := fun W W' row h hg hr => by
  obtain ⟨b, cs, m, pv, sv, h1, h2, h3, h4, h5, h6, h7, h8, h9, h10, h11, h12⟩ := h
  exact ⟨b, cs, m, pv, sv, steady_whole _ _ _ W W' row h1 hg hr, steady_whole _ _ _ W W' row h2 hg hr, h3, h4, steady_row _ _ _ _ _ _ W W' row h5 hg hr, steady_row _ _ _ _ _ _ W W' row h6 hg hr, h7, h8, h9, h10, h11, steady_kok _ W W' row h12 hg hr⟩
theorem steady_imp {B : Nat} {p : Prop} {I : World → Prop} (h : p → Steady B I) : Steady B fun W => p → I W := fun W W' row hi hg hr x => h x W W' row (hi x) hg hr
theorem steady_all {B : Nat} {γ : Type} {I : γ → World → Prop} (h : ∀ x, Steady B (I x)) : Steady B fun W => ∀ x, I x W := fun W W' row hi hg hr x => h x W W' row (hi x) hg hr
theorem steady_below' {B : Nat} (w : World) (hB : w.heap.size ≤ B) : Steady B fun W => Below w.heap.size w W := fun _ _ _ h hg hr => h.grown hg h.size (fun k e => Nat.le_trans hB (hr k e).1)
theorem steady_turn {B : Nat} (K : Nat → Prop) (w : World) (K' : Nat → Prop) (hB : w.heap.size ≤ B) : Steady B fun W => Turn K w K' W := fun _ _ _ h hg hr => ⟨h.1.grown hg (fun r e => .inr (Nat.le_trans hB (hr r e).1)), h.2⟩

theorem range_lits {n : Nat} (hn : 2 ≤ n) {gop : Operand} {ps : Array Tmp} {assign body : Code} {Q : Exit → Act → World → Prop} {a : Act} {w : World} {g nv bf bt : Nat} (from_ : Int) (f : Nat) (hf : max from_ 0 = (f : Int)) (hnv : nv ≤ 1048576)
    (hg : a.eval gop = .func (.func 45) #[] #[.pointer (some ⟨bf, 0, none⟩), .pointer (some ⟨bt, 0, none⟩)]) (eg : ∀ args w, (callFunc 45 args).run Try.prog w = .ok (.enter 45 args) w) (hps : ps.size = 2)
    (itf : Nat → List It) (stf : Nat → List Nat) (I : TrS → World → Prop) (Ix : Code → World → Prop) (hI : ∀ s, Steady w.heap.size (I s)) (hIx : ∀ c, Steady w.heap.size (Ix c)) (K0 : Nat → Prop) (h0 : I (0, K0) w)
    (hA : ∀ s W, I s W → TrHas g nv bt itf stf s W ∧ W.cell? ⟨bf, 0, none⟩ = some (.int .i64 from_))
    (a₁ : Int → Int → Act)
    (hassign : ∀ (l : Nat) (i x : Int) (W : World) (K : Act → World → Prop), K (a₁ i x) W →
      assign.wpIn (Fence.wide.inRound l) (n - 1 - 1) Try.prog (Exit.then K (fun _ _ _ => False)) { tmps := (ps.zip #[.int .i64 i, .int .i64 x]).foldl (fun t (p, v) => t.setIfInBounds p v) a.tmps, defers := [] } W)
    (hbody : ∀ (l : Nat) (s : TrS) (x : It) (W : World), I s W → (itf s.1)[f + s.1]? = some x →
      body.wpIn (Fence.wide.inRound l) (n - 1 - 1) Try.prog (outs (fun s' : TrS => s'.1 = s.1 + 1) I Ix W) (a₁ ((f + s.1 : Nat) : Int) x.lit) W)
    (hdone : ∀ (D : Nat) (s : TrS) (W : World), w.heap.size ≤ D → (itf s.1).length ≤ f + s.1 → I s W → W.heap[D]? = some (.deferred (some [])) → Q .normal { a with defers := { target := .collected D, args := #[] } :: a.defers } W)
    (hstop : ∀ (D : Nat) (c : Code) (W : World), w.heap.size ≤ D → Ix c W → W.heap[D]? = some (.deferred (some [])) → c.wpIn .wide n Try.prog Q { a with defers := { target := .collected D, args := #[] } :: a.defers } W) :
    (Code.rangeFunc gop ps assign body).wpIn .wide n Try.prog Q a w := by
  refine wide_range (α := It) hg eg I Ix hI hIx (0, K0) h0 (fun _ _ _ _ => False) (fun _ _ _ _ h => h.elim) (fun _ _ _ _ h => h.elim) (fun s x args _ => (itf s.1)[f + s.1]? = some x ∧ args = #[.int .i64 ((f + s.1 : Nat) : Int), .int .i64 x.lit]) (fun s x args => steady_true _) (fun s _ s' => s'.1 = s.1 + 1) (fun s => (itf s.1).length ≤ f + s.1) ?_ ?_ (fun args => a₁ (intOf (args.getD 0 undef)) (intOf (args.getD 1 undef))) ?_ ?_ hdone hstop
  · rintro s x args W ⟨-, rfl⟩
    rw [hps]; rfl
  · intro l J Jx W hJ hJx hJI hs0 hY
    exact lits1_in (n - 1) (by omega) g nv bf bt from_ f hf hnv itf stf l J Jx (fun s W h => (hA s W (hJI s W h)).1) W K0 (hA _ _ (hJI _ _ hs0)).2 hs0 (fun s x W hj hx => by
      obtain ⟨fn, tmps, as', bd, hy, hR⟩ := hY s x _ W hj ⟨hx, rfl⟩
      refine ⟨fn, tmps, as', bd, hy, hR.mono fun e W' h => ?_⟩
      rcases h with ⟨h1, ⟨k', K'⟩, h2, h3⟩ | h
      · exact .inl ⟨h1, K', by rw [← show k' = s.1 + 1 from h2]; exact h3⟩
      · exact .inr h)
  · rintro l s x args W K ⟨-, rfl⟩ hK
    exact hassign l _ _ W K hK
  · rintro l s x args W hi ⟨h1, rfl⟩
    exact hbody l s x W hi h1
theorem range_down {n : Nat} (hn : 2 ≤ n) {gop : Operand} {ps : Array Tmp} {assign body : Code} {Q : Exit → Act → World → Prop} {a : Act} {w : World} {g nv bt : Nat} (n0 : Nat) (hnv : nv ≤ 1048576)
    (hg : a.eval gop = .func (.func 46) #[] #[.pointer (some ⟨bt, 0, none⟩)]) (eg : ∀ args w, (callFunc 46 args).run Try.prog w = .ok (.enter 46 args) w) (hps : ps.size = 2)
    (itf : Nat → List It) (stf : Nat → List Nat) (hn0 : (itf 0).length = n0) (I : TrS → World → Prop) (Ix : Code → World → Prop) (hI : ∀ s, Steady w.heap.size (I s)) (hIx : ∀ c, Steady w.heap.size (Ix c)) (K0 : Nat → Prop) (h0 : I (0, K0) w)
    (hA : ∀ s W, I s W → TrHas g nv bt itf stf s W) (hSk : ∀ (s : TrS) W, I s W → s.1 < n0 → (itf s.1).length ≤ n0 - 1 - s.1 → I (s.1 + 1, s.2) W)
    (a₁ : Int → Int → Act)
    (hassign : ∀ (l : Nat) (i x : Int) (W : World) (K : Act → World → Prop), K (a₁ i x) W →
      assign.wpIn (Fence.wide.inRound l) (n - 1 - 1) Try.prog (Exit.then K (fun _ _ _ => False)) { tmps := (ps.zip #[.int .i64 i, .int .i64 x]).foldl (fun t (p, v) => t.setIfInBounds p v) a.tmps, defers := [] } W)
    (hbody : ∀ (l : Nat) (s : TrS) (x : It) (W : World), I s W → s.1 < n0 → (itf s.1)[n0 - 1 - s.1]? = some x →
      body.wpIn (Fence.wide.inRound l) (n - 1 - 1) Try.prog (outs (fun s' : TrS => s'.1 = s.1 + 1) I Ix W) (a₁ ((n0 - 1 - s.1 : Nat) : Int) x.lit) W)
    (hdone : ∀ (D : Nat) (s : TrS) (W : World), w.heap.size ≤ D → s.1 = n0 → I s W → W.heap[D]? = some (.deferred (some [])) → Q .normal { a with defers := { target := .collected D, args := #[] } :: a.defers } W)
    (hstop : ∀ (D : Nat) (c : Code) (W : World), w.heap.size ≤ D → Ix c W → W.heap[D]? = some (.deferred (some [])) → c.wpIn .wide n Try.prog Q { a with defers := { target := .collected D, args := #[] } :: a.defers } W) :
    (Code.rangeFunc gop ps assign body).wpIn .wide n Try.prog Q a w := by
  refine wide_range (α := It) hg eg I Ix hI hIx (0, K0) h0 (fun s W s' W' => W' = W ∧ s' = (s.1 + 1, s.2) ∧ s.1 < n0 ∧ (itf s.1).length ≤ n0 - 1 - s.1) ?_ ?_ (fun s x args _ => s.1 < n0 ∧ (itf s.1)[n0 - 1 - s.1]? = some x ∧ args = #[.int .i64 ((n0 - 1 - s.1 : Nat) : Int), .int .i64 x.lit]) (fun s x args => steady_true _) (fun s _ s' => s'.1 = s.1 + 1) (fun s => s.1 = n0) ?_ ?_ (fun args => a₁ (intOf (args.getD 0 undef)) (intOf (args.getD 1 undef))) ?_ ?_ hdone hstop
  · rintro s s' W W' ⟨rfl, rfl, h1, h2⟩ hi
    exact hSk s _ hi h1 h2
  · rintro s s' W W' ⟨rfl, -⟩
    exact Odd.refl _
  · rintro s x args W ⟨-, -, rfl⟩
    rw [hps]; rfl
  · intro l J Jx W hJ hJx hJI hs0 hY
    exact down1_in (n - 1) (by omega) g nv bt n0 hnv itf stf hn0 l J Jx (fun s W h => hA s W (hJI s W h)) (fun s W h h1 h2 => hJ s _ W W ⟨rfl, rfl, h1, h2⟩ h) W K0 hs0 (fun s x W hj h1 hx => by
      obtain ⟨fn, tmps, as', bd, hy, hR⟩ := hY s x _ W hj ⟨h1, hx, rfl⟩
      refine ⟨fn, tmps, as', bd, hy, hR.mono fun e W' h => ?_⟩
      rcases h with ⟨h1, ⟨k', K'⟩, h2, h3⟩ | h
      · exact .inl ⟨h1, K', by rw [← show k' = s.1 + 1 from h2]; exact h3⟩
      · exact .inr h)
  · rintro l s x args W K ⟨-, -, rfl⟩ hK
    exact hassign l _ _ W K hK
  · rintro l s x args W hi ⟨h1, h2, rfl⟩
    exact hbody l s x W hi h1 h2
end Go.Proofs.Ytdeedmfofjdbjaa
