/- A range over a function, where what is handed over lies in memory that the function has just laid. -/
import Derived.Test.YticcgmegimiegaaGreatDoorObj
import Derived.RangeFuncWrites
namespace Go.Proofs.YticcgmegimiegaaGreatDoor
open Go.RowKit

/-- It holds on, whatever is laid anew, and whatever befalls an object that is neither cells nor a map. -/
def Steady (B : Nat) (I : World → Prop) : Prop := ∀ W W' row, I W → W.grownBy W' row → (∀ r, row = some r → B ≤ r ∧ ∃ o : Obj, W.heap[r]? = some o ∧ Obj.plain o = false) → I W'
theorem Steady.put {B : Nat} {I : World → Prop} (h : Steady B I) {W : World} {l : Nat} {o : Obj} (o' : Obj) (hi : I W) (hB : B ≤ l) (hl : W.heap[l]? = some o) (ho : Obj.plain o = false) : I (W.putObj l o') :=
  h W _ (some l) hi (grownBy_putObj' W l o') (fun r e => by cases e; exact ⟨hB, o, hl, ho⟩)
theorem Steady.alloc {B : Nat} {I : World → Prop} (h : Steady B I) {W : World} (o : Obj) (hi : I W) : I (W.alloc o) := h W _ none hi (World.grownBy_alloc W o none) (fun r e => by cases e)
theorem Steady.on {B : Nat} {I : World → Prop} (h : Steady B I) {W W' : World} (hi : I W) (hb : Below W.heap.size W W') : I W' := h W W' none hi ⟨hb.os, hb.tape, hb.output, hb.size, fun k hk _ => hb.block k hk⟩ (fun r e => by cases e)
theorem Steady.and {B : Nat} {I J : World → Prop} (h : Steady B I) (k : Steady B J) : Steady B fun W => I W ∧ J W := fun W W' row hi hg hr => ⟨h W W' row hi.1 hg hr, k W W' row hi.2 hg hr⟩
theorem steady_true {B : Nat} (p : Prop) : Steady B fun _ => p := fun _ _ _ h _ _ => h
theorem steady_ex {B : Nat} {γ : Type} {I : γ → World → Prop} (h : ∀ x, Steady B (I x)) : Steady B fun W => ∃ x, I x W := fun W W' row ⟨x, hx⟩ hg hr => ⟨x, h x W W' row hx hg hr⟩
/-- What is neither cells nor a map lies as it lay. -/
structure Odd (W W' : World) : Prop where
  size : W.heap.size ≤ W'.heap.size
  same : ∀ (k : Nat) (o : Obj), W.heap[k]? = some o → Obj.plain o = false → W'.heap[k]? = some o
theorem Odd.refl (W : World) : Odd W W := ⟨Nat.le_refl _, fun _ _ h _ => h⟩
theorem Odd.trans {X Y Z : World} (h : Odd X Y) (k : Odd Y Z) : Odd X Z := ⟨Nat.le_trans h.size k.size, fun i o hi ho => k.same i o (h.same i o hi ho) ho⟩
theorem Odd.of_below {W W' : World} (h : Below W.heap.size W W') : Odd W W' := ⟨h.size, fun k _ hk _ => (h.block k (Array.getElem?_eq_some_iff.1 hk).1).trans hk⟩
theorem Odd.of_keeps {K : Nat → Prop} {W W' : World} (h : Keeps K W W') (hK : KOk K W) : Odd W W' :=
  ⟨h.size, fun k o hk ho => (h.block k (Array.getElem?_eq_some_iff.1 hk).1 (fun x => by
    obtain ⟨o', hk', hp⟩ := hK k x
    rw [hk] at hk'; cases hk'; rw [hp] at ho; cases ho)).trans hk⟩
theorem Odd.set {W : World} {g : Nat} {t : TypeId} {cs : Array Value} (h : Whole W g t cs) (i : Nat) (u : Value) : Odd W (W.setCell ⟨g, i, none⟩ u) :=
  ⟨by simp [World.setCell], fun k o hk ho => (Below.heap_setCell _ _ _ _ (fun e => by
    subst e
    rw [show W.heap[k]? = _ from h] at hk; cases hk; cases ho)).trans hk⟩

/-- How a round may be left. -/
def outs {β : Type} (N : β → Prop) (I : β → World → Prop) (Ix : Code → World → Prop) (W : World) : Exit → Act → World → Prop
  | .normal, _, W' => Odd W W' ∧ ∃ s, N s ∧ I s W'
  | .ret, _, W' => Odd W W' ∧ Ix .ret W'
  | .exit id, _, W' => Odd W W' ∧ Ix (.exit id) W'
  | _, _, _ => False

theorem wide_range {P : Program} {n : Nat} {α β : Type} {g : Operand} {ps : Array Tmp} {assign body : Code} {Q : Exit → Act → World → Prop} {a : Act} {w : World}
    {gf : Nat} {lb : Array Value} (hg : a.eval g = .func (.func gf) #[] lb) (eg : ∀ args w, (callFunc gf args).run P w = .ok (.enter gf args) w)
    (I : β → World → Prop) (Ix : Code → World → Prop) (hI : ∀ s, Steady w.heap.size (I s)) (hIx : ∀ c, Steady w.heap.size (Ix c)) (s0 : β) (h0 : I s0 w)
    (Lk : β → World → β → World → Prop) (hLk : ∀ s s' W W', Lk s W s' W' → I s W → I s' W') (hLo : ∀ s s' W W', Lk s W s' W' → Odd W W')
    (Step : β → α → Array Value → World → Prop) (hSt : ∀ s x args, Steady w.heap.size (Step s x args)) (Nx : β → α → β → Prop) (Fin : β → Prop) (hps : ∀ s x args W, Step s x args W → args.size = ps.size)
    (hcon : ∀ (l : Nat) (J : β → World → Prop) (Jx : World → Prop) (W : World), (∀ s s' W W', Lk s W s' W' → J s W → J s' W') → (∀ W W', Jx W → Below W.heap.size W W' → Jx W') → (∀ s W, J s W → I s W) → J s0 W →
      (∀ s x args W, J s W → Step s x args W → YieldAt .wide (n - 1 - 1) P l args W fun e W' => (e = .returned (.bool true) ∧ ∃ s', Nx s x s' ∧ J s' W') ∨ (e = .returned (.bool false) ∧ Jx W')) →
      CallsIn .wide (n - 1) P gf (#[.func (.yield l) #[] #[]] ++ lb) W fun e W' => (∃ v, e = .returned v) ∧ ((∃ s, Fin s ∧ J s W') ∨ Jx W'))
    (a₁ : Array Value → Act)
    (hassign : ∀ (l : Nat) (s : β) (x : α) (args : Array Value) (W : World) (K : Act → World → Prop), Step s x args W → K (a₁ args) W →
      assign.wpIn (Fence.wide.inRound l) (n - 1 - 1) P (Exit.then K (fun _ _ _ => False)) { tmps := (ps.zip args).foldl (fun t (p, v) => t.setIfInBounds p v) a.tmps, defers := [] } W)
    (hbody : ∀ (l : Nat) (s : β) (x : α) (args : Array Value) (W : World), I s W → Step s x args W → body.wpIn (Fence.wide.inRound l) (n - 1 - 1) P (outs (Nx s x) I Ix W) (a₁ args) W)
    (hdone : ∀ (D : Nat) (s : β) (W : World), w.heap.size ≤ D → Fin s → I s W → W.heap[D]? = some (.deferred (some [])) → Q .normal { a with defers := { target := .collected D, args := #[] } :: a.defers } W)
    (hstop : ∀ (D : Nat) (c : Code) (W : World), w.heap.size ≤ D → Ix c W → W.heap[D]? = some (.deferred (some [])) → c.wpIn .wide n P Q { a with defers := { target := .collected D, args := #[] } :: a.defers } W) :
    (Code.rangeFunc g ps assign body).wpIn .wide n P Q a w := by
  refine wpIn_rangeFunc fun fn hfn => ?_
  -- the loop's record, and the block of its deferred calls
  let mk : LoopState → Option Code → Obj := fun st pe => .loop { state := st, pending := pe, fn, tmps := a.tmps, params := ps, assign, body, defers := w.heap.size }
  let l := w.heap.size + 1
  have hBl : w.heap.size ≤ l := Nat.le_succ _
  let Bk : Obj → World → Prop := fun o W => W.heap[l]? = some o ∧ W.heap[w.heap.size]? = some (.deferred (some []))
  have oddL : ∀ st pe, Obj.plain (mk st pe) = false := fun _ _ => rfl
  have onB : ∀ st pe {W W' : World}, Bk (mk st pe) W → Below W.heap.size W W' → Bk (mk st pe) W' := fun st pe W W' hb h =>
    ⟨(h.block _ (Array.getElem?_eq_some_iff.1 hb.1).1).trans hb.1, (h.block _ (Array.getElem?_eq_some_iff.1 hb.2).1).trans hb.2⟩
  have oddB : ∀ st pe {W W' : World}, Bk (mk st pe) W → Odd W W' → Bk (mk st pe) W' := fun st pe W W' hb h => ⟨h.same _ _ hb.1 rfl, h.same _ _ hb.2 rfl⟩
  -- to turn the record leaves all else
  have turn : ∀ (st st' : LoopState) (pe pe' : Option Code) (W : World), Bk (mk st pe) W → Bk (mk st' pe') (W.putObj l (mk st' pe')) := fun st st' pe pe' W hb =>
    ⟨World.putObj_heap_same (Array.getElem?_eq_some_iff.1 hb.1).1, (World.putObj_heap_other (by show w.heap.size ≠ w.heap.size + 1; omega)).trans hb.2⟩
  have startB : Bk (mk .ready none) ((w.alloc (.deferred (some []))).alloc (mk .ready none)) := by
    refine ⟨?_, ?_⟩
    · have := World.alloc_heap_new (w.alloc (.deferred (some []))) (mk .ready none)
      rwa [World.size_alloc] at this
    · exact (Below.heap_alloc _ _ _ (by simp)).trans (World.alloc_heap_new w _)
  have start0 : I s0 ((w.alloc (.deferred (some []))).alloc (mk .ready none)) := (hI s0).alloc _ ((hI s0).alloc _ h0)
  obtain ⟨W1, hW1⟩ : ∃ W1, (w.alloc (.deferred (some []))).alloc (mk .ready none) = W1 := ⟨_, rfl⟩
  rw [hW1] at startB start0
  refine ⟨l, [{ target := .collected w.heap.size, args := #[] }], W1, { target := .fn (.func gf) lb, args := #[.func (.yield l) #[] #[]] }, W1, gf, #[.func (.yield l) #[] #[]] ++ lb, W1, by rw [← hW1]; exact run_enterLoop_outer _ _ _ _ _, ?_, fun f' _ => trivial, ?_, (fun h => by cases h), ?_⟩
  · simp only [resolve, hg]
    simp [go_sem]
  · simp [invoke, go_sem, eg]
  · refine (hcon l (fun s W => I s W ∧ Bk (mk .ready none) W) (fun W => ∃ c, Ix c W ∧ Bk (mk .done (some c)) W) W1 (fun s s' W W' hk h => ⟨hLk _ _ _ _ hk h.1, oddB _ _ h.2 (hLo _ _ _ _ hk)⟩)
      (fun W W' ⟨c, h, k⟩ hb => ⟨c, (hIx c).on h hb, onB _ _ k hb⟩) (fun s W h => h.1) ⟨start0, startB⟩ ?_).mono ?_
    · rintro s x args W ⟨hi, hb⟩ hst
      refine ⟨fn, _, assign, body, run_yield hb.1 (hps s x args W hst), roundIn_of_wpIn hfn (hassign l s x args W _ hst ⟨_, run_beginRound hb.1 rfl, ?_⟩)⟩
      have hb2 := turn _ .busy none none W hb
      have hi2 := (hI s).put (mk .busy none) hi hBl hb.1 rfl
      have hst2 := (hSt s x args).put (mk .busy none) hst hBl hb.1 rfl
      refine wpIn_mono (hbody l s x args _ hi2 hst2) fun e a3 W3 hp => ?_
      cases e with
      | normal =>
        have hb3 := oddB _ _ hb2 hp.1
        obtain ⟨-, s', hN, hi3⟩ := hp
        exact ⟨_, _, run_endRound none hb3.1, .inl ⟨rfl, s', hN, (hI _).put _ hi3 hBl hb3.1 rfl, turn _ _ _ _ W3 hb3⟩⟩
      | ret =>
        have hb3 := oddB _ _ hb2 hp.1
        exact ⟨_, _, run_endRound (some .ret) hb3.1, .inr ⟨rfl, .ret, (hIx _).put _ hp.2 hBl hb3.1 rfl, turn _ _ _ _ W3 hb3⟩⟩
      | exit id =>
        have hb3 := oddB _ _ hb2 hp.1
        exact ⟨_, _, run_endRound (some (.exit id)) hb3.1, .inr ⟨rfl, .exit id, (hIx _).put _ hp.2 hBl hb3.1 rfl, turn _ _ _ _ W3 hb3⟩⟩
      | goto t => exact hp.elim
      | panic ch => exact hp.elim
      | outgrown => exact hp.elim
    · rintro e W2 ⟨⟨v, rfl⟩, (⟨s, hF, hi, hb⟩ | ⟨c, hi, hb⟩)⟩
      · exact ⟨none, _, run_endLoop hb.1 (fun h => by cases h), hdone _ s _ (Nat.le_refl _) hF ((hI s).put _ hi hBl hb.1 rfl) (turn _ _ _ _ W2 hb).2⟩
      · exact ⟨some c, _, run_endLoop hb.1 (fun h => by cases h), hstop _ c _ (Nat.le_refl _) ((hIx c).put _ hi hBl hb.1 rfl) (turn _ _ _ _ W2 hb).2⟩
end Go.Proofs.YticcgmegimiegaaGreatDoor
