/- Iterators by contract: what a function yields, and a loop over it, also within a loop's round. -/
import Derived.Test.YticcgmegimiegaaGreatDoorRange
import Derived.RangeFuncWrites
import Derived.RangeFuncNested
namespace Go.Proofs.YticcgmegimiegaaGreatDoor
open Go.RowKit

/-- What lies in the blocks of X lies as it lay. -/
def SameX (X : Nat → Prop) (W W' : World) : Prop := W.heap.size ≤ W'.heap.size ∧ ∀ x, X x → W'.heap[x]? = W.heap[x]?
theorem SameX.refl (X : Nat → Prop) (W : World) : SameX X W W := ⟨Nat.le_refl _, fun _ _ => rfl⟩
theorem SameX.trans {X : Nat → Prop} {A B C : World} (h : SameX X A B) (k : SameX X B C) : SameX X A C := ⟨Nat.le_trans h.1 k.1, fun x hx => (k.2 x hx).trans (h.2 x hx)⟩
theorem SameX.less {X Y : Nat → Prop} {W W' : World} (h : SameX X W W') (hs : ∀ x, Y x → X x) : SameX Y W W' := ⟨h.1, fun x hx => h.2 x (hs x hx)⟩
theorem SameX.below {X : Nat → Prop} {W W' : World} (hX : ∀ x, X x → x < W.heap.size) (h : Below W.heap.size W W') : SameX X W W' := ⟨h.size, fun x hx => h.block x (hX x hx)⟩
theorem SameX.keeps {X K : Nat → Prop} {W W' : World} (hX : ∀ x, X x → x < W.heap.size) (h : Keeps K W W') (hn : ∀ x, X x → ¬ K x) : SameX X W W' := ⟨h.size, fun x hx => h.block x (hX x hx) (hn x hx)⟩
theorem Keeps.less {K K' : Nat → Prop} {W W' : World} (h : Keeps K W W') (hs : ∀ x, K x → K' x) : Keeps K' W W' := ⟨h.os, h.tape, h.output, h.size, fun k hk hn => h.block k hk fun x => hn (hs k x)⟩

/-- What may be said between rounds: it holds on, whatever befalls the blocks X of the iterator, and whatever it lays. -/
structure InvX (J : (Nat → Prop) → World → Prop) : Prop where
  keep : ∀ X W W', J X W → Keeps X W W' → J X W'
  grow : ∀ X W W', J X W → Below W.heap.size W W' → J (fun b => X b ∨ (W.heap.size ≤ b ∧ b < W'.heap.size)) W'
  own : ∀ X W, J X W → ∀ x, X x → x < W.heap.size
/-- The iterator gf yields seq, one after the other, as far as it is asked; at its beginning the blocks X0 are its own, and Cap holds. -/
def IterIn (P : Program) (gf : Nat) (lb : Array Value) (seq : List (Array Value)) (X0 : Nat → Prop) (Cap : World → Prop) : Prop :=
  ∀ (m l : Nat) (J : Nat → (Nat → Prop) → World → Prop) (Jx : (Nat → Prop) → World → Prop) (W : World), (∀ k, InvX (J k)) → InvX Jx → J 0 X0 W → Cap W →
    (∀ k X args W, J k X W → seq[k]? = some args → YieldAt .wide m P l args W fun e W' => (e = .returned (.bool true) ∧ J (k + 1) X W' ∧ SameX X W W') ∨ (e = .returned (.bool false) ∧ Jx X W' ∧ SameX X W W')) →
    CallsIn .wide m P gf (#[.func (.yield l) #[] #[]] ++ lb) W fun e W' => (∃ v, e = .returned v) ∧ ((∃ X, J seq.length X W') ∨ ∃ X, Jx X W')
/-- How a round may be left. -/
def outX (I : World → Prop) (Ix : Code → World → Prop) (X : Nat → Prop) (W : World) : Exit → Act → World → Prop
  | .normal, _, W' => I W' ∧ SameX X W W'
  | .ret, _, W' => Ix .ret W' ∧ SameX X W W'
  | .exit id, _, W' => Ix (.exit id) W' ∧ SameX X W W'
  | _, _, _ => False
theorem yield_any {P : Program} {m m' l : Nat} {args : Array Value} {W : World} {R : Ending → World → Prop} (h : YieldAt .wide m P l args W R) : YieldAt .wide m' P l args W R := by
  obtain ⟨fn, tmps, as', bd, hy, hR⟩ := h
  exact ⟨fn, tmps, as', bd, hy, hR.1, fun c cs _ => hR.2 c cs (room_wide _)⟩
theorem yield_round {P : Program} {m l l' : Nat} {args : Array Value} {W : World} {R : Ending → World → Prop} (h : YieldAt .wide m P l args W R) : YieldAt (Fence.wide.inRound l') m P l args W R := h
theorem calls_any {P : Program} {m m' f : Nat} {args : Array Value} {W : World} {R : Ending → World → Prop} (h : CallsIn .wide m P f args W R) : CallsIn .wide m' P f args W R := callsIn_wide.2 (callsIn_wide.1 h)

theorem putObj_keeps {W : World} {l : Nat} (o : Obj) : Keeps (fun b => b = l) W (W.putObj l o) := (Keeps.refl (fun b => b = l) W).grown (grownBy_putObj' W l o) (fun r e => .inl (by cases e; rfl))

theorem range_iter_core {F : Fence} (hF : F = .wide ∨ ∃ l₀, F = Fence.wide.inRound l₀) {P : Program} {n : Nat} {g : Operand} {ps : Array Tmp} {assign body : Code} {Q : Exit → Act → World → Prop} {a : Act} {w : World}
    {gf : Nat} {lb : Array Value} (hg : a.eval g = .func (.func gf) #[] lb) (eg : ∀ args w, (callFunc gf args).run P w = .ok (.enter gf args) w)
    {seq : List (Array Value)} {X0 : Nat → Prop} {Cap : World → Prop} (hIt : IterIn P gf lb seq X0 Cap) (hps : ∀ args ∈ seq, args.size = ps.size)
    (mark : List Deferred) (l : Nat) (hl : w.heap.size ≤ l) (Dk : World → Prop) (hD : ∀ W W' : World, Dk W → (∀ x, w.heap.size ≤ x → x < l → W'.heap[x]? = W.heap[x]?) → Dk W')
    (henter : ∀ fn, ∃ dblk W1, (Instr.enterLoop fn a.tmps ps assign body F.round).run P w = .ok (l, mark) W1 ∧ W1.heap[l]? = some (.loop { state := .ready, pending := none, fn, tmps := a.tmps, params := ps, assign, body, defers := dblk }) ∧ Below w.heap.size w W1 ∧ W1.heap.size = l + 1 ∧ Dk W1)
    (I : Nat → (Nat → Prop) → World → Prop) (Ix : Code → (Nat → Prop) → World → Prop) (hI : ∀ k, InvX (I k)) (hIx : ∀ c, InvX (Ix c)) (h0 : I 0 X0 w) (hcb : ∀ W, Below w.heap.size w W → Cap W)
    (R : Nat → (Nat → Prop) → Act → World → Prop) (hR : ∀ k X a' W W', R k X a' W → Keeps X W W' → R k X a' W')
    (hassign : ∀ (k : Nat) (X : Nat → Prop) (args : Array Value) (W : World), X l → (∃ r, W.heap[l]? = some (.loop r)) → I k X W → seq[k]? = some args →
      assign.wpIn (Fence.wide.inRound l) (n - 1 - 1) P (Exit.then (fun a' W' => R k X a' W' ∧ SameX X W W') (fun _ _ _ => False)) { tmps := (ps.zip args).foldl (fun t (p, v) => t.setIfInBounds p v) a.tmps, defers := [] } W)
    (hbody : ∀ (k : Nat) (X : Nat → Prop) (a' : Act) (W : World), X l → (∃ r, W.heap[l]? = some (.loop r)) → (∀ x, X x → x < W.heap.size) → R k X a' W → k < seq.length → body.wpIn (Fence.wide.inRound l) (n - 1 - 1) P (outX (I (k + 1) X) (fun c => Ix c X) X W) a' W)
    (hdone : ∀ (X : Nat → Prop) (W : World), (∀ x, w.heap.size ≤ x → x ≤ l → X x) → I seq.length X W → Dk W → Q .normal { a with defers := mark ++ a.defers } W)
    (hstop : ∀ (c : Code) (X : Nat → Prop) (W : World), (∀ x, w.heap.size ≤ x → x ≤ l → X x) → Ix c X W → Dk W → c.wpIn F n P Q { a with defers := mark ++ a.defers } W) :
    (Code.rangeFunc g ps assign body).wpIn F n P Q a w := by
  have hfnF : ∀ f, F.fn f := by rcases hF with rfl | ⟨l₀, rfl⟩ <;> exact fun _ => trivial
  refine wpIn_rangeFunc fun fn hfn => ?_
  obtain ⟨dblk, W1, hrun, hrec, hb1, hsz, hd1⟩ := henter fn
  let mk : LoopState → Option Code → Obj := fun st pe => .loop { state := st, pending := pe, fn, tmps := a.tmps, params := ps, assign, body, defers := dblk }
  let Pl : Nat → Prop := fun b => w.heap.size ≤ b ∧ b < l + 1
  let ex : (Nat → Prop) → Nat → Prop := fun X b => X b ∨ Pl b
  have hPl : Pl l := ⟨hl, Nat.lt_succ_self _⟩
  have hrecp : ∀ (W : World) (o : Obj), l < W.heap.size → (W.putObj l o).heap[l]? = some o := fun W o h => World.putObj_heap_same h
  -- what holds between rounds, with the loop's own record beside it
  let Jd : (LoopState × Option Code) → ((Nat → Prop) → World → Prop) → (Nat → Prop) → World → Prop := fun st K X W => K (ex X) W ∧ W.heap[l]? = some (mk st.1 st.2) ∧ Dk W ∧ ∀ x, X x → ¬ Pl x
  have inv : ∀ st K, InvX K → InvX (Jd st K) := fun st K hK => by
    refine ⟨fun X W W' h hk => ?_, fun X W W' h hb => ?_, fun X W h x hx => hK.own _ W h.1 x (.inl hx)⟩
    · obtain ⟨h1, h2, h3, h4⟩ := h
      have hlw : l < W.heap.size := (Array.getElem?_eq_some_iff.1 h2).1
      exact ⟨hK.keep _ W W' h1 (hk.less fun x hx => .inl hx), (hk.block l hlw (fun x => h4 l x hPl)).trans h2, hD W W' h3 (fun x h5 h6 => hk.block x (by omega) (fun hx => h4 x hx ⟨h5, by omega⟩)), h4⟩
    · obtain ⟨h1, h2, h3, h4⟩ := h
      have hlw : l < W.heap.size := (Array.getElem?_eq_some_iff.1 h2).1
      have hg := hK.grow _ W W' h1 hb
      refine ⟨?_, (hb.block l hlw).trans h2, hD W W' h3 (fun x h5 h6 => hb.block x (by omega)), fun x hx => ?_⟩
      · have e : (fun b => ex X b ∨ (W.heap.size ≤ b ∧ b < W'.heap.size)) = ex (fun b => X b ∨ (W.heap.size ≤ b ∧ b < W'.heap.size)) := by
          funext b
          exact propext ⟨fun h => by rcases h with (h | h) | h; exact .inl (.inl h); exact .inr h; exact .inl (.inr h), fun h => by rcases h with (h | h) | h; exact .inl (.inl h); exact .inr h; exact .inl (.inr h)⟩
        rw [← e]; exact hg
      · rcases hx with hx | hx
        · exact h4 x hx
        · intro hp
          have := hp.2
          omega
  have J0 : Jd (.ready, none) (I 0) X0 W1 := by
    have hg := (hI 0).grow _ w W1 h0 hb1
    refine ⟨?_, hrec, hd1, fun x hx hp => ?_⟩
    · have e : (fun b => X0 b ∨ (w.heap.size ≤ b ∧ b < W1.heap.size)) = ex X0 := by funext b; rw [hsz]
      rw [← e]; exact hg
    · have := (hI 0).own _ w h0 x hx
      have := hp.1
      omega
  refine ⟨l, mark, W1, { target := .fn (.func gf) lb, args := #[.func (.yield l) #[] #[]] }, W1, gf, #[.func (.yield l) #[] #[]] ++ lb, W1, hrun, ?_, fun f' _ => hfnF f', ?_, (fun h => by rcases hF with rfl | ⟨l₀, rfl⟩ <;> cases h), ?_⟩
  · simp only [resolve, hg]
    simp [go_sem]
  · simp [invoke, go_sem, eg]
  · have hc := hIt (n - 1) l (fun k X W => Jd (.ready, none) (I k) X W) (fun X W => ∃ c, Jd (.done, some c) (Ix c) X W) W1 (fun k => inv _ _ (hI k))
      ⟨fun X W W' ⟨c, h⟩ hk => ⟨c, (inv _ _ (hIx c)).keep X W W' h hk⟩, fun X W W' ⟨c, h⟩ hb => ⟨c, (inv _ _ (hIx c)).grow X W W' h hb⟩, fun X W ⟨c, h⟩ => (inv _ _ (hIx c)).own X W h⟩ J0 (hcb W1 hb1) ?_
    · have hc2 : CallsIn F (n - 1) P gf (#[.func (.yield l) #[] #[]] ++ lb) W1 fun e W' => (∃ v, e = .returned v) ∧ ((∃ X, Jd (.ready, none) (I seq.length) X W') ∨ ∃ X c, Jd (.done, some c) (Ix c) X W') := by
        rcases hF with rfl | ⟨l₀, rfl⟩
        · exact hc
        · exact CallsIn.inRound l₀ hc
      refine hc2.mono ?_
      rintro e W2 ⟨⟨v, rfl⟩, (⟨X, h1, h2, h3, h4⟩ | ⟨X, c, h1, h2, h3, h4⟩)⟩
      · have hlw : l < W2.heap.size := (Array.getElem?_eq_some_iff.1 h2).1
        refine ⟨none, _, run_endLoop h2 (fun h => by cases h), hdone (ex X) _ (fun x h5 h6 => .inr ⟨h5, by omega⟩) ((hI _).keep _ _ _ h1 ((putObj_keeps _).less fun x hx => by subst hx; exact .inr hPl)) (hD _ _ h3 fun x h5 h6 => World.putObj_heap_other (by omega))⟩
      · have hlw : l < W2.heap.size := (Array.getElem?_eq_some_iff.1 h2).1
        refine ⟨some c, _, run_endLoop h2 (fun h => by cases h), hstop c (ex X) _ (fun x h5 h6 => .inr ⟨h5, by omega⟩) ((hIx c).keep _ _ _ h1 ((putObj_keeps _).less fun x hx => by subst hx; exact .inr hPl)) (hD _ _ h3 fun x h5 h6 => World.putObj_heap_other (by omega))⟩
    · rintro k X args W ⟨h1, h2, h3, h4⟩ hk
      have hlw : l < W.heap.size := (Array.getElem?_eq_some_iff.1 h2).1
      refine yield_any (m := n - 1 - 1) ⟨fn, _, assign, body, run_yield h2 (hps args (List.mem_of_getElem? hk)), roundIn_of_wpIn trivial (wpIn_mono (hassign k (ex X) args W (.inr hPl) ⟨_, h2⟩ h1 hk) fun e a2 W2 hp => ?_)⟩
      cases e with
      | normal =>
        obtain ⟨hr2, hs2⟩ := hp
        have hl2 : W2.heap[l]? = some (mk .ready none) := (hs2.2 l (.inr hPl)).trans h2
        refine ⟨_, run_beginRound hl2 rfl, ?_⟩
        have hl2w : l < W2.heap.size := (Array.getElem?_eq_some_iff.1 hl2).1
        have hr3 := hR k (ex X) a2 W2 (W2.putObj l (mk .busy none)) hr2 ((putObj_keeps _).less fun x hx => by subst hx; exact .inr hPl)
        have hown : ∀ x, ex X x → x < (W2.putObj l (mk .busy none)).heap.size := fun x hx => by
          have h5 := (hI k).own _ W h1 x hx
          have h6 := hs2.1
          have h7 := (putObj_keeps (W := W2) (l := l) (mk .busy none)).size
          omega
        refine wpIn_mono (hbody k (ex X) a2 _ (.inr hPl) ⟨_, hrecp W2 _ hl2w⟩ hown hr3 (List.getElem?_eq_some_iff.1 hk).1) fun e a3 W3 hp => ?_
        have tail : ∀ (hs3 : SameX (ex X) (W2.putObj l (mk .busy none)) W3) (st : LoopState × Option Code) (K : (Nat → Prop) → World → Prop), InvX K → K (ex X) W3 → W3.heap[l]? = some (mk .busy none) ∧ (Jd st K X (W3.putObj l (mk st.1 st.2)) ∧ SameX X W (W3.putObj l (mk st.1 st.2))) := fun hs3 st K hK hk3 => by
          have hl3 : W3.heap[l]? = some (mk .busy none) := (hs3.2 l (.inr hPl)).trans (hrecp W2 _ hl2w)
          have hl3w : l < W3.heap.size := (Array.getElem?_eq_some_iff.1 hl3).1
          have hsx : ∀ x, ex X x → x ≠ l → (W3.putObj l (mk st.1 st.2)).heap[x]? = W.heap[x]? := fun x hx hxl =>
            (World.putObj_heap_other hxl).trans ((hs3.2 x hx).trans ((World.putObj_heap_other hxl).trans (hs2.2 x hx)))
          refine ⟨hl3, ⟨hK.keep _ _ _ hk3 ((putObj_keeps _).less fun x hx => by subst hx; exact .inr hPl), hrecp W3 _ hl3w, hD _ _ h3 (fun x h5 h6 => hsx x (.inr ⟨h5, by omega⟩) (by omega)), h4⟩, ?_, fun x hx => hsx x (.inl hx) (fun e => h4 x hx (e ▸ hPl))⟩
          have h5 := hs2.1
          have h6 := (putObj_keeps (W := W2) (l := l) (mk .busy none)).size
          have h7 := hs3.1
          have h8 := (putObj_keeps (W := W3) (l := l) (mk st.1 st.2)).size
          omega
        cases e with
        | normal =>
          obtain ⟨hi3, hs3⟩ := hp
          obtain ⟨hl3, hj, hs⟩ := tail hs3 (.ready, none) _ (hI _) hi3
          exact ⟨_, _, run_endRound none hl3, .inl ⟨rfl, hj, hs⟩⟩
        | ret =>
          obtain ⟨hi3, hs3⟩ := hp
          obtain ⟨hl3, hj, hs⟩ := tail hs3 (.done, some .ret) _ (hIx .ret) hi3
          exact ⟨_, _, run_endRound (some .ret) hl3, .inr ⟨rfl, ⟨.ret, hj⟩, hs⟩⟩
        | exit id =>
          obtain ⟨hi3, hs3⟩ := hp
          obtain ⟨hl3, hj, hs⟩ := tail hs3 (.done, some (.exit id)) _ (hIx _) hi3
          exact ⟨_, _, run_endRound (some (.exit id)) hl3, .inr ⟨rfl, ⟨.exit id, hj⟩, hs⟩⟩
        | goto t => exact hp.elim
        | panic ch => exact hp.elim
        | outgrown => exact hp.elim
      | ret => exact hp.elim
      | exit id => exact hp.elim
      | goto t => exact hp.elim
      | panic ch => exact hp.elim
      | outgrown => exact hp.elim
/-- A loop over an iterator, outside all rounds. -/
theorem range_iter {P : Program} {n : Nat} {g : Operand} {ps : Array Tmp} {assign body : Code} {Q : Exit → Act → World → Prop} {a : Act} {w : World}
    {gf : Nat} {lb : Array Value} (hg : a.eval g = .func (.func gf) #[] lb) (eg : ∀ args w, (callFunc gf args).run P w = .ok (.enter gf args) w)
    {seq : List (Array Value)} {X0 : Nat → Prop} {Cap : World → Prop} (hIt : IterIn P gf lb seq X0 Cap) (hps : ∀ args ∈ seq, args.size = ps.size)
    (I : Nat → (Nat → Prop) → World → Prop) (Ix : Code → (Nat → Prop) → World → Prop) (hI : ∀ k, InvX (I k)) (hIx : ∀ c, InvX (Ix c)) (h0 : I 0 X0 w) (hcb : ∀ W, Below w.heap.size w W → Cap W)
    (R : Nat → (Nat → Prop) → Act → World → Prop) (hR : ∀ k X a' W W', R k X a' W → Keeps X W W' → R k X a' W')
    (hassign : ∀ (l k : Nat) (X : Nat → Prop) (args : Array Value) (W : World), X l → (∃ r, W.heap[l]? = some (.loop r)) → I k X W → seq[k]? = some args →
      assign.wpIn (Fence.wide.inRound l) (n - 1 - 1) P (Exit.then (fun a' W' => R k X a' W' ∧ SameX X W W') (fun _ _ _ => False)) { tmps := (ps.zip args).foldl (fun t (p, v) => t.setIfInBounds p v) a.tmps, defers := [] } W)
    (hbody : ∀ (l k : Nat) (X : Nat → Prop) (a' : Act) (W : World), X l → (∃ r, W.heap[l]? = some (.loop r)) → (∀ x, X x → x < W.heap.size) → R k X a' W → k < seq.length → body.wpIn (Fence.wide.inRound l) (n - 1 - 1) P (outX (I (k + 1) X) (fun c => Ix c X) X W) a' W)
    (hdone : ∀ (X : Nat → Prop) (W : World), X w.heap.size → I seq.length X W → W.heap[w.heap.size]? = some (.deferred (some [])) → Q .normal { a with defers := { target := .collected w.heap.size, args := #[] } :: a.defers } W)
    (hstop : ∀ (c : Code) (X : Nat → Prop) (W : World), X w.heap.size → Ix c X W → W.heap[w.heap.size]? = some (.deferred (some [])) → c.wpIn .wide n P Q { a with defers := { target := .collected w.heap.size, args := #[] } :: a.defers } W) :
    (Code.rangeFunc g ps assign body).wpIn .wide n P Q a w := by
  refine range_iter_core (.inl rfl) hg eg hIt hps [{ target := .collected w.heap.size, args := #[] }] (w.heap.size + 1) (Nat.le_succ _) (fun W => W.heap[w.heap.size]? = some (.deferred (some [])))
    (fun W W' h hs => (hs _ (Nat.le_refl _) (Nat.lt_succ_self _)).trans h) (fun fn => ?_) I Ix hI hIx h0 hcb R hR (hassign _) (hbody _)
    (fun X W hx h => hdone X W (hx _ (Nat.le_refl _) (Nat.le_succ _)) h) (fun c X W hx h => hstop c X W (hx _ (Nat.le_refl _) (Nat.le_succ _)) h)
  refine ⟨w.heap.size, _, run_enterLoop_outer _ _ _ _ _, ?_, ((Below.refl _ w).alloc (Nat.le_refl _) _).alloc (by simp) _, by simp, ?_⟩
  · have := World.alloc_heap_new (w.alloc (.deferred (some []))) (.loop { state := .ready, pending := none, fn, tmps := a.tmps, params := ps, assign, body, defers := w.heap.size })
    rwa [World.size_alloc] at this
  · exact (Below.heap_alloc _ _ _ (by simp)).trans (World.alloc_heap_new w _)
/-- A loop over an iterator, within the round of another one. -/
theorem range_iter_in {P : Program} {n l₀ : Nat} {r₀ : Loop} {g : Operand} {ps : Array Tmp} {assign body : Code} {Q : Exit → Act → World → Prop} {a : Act} {w : World} (hl₀ : w.heap[l₀]? = some (.loop r₀))
    {gf : Nat} {lb : Array Value} (hg : a.eval g = .func (.func gf) #[] lb) (eg : ∀ args w, (callFunc gf args).run P w = .ok (.enter gf args) w)
    {seq : List (Array Value)} {X0 : Nat → Prop} {Cap : World → Prop} (hIt : IterIn P gf lb seq X0 Cap) (hps : ∀ args ∈ seq, args.size = ps.size)
    (I : Nat → (Nat → Prop) → World → Prop) (Ix : Code → (Nat → Prop) → World → Prop) (hI : ∀ k, InvX (I k)) (hIx : ∀ c, InvX (Ix c)) (h0 : I 0 X0 w) (hcb : ∀ W, Below w.heap.size w W → Cap W)
    (R : Nat → (Nat → Prop) → Act → World → Prop) (hR : ∀ k X a' W W', R k X a' W → Keeps X W W' → R k X a' W')
    (hassign : ∀ (l k : Nat) (X : Nat → Prop) (args : Array Value) (W : World), X l → (∃ r, W.heap[l]? = some (.loop r)) → I k X W → seq[k]? = some args →
      assign.wpIn (Fence.wide.inRound l) (n - 1 - 1) P (Exit.then (fun a' W' => R k X a' W' ∧ SameX X W W') (fun _ _ _ => False)) { tmps := (ps.zip args).foldl (fun t (p, v) => t.setIfInBounds p v) a.tmps, defers := [] } W)
    (hbody : ∀ (l k : Nat) (X : Nat → Prop) (a' : Act) (W : World), X l → (∃ r, W.heap[l]? = some (.loop r)) → (∀ x, X x → x < W.heap.size) → R k X a' W → k < seq.length → body.wpIn (Fence.wide.inRound l) (n - 1 - 1) P (outX (I (k + 1) X) (fun c => Ix c X) X W) a' W)
    (hdone : ∀ (X : Nat → Prop) (W : World), I seq.length X W → Q .normal a W)
    (hstop : ∀ (c : Code) (X : Nat → Prop) (W : World), Ix c X W → c.wpIn (Fence.wide.inRound l₀) n P Q a W) :
    (Code.rangeFunc g ps assign body).wpIn (Fence.wide.inRound l₀) n P Q a w := by
  refine range_iter_core (.inr ⟨l₀, rfl⟩) hg eg hIt hps [] w.heap.size (Nat.le_refl _) (fun _ => True) (fun _ _ _ _ => trivial) (fun fn => ?_) I Ix hI hIx h0 hcb R hR (hassign _) (hbody _)
    (fun X W _ h _ => hdone X W h) (fun c X W _ h _ => hstop c X W h)
  exact ⟨r₀.defers, _, run_enterLoop_inner hl₀ _ _ _ _ _, World.alloc_heap_new w _, (Below.refl _ w).alloc (Nat.le_refl _) _, by simp, trivial⟩
/-- Where the loop's variables are slots alone: what the body finds. -/
def PlainR (seq : List (Array Value)) (I : Nat → (Nat → Prop) → World → Prop) (a₁ : Array Value → Act) (k : Nat) (X : Nat → Prop) (a' : Act) (W : World) : Prop := ∃ args, a' = a₁ args ∧ I k X W ∧ seq[k]? = some args
theorem plainR_keep {seq : List (Array Value)} {I : Nat → (Nat → Prop) → World → Prop} {a₁ : Array Value → Act} (hI : ∀ k, InvX (I k)) : ∀ k X a' W W', PlainR seq I a₁ k X a' W → Keeps X W W' → PlainR seq I a₁ k X a' W' :=
  fun k X _ W W' ⟨args, h1, h2, h3⟩ hk => ⟨args, h1, (hI k).keep X W W' h2 hk, h3⟩
end Go.Proofs.YticcgmegimiegaaGreatDoor
