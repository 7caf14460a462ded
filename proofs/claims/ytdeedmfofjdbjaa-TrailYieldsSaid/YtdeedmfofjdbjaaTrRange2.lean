/- A loop over a trail that may be left, and what follows. -/
import Derived.Test.YtdeedmfofjdbjaaTrRange
namespace Go.Proofs.Ytdeedmfofjdbjaa
open Go.RowKit Go.ChangeAt Go.ChangeShapes Go.WideShapes

/-- .. and what follows: it is left by its end, or by a break. -/
theorem range_lits2 {n : Nat} (hn : 2 ≤ n) {gop : Operand} {ps : Array Tmp} {assign body : Code} {j : Nat} {Kn : Act → World → Prop} {Q : Exit → Act → World → Prop} {a : Act} {w : World} {g nv bf bt : Nat} (from_ : Int) (f : Nat) (hf : max from_ 0 = (f : Int)) (hnv : nv ≤ 1048576)
    (hg : a.eval gop = .func (.func 45) #[] #[.pointer (some ⟨bf, 0, none⟩), .pointer (some ⟨bt, 0, none⟩)]) (eg : ∀ args w, (callFunc 45 args).run Try.prog w = .ok (.enter 45 args) w) (hps : ps.size = 2)
    (itf : Nat → List It) (stf : Nat → List Nat) (I : TrS → World → Prop) (Ix : World → Prop) (hI : ∀ s, Steady w.heap.size (I s)) (hIx : Steady w.heap.size Ix) (K0 : Nat → Prop) (h0 : I (0, K0) w)
    (hA : ∀ s W, I s W → TrHas g nv bt itf stf s W ∧ W.cell? ⟨bf, 0, none⟩ = some (.int .i64 from_))
    (a₁ : Int → Int → Act)
    (hassign : ∀ (l : Nat) (i x : Int) (W : World) (K : Act → World → Prop), K (a₁ i x) W →
      assign.wpIn (Fence.wide.inRound l) (n - 1 - 1) Try.prog (Exit.then K (fun _ _ _ => False)) { tmps := (ps.zip #[.int .i64 i, .int .i64 x]).foldl (fun t (p, v) => t.setIfInBounds p v) a.tmps, defers := [] } W)
    (hbody : ∀ (l : Nat) (s : TrS) (x : It) (W : World), I s W → (itf s.1)[f + s.1]? = some x →
      body.wpIn (Fence.wide.inRound l) (n - 1 - 1) Try.prog (outs (fun s' : TrS => s'.1 = s.1 + 1) I (fun c W => c = .exit j ∧ Ix W) W) (a₁ ((f + s.1 : Nat) : Int) x.lit) W)
    (hend : ∀ (D : Nat) (W : World), w.heap.size ≤ D → ((∃ s : TrS, (itf s.1).length ≤ f + s.1 ∧ I s W) ∨ Ix W) → W.heap[D]? = some (.deferred (some [])) → Kn { a with defers := { target := .collected D, args := #[] } :: a.defers } W) :
    (Code.rangeFunc gop ps assign body).wpIn .wide n Try.prog (Exit.inBlock j (Exit.then Kn Q)) a w := by
  refine range_lits hn from_ f hf hnv hg eg hps itf stf I (fun c W => c = .exit j ∧ Ix W) hI (fun c => (steady_true _).and hIx) K0 h0 hA a₁ hassign hbody ?_ ?_
  · intro D s W hD hx hi hd
    exact hend D W hD (.inl ⟨s, hx, hi⟩) hd
  · rintro D c W hD ⟨rfl, hi⟩ hd
    refine wpIn_exit ?_
    simp only [Exit.inBlock, if_true]
    exact hend D W hD (.inr hi) hd
end Go.Proofs.Ytdeedmfofjdbjaa
