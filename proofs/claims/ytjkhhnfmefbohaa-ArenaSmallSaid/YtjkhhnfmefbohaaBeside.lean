/- What lies beside an arena: cells, and a row of numbers that grows. -/
import Derived.Test.YtjkhhnfmefbohaaLawUse
import Derived.OwnWalkIn
import Derived.Control
namespace Go.Proofs.Ytjkhhnfmefbohaa
open Go.RowKit Go.ChangeAt Go.ChangeShapes Go.WideShapes Go.Sort

theorem owns_on0 {W W' : World} {base n : Nat} {e : TypeId} {v : Value} {xs : List Value} (h : W.ownsRow base e 1 v n xs) (hb : Below W.heap.size W W') : W'.ownsRow base e 1 v n xs := kept0 h ⟨hb.os, hb.tape, hb.output, hb.size, fun k hk _ => hb.block k hk⟩
theorem Ar.grown {K : Nat → Prop} {g : Nat} {L : List (Int × List Int)} {last : Int} {w w' : World} (h : Ar K w g L last) {row : Option Nat} (hg : w.grownBy w' row) (hr : ∀ r, row = some r → ¬ K r) : Ar K w' g L last := by
  have hne : ∀ b, K b → some b ≠ row := fun b hb e => hr b e.symm hb
  obtain ⟨es, ⟨sv, ev, m, n, D, h1, h2, h3, h4, h5, h6, h7, h8, h9, h10, h11, h12⟩, hL, hH⟩ := h
  refine ⟨es, ⟨sv, ev, m, n, D, h1.same (hg.block g h1.lt (hne g h8)), h2.kept hg ?_, h3.kept hg ?_, h4.kept hg (hne _ h9), h5, h6, h7, h8, h9, h10, h11, fun i hi => ?_⟩, hL, hH⟩
  · cases hb : sv.ownBlock with
    | none => exact .inl rfl
    | some b => exact .inr (hne b (h10 _ hb))
  · cases hb : ev.ownBlock with
    | none => exact .inl rfl
    | some b => exact .inr (hne b (h11 _ hb))
  · obtain ⟨o, ho, hpl⟩ := h12 i hi
    exact ⟨o, (hg.block i (Array.getElem?_eq_some_iff.1 ho).1 (hne i hi)).trans ho, hpl⟩
theorem row_turn {W W' : World} {K : Nat → Prop} {B n sz : Nat} {e : TypeId} {v : Value} {xs : List Value} (h : W.ownsRow B e sz v n xs) (t : Keeps K W W') (hn : ∀ b, v.ownBlock = some b → ¬ K b) : W'.ownsRow B e sz v n xs := by
  rcases h.2 with ⟨rfl, h0⟩ | ⟨g, cap, cur, rfl, hb, hg, hr⟩
  · exact ⟨h.1, .inl ⟨rfl, h0⟩⟩
  · have hgl := (Array.getElem?_eq_some_iff.1 hg).1
    exact ⟨h.1, .inr ⟨g, cap, cur, rfl, hb, (t.block g hgl (hn g rfl)).trans hg, hr⟩⟩
theorem Odd.grown {W W' : World} {row : Option Nat} (hg : W.grownBy W' row) (hr : ∀ r, row = some r → ∃ o : Obj, W.heap[r]? = some o ∧ Obj.plain o = true) : Odd W W' :=
  ⟨hg.size, fun k o hk ho => (hg.block k (Array.getElem?_eq_some_iff.1 hk).1 (fun e => by
    obtain ⟨o', hk', hp⟩ := hr k e.symm
    rw [hk] at hk'; cases hk'; rw [hp] at ho; cases ho)).trans hk⟩

/-- A block, its type, its cells. -/
abbrev Blk := Nat × TypeId × Array Value
/-- An arena; cells beside it; and a row of numbers, whose slice lies in the cell fb. -/
structure YS (S : List Blk) (fb : Nat) (K : Nat → Prop) (g : Nat) (L : List (Int × List Int)) (last : Int) (v : Value) (xs : List Int) (w W : World) : Prop where
  ar : Ar K W g L last
  cells : ∀ x ∈ S, Whole W x.1 x.2.1 x.2.2 ∧ ¬ K x.1
  nd : (S.map (·.1)).Nodup
  cell : Whole W fb 25 #[v]
  offc : ¬ K fb
  fbS : ∀ x ∈ S, x.1 ≠ fb
  fbB : w.heap.size ≤ fb
  row : W.ownsRow w.heap.size 3 1 v xs.length (xs.map (Value.int .i64))
  offr : ∀ b, v.ownBlock = some b → ¬ K b ∧ b ≠ fb ∧ ∀ x ∈ S, x.1 ≠ b
  base : ∀ i, K i → w.heap.size ≤ i
  below : Below w.heap.size w W
section
variable {S : List Blk} {fb : Nat} {K K' : Nat → Prop} {g : Nat} {L L' : List (Int × List Int)} {last last' : Int} {v : Value} {xs : List Int} {w W W' : World}
theorem YS.turn (h : YS S fb K g L last v xs w W) (t : Turn K W K' W') (hA : Ar K' W' g L' last') : YS S fb K' g L' last' v xs w W' :=
  ⟨hA, fun x hx => ⟨(h.cells x hx).1.same (t.1.block _ (h.cells x hx).1.lt (h.cells x hx).2), t.off (h.cells x hx).1.lt (h.cells x hx).2⟩, h.nd, h.cell.same (t.1.block _ h.cell.lt h.offc), t.off h.cell.lt h.offc, h.fbS, h.fbB,
    row_turn h.row t.1 (fun b e => (h.offr b e).1), fun b e => ⟨t.off (h.row.lt b e).2 (h.offr b e).1, (h.offr b e).2⟩, t.from_ h.below.size h.base, h.below.trans (t.below h.below.size h.base)⟩
theorem YS.on (h : YS S fb K g L last v xs w W) (hb : Below W.heap.size W W') : YS S fb K g L last v xs w W' := h.turn (Turn.of_below hb) (h.ar.on hb)
theorem YS.steady {B : Nat} (hB : w.heap.size ≤ B) : Steady B fun W => YS S fb K g L last v xs w W := fun W W' row h hg hr =>
  ⟨steady_ar _ _ _ _ W W' row h.ar hg hr, fun x hx => ⟨steady_whole _ _ _ W W' row (h.cells x hx).1 hg hr, (h.cells x hx).2⟩, h.nd, steady_whole _ _ _ W W' row h.cell hg hr, h.offc, h.fbS, h.fbB,
    steady_row _ _ _ _ _ _ W W' row h.row hg hr, h.offr, h.base, h.below.grown hg h.below.size (fun k e => Nat.le_trans hB (hr k e).1)⟩
theorem YS.sub {S' : List Blk} (h : YS S fb K g L last v xs w W) (hs : S'.Sublist S) : YS S' fb K g L last v xs w W :=
  ⟨h.ar, fun x hx => h.cells x (hs.subset hx), h.nd.sublist (hs.map _), h.cell, h.offc, fun x hx => h.fbS x (hs.subset hx), h.fbB, h.row, fun b e => ⟨(h.offr b e).1, (h.offr b e).2.1, fun x hx => (h.offr b e).2.2 x (hs.subset hx)⟩, h.base, h.below⟩
theorem YS.cons (h : YS S fb K g L last v xs w W) {b : Nat} {t : TypeId} {cs : Array Value} (hw : Whole W b t cs) (hk : ¬ K b) (hf : b ≠ fb) (hv : v.ownBlock ≠ some b) (hS : ∀ x ∈ S, x.1 ≠ b) : YS ((b, t, cs) :: S) fb K g L last v xs w W :=
  ⟨h.ar, fun x hx => by
    rcases List.mem_cons.1 hx with rfl | hx
    · exact ⟨hw, hk⟩
    · exact h.cells x hx, List.nodup_cons.2 ⟨fun hm => by
      obtain ⟨x, hx, he⟩ := List.mem_map.1 hm
      exact hS x hx he, h.nd⟩, h.cell, h.offc, fun x hx => by
    rcases List.mem_cons.1 hx with rfl | hx
    · exact hf
    · exact h.fbS x hx, h.fbB, h.row, fun b' e => ⟨(h.offr b' e).1, (h.offr b' e).2.1, fun x hx => by
      rcases List.mem_cons.1 hx with rfl | hx
      · intro he; subst he; exact hv e
      · exact (h.offr b' e).2.2 x hx⟩, h.base, h.below⟩
/-- .. what is new lies apart from all. -/
theorem YS.new (h : YS S fb K g L last v xs w W) (t : TypeId) (cs : Array Value) : YS ((W.heap.size, t, cs) :: S) fb K g L last v xs w (W.alloc (.cells cs t)) :=
  (h.on (below1a W _)).cons (Whole.made W t cs) (fun x => Nat.lt_irrefl _ (h.ar.kok.lt x)) (fun e => by have := h.cell.lt; omega) (fun e => by have := (h.row.lt _ e).2; omega) (fun x hx e => by have := (h.cells x hx).1.lt; omega)
/-- .. a new cell for another row. -/
theorem YS.refresh (h : YS S fb K g L last v xs w W) : YS S W.heap.size K g L last (.slice none 0 0) [] w (W.alloc (.cells #[.slice none 0 0] 25)) := by
  have hn := h.on (below1a W (.cells #[.slice none 0 0] 25))
  exact ⟨hn.ar, hn.cells, h.nd, Whole.made W _ _, fun x => Nat.lt_irrefl _ (h.ar.kok.lt x), fun x hx e => by have := (h.cells x hx).1.lt; omega, h.below.size, World.ownsRow_nil _ _ _ _, fun b e => (by cases e), h.base, hn.below⟩
theorem YS.store {S1 S2 : List Blk} {b : Nat} {t : TypeId} {u0 : Value} (h : YS (S1 ++ (b, t, #[u0]) :: S2) fb K g L last v xs w W) (hb : w.heap.size ≤ b) (u : Value) :
    YS (S1 ++ (b, t, #[u]) :: S2) fb K g L last v xs w (W.setCell ⟨b, 0, none⟩ u) ∧ Odd W (W.setCell ⟨b, 0, none⟩ u) := by
  have hm : (b, t, #[u0]) ∈ S1 ++ (b, t, #[u0]) :: S2 := by simp
  obtain ⟨h0, hk⟩ := h.cells _ hm
  have hg := grownBy_set W b 0 u
  have hnd := h.nd
  rw [List.map_append, List.map_cons, List.nodup_append] at hnd
  obtain ⟨n1, n2, n3⟩ := hnd
  have hother : ∀ x ∈ S1 ++ S2, x.1 ≠ b := fun x hx e => by
    rcases List.mem_append.1 hx with hx | hx
    · exact n3 x.1 (List.mem_map_of_mem hx) b (by simp) e
    · exact (List.nodup_cons.1 n2).1 (List.mem_map.2 ⟨x, hx, e⟩)
  have hmem : ∀ x, x ∈ S1 ++ (b, t, #[u]) :: S2 → x = (b, t, #[u]) ∨ x ∈ S1 ++ S2 := fun x hx => by
    simp only [List.mem_append, List.mem_cons] at hx ⊢
    rcases hx with hx | hx | hx
    · exact .inr (.inl hx)
    · exact .inl hx
    · exact .inr (.inr hx)
  have hback : ∀ x, x ∈ S1 ++ S2 → x ∈ S1 ++ (b, t, #[u0]) :: S2 := fun x hx => by
    simp only [List.mem_append, List.mem_cons] at hx ⊢
    rcases hx with hx | hx
    · exact .inl hx
    · exact .inr (.inr hx)
  refine ⟨⟨h.ar.set hk u, fun x hx => ?_, ?_, h.cell.beside (fun e => h.fbS _ hm e.symm) u, h.offc, fun x hx => ?_, h.fbB, h.row.kept hg ?_, fun b' e => ⟨(h.offr b' e).1, (h.offr b' e).2.1, fun x hx => ?_⟩, h.base, h.below.setCell (p := ⟨b, 0, none⟩) hb u⟩, Odd.set h0 0 u⟩
  · rcases hmem x hx with rfl | hx
    · exact ⟨h0.store 0 u, hk⟩
    · exact ⟨(h.cells x (hback x hx)).1.beside (hother x hx) u, (h.cells x (hback x hx)).2⟩
  · rw [List.map_append, List.map_cons, List.nodup_append]
    exact ⟨n1, n2, n3⟩
  · rcases hmem x hx with rfl | hx
    · exact h.fbS (b, t, #[u0]) hm
    · exact h.fbS x (hback x hx)
  · cases hv : v.ownBlock with
    | none => exact .inl rfl
    | some b' => exact .inr fun e => (h.offr b' hv).2.2 _ hm (by cases e; rfl)
  · rcases hmem x hx with rfl | hx
    · exact (h.offr b' e).2.2 (b, t, #[u0]) hm
    · exact (h.offr b' e).2.2 x (hback x hx)
theorem YS.cell2 (h : YS S fb K g L last v xs w W) {W2 : World} {o : Obj} (hg : (W.alloc o).grownBy W2 v.ownBlock) : Whole W2 fb 25 #[v] := by
  have hX := h.on (below1a W o)
  exact hX.cell.same (hg.block fb hX.cell.lt (fun e => (hX.offr fb e.symm).2.1 rfl))
theorem YS.push (h : YS S fb K g L last v xs w W) {W2 : World} {v' : Value} {x : Int} {T : TypeId} (hown : W2.ownsRow w.heap.size 3 1 v' (xs.length + 1) (xs.map (Value.int .i64) ++ [x].map (Value.int .i64))) (hg : (W.alloc (laidO [x] T)).grownBy W2 v.ownBlock)
    (hb : v'.ownBlock = v.ownBlock ∨ v'.ownBlock = some (W.alloc (laidO [x] T)).heap.size) : YS S fb K g L last v' (xs ++ [x]) w (W2.setCell ⟨fb, 0, none⟩ v') ∧ Odd W (W2.setCell ⟨fb, 0, none⟩ v') := by
  have hX := h.on (below1a W (laidO [x] T))
  have hc2 : Whole W2 fb 25 #[v] := hX.cell.same (hg.block fb hX.cell.lt (fun e => (hX.offr fb e.symm).2.1 rfl))
  have hoff : ∀ b, v'.ownBlock = some b → ¬ K b ∧ b ≠ fb ∧ ∀ x ∈ S, x.1 ≠ b := fun b e => by
    rcases hb with hb | hb
    · exact h.offr b (hb ▸ e)
    · obtain rfl : (W.alloc (laidO [x] T)).heap.size = b := by rw [hb] at e; cases e; rfl
      refine ⟨fun hk => Nat.lt_irrefl _ (hX.ar.kok.lt hk), fun e => ?_, fun y hy e => ?_⟩
      · have := hX.cell.lt; omega
      · have := (hX.cells y hy).1.lt; omega
  refine ⟨⟨(hX.ar.grown hg (fun r e => (hX.offr r e).1)).set h.offc v', fun y hy => ⟨?_, (h.cells y hy).2⟩, h.nd, hc2.store 0 v', h.offc, h.fbS, h.fbB, ?_, hoff, h.base, ?_⟩, ?_⟩
  · exact ((hX.cells y hy).1.same (hg.block y.1 (hX.cells y hy).1.lt (fun e => (hX.offr y.1 e.symm).2.2 y hy rfl))).beside (h.fbS y hy) v'
  · rw [List.length_append, List.map_append]
    refine hown.kept (grownBy_set W2 fb 0 v') ?_
    cases hv : v'.ownBlock with
    | none => exact .inl rfl
    | some b' => exact .inr fun e => (hoff b' hv).2.1 (by cases e; rfl)
  · exact (hX.below.grown hg hX.below.size (fun k e => (hX.row.lt k e).1)).setCell (p := ⟨fb, 0, none⟩) h.fbB v'
  · exact ((Odd.of_below (below1a W (laidO [x] T))).trans (Odd.grown hg (fun r e => row_plain hX.row e))).trans (Odd.set hc2 0 v')
end
/-- The block that a walk keeps for itself. -/
def boxS : Option (Nat × Array Value) → List Blk
  | some (b, cs) => [(b, 77, cs)]
  | none => []
theorem YS.link {S : List Blk} {fb : Nat} {K : Nat → Prop} {g : Nat} {L : List (Int × List Int)} {last : Int} {v : Value} {xs : List Int} {w W W' : World} {o o' : Option (Nat × Array Value)} (h : YS (boxS o ++ S) fb K g L last v xs w W)
    (hl : (o = o' ∧ Below W.heap.size W W') ∨ ∃ cs, o' = some (W.heap.size, cs) ∧ W' = W.alloc (.cells cs 77)) : YS (boxS o' ++ S) fb K g L last v xs w W' := by
  rcases hl with ⟨rfl, hb⟩ | ⟨cs, rfl, rfl⟩
  · exact h.on hb
  · exact (h.sub (List.sublist_append_right _ _)).new _ cs
theorem YS.box {S : List Blk} {fb : Nat} {g : Nat} {L : List (Int × List Int)} {last : Int} {v : Value} {xs : List Int} {w W : World} {s : AllS} (h : YS (boxS s.2.2 ++ S) fb s.2.1 g L last v xs w W) : BoxOk s W := fun b cs e => h.cells (b, _, cs) (by rw [e]; simp [boxS])

theorem wpListIn_append2 {F : Fence} {n : Nat} {P : Program} {w : World} {ops : Array Oper} {rest : List Oper} {o : Oper} {a : Act} {Q : Exit → Act → World → Prop} (hgd : o.guard = none) (s x : Operand) (t tx : TypeId)
    (ho : o.op = .call { callee := .builtin .append, args := #[s, x], argTypes := #[t, tx] }) (e : TypeId) (i : TypeInfo) (z : Value) (bytes : Nat) (ht : P.underlying t = some (.slice e)) (htx : P.underlying tx = some (.slice e)) (hi : P.info? e = some i) (hz : i.zero = some z)
    (hsize : i.size = 1) (hby : i.bytes = bytes) (hzs : z.cells.size = 1) (base : Nat) (v : Value) (m : Nat) (l : List Value) (hs : a.eval s = v) (hown : w.ownsRow base e 1 v m l)
    (k : IntKind) (B : Nat) (xv : Value) (xs : List Int) (hx : a.eval x = xv) (hI : IntsK k B w xv xs) (h63 : m + xs.length ≤ maxLen) (hbytes : (m + xs.length) * bytes ≤ 140737488355328) (hbase : base ≤ w.heap.size)
    (h : ∀ v' w', w'.ownsRow base e 1 v' (m + xs.length) (l ++ xs.map (Value.int k)) → w.grownBy w' v.ownBlock → (v'.ownBlock = v.ownBlock ∨ v'.ownBlock = some w.heap.size) → wpListIn F n P ops Q rest (a.put o.dst v') w') : wpListIn F n P ops Q (o :: rest) a w := by
  refine wpListIn_plain hgd fun K hK' => ?_
  obtain ⟨v', w', hr, h2, h3, h4⟩ := run_append2 (P := P) t tx o.type e i z bytes ht htx hi hz hsize hby hzs base v m l hown k B xv xs hI h63 hbytes hbase
  unfold Oper.wpIn
  refine ⟨?_, ?_⟩
  · simp [Oper.about, ho, resolve, Target.leads, Sem.run_pure]
  · rw [Oper.semAt_plain F _ _ (by rw [ho]; intro c hc'; cases hc')]
    simp [execOp, ho, resolve, invoke, builtin, hs, hx, hr, Result.andThen]
    exact hK' _ _ (h v' w' h2 h3 h4)

/-- A loop over an arena, and what follows: it is left by its end, or by a break. -/
theorem range_all2 {n : Nat} (hn : 2 ≤ n) {gop : Operand} {ps : Array Tmp} {assign body : Code} {j : Nat} {Kn : Act → World → Prop} {Q : Exit → Act → World → Prop} {a : Act} {w : World} {g bx : Nat}
    (hg : a.eval gop = .func (.func 43) #[] #[.pointer (some ⟨bx, 0, none⟩)]) (eg : ∀ args w, (callFunc 43 args).run Try.prog w = .ok (.enter 43 args) w) (hps : ps.size = 2)
    (Lof : List (Int × List Int) → List (Int × List Int)) (I : AllS → World → Prop) (Ix : World → Prop) (hI : ∀ s, Steady w.heap.size (I s)) (hIx : Steady w.heap.size Ix) (K0 : Nat → Prop) (h0 : I ([], K0, none) w)
    (hLk : ∀ s s' W W', AllLk s W s' W' → I s W → I s' W')
    (hA : ∀ s W, I s W → (∃ last, Ar s.2.1 W g (Lof s.1) last) ∧ W.cell? ⟨bx, 0, none⟩ = some (.pointer (some ⟨g, 0, none⟩)) ∧ BoxOk s W)
    (a₁ : Int → Value → Act)
    (hassign : ∀ (l : Nat) (id : Int) (v : Value) (W : World) (K : Act → World → Prop), K (a₁ id v) W →
      assign.wpIn (Fence.wide.inRound l) (n - 1 - 1) Try.prog (Exit.then K (fun _ _ _ => False)) { tmps := (ps.zip #[.int .i64 id, v]).foldl (fun t (p, v) => t.setIfInBounds p v) a.tmps, defers := [] } W)
    (hbody : ∀ (l : Nat) (s : AllS) (id : Int) (ls : List Int) (v : Value) (B : Nat) (W : World), I s W → nextOf (Lof s.1) (posOf s.1) = some (id, ls) → W.ownsRow B 30 1 v ls.length (ls.map (Value.int .i64)) → (∀ b, v.ownBlock = some b → ¬ s.2.1 b) →
      body.wpIn (Fence.wide.inRound l) (n - 1 - 1) Try.prog (outs (AllNx s (id, ls)) I (fun c W => c = .exit j ∧ Ix W) W) (a₁ id v) W)
    (hend : ∀ (D : Nat) (W : World), w.heap.size ≤ D → ((∃ s, nextOf (Lof s.1) (posOf s.1) = none ∧ I s W) ∨ Ix W) → W.heap[D]? = some (.deferred (some [])) → Kn { a with defers := { target := .collected D, args := #[] } :: a.defers } W) :
    (Code.rangeFunc gop ps assign body).wpIn .wide n Try.prog (Exit.inBlock j (Exit.then Kn Q)) a w := by
  refine range_all hn hg eg hps Lof I (fun c W => c = .exit j ∧ Ix W) hI (fun c => (steady_true _).and hIx) K0 h0 hLk hA a₁ hassign hbody ?_ ?_
  · intro D s W hD hx hi hd
    exact hend D W hD (.inl ⟨s, hx, hi⟩) hd
  · rintro D c W hD ⟨rfl, hi⟩ hd
    refine wpIn_exit ?_
    simp only [Exit.inBlock, if_true]
    exact hend D W hD (.inr hi) hd
end Go.Proofs.Ytjkhhnfmefbohaa
