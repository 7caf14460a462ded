/- What lies beside a trail: cells, and a row of literals that grows. -/
import Derived.Test.YtdeedmfofjdbjaaTrRange
import Derived.OwnWalkIn
import Derived.Control
namespace Go.Proofs.Ytdeedmfofjdbjaa
open Go.RowKit Go.ChangeAt Go.ChangeShapes Go.WideShapes Go.Sort

theorem Trl.set {K : Nat → Prop} {W : World} {g nv b i : Nat} {its : List It} {st : List Nat} (h : Trl K W g nv its st) (hk : ¬ K b) (u : Value) : Trl K (W.setCell ⟨b, i, none⟩ u) g nv its st := h.grown (grownBy_set W b i u) (fun r e => by cases e; exact hk)
theorem Whole.beside {w : World} {g b i : Nat} {t : TypeId} {cs : Array Value} (h : Whole w g t cs) (hne : g ≠ b) (u : Value) : Whole (w.setCell ⟨b, i, none⟩ u) g t cs := h.same ((grownBy_set w b i u).block g h.lt (fun e => hne (by injection e)))
theorem row_turn {W W' : World} {K : Nat → Prop} {B n sz : Nat} {e : TypeId} {v : Value} {xs : List Value} (h : W.ownsRow B e sz v n xs) (t : Keeps K W W') (hn : ∀ b, v.ownBlock = some b → ¬ K b) : W'.ownsRow B e sz v n xs := by
  rcases h.2 with ⟨rfl, h0⟩ | ⟨g, cap, cur, rfl, hb, hg, hr⟩
  · exact ⟨h.1, .inl ⟨rfl, h0⟩⟩
  · have hgl := (Array.getElem?_eq_some_iff.1 hg).1
    exact ⟨h.1, .inr ⟨g, cap, cur, rfl, hb, (t.block g hgl (hn g rfl)).trans hg, hr⟩⟩
theorem Odd.grown {W W' : World} {row : Option Nat} (hg : W.grownBy W' row) (hr : ∀ r, row = some r → ∃ o : Obj, W.heap[r]? = some o ∧ Obj.plain o = true) : Odd W W' :=
  ⟨hg.size, fun k o hk ho => (hg.block k (Array.getElem?_eq_some_iff.1 hk).1 (fun e => by
    obtain ⟨o', hk', hp⟩ := hr k e.symm
    rw [hk] at hk'; cases hk'; rw [hp] at ho; cases ho)).trans hk⟩
abbrev laidO (xs : List Int) (T : TypeId) : Obj := .cells ((xs.map (Value.int .i64)).toArray) T
theorem ints_laid (W : World) (xs : List Int) (T : TypeId) : Ints (W.alloc (laidO xs T)).heap.size (W.alloc (laidO xs T)) (.slice (some ⟨W.heap.size, 0, none⟩) xs.length xs.length) xs := (lits_laid W xs T).ints

/-- A block, its type, its cells. -/
abbrev Blk := Nat × TypeId × Array Value
/-- A trail that has come from another world; cells beside it; and a row of literals, whose slice lies in the cell fb. -/
structure TY (S : List Blk) (fb : Nat) (K1 : Nat → Prop) (w1 : World) (K : Nat → Prop) (g nv : Nat) (its : List It) (st : List Nat) (v : Value) (xs : List Int) (W : World) : Prop where
  tr : Trl K W g nv its st
  trn : Turn K1 w1 K W
  cells : ∀ x ∈ S, Whole W x.1 x.2.1 x.2.2 ∧ ¬ K x.1
  nd : (S.map (·.1)).Nodup
  cell : Whole W fb 39 #[v]
  offc : ¬ K fb
  fbS : ∀ x ∈ S, x.1 ≠ fb
  fbB : w1.heap.size ≤ fb
  row : W.ownsRow w1.heap.size 36 1 v xs.length (xs.map (Value.int .i64))
  offr : ∀ b, v.ownBlock = some b → ¬ K b ∧ b ≠ fb ∧ ∀ x ∈ S, x.1 ≠ b
section
variable {S : List Blk} {fb : Nat} {K1 K K' : Nat → Prop} {g nv : Nat} {its its' : List It} {st st' : List Nat} {v : Value} {xs : List Int} {w1 W W' : World}
theorem TY.turn (h : TY S fb K1 w1 K g nv its st v xs W) (t : Turn K W K' W') (hA : Trl K' W' g nv its' st') : TY S fb K1 w1 K' g nv its' st' v xs W' :=
  ⟨hA, h.trn.trans t, fun x hx => ⟨(h.cells x hx).1.same (t.1.block _ (h.cells x hx).1.lt (h.cells x hx).2), t.off (h.cells x hx).1.lt (h.cells x hx).2⟩, h.nd, h.cell.same (t.1.block _ h.cell.lt h.offc), t.off h.cell.lt h.offc, h.fbS, h.fbB,
    row_turn h.row t.1 (fun b e => (h.offr b e).1), fun b e => ⟨t.off (h.row.lt b e).2 (h.offr b e).1, (h.offr b e).2⟩⟩
theorem TY.on (h : TY S fb K1 w1 K g nv its st v xs W) (hb : Below W.heap.size W W') : TY S fb K1 w1 K g nv its st v xs W' := h.turn (Turn.of_below hb) (h.tr.on hb)
theorem TY.steady {B : Nat} (hB : w1.heap.size ≤ B) : Steady B fun W => TY S fb K1 w1 K g nv its st v xs W := fun W W' row h hg hr =>
  ⟨steady_trl _ _ _ _ _ W W' row h.tr hg hr, steady_turn _ _ _ hB W W' row h.trn hg hr, fun x hx => ⟨steady_whole _ _ _ W W' row (h.cells x hx).1 hg hr, (h.cells x hx).2⟩, h.nd, steady_whole _ _ _ W W' row h.cell hg hr, h.offc, h.fbS, h.fbB,
    steady_row _ _ _ _ _ _ W W' row h.row hg hr, h.offr⟩
theorem TY.sub {S' : List Blk} (h : TY S fb K1 w1 K g nv its st v xs W) (hs : S'.Sublist S) : TY S' fb K1 w1 K g nv its st v xs W :=
  ⟨h.tr, h.trn, fun x hx => h.cells x (hs.subset hx), h.nd.sublist (hs.map _), h.cell, h.offc, fun x hx => h.fbS x (hs.subset hx), h.fbB, h.row, fun b e => ⟨(h.offr b e).1, (h.offr b e).2.1, fun x hx => (h.offr b e).2.2 x (hs.subset hx)⟩⟩
theorem TY.cons (h : TY S fb K1 w1 K g nv its st v xs W) {b : Nat} {t : TypeId} {cs : Array Value} (hw : Whole W b t cs) (hk : ¬ K b) (hf : b ≠ fb) (hv : v.ownBlock ≠ some b) (hS : ∀ x ∈ S, x.1 ≠ b) : TY ((b, t, cs) :: S) fb K1 w1 K g nv its st v xs W :=
  ⟨h.tr, h.trn, fun x hx => by
    rcases List.mem_cons.1 hx with rfl | hx
    · exact ⟨hw, hk⟩
    · exact h.cells x hx, List.nodup_cons.2 ⟨fun hm => by
      obtain ⟨x, hx, he⟩ := List.mem_map.1 hm
      exact hS x hx he, h.nd⟩, h.cell, h.offc, fun x hx => by
    rcases List.mem_cons.1 hx with rfl | hx
    · exact hf
    · exact h.fbS x hx, h.fbB, h.row, fun b' e => ⟨(h.offr b' e).1, (h.offr b' e).2.1, fun x hx => by
      rcases List.mem_cons.1 hx with rfl | hx
      · intro he; subst he; exact hv e
      · exact (h.offr b' e).2.2 x hx⟩⟩
/-- .. what is new lies apart from all. -/
theorem TY.new (h : TY S fb K1 w1 K g nv its st v xs W) (t : TypeId) (cs : Array Value) : TY ((W.heap.size, t, cs) :: S) fb K1 w1 K g nv its st v xs (W.alloc (.cells cs t)) :=
  (h.on (below1a W _)).cons (Whole.made W t cs) (fun x => Nat.lt_irrefl _ (h.tr.kok.lt x)) (fun e => by have := h.cell.lt; omega) (fun e => by have := (h.row.lt _ e).2; omega) (fun x hx e => by have := (h.cells x hx).1.lt; omega)
/-- A trail, and a new cell for a row. -/
theorem ty_start (hA : Trl K W g nv its st) (ht : Turn K1 w1 K W) : TY [] W.heap.size K1 w1 K g nv its st (.slice none 0 0) [] (W.alloc (.cells #[.slice none 0 0] 39)) :=
  ⟨hA.on (below1a W _), ht.trans (Turn.of_below (below1a W _)), (fun x hx => by cases hx), List.nodup_nil, Whole.made W _ _, fun x => Nat.lt_irrefl _ (hA.kok.lt x), (fun x hx => by cases hx), ht.1.size, World.ownsRow_nil _ _ _ _, fun b e => by cases e⟩
theorem TY.store {S1 S2 : List Blk} {b : Nat} {t : TypeId} {u0 : Value} (h : TY (S1 ++ (b, t, #[u0]) :: S2) fb K1 w1 K g nv its st v xs W) (hb : w1.heap.size ≤ b) (u : Value) :
    TY (S1 ++ (b, t, #[u]) :: S2) fb K1 w1 K g nv its st v xs (W.setCell ⟨b, 0, none⟩ u) ∧ Odd W (W.setCell ⟨b, 0, none⟩ u) := by
  have hm : (b, t, #[u0]) ∈ S1 ++ (b, t, #[u0]) :: S2 := by simp
  obtain ⟨h0, hk⟩ := h.cells _ hm
  have hg := grownBy_set W b 0 u
  have hnd := h.nd
  rw [List.map_append, List.map_cons, List.nodup_append] at hnd
  obtain ⟨n1, n2, n3⟩ := hnd
  have hother : ∀ x ∈ S1 ++ S2, x.1 ≠ b := fun x hx e => by
    rcases List.mem_append.1 hx with hx | hx
    · exact n3 x.1 (List.mem_map_of_mem hx) b (by simp) e
    · exact (List.nodup_cons.1 n2).1 (List.mem_map.2 ⟨x, hx, e⟩)
  have hmem : ∀ x, x ∈ S1 ++ (b, t, #[u]) :: S2 → x = (b, t, #[u]) ∨ x ∈ S1 ++ S2 := fun x hx => by
    simp only [List.mem_append, List.mem_cons] at hx ⊢
    rcases hx with hx | hx | hx
    · exact .inr (.inl hx)
    · exact .inl hx
    · exact .inr (.inr hx)
  have hback : ∀ x, x ∈ S1 ++ S2 → x ∈ S1 ++ (b, t, #[u0]) :: S2 := fun x hx => by
    simp only [List.mem_append, List.mem_cons] at hx ⊢
    rcases hx with hx | hx
    · exact .inl hx
    · exact .inr (.inr hx)
  refine ⟨⟨h.tr.set hk u, ⟨h.trn.1.setCell (p := ⟨b, 0, none⟩) (.inr hb) u, h.trn.2⟩, fun x hx => ?_, ?_, h.cell.beside (fun e => h.fbS _ hm e.symm) u, h.offc, fun x hx => ?_, h.fbB, h.row.kept hg ?_, fun b' e => ⟨(h.offr b' e).1, (h.offr b' e).2.1, fun x hx => ?_⟩⟩, Odd.set h0 0 u⟩
  · rcases hmem x hx with rfl | hx
    · exact ⟨h0.store 0 u, hk⟩
    · exact ⟨(h.cells x (hback x hx)).1.beside (hother x hx) u, (h.cells x (hback x hx)).2⟩
  · rw [List.map_append, List.map_cons, List.nodup_append]
    exact ⟨n1, n2, n3⟩
  · rcases hmem x hx with rfl | hx
    · exact h.fbS (b, t, #[u0]) hm
    · exact h.fbS x (hback x hx)
  · cases hv : v.ownBlock with
    | none => exact .inl rfl
    | some b' => exact .inr fun e => (h.offr b' hv).2.2 _ hm (by cases e; rfl)
  · rcases hmem x hx with rfl | hx
    · exact (h.offr b' e).2.2 (b, t, #[u0]) hm
    · exact (h.offr b' e).2.2 x (hback x hx)
theorem TY.cell2 (h : TY S fb K1 w1 K g nv its st v xs W) {W2 : World} {o : Obj} (hg : (W.alloc o).grownBy W2 v.ownBlock) : Whole W2 fb 39 #[v] := by
  have hX := h.on (below1a W o)
  exact hX.cell.same (hg.block fb hX.cell.lt (fun e => (hX.offr fb e.symm).2.1 rfl))
theorem TY.push (h : TY S fb K1 w1 K g nv its st v xs W) {W2 : World} {v' : Value} {x : Int} {T : TypeId} (hown : W2.ownsRow w1.heap.size 36 1 v' (xs.length + 1) (xs.map (Value.int .i64) ++ [x].map (Value.int .i64))) (hg : (W.alloc (laidO [x] T)).grownBy W2 v.ownBlock)
    (hb : v'.ownBlock = v.ownBlock ∨ v'.ownBlock = some (W.alloc (laidO [x] T)).heap.size) : TY S fb K1 w1 K g nv its st v' (xs ++ [x]) (W2.setCell ⟨fb, 0, none⟩ v') ∧ Odd W (W2.setCell ⟨fb, 0, none⟩ v') := by
  have hX := h.on (below1a W (laidO [x] T))
  have hc2 : Whole W2 fb 39 #[v] := hX.cell.same (hg.block fb hX.cell.lt (fun e => (hX.offr fb e.symm).2.1 rfl))
  have hoff : ∀ b, v'.ownBlock = some b → ¬ K b ∧ b ≠ fb ∧ ∀ x ∈ S, x.1 ≠ b := fun b e => by
    rcases hb with hb | hb
    · exact h.offr b (hb ▸ e)
    · obtain rfl : (W.alloc (laidO [x] T)).heap.size = b := by rw [hb] at e; cases e; rfl
      refine ⟨fun hk => Nat.lt_irrefl _ (hX.tr.kok.lt hk), fun e => ?_, fun y hy e => ?_⟩
      · have := hX.cell.lt; omega
      · have := (hX.cells y hy).1.lt; omega
  refine ⟨⟨(hX.tr.grown hg (fun r e => (hX.offr r e).1)).set h.offc v', ?_, fun y hy => ⟨?_, (h.cells y hy).2⟩, h.nd, hc2.store 0 v', h.offc, h.fbS, h.fbB, ?_, hoff⟩, ?_⟩
  · exact ⟨((hX.trn.1.grown hg (fun k e => .inr (hX.row.lt k e).1)).setCell (p := ⟨fb, 0, none⟩) (.inr h.fbB) v'), hX.trn.2⟩
  · exact ((hX.cells y hy).1.same (hg.block y.1 (hX.cells y hy).1.lt (fun e => (hX.offr y.1 e.symm).2.2 y hy rfl))).beside (h.fbS y hy) v'
  · rw [List.length_append, List.map_append]
    refine hown.kept (grownBy_set W2 fb 0 v') ?_
    cases hv : v'.ownBlock with
    | none => exact .inl rfl
    | some b' => exact .inr fun e => (hoff b' hv).2.1 (by cases e; rfl)
  · exact ((Odd.of_below (below1a W (laidO [x] T))).trans (Odd.grown hg (fun r e => row_plain hX.row e))).trans (Odd.set hc2 0 v')
end
theorem wpListIn_append2 {F : Fence} {n : Nat} {P : Program} {w : World} {ops : Array Oper} {rest : List Oper} {o : Oper} {a : Act} {Q : Exit → Act → World → Prop} (hgd : o.guard = none) (s x : Operand) (t tx : TypeId)
    (ho : o.op = .call { callee := .builtin .append, args := #[s, x], argTypes := #[t, tx] }) (e : TypeId) (i : TypeInfo) (z : Value) (bytes : Nat) (ht : P.underlying t = some (.slice e)) (htx : P.underlying tx = some (.slice e)) (hi : P.info? e = some i) (hz : i.zero = some z)
    (hsize : i.size = 1) (hby : i.bytes = bytes) (hzs : z.cells.size = 1) (base : Nat) (v : Value) (m : Nat) (l : List Value) (hs : a.eval s = v) (hown : w.ownsRow base e 1 v m l)
    (k : IntKind) (B : Nat) (xv : Value) (xs : List Int) (hx : a.eval x = xv) (hI : IntsK k B w xv xs) (h63 : m + xs.length ≤ maxLen) (hbytes : (m + xs.length) * bytes ≤ 140737488355328) (hbase : base ≤ w.heap.size)
    (h : ∀ v' w', w'.ownsRow base e 1 v' (m + xs.length) (l ++ xs.map (Value.int k)) → w.grownBy w' v.ownBlock → (v'.ownBlock = v.ownBlock ∨ v'.ownBlock = some w.heap.size) → wpListIn F n P ops Q rest (a.put o.dst v') w') : wpListIn F n P ops Q (o :: rest) a w := by
  refine wpListIn_plain hgd fun K hK' => ?_
  obtain ⟨v', w', hr, h2, h3, h4⟩ := run_append2 (P := P) t tx o.type e i z bytes ht htx hi hz hsize hby hzs base v m l hown k B xv xs hI h63 hbytes hbase
  unfold Oper.wpIn
  refine ⟨?_, ?_⟩
  · simp [Oper.about, ho, resolve, Target.leads, Sem.run_pure]
  · rw [Oper.semAt_plain F _ _ (by rw [ho]; intro c hc'; cases hc')]
    simp [execOp, ho, resolve, invoke, builtin, hs, hx, hr, Result.andThen]
    exact hK' _ _ (h v' w' h2 h3 h4)
end Go.Proofs.Ytdeedmfofjdbjaa
