/- The trail's New, Push, Assign and Back. -/
import Derived.Test.YtdeedmfofjdbjaaTrMem
import Derived.Test.YtdeedmfofjdbjaaAppend2
import Derived.StillTailTactics
import Derived.BigRegion
import Derived.Deep.RegionHeld3
import Derived.Deep.AppendLies
import Derived.Deep.RegionLaw
import Derived.Laws.MakeOwn
import Derived.Deep.DeepCutAuto
namespace Go.Proofs.Ytdeedmfofjdbjaa
open Go.RowKit Go.ChangeAt Go.ChangeShapes Go.WideShapes

theorem Whole.ne {w : World} {g b : Nat} {t t' : TypeId} {cs ds : Array Value} (h : Whole w g t cs) (h' : Whole w b t' ds) (hne : t ≠ t') : g ≠ b := by
  rintro rfl
  have h2 : w.heap[g]? = some (.cells ds t' (0, 0)) := h'
  rw [show w.heap[g]? = _ from h] at h2
  cases h2
  exact hne rfl
theorem row_plain {w : World} {base : Nat} {e : TypeId} {size n : Nat} {v : Value} {xs : List Value} (h : w.ownsRow base e size v n xs) {b : Nat} (hb : v.ownBlock = some b) : ∃ o : Obj, w.heap[b]? = some o ∧ Obj.plain o = true := by
  rcases h.2 with ⟨rfl, -⟩ | ⟨g, cap, cur, rfl, -, hh, -⟩
  · simp [Value.ownBlock] at hb
  · obtain rfl : g = b := by simpa [Value.ownBlock] using hb
    exact ⟨_, hh, rfl⟩
theorem kept0 {w w' : World} {base : Nat} {e : TypeId} {size n : Nat} {v : Value} {xs : List Value} (h : w.ownsRow base e size v n xs) (hg : w.grownBy w' none) : w'.ownsRow base e size v n xs := h.kept hg (by cases v.ownBlock <;> simp)
theorem owns_on0 {W W' : World} {base n : Nat} {e : TypeId} {v : Value} {xs : List Value} (h : W.ownsRow base e 1 v n xs) (hb : Below W.heap.size W W') : W'.ownsRow base e 1 v n xs := kept0 h ⟨hb.os, hb.tape, hb.output, hb.size, fun k hk _ => hb.block k hk⟩
/-- A trail out of its parts. -/
theorem trl_of {K Kx : Nat → Prop} {w w5 : World} {g b nv : Nat} {cs : Array Value} {m : Nat → Option (Nat × It)} {pv sv : Value} {its : List It} {st : List Nat}
    (hw : Whole w5 g 41 (trC b nv pv sv)) (hb : Whole w5 b 80 cs) (hv : VarsAt cs nv m) (hm : Maps m its) (hp : w5.ownsRow 0 36 1 pv its.length ((litsOf its).map (Value.int .i64)))
    (hs : w5.ownsRow 0 3 1 sv st.length ((stI st).map (Value.int .i64))) (hg : TG nv its st) (t : Turn K w Kx w5) (kg : Kx g) (kb : Kx b) (kp : ∀ b, pv.ownBlock = some b → Kx b) (ks : ∀ b, sv.ownBlock = some b → Kx b) :
    ∃ K', Trl K' w5 g nv its st ∧ Turn K w K' w5 := by
  refine ⟨fun i => i = g ∨ i = b ∨ pv.ownBlock = some i ∨ sv.ownBlock = some i, ⟨b, cs, m, pv, sv, hw, hb, hv, hm, hp, hs, hg, .inl rfl, .inr (.inl rfl), (fun b e => .inr (.inr (.inl e))), (fun b e => .inr (.inr (.inr e))), fun i h => ?_⟩, t.more fun i h => .inl ?_⟩
  · rcases h with rfl | rfl | e | e
    · exact ⟨_, hw, rfl⟩
    · exact ⟨_, hb, rfl⟩
    · exact row_plain hp e
    · exact row_plain hs e
  · rcases h with rfl | rfl | e | e
    · exact kg
    · exact kb
    · exact kp i e
    · exact ks i e
/-- What lies behind a row that has grown, and was put back. -/
theorem after_row {K : Nat → Prop} {w2 w3 : World} {g b gg : Nat} (i : Nat) {cs ds : Array Value} {e e' : TypeId} {r q V : Value} {n n' m : Nat} {xs ys zs : List Value}
    (hw : Whole w2 g 41 cs) (hb : Whole w2 b 80 ds) (hr : w2.ownsRow 0 e 1 r n xs) (hq : w2.ownsRow 0 e' 1 q n' ys) (hne : e ≠ e') (he : e ≠ 41) (he2 : e ≠ 80) (he' : e' ≠ 41)
    (hg : w2.grownBy w3 r.ownBlock) (hV : w3.ownsRow 0 e 1 V m zs) (hVb : ∀ j, V.ownBlock = some j → j = gg) (hat : r.ownBlock = some gg ∨ w2.heap.size ≤ gg) (hKg : K g) (hKr : ∀ b, r.ownBlock = some b → K b) :
    Whole (w3.setCell ⟨g, i, none⟩ V) g 41 (cs.setIfInBounds i V) ∧ Whole (w3.setCell ⟨g, i, none⟩ V) b 80 ds ∧ (w3.setCell ⟨g, i, none⟩ V).ownsRow 0 e' 1 q n' ys ∧ (w3.setCell ⟨g, i, none⟩ V).ownsRow 0 e 1 V m zs ∧ Turn K w2 (fun j => K j ∨ j = gg) (w3.setCell ⟨g, i, none⟩ V) := by
  have hw3 : Whole w3 g 41 cs := hw.same (hg.block g hw.lt (fun x => hw.row_ne hr he x.symm))
  have hb3 : Whole w3 b 80 ds := hb.same (hg.block b hb.lt (fun x => hb.row_ne hr he2 x.symm))
  have hq3 := hq.kept hg (rows_ne hq hr (fun x => hne x.symm))
  have hs := grownBy_set w3 g i V
  refine ⟨hw3.store i V, hb3.same (hs.block b hb3.lt (fun x => (hw3.ne hb3 (by decide)) (by injection x with x; exact x.symm))), hq3.kept hs (.inr (hw3.row_ne hq3 he')), hV.kept hs (.inr (hw3.row_ne hV he)), ?_⟩
  refine (((Turn.refl K w2).grown hg (fun r e => .inl (hKr r e))).grown hs (fun r e => by cases e; exact .inl hKg)).more fun j hj => ?_
  rcases hj with hj | rfl
  · exact .inl hj
  · rcases hat with h | h
    · exact .inl (hKr _ h)
    · exact .inr h

theorem zeros_at (nv : Nat) : VarsAt (madeCells (Value.agg #[.int .i64 0, .int .i64 0, .int .i64 0, .int .i64 0]).cells ((nv + 1) * 4)) nv (fun _ => none) := by
  have hs : (Value.agg #[.int .i64 0, .int .i64 0, .int .i64 0, .int .i64 0]).cells = #[.int .i64 0, .int .i64 0, .int .i64 0, .int .i64 0] := by rfl
  rw [hs]
  refine ⟨by rw [size_madeCells]; omega, fun v j hv hj => ?_⟩
  unfold madeCells
  rw [Array.getElem?_map, Array.getElem?_range, if_pos (by omega)]
  have h : (v * 4 + j) % 4 = j := by omega
  have hj' : j = 0 ∨ j = 1 ∨ j = 2 ∨ j = 3 := by omega
  show some (#[Value.int .i64 0, .int .i64 0, .int .i64 0, .int .i64 0][(v * 4 + j) % 4]!) = _
  rw [h]
  rcases hj' with rfl | rfl | rfl | rfl <;> rfl

set_option maxHeartbeats 400000 in
theorem new_tr (nv : Nat) (hn : nv ≤ 1048576) (w : World) : Calls Try.prog 12 #[.int .i64 (nv : Nat)] w fun r w' => ∃ g K, r = .returned (.tuple #[.pointer (some ⟨g, 0, none⟩), .int .i64 0]) ∧ Trl K w' g nv [] [] ∧ (∀ i, K i → w.heap.size ≤ i) ∧ Below w.heap.size w w' := by
  obtain ⟨i0, hi, hz0, hz1, hz2⟩ := info_parts infoVar
  have hmk : ∀ W : World, (Instr.makeSlice 38 (.int .i64 ((nv : Int) + 1)) (.int .i64 ((nv : Int) + 1))).run Try.prog W = .ok (.slice (some ⟨W.heap.size, 0, none⟩) (nv + 1) (nv + 1)) (W.alloc (.cells (madeCells (Value.agg #[.int .i64 0, .int .i64 0, .int .i64 0, .int .i64 0]).cells ((nv + 1) * 4)) 80)) := fun W => by
    have := run_make (P := Try.prog) W 38 80 i0 _ Try.underlying38 hi hz0 .i64 .i64 ((nv : Int) + 1) ((nv : Int) + 1) (by omega) (by omega) (by rw [hz2]; omega) (by omega)
    rw [hz1, show ((nv : Int) + 1).toNat = nv + 1 by omega] at this
    exact this
  have hz := zeros_at nv
  obtain ⟨zs, hzs⟩ : ∃ zs, madeCells (Value.agg #[.int .i64 0, .int .i64 0, .int .i64 0, .int .i64 0]).cells ((nv + 1) * 4) = zs := ⟨_, rfl⟩
  rw [hzs] at hmk hz
  have HZ := Lib.hid hz
  clear hzs hz
  go_enter Try.func12, Try.ntmps12
  go_wp2
  go_ret2
  have h1 : Whole ((w.alloc (.cells zs 80)).alloc (.cells (trC w.heap.size nv (.slice none 0 0) (.slice none 0 0)) 41)) (w.heap.size + 1) 41 (trC w.heap.size nv (.slice none 0 0) (.slice none 0 0)) := by
    have := Whole.made (w.alloc (.cells zs 80)) 41 (trC w.heap.size nv (.slice none 0 0) (.slice none 0 0))
    rwa [World.size_alloc] at this
  have h2 : Whole ((w.alloc (.cells zs 80)).alloc (.cells (trC w.heap.size nv (.slice none 0 0) (.slice none 0 0)) 41)) w.heap.size 80 zs := (Whole.made w 80 zs).same ((below1a _ _).block w.heap.size (by simp))
  refine ⟨w.heap.size + 1, fun i => i = w.heap.size ∨ i = w.heap.size + 1, rfl, ⟨w.heap.size, zs, fun _ => none, .slice none 0 0, .slice none 0 0, h1, h2, HZ.out, Maps.nil, World.ownsRow_nil _ _ _ _, World.ownsRow_nil _ _ _ _, TG.new hn, .inr rfl, .inl rfl, (fun b e => by cases e), (fun b e => by cases e), fun i hi => ?_⟩, (fun i hi => by omega), ((Below.refl _ _).alloc (Nat.le_refl _) _).alloc (by simp) _⟩
  rcases hi with rfl | rfl
  · exact ⟨_, h2, rfl⟩
  · exact ⟨_, h1, rfl⟩
theorem new_no (v : Int) (hn : v < 0 ∨ 1048576 < v) (w : World) : Calls Try.prog 12 #[.int .i64 v] w fun r w' => r = .returned (.tuple #[.pointer none, .int .i64 2]) ∧ w = w' := by
  rcases Int.lt_or_le v 0 with h0 | h0
  all_goals
    first | have hv' : 1048576 < v := by omega | skip
    clear hn
    go_enter Try.func12, Try.ntmps12
    go_wp2
    go_ret2
    exact ⟨rfl, rfl⟩

theorem stI_snoc (st : List Nat) (n : Nat) : stI (st ++ [n]) = stI st ++ [(n : Int)] := by simp [stI]
theorem litsOf_snoc (its : List It) (x : It) : litsOf (its ++ [x]) = litsOf its ++ [x.lit] := by simp [litsOf]
set_option maxHeartbeats 400000 in
theorem levels_tr {K : Nat → Prop} {g nv : Nat} {its : List It} {st : List Nat} (w : World) (h : Trl K w g nv its st) : Calls Try.prog 40 #[.pointer (some ⟨g, 0, none⟩)] w fun e w' => e = .returned (.int .i64 ((st.length : Int) + 1)) ∧ w = w' := by
  have hnow := now_tr w h
  have hn0 := h.good.now
  obtain ⟨n, hn⟩ : ∃ n : Int, (st.length : Int) = n := ⟨_, rfl⟩
  rw [hn] at hnow ⊢
  have s1 : IntKind.i64.wrap (n + 1) = n + 1 := IntWalk.i64_in _ (by omega)
  have HN := Lib.hid hnow
  clear hnow hn
  go_enter Try.func40, Try.ntmps40
  go_wp2_with (go_at_call 15; refine (HN.out).mono ?_; rintro e w' ⟨rfl, rfl⟩)
  go_ret
  exact ⟨rfl, rfl⟩
set_option maxRecDepth 100000 in
set_option maxHeartbeats 2000000 in
theorem push_no {K : Nat → Prop} {g nv : Nat} {its : List It} {st : List Nat} (w : World) (h : Trl K w g nv its st) (hs : 1048575 ≤ st.length) :
    Calls Try.prog 14 #[.pointer (some ⟨g, 0, none⟩)] w fun r w' => r = .returned (.int .i64 5) ∧ w = w' := by
  have HA := Lib.hid h
  have hlv := levels_tr w h
  have hn0 := h.good.now
  obtain ⟨n, hn⟩ : ∃ n : Int, (st.length : Int) = n := ⟨_, rfl⟩
  rw [hn] at hlv
  have s1 : 1048576 ≤ n + 1 := by omega
  have HN := Lib.hid hlv
  clear hlv hn h
  go_enter Try.func14, Try.ntmps14
  go_wp2_with (first
    | (go_at_call 39; refine (exists_tr _ HA.out).mono ?_; rintro e w' ⟨rfl, rfl⟩)
    | (go_at_call 40; refine (HN.out).mono ?_; rintro e w' ⟨rfl, rfl⟩))
  go_ret
  exact ⟨rfl, rfl⟩
set_option maxRecDepth 100000 in
set_option maxHeartbeats 2000000 in
theorem push_tr {K : Nat → Prop} {g nv : Nat} {its : List It} {st : List Nat} (w : World) (h : Trl K w g nv its st) (hs : st.length < 1048575) :
    Calls Try.prog 14 #[.pointer (some ⟨g, 0, none⟩)] w fun r w' => ∃ K', r = .returned (.int .i64 0) ∧ Trl K' w' g nv its (st ++ [its.length]) ∧ Turn K w K' w' := by
  have HA := Lib.hid h
  have hlen := h.good.len
  have hnv := h.good.nvmax
  have hgood := Lib.hid (h.good.push (by omega))
  obtain ⟨b, cs, m, pv, sv, h1, h2, h3, h4, h5, h6, h7, h8, h9, h10, h11, h12⟩ := h
  obtain ⟨As, cS, rfl⟩ := own_shape1 h6
  have hc2 : w.cell? ⟨g, 2, none⟩ = some (.slice As st.length cS) := h1.cell 2
  have hf2 := h1.frozen 2
  have hgl := h1.lt
  have hne : (Value.slice As st.length cS).ownBlock ≠ some g := h1.row_ne h6 (by decide)
  have HW := Lib.hid h1; have HB := Lib.hid h2; have HV := Lib.hid h3; have HM := Lib.hid h4; have HP := Lib.hid h5; have HS := Lib.hid h6; have HKp := Lib.hid h10; have HKs := Lib.hid h11
  clear h1 h2 h3 h4 h5 h6 h7 h10 h11 h12
  obtain ⟨i1, hi1, hy0, hy1, hy2⟩ := info_parts infoInt
  have hnow := now_tr w HA.out
  obtain ⟨n, hn⟩ : ∃ n : Int, (st.length : Int) = n := ⟨_, rfl⟩
  rw [hn] at hnow
  have hlv := levels_tr w HA.out
  rw [hn] at hlv
  have s1 : ¬ (1048576 ≤ n + 1) := by omega
  have HN := Lib.hid hlv; have HST := Lib.hid hs
  clear hs hnow hn hlv
  go_enter Try.func14, Try.ntmps14
  go_upto_region 5 with (first
    | (go_at_call 39; refine (exists_tr _ HA.out).mono ?_; rintro e w' ⟨rfl, rfl⟩)
    | (go_at_call 40; refine (HN.out).mono ?_; rintro e w' ⟨rfl, rfl⟩))
  go_cut [] (fun wx => ∃ K', Trl K' wx g nv its (st ++ [its.length]) ∧ Turn K w K' wx)
  case first =>
    go_region_law (first
      | (go_simp; go_at_call 18; refine (len_tr _ (HA.out.on (Below.refl _ _).drew)).mono ?_; rintro e w' ⟨rfl, rfl⟩)
      | (refine step_append_lies _ (by rfl) _ _ _ (by rfl) 0 3 i1 _ 1 8 Try.underlying27 hi1 hy0 hy1 hy2 rfl (by omega) (.slice As st.length cS) st.length ((stI st).map (Value.int .i64)) (by simp [Act.eval]) ((HS.out.alloc _).drew) ⟨w.heap.size, 0, none⟩ 1 1 [.int .i64 (its.length : Nat)] (by simp [Act.eval]) (by rfl) (World.news_of_block (cs := #[.int .i64 (its.length : Nat)]) (t := 3) (fr := (0, 0)) (heap_alloc_new w _)) (by simp [Value.oneCell']) (by omega) (by have := HST.out; unfold maxLen; omega) (by have := HST.out; omega) (Nat.zero_le _) (w.heap.size + 1) (by simp) ?_; intro gg cap w3 hown3 hgrow hat hlt; have hc3 := (hgrow.cell_far ⟨g, 2, none⟩ (by simp; omega) (Ne.symm hne)).trans (((below1a w _).cell (p := ⟨g, 2, none⟩) hgl).trans hc2); have hf3 := (hgrow.frozen_far ⟨g, 2, none⟩ (by simp; omega) (Ne.symm hne)).trans (((below1a w _).frozen (p := ⟨g, 2, none⟩) hgl).trans hf2)))
    all_goals
      have hgrow' : (w.alloc (.cells #[.int .i64 (its.length : Nat)] 3)).grownBy w3 (Value.slice As st.length cS).ownBlock := ⟨hgrow.os, hgrow.tape, hgrow.output, hgrow.size, hgrow.block⟩
      obtain ⟨a1, a2, a3, a4, a5⟩ := after_row (K := K) 2 (HW.out.same ((below1a w _).block g hgl)) (HB.out.same ((below1a w _).block b HB.out.lt)) (HS.out.alloc _) (HP.out.alloc _) (by decide) (by decide) (by decide) (by decide) hgrow' hown3 (gg := gg) (fun j e => by simpa [Value.ownBlock] using e.symm) (hat.imp id (fun x => by rw [x]; simp)) h8 HKs.out
      have hfin := trl_of (w := w) a1 a2 HV.out HM.out a3 (st := st ++ [its.length]) (by rw [show (st ++ [its.length]).length = st.length + 1 by simp, stI_snoc, List.map_append]; exact a4) hgood.out ((Turn.of_below (below1a w _)).trans a5) (.inl h8) (.inl h9) (fun j e => .inl (HKp.out j e)) (fun j e => .inr (by simpa [Value.ownBlock] using e.symm))
      have HF := Lib.hid hfin
      clear a1 a2 a3 a4 a5 hfin hgrow'
      go_simp
      go_wp2_with fail
      go_meet
      exact HF.out
  case rest =>
    obtain ⟨K', hA, hT⟩ := hcut
    go_wp2_with fail
    go_ret
    exact ⟨K', rfl, hA, hT⟩

theorem wpList_append_lies {P : Program} {w : World} {ops : Array Oper} {rest : List Oper} {o : Oper} {a : Act} {Q : Exit → Act → World → Prop} (hgd : o.guard = none) (s x : Operand) (t : TypeId)
    (ho : o.op = .call { callee := .builtin .append, args := #[s, x], argTypes := #[t, t] })
    (base : Nat) (e : TypeId) (i : TypeInfo) (z : Value) (size bytes : Nat) (ht : P.underlying t = some (.slice e)) (hi : P.info? e = some i) (hz : i.zero = some z)
    (hsize : i.size = size) (hby : i.bytes = bytes) (hzs : z.cells.size = size) (hsz : 0 < size)
    (v : Value) (n : Nat) (xs : List Value) (hs : a.eval s = v) (hown : w.ownsRow base e size v n xs)
    (ad : Addr) (m c : Nat) (news : List Value) (hx : a.eval x = .slice (some ad) m c) (hl : news.length = m * size) (hnews : ∀ j u, news[j]? = some u → w.cell? (ad.add j) = some u) (h1 : ∀ u ∈ news, u.oneCell' = true)
    (hm : 0 < m) (h63 : n + m ≤ maxLen) (hbytes : (n + m) * bytes ≤ 140737488355328) (hbase : base ≤ w.heap.size) (H : Nat) (hH : w.heap.size = H)
    (h : ∀ g cap w', w'.ownsRow base e size (.slice (some ⟨g, 0, none⟩) (n + m) cap) (n + m) (xs ++ news) → w.grownBy w' v.ownBlock → (v.ownBlock = some g ∨ g = H) → g < w'.heap.size → wpList P ops Q rest (a.put o.dst (.slice (some ⟨g, 0, none⟩) (n + m) cap)) w') : wpList P ops Q (o :: rest) a w :=
  wpList_plain hgd fun _ hK => wp_append_lies w s x t ho base e i z size bytes ht hi hz hsize hby hzs hsz v n xs hs hown ad m c news hx hl hnews h1 hm h63 hbytes hbase H hH fun g cap w' h2 h3 h4 h5 => hK _ _ (h g cap w' h2 h3 h4 h5)
/-- A variable's cells are written. -/
theorem after_var {K : Nat → Prop} {w : World} {g b : Nat} {cs ds : Array Value} {pv sv : Value} {n k : Nat} {xs ys : List Value} (hw : Whole w g 41 cs) (hb : Whole w b 80 ds) (hp : w.ownsRow 0 36 1 pv n xs) (hs : w.ownsRow 0 3 1 sv k ys) (hKb : K b) (v : Nat) (o : Option (Nat × It)) :
    ∃ w', w' = (((w.setCell ⟨b, v * 4, none⟩ (.int .i64 (fld o 0))).setCell ⟨b, v * 4 + 1, none⟩ (.int .i64 (fld o 1))).setCell ⟨b, v * 4 + 2, none⟩ (.int .i64 (fld o 2))).setCell ⟨b, v * 4 + 3, none⟩ (.int .i64 (fld o 3)) ∧
      Whole w' g 41 cs ∧ Whole w' b 80 (set4 ds v o) ∧ w'.ownsRow 0 36 1 pv n xs ∧ w'.ownsRow 0 3 1 sv k ys ∧ Turn K w K w' := by
  refine ⟨_, rfl, ?_⟩
  have hgb : g ≠ b := hw.ne hb (by decide)
  have step : ∀ (W : World) (es : Array Value) (i : Nat) (u : Value), Whole W g 41 cs → Whole W b 80 es → W.ownsRow 0 36 1 pv n xs → W.ownsRow 0 3 1 sv k ys → Turn K w K W →
      Whole (W.setCell ⟨b, i, none⟩ u) g 41 cs ∧ Whole (W.setCell ⟨b, i, none⟩ u) b 80 (es.setIfInBounds i u) ∧ (W.setCell ⟨b, i, none⟩ u).ownsRow 0 36 1 pv n xs ∧ (W.setCell ⟨b, i, none⟩ u).ownsRow 0 3 1 sv k ys ∧ Turn K w K (W.setCell ⟨b, i, none⟩ u) := by
    intro W es i u h1 h2 h3 h4 h5
    have hg := grownBy_set W b i u
    exact ⟨h1.same (hg.block g h1.lt (fun x => hgb (by injection x))), h2.store i u, h3.kept hg (.inr (h2.row_ne h3 (by decide))), h4.kept hg (.inr (h2.row_ne h4 (by decide))), h5.grown hg (fun r e => by cases e; exact .inl hKb)⟩
  obtain ⟨a1, a2, a3, a4, a5⟩ := step w ds (v * 4) (.int .i64 (fld o 0)) hw hb hp hs (Turn.refl K w)
  obtain ⟨b1, b2, b3, b4, b5⟩ := step _ _ (v * 4 + 1) (.int .i64 (fld o 1)) a1 a2 a3 a4 a5
  obtain ⟨c1, c2, c3, c4, c5⟩ := step _ _ (v * 4 + 2) (.int .i64 (fld o 2)) b1 b2 b3 b4 b5
  exact step _ _ (v * 4 + 3) (.int .i64 (fld o 3)) c1 c2 c3 c4 c5
end Go.Proofs.Ytdeedmfofjdbjaa
