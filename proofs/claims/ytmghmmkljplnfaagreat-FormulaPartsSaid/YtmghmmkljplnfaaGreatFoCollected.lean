/- salvorlaw05.collected. -/
import Derived.Test.YtmghmmkljplnfaaGreatFoSteps
import Derived.Deep.AppendLies
namespace Go.Proofs.YtmghmmkljplnfaaGreat
open Go.RowKit Go.ChangeAt Go.ChangeShapes Go.WideShapes Go.Sort

attribute [local go_sem] Oper.semAt_some

theorem wpListIn_append_lies {F : Fence} {n' : Nat} {P : Program} (w : World) {ops : Array Oper} {rest : List Oper} {o : Oper} {a : Act} {Q : Exit → Act → World → Prop} (hgd : o.guard = none) (s x : Operand) (t : TypeId)
    (ho : o.op = .call { callee := .builtin .append, args := #[s, x], argTypes := #[t, t] })
    (base : Nat) (e : TypeId) (i : TypeInfo) (z : Value) (size bytes : Nat) (ht : P.underlying t = some (.slice e)) (hi : P.info? e = some i) (hz : i.zero = some z)
    (hsize : i.size = size) (hby : i.bytes = bytes) (hzs : z.cells.size = size) (hsz : 0 < size)
    (v : Value) (n : Nat) (xs : List Value) (hs : a.eval s = v) (hown : w.ownsRow base e size v n xs)
    (ad : Addr) (m c : Nat) (news : List Value) (hx : a.eval x = .slice (some ad) m c) (hl : news.length = m * size) (hnews : ∀ j u, news[j]? = some u → w.cell? (ad.add j) = some u) (h1 : ∀ u ∈ news, u.oneCell' = true)
    (hm : 0 < m) (h63 : n + m ≤ maxLen) (hbytes : (n + m) * bytes ≤ 140737488355328) (hbase : base ≤ w.heap.size) (H : Nat) (hH : w.heap.size = H)
    (h : ∀ g cap w', w'.ownsRow base e size (.slice (some ⟨g, 0, none⟩) (n + m) cap) (n + m) (xs ++ news) → w.grownBy w' v.ownBlock → (v.ownBlock = some g ∨ g = H) → g < w'.heap.size → wpListIn F n' P ops Q rest (a.put o.dst (.slice (some ⟨g, 0, none⟩) (n + m) cap)) w') : wpListIn F n' P ops Q (o :: rest) a w := by
  refine wpListIn_plain hgd fun K hK' => ?_
  obtain ⟨g, cap, w', hr, h2, h3, h4, h5⟩ := run_append_lies (P := P) w t o.type base e i z size bytes ht hi hz hsize hby hzs hsz v n xs hown ad m c news hl hnews h1 hm h63 hbytes hbase H hH
  unfold Oper.wpIn
  refine ⟨?_, ?_⟩
  · simp [Oper.about, ho, resolve, Target.leads, Sem.run_pure]
  · rw [Oper.semAt_plain F _ _ (by rw [ho]; intro c hc'; cases hc')]
    simp [execOp, ho, resolve, invoke, builtin, hs, hx, hr, Result.andThen]
    exact hK' _ _ (h g cap w' h2 h3 h4 h5)

theorem cell_plain {W : World} {b i : Nat} {v : Value} (h : W.cell? ⟨b, i, none⟩ = some v) : ∃ o : Obj, W.heap[b]? = some o ∧ Obj.plain o = true := by
  have hb := World.block_lt_of_cell? W _ h
  obtain ⟨o, ho⟩ : ∃ o, W.heap[b]? = some o := ⟨_, Array.getElem?_eq_getElem hb⟩
  refine ⟨o, ho, ?_⟩
  cases o <;> simp [World.cell?, ho] at h <;> rfl
theorem steady_rowF {B : Nat} (K : Nat → Prop) (sv : Value) (xs : List Value) : Steady B fun W => RowF K W sv xs := fun W W' row h hg hr => by
  rcases h with e | ⟨b, off, cap, e, hl, hn, hc⟩
  · exact .inl e
  · refine .inr ⟨b, off, cap, e, Nat.lt_of_lt_of_le hl hg.size, hn, fun j hj => ?_⟩
    obtain ⟨h1, h2⟩ := hc j hj
    rw [List.getElem?_eq_getElem hj] at h1
    obtain ⟨o, ho, hp⟩ := cell_plain h1
    have hb := hg.block b hl (odd_ne hr ho hp)
    rw [List.getElem?_eq_getElem hj]
    exact ⟨(World.cell?_of_block hb).trans h1, (World.frozen?_of_block hb).trans h2⟩
theorem steady_ownRows {B : Nat} (e : TypeId) (C : Nat) (v : Value) (L : List (List Value)) : Steady B fun W => OwnRows e C W v L := fun W W' row h hg hr => by
  obtain ⟨svs, h1, h2, h3⟩ := h
  refine ⟨svs, steady_row _ _ _ _ _ _ W W' row h1 hg hr, h2, fun j xs hx => ?_⟩
  obtain ⟨sv, a, b⟩ := h3 j xs hx
  exact ⟨sv, a, steady_rowF _ _ _ W W' row b hg hr⟩
theorem MdAt.more {n : Nat} {L : List (List Int)} {bf bv g cf B B' : Nat} {W : World} (h : MdAt n L bf bv g cf B W) (hB : B ≤ B') (hs : B' ≤ W.heap.size) : MdAt n L bf bv g cf B' W := by
  obtain ⟨h1, h2, h3, h4, h5, h6, h7⟩ := h
  exact ⟨h1, h2, h3, by omega, by omega, by omega, hs⟩
/-- An append of one row to a row of rows whose slice lies in the cell fb. -/
theorem rows_push {T e : TypeId} {fb base B1 n gg cap : Nat} {v sv : Value} {svs xs : List Value} {L : List (List Value)} {wr w7 : World} (o : Obj) (hw : Whole wr fb T #[v]) (hrow : wr.ownsRow base e 1 v n svs) (hin : InRows base wr v svs L) (hfb : fb < base) (hB1 : B1 ≤ fb) (hbs : base ≤ wr.heap.size)
    (hsv : RowF (fun i => v.ownBlock = some i ∨ i < base) wr sv xs) (hg7 : (wr.alloc o).grownBy w7 v.ownBlock) (ho7 : w7.ownsRow base e 1 (.slice (some ⟨gg, 0, none⟩) (n + 1) cap) (n + 1) (svs ++ [sv])) (hloc : v.ownBlock = some gg ∨ gg = (wr.alloc o).heap.size) (hn : n = L.length) :
    Whole w7 fb T #[v] ∧ Whole (w7.setCell ⟨fb, 0, none⟩ (.slice (some ⟨gg, 0, none⟩) (n + 1) cap)) fb T #[.slice (some ⟨gg, 0, none⟩) (n + 1) cap] ∧ OwnRows e base (w7.setCell ⟨fb, 0, none⟩ (.slice (some ⟨gg, 0, none⟩) (n + 1) cap)) (.slice (some ⟨gg, 0, none⟩) (n + 1) cap) (L ++ [xs]) ∧
      Odd wr (w7.setCell ⟨fb, 0, none⟩ (.slice (some ⟨gg, 0, none⟩) (n + 1) cap)) ∧ Below B1 wr (w7.setCell ⟨fb, 0, none⟩ (.slice (some ⟨gg, 0, none⟩) (n + 1) cap)) ∧ (∀ b, b < base → b ≠ fb → (w7.setCell ⟨fb, 0, none⟩ (.slice (some ⟨gg, 0, none⟩) (n + 1) cap)).heap[b]? = wr.heap[b]?) := by
  have hb := below1a wr o
  have hne : ∀ b, b < base → some b ≠ v.ownBlock := fun b hb e => by have := (hrow.lt b e.symm).1; omega
  have hw6 := whole_alloc hw o
  have hw7 : Whole w7 fb T #[v] := whole_grown hg7 (hne fb hfb) hw6
  have hpush := inRows_push (v' := .slice (some ⟨gg, 0, none⟩) (n + 1) cap) hin hb (hsv.on hb) hg7 (by
    rcases hloc with h | h
    · exact .inl h.symm
    · exact .inr (by rw [← h]; rfl))
  have ho : OwnRows e base w7 (.slice (some ⟨gg, 0, none⟩) (n + 1) cap) (L ++ [xs]) := ⟨svs ++ [sv], by rw [List.length_append, List.length_singleton, ← hn]; exact ho7, hpush⟩
  refine ⟨hw7, hw7.store 0 _, ho.kept (K := fun i => i = fb) ((Keeps.refl (fun i => i = fb) w7).setCell (p := ⟨fb, 0, none⟩) (.inl rfl) _) (fun i h => by omega), ?_, ?_, ?_⟩
  · refine ((Odd.of_below hb).trans ⟨hg7.size, fun k o' hk hp => ?_⟩).trans (Odd.set hw7 0 _)
    refine (hg7.block k (Array.getElem?_eq_some_iff.1 hk).1 (fun e => ?_)).trans hk
    obtain ⟨o2, h1, h2⟩ := row_plain hrow e.symm
    have hlt := (Array.getElem?_eq_some_iff.1 h1).1
    rw [hb.block k hlt, h1] at hk
    cases hk
    rw [h2] at hp; cases hp
  · exact (((Below.refl B1 wr).alloc (by omega) o).grown hg7 (by simp; omega) (fun k e => by have := (hrow.lt k e).1; omega)).setCell (p := ⟨fb, 0, none⟩) hB1 _
  · intro b hb' hn'
    refine (Below.heap_setCell _ _ _ _ hn').trans ((hg7.block b (by simp; omega) (hne b hb')).trans (hb.block b (by omega)))

/-! ### collected -/
theorem run_equalIn_fn_nil {P : Program} (w : World) (d : Nat) (t : TypeId) {x y : Array TypeId} {b : Bool} (f : Fn) (ts env : Array Value) (h : P.underlying t = some (.func x y b)) :
    (Op.equalIn (d + 1) t (.func f ts env) .nilFunc).run P w = .ok false w := by
  simp [Op.equalIn, run_underlying h]
theorem eql_fn_nil (W : World) (env : Array Value) : (binOp .eql 76 (.func (.func 72) #[] env) .nilFunc).run Tryz.prog W = .ok (.bool false) W := by
  simp only [binOp]
  simp [Op.equal, Op.maxDepth, run_equalIn_fn_nil W 9999 _ _ _ env Tryz.underlying76]
theorem rowF_row {e : TypeId} {B n : Nat} {K : Nat → Prop} {W : World} {sv : Value} {xs : List Value} (h : W.ownsRow B e 1 sv n xs) (hK : ∀ g, sv.ownBlock = some g → ¬ K g) : RowF K W sv xs := by
  have hl : xs.length = n := by simpa using h.1
  rcases h.2 with ⟨rfl, h0⟩ | ⟨g, cap, cur, rfl, hb, hg, hn, hm, hs, ht⟩
  · subst h0
    exact .inl ⟨_, _, rfl, fun _ => rfl, List.eq_nil_of_length_eq_zero hl⟩
  · refine .inr ⟨g, 0, cap, by rw [hl], (h.lt g rfl).2, hK g rfl, fun j hj => ?_⟩
    rw [Nat.zero_add]
    exact ⟨h.cellAt j (by omega), h.frozenAt j⟩
def boolsL (ms : List (List Bool)) : List (List Value) := ms.map (List.map Value.bool)
def CoI (n : Nat) (L : List (List Int)) (bf bv g cf fb : Nat) (w : World) (s : Nat) (W : World) : Prop :=
  MdAt n L bf bv g cf fb W ∧ fb + 1 ≤ W.heap.size ∧ Below w.heap.size w W ∧ Whole W (w.heap.size + 1) 46 #[.slice none 0 0] ∧ Whole W (w.heap.size + 1 + 1) 4 #[.bool false] ∧ ∃ v, Whole W fb 46 #[v] ∧ OwnRows 25 (fb + 1) W v (boolsL ((modelsB n L).take s))
theorem steady_coI {B0 : Nat} (n : Nat) (L : List (List Int)) (bf bv g cf fb : Nat) (w : World) (hB : fb ≤ B0) (hw : w.heap.size ≤ B0) (s : Nat) : Steady B0 (CoI n L bf bv g cf fb w s) :=
  (steady_md _ _ _ _ _ _ _ hB).and ((steady_size _).and ((steady_below' w hw).and ((steady_whole _ _ _).and ((steady_whole _ _ _).and (steady_ex fun _ => (steady_whole _ _ _).and (steady_ownRows _ _ _ _))))))
theorem res_col {WF : World} {b : Nat} {v1 v2 : Value} {t1 t2 : TypeId} {a0 a1 a2 a3 a4 a5 a6 a7 a8 a9 a10 a11 a12 a13 a14 a15 a16 a17 a18 a19 a20 a21 a22 a23 a24 a25 a26 : Value} (h1 : Whole WF (b + 1) t1 #[v1]) (h2 : Whole WF (b + 1 + 1) t2 #[v2]) :
    (results Tryz.f16 #[a0, a1, .pointer (some ⟨b + 1, 0, none⟩), .pointer (some ⟨b + 1 + 1, 0, none⟩), a2, a3, a4, a5, a6, a7, a8, a9, a10, a11, a12, a13, a14, a15, a16, a17, a18, a19, a20, a21, a22, a23, a24, a25, a26]).run Tryz.prog WF = .ok (.tuple #[v1, v2]) WF := by
  have q1 : WF.cell? ⟨b + 1, 0, none⟩ = some v1 := h1.cell 0
  have q2 : WF.cell? ⟨b + 1 + 1, 0, none⟩ = some v2 := h2.cell 0
  simp [results, Tryz.f16, go_sem, q1, q2]
theorem infoBools : (Tryz.prog.info? 25).map (fun i => (i.zero, i.size, i.bytes)) = some (some (.slice none 0 0), 1, 24) := by kernel_rfl
set_option maxRecDepth 100000 in
set_option maxHeartbeats 4000000 in
theorem collected_in {C : Nat} {v : Value} {L : List (List Int)} (n : Nat) (hn8 : n ≤ 8) (w : World) (hC : C ≤ w.heap.size) (hz : ∀ zs ∈ L, zs.length ≤ 1000000) (hL : RowsL C w v L) (hok : (chkI (n : Int) L).2 = 0) :
    CallsIn .wide 4 Tryz.prog 16 #[.agg #[.int .i64 (n : Nat), v]] w fun e w' => ∃ v', e = .returned (.tuple #[v', .bool true]) ∧ OwnRows 25 w.heap.size w' v' (boolsL (modelsB n L)) ∧ Below w.heap.size w w' := by
  have h256 := Nat.le_trans (models_count n L) (Nat.pow_le_pow_right (by omega) hn8 : 2 ^ n ≤ 2 ^ 8)
  obtain ⟨A, cap, rfl, -⟩ := rowsL_shape hL
  have b1 := below1a w (.cells #[.int .i64 (n : Nat), .slice A L.length cap] 24)
  have m1 := fo_new w (n : Nat) (.slice A L.length cap) 24
  have hmo : ∀ W, Below w.heap.size w W → Calls Tryz.prog 36 #[.agg #[.int .i64 (n : Nat), .slice A L.length cap]] W _ := fun W hb => models_ok n (by omega) W (Nat.le_trans hC hb.size) hz (hL.below (hb.mono hC)) hok
  have HMo := Lib.hid hmo; have HB := Lib.hid b1
  clear hmo hL hz hok
  refine callsIn_of_wp_marks Tryz.func16 rfl trivial ?_ rfl
  simp only [Tryz.ntmps16, List.size_toArray, List.length_cons, List.length_nil, Nat.reduceAdd, Nat.reduceSub, Array.replicate_succ, Array.replicate_zero, List.push_toArray, List.append_toArray, List.nil_append, List.cons_append]
  gi_wp2_with fail
  have hb1 : Below w.heap.size w (((w.alloc (.cells #[.int .i64 (n : Nat), .slice A L.length cap] 24)).alloc (.cells #[.slice none 0 0] 46)).alloc (.cells #[.bool false] 4)) := ((b1.alloc (by simp) _).alloc (by simp; omega) _)
  have n1 := Whole.made (w.alloc (.cells #[.int .i64 (n : Nat), .slice A L.length cap] 24)) 46 #[.slice none 0 0]
  have n2 := Whole.made ((w.alloc (.cells #[.int .i64 (n : Nat), .slice A L.length cap] 24)).alloc (.cells #[.slice none 0 0] 46)) 4 #[.bool false]
  have n1 := n1.same ((below1a _ (.cells #[.bool false] 4)).block _ n1.lt)
  simp only [World.size_alloc] at n1 n2
  obtain ⟨w4, hw4⟩ : ∃ y, ((w.alloc (.cells #[.int .i64 (n : Nat), .slice A L.length cap] 24)).alloc (.cells #[.slice none 0 0] 46)).alloc (.cells #[.bool false] 4) = y := ⟨_, rfl⟩
  rw [hw4] at hb1 n1 n2 ⊢
  have HB4 := Lib.hid hb1; have HN1 := Lib.hid n1; have HN2 := Lib.hid n2
  clear hw4 hb1 n1 n2 b1 m1
  refine ⟨trivial, ?_⟩
  refine (callsIn_wide.2 (HMo.out w4 HB4.out)).mono ?_
  rintro e w5 ⟨bf, bv, g, cf, rfl, hmd, hb5⟩
  have n1 := HN1.out.same (hb5.block _ HN1.out.lt)
  have n2 := HN2.out.same (hb5.block _ HN2.out.lt)
  have HM := Lib.hid hmd; have HB5 := Lib.hid (below_cat HB4.out hb5); have HO1 := Lib.hid n1; have HO2 := Lib.hid n2
  have hnf := eql_fn_nil
  clear hmd hb5 n1 n2 HN1 HN2 HMo HB4 HB
  gi_wp2_with fail
  have hb6 := below1a w5 (.cells #[.slice none 0 0] 46)
  have n3 := Whole.made w5 46 #[.slice none 0 0]
  have n1 := HO1.out.same (hb6.block _ HO1.out.lt)
  have n2 := HO2.out.same (hb6.block _ HO2.out.lt)
  have hmd := HM.out.below hb6
  have hlw : w.heap.size + 1 + 1 < w5.heap.size := HO2.out.lt
  have H0 : Hid (CoI n L bf bv g cf w5.heap.size w 0 (w5.alloc (.cells #[.slice none 0 0] 46))) := Lib.hid ⟨hmd, by simp, below_cat HB5.out hb6, n1, n2, _, n3, ownRows_nil _ _ _⟩
  obtain ⟨fb, hfb⟩ : ∃ x, w5.heap.size = x := ⟨_, rfl⟩
  have hs6 : (w5.alloc (.cells #[.slice none 0 0] 46)).heap.size = fb + 1 := by rw [← hfb]; simp
  obtain ⟨w6, hw6⟩ : ∃ x, w5.alloc (.cells #[.slice none 0 0] 46) = x := ⟨_, rfl⟩
  rw [hw6] at hs6 H0 ⊢
  rw [hfb] at H0 hlw ⊢
  have HS6 := Lib.hid hs6
  clear n1 n2 n3 hmd hb6 hw6 hfb hs6 HM HB5 HO1 HO2
  refine range_models (by omega) n (by omega) L bf bv g cf (fb + 1) rfl rfl (CoI n L bf bv g cf fb w) (fun _ _ => False)
    (steady_coI n L bf bv g cf fb w (by rw [HS6.out]; omega) (by rw [HS6.out]; omega)) (fun _ => steady_true False)
    H0.out (fun s W h => h.1.more (Nat.le_succ _) h.2.1)
    (fun v => { tmps := #[.agg #[.int .i64 (n : Nat), .slice A L.length cap], .pointer (some ⟨w.heap.size, 0, none⟩), .pointer (some ⟨w.heap.size + 1, 0, none⟩), .pointer (some ⟨w.heap.size + 1 + 1, 0, none⟩),
      .func (.func 72) #[] #[.pointer (some ⟨bf, 0, none⟩), .pointer (some ⟨bv, 0, none⟩)], .int .i64 0, .pointer (some ⟨fb, 0, none⟩), v, .tuple #[.func (.func 72) #[] #[.pointer (some ⟨bf, 0, none⟩), .pointer (some ⟨bv, 0, none⟩)], .int .i64 0],
      .agg #[.int .i64 (n : Nat), .slice A L.length cap], .tuple #[.func (.func 72) #[] #[.pointer (some ⟨bf, 0, none⟩), .pointer (some ⟨bv, 0, none⟩)], .int .i64 0], .func (.func 72) #[] #[.pointer (some ⟨bf, 0, none⟩), .pointer (some ⟨bv, 0, none⟩)], .int .i64 0, .int .i64 0, .bool false, .bool false,
      .func (.func 72) #[] #[.pointer (some ⟨bf, 0, none⟩), .pointer (some ⟨bv, 0, none⟩)], .bool false, .bool false, .func (.func 72) #[] #[.pointer (some ⟨bf, 0, none⟩), .pointer (some ⟨bv, 0, none⟩)], v, undef, undef, undef, undef, undef, undef, undef, undef], defers := [] }) ?assign ?body ?done ?stop
  case assign =>
    intro l v W K hK
    clear hlw H0
    gi_wp2_with fail
    exact hK
  case body =>
    rintro l s x v W ⟨hmd, hBs, hbw, h1, h2, vo, hfo, hown⟩ hx hrow
    have hsl := (List.getElem?_eq_some_iff.1 hx).1
    have htk : boolsL ((modelsB n L).take (s + 1)) = boolsL ((modelsB n L).take s) ++ [x.map Value.bool] := by
      unfold boolsL
      rw [List.take_add_one, hx, List.map_append]; rfl
    have hlen : (boolsL ((modelsB n L).take s)).length = s := by unfold boolsL; rw [List.length_map, List.length_take]; omega
    obtain ⟨svs, hro, hin⟩ := hown
    rw [hlen] at hro
    obtain ⟨Ao, co, rfl⟩ := own_shape0 hro
    obtain ⟨Av, cv, rfl⟩ := own_shape0 hrow
    have hs255 : s ≤ 255 := by omega
    have c0 : W.cell? ⟨fb, 0, none⟩ = some (.slice Ao s co) := hfo.cell 0
    have hsv : RowF (fun i => (Value.slice Ao s co).ownBlock = some i ∨ i < fb + 1) W (.slice Av n cv) (x.map Value.bool) := rowF_row hrow fun g hg h => by
      rcases h with h | h
      · rcases rows_ne hrow hro (by decide) with e | e
        · rw [e] at hg; cases hg
        · exact e (hg.trans h.symm)
      · have := (hrow.lt g hg).1; omega
    have hpu := fun (gg cap7 : Nat) (w7 : World) a b c => rows_push (B1 := fb) (gg := gg) (cap := cap7) (w7 := w7) (.cells #[.slice Av n cv] 25) hfo hro hin (Nat.lt_succ_self _) (Nat.le_refl _) hBs hsv a b c hlen.symm
    obtain ⟨i0, hi, hz0, hz1, hz2⟩ := info_parts infoBools
    have HPu := Lib.hid hpu; have HRo := Lib.hid hro; have HTk := Lib.hid htk; have HMd := Lib.hid hmd; have HBw := Lib.hid hbw; have HR := Lib.hid (And.intro h1 h2)
    have hWs := hBs
    clear hmd hbw h1 h2 hfo hin hro hx hrow hpu htk hlen hsv H0 hBs
    gi_wp2_with (gi_at_builtin; refine wpListIn_append_lies _ rfl _ _ 46 rfl (fb + 1) 25 i0 (.slice none 0 0) 1 24 Tryz.underlying46 hi hz0 hz1 hz2 rfl (by decide) _ s svs rfl (HRo.out.alloc _) _ 1 1 [.slice Av n cv] rfl rfl (World.news_of_block (cs := #[.slice Av n cv]) (t := 25) (fr := (0, 0)) (heap_alloc_new _ _)) (by simp [Value.oneCell']) (by decide) (by unfold maxLen; omega) (by omega) (by simp; omega) _ rfl ?_; intro gg cap7 w7 hown7 hg7 hloc hl7; have hP := HPu.out gg cap7 w7 hg7 hown7 hloc; have c7 : w7.cell? ⟨fb, 0, none⟩ = some (.slice Ao s co) := hP.1.cell 0; have f7 := hP.1.frozen 0; have HP := Lib.hid hP; clear hP hown7 hg7 hloc)
    obtain ⟨-, p2, p3, p4, p5, p6⟩ := HP.out
    have hlt1 := HR.out.1.lt
    have hlt2 := HR.out.2.lt
    refine ⟨p4, s + 1, rfl, HMd.out.below p5, Nat.le_trans hWs p4.size, HBw.out.trans (p5.mono (by omega)), HR.out.1.same (p6 _ (by omega) (by omega)), HR.out.2.same (p6 _ (by omega) (by omega)), _, p2, ?_⟩
    rw [HTk.out]
    exact p3
  case done =>
    rintro D W hD ⟨hmd, hBs, hbw, h1, h2, vo, hfo, hown⟩ hd
    rw [List.take_length] at hown
    obtain ⟨Ao, co, rfl⟩ := hown.len
    have c0 : W.cell? ⟨fb, 0, none⟩ = some (.slice Ao (boolsL (modelsB n L)).length co) := hfo.cell 0
    have c1 : W.cell? ⟨w.heap.size + 1, 0, none⟩ = some (.slice none 0 0) := h1.cell 0
    have c2 : W.cell? ⟨w.heap.size + 1 + 1, 0, none⟩ = some (.bool false) := h2.cell 0
    have f1 := h1.frozen 0
    have f2 := h2.frozen 0
    have HH1 := Lib.hid h1; have HH2 := Lib.hid h2; have HBw := Lib.hid hbw; have HOw := Lib.hid hown
    clear hmd h1 h2 hbw hown hfo H0
    gi_wp2_with fail
    have k1 := ((HH1.out.store 0 (.slice Ao (boolsL (modelsB n L)).length co)).beside (b := w.heap.size + 1 + 1) (i := 0) (by omega) (.bool true))
    have k2 := (HH2.out.beside (b := w.heap.size + 1) (i := 0) (by omega) (.slice Ao (boolsL (modelsB n L)).length co)).store 0 (.bool true)
    have hd' := Odd.trans (Odd.set HH1.out 0 (.slice Ao (boolsL (modelsB n L)).length co)) (Odd.set (HH2.out.beside (b := w.heap.size + 1) (i := 0) (by omega) (.slice Ao (boolsL (modelsB n L)).length co)) 0 (.bool true))
    have hd3 := hd'.same D _ hd rfl
    refine ⟨by simp, .inl ⟨_, _, rfl, run_takeDeferred hd3, ?_⟩⟩
    have q1 := (steady_whole (B := w6.heap.size) _ _ _).put (.deferred none) k1 hD hd3 rfl
    have q2 := (steady_whole (B := w6.heap.size) _ _ _).put (.deferred none) k2 hD hd3 rfl
    have hbw := ((HBw.out.setCell (p := ⟨w.heap.size + 1, 0, none⟩) (by simp) (.slice Ao (boolsL (modelsB n L)).length co)).setCell (p := ⟨w.heap.size + 1 + 1, 0, none⟩) (by simp; omega) (.bool true))
    have hbf := (steady_below' (B := w6.heap.size) w (by have := HS6.out; omega)).put (.deferred none) hbw hD hd3 rfl
    have hks := ((Keeps.refl (fun i => i < fb + 1) W).setCell (p := ⟨w.heap.size + 1, 0, none⟩) (.inl (by show w.heap.size + 1 < fb + 1; omega)) (.slice Ao (boolsL (modelsB n L)).length co)).setCell (p := ⟨w.heap.size + 1 + 1, 0, none⟩) (.inl (by show w.heap.size + 1 + 1 < fb + 1; omega)) (.bool true)
    have hro := (steady_ownRows (B := w6.heap.size) _ _ _ _).put (.deferred none) (HOw.out.kept hks fun i h => h) hD hd3 rfl
    refine ⟨.tuple #[.slice Ao (boolsL (modelsB n L)).length co, .bool true], ?_, .slice Ao (boolsL (modelsB n L)).length co, rfl, hro.less (by omega), hbf⟩
    clear hd3 hd' hbf hbw hro hks k1 k2
    generalize World.putObj _ D (.deferred none) = WF at q1 q2 ⊢
    exact res_col q1 q2
  case stop =>
    rintro D c W hD h
    exact h.elim
end Go.Proofs.YtmghmmkljplnfaaGreat
