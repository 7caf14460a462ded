/- The reference's Delete. -/
import Derived.Test.YtjkhhnfmefbohaaRefAr
import Derived.Maps.AppendAt
import Derived.OwnWalk
namespace Go.Proofs.Ytjkhhnfmefbohaa
open Go.RowKit Go.ChangeAt Go.ChangeShapes Go.WideShapes Go.Sort

theorem infoEntry : (Try.prog.info? 88).map (fun i => (i.zero, i.size, i.bytes)) = some (some (.agg #[.int .i64 0, .slice none 0 0]), 2, 32) := by kernel_rfl
/-- append of a row to another one. -/
theorem run_append3 {P : Program} {w : World} (t ty e : TypeId) (i : TypeInfo) (z : Value) (size bytes : Nat) (ht : P.underlying t = some (.slice e)) (hi : P.info? e = some i) (hz : i.zero = some z)
    (hsize : i.size = size) (hby : i.bytes = bytes) (hzs : z.cells.size = size) (hsz : 0 < size) (base : Nat) (v : Value) (n : Nat) (l : List Value) (hown : w.ownsRow base e size v n l)
    (base' : Nat) (xv : Value) (m : Nat) (xs : List Value) (hsrc : w.ownsRow base' e size xv m xs) (h1 : ∀ u ∈ xs, u.oneCell' = true) (h63 : n + m ≤ maxLen) (hbytes : (n + m) * bytes ≤ 140737488355328) (hbase : base ≤ w.heap.size) :
    ∃ v' w', (Builtin.append_ #[t, t] ty #[v, xv]).run P w = .ok v' w' ∧ w'.ownsRow base e size v' (n + m) (l ++ xs) ∧ w.grownBy w' v.ownBlock ∧ (v'.ownBlock = v.ownBlock ∨ v'.ownBlock = some w.heap.size) := by
  have hxl := hsrc.1
  rcases hsrc.2 with ⟨rfl, rfl⟩ | ⟨g, cap, cur, rfl, hr⟩
  · have hx0 : xs = [] := List.eq_nil_of_length_eq_zero (by omega)
    subst hx0
    exact ⟨_, w, run_append_owned_none (P := P) (w := w) base t ty e i size ht hi v n l hown, by simpa using hown, ⟨rfl, rfl, rfl, Nat.le_refl _, fun _ _ _ => rfl⟩, .inl rfl⟩
  · obtain ⟨v', w', hrun, h2, h3, _, h5⟩ := run_append_own_at (P := P) w base t ty e i z size bytes ht hi hz hsize hby hzs hsz _ n l hown ⟨g, 0, none⟩ m cap xs hxl (fun j u hj => hsrc.cells (g := g) rfl j u hj) h1 h63 hbytes hbase
    exact ⟨v', w', hrun, h2, h3, h5⟩
theorem wpList_append3 {P : Program} {w : World} {ops : Array Oper} {rest : List Oper} {o : Oper} {a : Act} {Q : Exit → Act → World → Prop} (hgd : o.guard = none) (s x : Operand) (t : TypeId)
    (ho : o.op = .call { callee := .builtin .append, args := #[s, x], argTypes := #[t, t] }) (e : TypeId) (i : TypeInfo) (z : Value) (size bytes : Nat) (ht : P.underlying t = some (.slice e)) (hi : P.info? e = some i) (hz : i.zero = some z)
    (hsize : i.size = size) (hby : i.bytes = bytes) (hzs : z.cells.size = size) (hsz : 0 < size) (base : Nat) (v : Value) (n : Nat) (l : List Value) (hs : a.eval s = v) (hown : w.ownsRow base e size v n l)
    (base' : Nat) (xv : Value) (m : Nat) (xs : List Value) (hx : a.eval x = xv) (hsrc : w.ownsRow base' e size xv m xs) (h1 : ∀ u ∈ xs, u.oneCell' = true) (h63 : n + m ≤ maxLen) (hbytes : (n + m) * bytes ≤ 140737488355328) (hbase : base ≤ w.heap.size)
    (h : ∀ v' w', w'.ownsRow base e size v' (n + m) (l ++ xs) → w.grownBy w' v.ownBlock → (v'.ownBlock = v.ownBlock ∨ v'.ownBlock = some w.heap.size) → wpList P ops Q rest (a.put o.dst v') w') : wpList P ops Q (o :: rest) a w :=
  wpList_plain hgd fun _ hK => by
    obtain ⟨v', w', hr, h2, h3, h4⟩ := run_append3 (P := P) t o.type e i z size bytes ht hi hz hsize hby hzs hsz base v n l hown base' xv m xs hsrc h1 h63 hbytes hbase
    unfold Oper.wp execOp
    simp only [ho, resolve, invoke, builtin, Sem.run_bind, Sem.run_pure, Result.andThen_ok, List.map_toArray, List.map_cons, List.map_nil, hs, hx, hr]
    exact hK _ _ (h v' w' h2 h3 h4)
theorem refV_one : ∀ (L : List (Int × List Int)) (vs : List Value), (∀ v ∈ vs, v.oneCell' = true) → ∀ u ∈ refV L vs, u.oneCell' = true
  | [], _, _, _, h => by simp [refV] at h
  | _ :: _, [], _, _, h => by simp [refV] at h
  | p :: L, v :: vs, hv, u, h => by
    simp only [refV, List.mem_cons] at h
    rcases h with rfl | rfl | h
    · rfl
    · exact hv _ (by simp)
    · exact refV_one L vs (fun x hx => hv x (by simp [hx])) u h
theorem RefRow.one {C : Nat} {W : World} {L : List (Int × List Int)} {vs : List Value} (hl : vs.length = L.length) (h : ∀ (j : Nat) (p : Int × List Int) (v : Value), L[j]? = some p → vs[j]? = some v → Ints C W v p.2) : ∀ v ∈ vs, v.oneCell' = true := fun v hv => by
  obtain ⟨j, hj⟩ := List.mem_iff_getElem?.1 hv
  have hjl := (List.getElem?_eq_some_iff.1 hj).1
  obtain ⟨A, c, rfl, -⟩ := ints_shape (h j _ v (List.getElem?_eq_getElem (by omega)) hj)
  simp [Value.oneCell']
theorem RefRow.base {B B' C : Nat} {W : World} {av : Value} {L : List (Int × List Int)} (h : RefRow B C W av L) (hb : B' ≤ B) : RefRow B' C W av L := by
  obtain ⟨vs, hl, hr, hv⟩ := h
  exact ⟨vs, hl, owns_mono hr hb, hv⟩
theorem RefRow.push {B C : Nat} {W W' : World} {av' : Value} {L : List (Int × List Int)} {p : Int × List Int} {v : Value} {vs : List Value} (hl : vs.length = L.length) (hv : ∀ (j : Nat) (p : Int × List Int) (v : Value), L[j]? = some p → vs[j]? = some v → Ints C W v p.2)
    (hb : Below C W W') (hp : Ints C W' v p.2) (hr : W'.ownsRow B 88 2 av' (L.length + 1) (refV L vs ++ [.int .i64 p.1, v])) : RefRow B C W' av' (L ++ [p]) := by
  refine ⟨vs ++ [v], by simp [hl], ?_, fun j q u h1 h2 => ?_⟩
  · rw [refV_app L vs p v hl, List.length_append]
    exact hr
  · rcases Nat.lt_or_ge j L.length with h | h
    · rw [List.getElem?_append_left h] at h1
      rw [List.getElem?_append_left (by omega)] at h2
      exact (hv j q u h1 h2).below hb
    · have hj : j = L.length := by
        have := (List.getElem?_eq_some_iff.1 h1).1
        rw [List.length_append] at this
        simp at this
        omega
      subst hj
      rw [List.getElem?_append_right (Nat.le_refl _)] at h1
      rw [← hl, List.getElem?_append_right (Nat.le_refl _)] at h2
      simp at h1 h2
      subst h1 h2
      exact hp

theorem Whole.store2 {w : World} {b : Nat} {t : TypeId} {u0 u1 : Value} (x : Whole w b t #[u0, u1]) (v0 v1 : Value) :
    w.cell? ⟨b, 0, none⟩ = some u0 ∧ w.cell? ⟨b, 1, none⟩ = some u1 ∧ w.frozen? ⟨b, 0, none⟩ = false ∧ w.frozen? ⟨b, 1, none⟩ = false ∧ (w.setCell ⟨b, 0, none⟩ v0).frozen? ⟨b, 1, none⟩ = false ∧ (w.setCell ⟨b, 0, none⟩ v0).cell? ⟨b, 1, none⟩ = some u1 ∧
      ((w.setCell ⟨b, 0, none⟩ v0).setCell ⟨b, 1, none⟩ v1).cell? ⟨b, 0, none⟩ = some v0 ∧ ((w.setCell ⟨b, 0, none⟩ v0).setCell ⟨b, 1, none⟩ v1).cell? ⟨b, 1, none⟩ = some v1 ∧ Whole ((w.setCell ⟨b, 0, none⟩ v0).setCell ⟨b, 1, none⟩ v1) b t #[v0, v1] := by
  have y := (x.store 0 v0).store 1 v1
  exact ⟨x.cell 0, x.cell 1, x.frozen 0, x.frozen 1, (x.store 0 v0).frozen 1, (x.store 0 v0).cell 1, y.cell 0, y.cell 1, y⟩
theorem Whole.at_other {w : World} {b c : Nat} {t : TypeId} {cs : Array Value} (h : Whole w b t cs) (hne : b ≠ c) (i : Nat) (u : Value) : Whole (w.setCell ⟨c, i, none⟩ u) b t cs := h.same (Below.heap_setCell _ _ _ _ hne)

/-! ### Delete -/
set_option maxRecDepth 100000 in
set_option maxHeartbeats 2000000 in
theorem del_ref_no {B C : Nat} {av : Value} {L : List (Int × List Int)} {last : Int} (id : Int) (w : World) (hCw : C ≤ w.heap.size) (h : RefRow B C w av L) (hL : L.length ≤ 1073741824) (hn : ∀ p ∈ L, p.1 ≠ id) :
    Calls Try.prog 31 #[.agg #[av, .int .i64 last], .int .i64 id] w fun r w' => r = .returned (.tuple #[.agg #[av, .int .i64 last], .int .i64 30]) ∧ Below w.heap.size w w' := by
  obtain ⟨A, cap, rfl, -, -⟩ := h.at_
  have hw := whereI_no hn
  have b1 := below1a w (.cells #[.slice A L.length cap, .int .i64 last] 65)
  have b2 := below1a (w.alloc (.cells #[.slice A L.length cap, .int .i64 last] 65)) (.cells #[.slice none 0 0, .int .i64 0] 65)
  have bb := b1.trans (b2.mono b1.size)
  have m1 := (Whole.made w 65 #[.slice A L.length cap, .int .i64 last]).same (b2.block _ (by simp))
  have m2 := Whole.made (w.alloc (.cells #[.slice A L.length cap, .int .i64 last] 65)) 65 #[.slice none 0 0, .int .i64 0]
  rw [World.size_alloc] at m2
  have hf := find_ref (last := last) id _ (h.on hCw bb) hL
  rw [hw] at hf
  have HF := Lib.hid hf; have M1 := Lib.hid m1; have M2 := Lib.hid m2; have BB := Lib.hid bb
  have c0 := m1.cell 0
  have c1 := m1.cell 1
  clear h hw b1 b2 bb m1 m2 hf hn
  go_enter Try.func31, Try.ntmps31
  go_wp2_with fail
  refine (HF.out).mono ?_
  rintro r w1 ⟨rfl, hB⟩
  have x1 := M1.out.same (hB.block _ M1.out.lt)
  have x2 := M2.out.same (hB.block _ M2.out.lt)
  have hb1 := BB.out.trans (hB.mono BB.out.size)
  have c10 : w1.cell? ⟨w.heap.size, 0, none⟩ = some (.slice A L.length cap) := x1.cell 0
  have c11 : w1.cell? ⟨w.heap.size, 1, none⟩ = some (.int .i64 last) := x1.cell 1
  obtain ⟨d10, d11, f10, f11, g1, h1, e0, e1, -⟩ := x2.store2 (.slice A L.length cap) (.int .i64 last)
  have HBf := Lib.hid ((hb1.setCell (p := ⟨w.heap.size + 1, 0, none⟩) (by show w.heap.size ≤ w.heap.size + 1; omega) (.slice A L.length cap)).setCell (p := ⟨w.heap.size + 1, 1, none⟩) (by show w.heap.size ≤ w.heap.size + 1; omega) (.int .i64 last))
  clear HF M1 M2 BB hB x1 x2 hb1
  go_wp2_with fail
  exact bodyPost_ret (v := .tuple #[.agg #[.slice A L.length cap, .int .i64 last], .int .i64 30]) (by simp [results, Try.results31, go_sem, e0, e1]) rfl ⟨rfl, HBf.out⟩
def DelRel (C : Nat) (L : List (Int × List Int)) (id : Int) (w : World) (o i : Value) (wr : World) : Prop :=
  ∃ (j : Nat) (v : Value), j ≤ L.length ∧ o = v ∧ i = .int .i64 j ∧ RefRow w.heap.size C wr v ((L.take j).filter fun p => decide (p.1 ≠ id)) ∧ Below w.heap.size w wr
theorem del_pre_yes {L : List (Int × List Int)} {id : Int} {j : Nat} {p : Int × List Int} (h : L[j]? = some p) (hp : p.1 ≠ id) : ((L.take (j + 1)).filter fun p => decide (p.1 ≠ id)) = ((L.take j).filter fun p => decide (p.1 ≠ id)) ++ [p] := by
  obtain ⟨hl, rfl⟩ := List.getElem?_eq_some_iff.1 h
  rw [List.take_succ_eq_append_getElem hl, List.filter_append]
  congr 1
  rw [List.filter_cons_of_pos (p := fun p : Int × List Int => decide (p.1 ≠ id)) (decide_eq_true hp)]; rfl
theorem del_pre_no {L : List (Int × List Int)} {id : Int} {j : Nat} {p : Int × List Int} (h : L[j]? = some p) (hp : p.1 = id) : ((L.take (j + 1)).filter fun p => decide (p.1 ≠ id)) = ((L.take j).filter fun p => decide (p.1 ≠ id)) := by
  obtain ⟨hl, rfl⟩ := List.getElem?_eq_some_iff.1 h
  rw [List.take_succ_eq_append_getElem hl, List.filter_append, List.filter_cons_of_neg (p := fun p : Int × List Int => decide (p.1 ≠ id)) (by simp [hp])]
  simp
theorem inc_ne {L : List (Int × List Int)} (hp : L.Pairwise fun a b => a.1 < b.1) {k j : Nat} {p q : Int × List Int} (hk : L[k]? = some p) (hj : L[j]? = some q) (hne : j ≠ k) : q.1 ≠ p.1 := by
  obtain ⟨hl, rfl⟩ := List.getElem?_eq_some_iff.1 hk
  obtain ⟨hl', rfl⟩ := List.getElem?_eq_some_iff.1 hj
  rcases Nat.lt_or_ge j k with h | h
  · have := List.pairwise_iff_getElem.1 hp j k hl' hl h
    omega
  · have := List.pairwise_iff_getElem.1 hp k j hl hl' (by omega)
    omega
set_option maxRecDepth 100000 in
set_option maxHeartbeats 4000000 in
theorem del_ref_yes {B C : Nat} {av : Value} {L : List (Int × List Int)} {last : Int} (id : Int) (ls : List Int) (k : Nat) (w : World) (hCw : C ≤ w.heap.size) (h : RefRow B C w av L) (hL : L.length ≤ 1000000) (hp : L.Pairwise fun a b => a.1 < b.1) (hk : L[k]? = some (id, ls)) :
    Calls Try.prog 31 #[.agg #[av, .int .i64 last], .int .i64 id] w fun r w' => ∃ av', r = .returned (.tuple #[.agg #[av', .int .i64 last], .int .i64 0]) ∧ RefRow w.heap.size C w' av' (L.filter fun p => decide (p.1 ≠ id)) ∧ Below w.heap.size w w' := by
  obtain ⟨A, cap, rfl, -, hat⟩ := h.at_
  have hkl := (List.getElem?_eq_some_iff.1 hk).1
  have hw := whereI_yes hk rfl (fun m q hm hq => inc_ne hp hk hq (by omega))
  obtain ⟨i0, hi0, hz0, hz1, hz2⟩ := info_parts infoEntry
  have b1 := below1a w (.cells #[.slice A L.length cap, .int .i64 last] 65)
  have b2 := below1a (w.alloc (.cells #[.slice A L.length cap, .int .i64 last] 65)) (.cells #[.slice none 0 0, .int .i64 0] 65)
  have bb := b1.trans (b2.mono b1.size)
  have m1 := (Whole.made w 65 #[.slice A L.length cap, .int .i64 last]).same (b2.block _ (by simp))
  have m2 := Whole.made (w.alloc (.cells #[.slice A L.length cap, .int .i64 last] 65)) 65 #[.slice none 0 0, .int .i64 0]
  rw [World.size_alloc] at m2
  have hf := find_ref (last := last) id _ (h.on hCw bb) (by omega)
  rw [hw] at hf
  have HF := Lib.hid hf; have M1 := Lib.hid m1; have M2 := Lib.hid m2; have BB := Lib.hid bb; have HAt := Lib.hid hat; have HPw := Lib.hid hp; have HK := Lib.hid hk
  have c0 := m1.cell 0
  have c1 := m1.cell 1
  clear h hw b1 b2 bb m1 m2 hf hat hp hk
  go_enter Try.func31, Try.ntmps31
  go_wp2_with fail
  refine (HF.out).mono ?_
  rintro r w1 ⟨rfl, hB⟩
  have x1 := M1.out.same (hB.block _ M1.out.lt)
  have x2 := M2.out.same (hB.block _ M2.out.lt)
  have hb1 := BB.out.trans (hB.mono BB.out.size)
  have hs1 := x2.lt
  have X1 := Lib.hid x1; have X2 := Lib.hid x2; have HB1 := Lib.hid hb1
  clear HF M1 M2 BB hB x1 x2 hb1 c0 c1
  go_wp2_with fail
  go_loopw [7, 8] (fun o i wr => DelRel C L id w1 o i wr) (fun _ i _ => L.length - (intOf i).toNat)
  case atStart => exact ⟨0, _, Nat.zero_le _, rfl, rfl, refRow_nil _ _ _, Below.refl _ _⟩
  case round =>
    obtain ⟨j, v, hj, rfl, rfl, hrow, hB⟩ := hrel
    have y1 := X1.out.same (hB.block _ X1.out.lt)
    have hw1 := HB1.out.size
    by_cases hlt : j < L.length
    · obtain ⟨⟨id2, ls2⟩, hpj⟩ : ∃ p, L[j]? = some p := ⟨_, List.getElem?_eq_getElem hlt⟩
      obtain ⟨b, u, rfl, hb, e0, e1, hI⟩ := HAt.out j _ hpj
      have hbw := HB1.out.trans (hB.mono hw1)
      have e0 := (hbw.cell (p := ⟨b, j * 2, none⟩) hb).trans e0
      have e1 := (hbw.cell (p := ⟨b, j * 2 + 1, none⟩) hb).trans e1
      have c0 : wr.cell? ⟨w.heap.size, 0, none⟩ = some (.slice (some ⟨b, 0, none⟩) L.length cap) := y1.cell 0
      obtain ⟨Au, cu, rfl, -⟩ := ints_shape hI
      by_cases hjk : j = k
      · subst hjk
        have hid2 : id2 = id := by have := HK.out; rw [hpj] at this; cases this; rfl
        have HPre := Lib.hid (del_pre_no (id := id) hpj hid2)
        have HR := Lib.hid hrow; have HB := Lib.hid hB
        clear hrow hB y1 hI hbw HAt X1 X2 HB1 HPw HK hpj
        go_wp2_with fail
        refine ⟨⟨j + 1, _, hlt, rfl, by go_num, by rw [HPre.out]; exact HR.out, HB.out⟩, ?_⟩
        simp [intOf]; omega
      · have hne := inc_ne HPw.out HK.out hpj hjk
        have HPre := Lib.hid (del_pre_yes (id := id) hpj hne)
        have hjk' : ¬ (j : Int) = (k : Int) := by omega
        obtain ⟨vs, hvl, hrw, hvs⟩ := hrow
        obtain ⟨M, hM⟩ : ∃ M, ((L.take j).filter fun p => decide (p.1 ≠ id)) = M := ⟨_, rfl⟩
        rw [hM] at hrw hvs hvl HPre
        have hMl : M.length ≤ j := by rw [← hM]; exact Nat.le_trans (List.length_filter_le _ _) (by rw [List.length_take]; omega)
        have hIw := hI.below (hbw.mono hCw)
        have HI := Lib.hid hIw; have HRw := Lib.hid hrw; have HB := Lib.hid hB; have HVs := Lib.hid hvs; have HVl := Lib.hid hvl
        have hBs := hB.size
        clear hB y1 hI hIw hbw HAt X1 X2 HPw HK hpj hM hrw hvs hvl hne
        go_wp2_with (at_builtin; refine wpList_append_own _ rfl _ _ 63 rfl w1.heap.size 88 i0 _ 2 32 Try.underlying63 hi0 hz0 hz1 hz2 rfl (by decide) _ _ _ rfl (HRw.out.alloc _) ⟨wr.heap.size, 0, none⟩ 1 1 [.int .i64 id2, .slice Au ls2.length cu] rfl rfl (World.news_of_block (cs := #[.int .i64 id2, .slice Au ls2.length cu]) (t := 88) (fr := (0, 0)) (heap_alloc_new wr _)) (by simp [Value.oneCell']) (by unfold maxLen; omega) (by omega) (Nat.le_trans hBs (by rw [World.size_alloc]; exact Nat.le_succ _)) ?_; intro v5 w5 hown5 hg5 _; have HO5 := Lib.hid hown5; have HB5 := Lib.hid ((HB.out.alloc hBs (.cells #[.int .i64 id2, .slice Au ls2.length cu] 88)).grown hg5 (Nat.le_trans hBs (by rw [World.size_alloc]; exact Nat.le_succ _)) (fun k e => (HRw.out.lt k e).1)); have HG5 := Lib.hid (((Below.refl w1.heap.size wr).alloc hBs (.cells #[.int .i64 id2, .slice Au ls2.length cu] 88)).grown hg5 (Nat.le_trans hBs (by rw [World.size_alloc]; exact Nat.le_succ _)) (fun k e => (HRw.out.lt k e).1)); clear hown5 hg5)
        have hCw1 : C ≤ w1.heap.size := Nat.le_trans hCw hw1
        refine ⟨⟨j + 1, v5, hlt, rfl, by go_num, ?_, HB5.out⟩, ?_⟩
        · rw [HPre.out]
          exact RefRow.push HVl.out HVs.out (HG5.out.mono hCw1) (HI.out.below (HG5.out.mono hCw1)) HO5.out
        · simp [intOf]; omega
    · obtain rfl : j = L.length := by omega
      rw [List.take_length] at hrow
      obtain ⟨Av, cv, rfl, -⟩ := hrow.at_
      obtain ⟨M, hM⟩ : ∃ M, (L.filter fun p => decide (p.1 ≠ id)) = M := ⟨_, rfl⟩
      rw [hM] at hrow ⊢
      have x2 := X2.out.same (hB.block _ X2.out.lt)
      have z1 := y1.store 0 (.slice Av M.length cv)
      have z2 := x2.at_other (c := w.heap.size) (by omega) 0 (.slice Av M.length cv)
      have c00 : wr.cell? ⟨w.heap.size, 0, none⟩ = some (.slice A L.length cap) := y1.cell 0
      have f00 := y1.frozen 0
      have c10 : (wr.setCell ⟨w.heap.size, 0, none⟩ (.slice Av M.length cv)).cell? ⟨w.heap.size, 0, none⟩ = some (.slice Av M.length cv) := z1.cell 0
      have c11 : (wr.setCell ⟨w.heap.size, 0, none⟩ (.slice Av M.length cv)).cell? ⟨w.heap.size, 1, none⟩ = some (.int .i64 last) := z1.cell 1
      obtain ⟨d10, d11, f10, f11, g1, h1, e0, e1, -⟩ := z2.store2 (.slice Av M.length cv) (.int .i64 last)
      have hbf := (((HB1.out.trans (hB.mono hw1)).setCell (p := ⟨w.heap.size, 0, none⟩) (Nat.le_refl _) (.slice Av M.length cv)).setCell (p := ⟨w.heap.size + 1, 0, none⟩) (by show w.heap.size ≤ w.heap.size + 1; omega) (.slice Av M.length cv)).setCell (p := ⟨w.heap.size + 1, 1, none⟩) (by show w.heap.size ≤ w.heap.size + 1; omega) (.int .i64 last)
      have hrf : RefRow w.heap.size C (((wr.setCell ⟨w.heap.size, 0, none⟩ (.slice Av M.length cv)).setCell ⟨w.heap.size + 1, 0, none⟩ (.slice Av M.length cv)).setCell ⟨w.heap.size + 1, 1, none⟩ (.int .i64 last)) (.slice Av M.length cv) M := by
        refine (hrow.keeps (K := fun b => b = w.heap.size ∨ b = w.heap.size + 1) ?_ (fun b e => by
          obtain ⟨vs, -, hr, -⟩ := hrow
          have := (hr.lt b e).1
          omega) ?_).base hw1
        · exact (((Keeps.refl _ wr).setCell (p := ⟨w.heap.size, 0, none⟩) (.inl (.inl rfl)) _).setCell (p := ⟨w.heap.size + 1, 0, none⟩) (.inl (.inr rfl)) _).setCell (p := ⟨w.heap.size + 1, 1, none⟩) (.inl (.inr rfl)) _
        · exact (((Below.refl C wr).setCell (p := ⟨w.heap.size, 0, none⟩) hCw _).setCell (p := ⟨w.heap.size + 1, 0, none⟩) (by show C ≤ w.heap.size + 1; omega) _).setCell (p := ⟨w.heap.size + 1, 1, none⟩) (by show C ≤ w.heap.size + 1; omega) _
      have HBf := Lib.hid hbf; have HRf := Lib.hid hrf; have HMe := Lib.hid hM
      clear hrow hB y1 x2 z1 z2 hbf hrf HAt X1 X2 HB1 HPw HK hM
      go_wp2_with fail
      exact bodyPost_ret (v := .tuple #[.agg #[.slice Av M.length cv, .int .i64 last], .int .i64 0]) (by simp [results, Try.results31, go_sem, e0, e1]) rfl ⟨_, rfl, by rw [HMe.out]; exact HRf.out, HBf.out⟩
end Go.Proofs.Ytjkhhnfmefbohaa
