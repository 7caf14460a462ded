/- The reference's Back where there is such a level. -/
import Derived.Test.YtdeedmfofjdbjaaRefTrPush
import Derived.Test.YtdeedmfofjdbjaaTrLevMath
import Derived.Maps.AppendAt
import Derived.OwnWalk
namespace Go.Proofs.Ytdeedmfofjdbjaa
open Go.RowKit Go.ChangeAt Go.ChangeShapes Go.WideShapes Go.Sort

theorem infoItem : (Try.prog.info? 90).map (fun i => (i.zero, i.size, i.bytes)) = some (some (.agg #[.int .i64 0, .int .i64 0, .int .i64 0]), 3, 24) := by kernel_rfl
theorem itV_one (its : List It) : ∀ u ∈ itV its, u.oneCell' = true := fun u hu => by
  unfold itV at hu
  obtain ⟨x, -, hx⟩ := List.mem_flatMap.1 hu
  simp only [List.mem_cons, List.not_mem_nil, or_false] at hx
  rcases hx with rfl | rfl | rfl <;> rfl
theorem TG.lev_iff {nv : Nat} {its : List It} {st : List Nat} (h : TG nv its st) {lv p : Nat} (hl : lv ≤ st.length) {x : It} (hx : its[p]? = some x) : x.level ≤ lv ↔ p < endOf its st lv := by
  have hp := (List.getElem?_eq_some_iff.1 hx).1
  have hc := h.lev p x hx
  unfold endOf
  rcases Nat.lt_or_ge lv st.length with hlt | hge
  · rw [List.getElem?_eq_getElem hlt]
    show x.level ≤ lv ↔ p < st[lv]
    rcases Nat.lt_or_ge p st[lv] with h1 | h1
    · have := countP_le' h.inc hlt h1
      rw [← hc] at this
      exact ⟨fun _ => h1, fun _ => this⟩
    · have := countP_ge h.inc hlt h1
      rw [← hc] at this
      exact ⟨fun h2 => by omega, fun h2 => by omega⟩
  · rw [List.getElem?_eq_none hge]
    show x.level ≤ lv ↔ p < its.length
    have : st.countP (fun s => decide (s ≤ p)) ≤ st.length := List.countP_le_length
    rw [← hc] at this
    exact ⟨fun _ => hp, fun _ => by omega⟩
def RBackRel (its : List It) (E : Nat) (w : World) (o i : Value) (wr : World) : Prop := ∃ (j : Nat) (v : Value), j ≤ its.length ∧ o = v ∧ i = .int .i64 j ∧ RRow w.heap.size wr v (its.take (min j E)) ∧ Below w.heap.size w wr
theorem take_step {its : List It} {E j : Nat} {x : It} (hx : its[j]? = some x) (h : j < E) : its.take (min (j + 1) E) = its.take (min j E) ++ [x] := by
  rw [Nat.min_eq_left (by omega), Nat.min_eq_left (by omega)]
  obtain ⟨hl, rfl⟩ := List.getElem?_eq_some_iff.1 hx
  exact List.take_succ_eq_append_getElem hl
theorem take_stay {its : List It} {E j : Nat} (h : ¬ j < E) : its.take (min (j + 1) E) = its.take (min j E) := by
  rw [Nat.min_eq_right (by omega), Nat.min_eq_right (by omega)]
theorem RRow.push {B : Nat} {W : World} {av : Value} {its : List It} {x : It} (hr : W.ownsRow B 90 3 av (its.length + 1) (itV its ++ [.int .i64 x.lit, .int .i64 x.reason, .int .i64 (x.level : Int)])) : RRow B W av (its ++ [x]) := by
  unfold RRow
  rw [itV_app, List.length_append]
  exact hr
set_option maxRecDepth 100000 in
set_option maxHeartbeats 2000000 in
theorem back_ref_yes {B : Nat} {iv sv : Value} {nv : Nat} {its : List It} {st : List Nat} (lv : Nat) (w : World) (hg : TG nv its st) (h : RRow B w iv its) (hs : w.ownsRow B 3 1 sv (st.length + 1) ((0 :: stI st).map (Value.int .i64))) (hl : lv ≤ st.length) :
    Calls Try.prog 37 #[refT nv (st.length : Nat) iv sv, .int .i64 (lv : Nat)] w fun r w' => ∃ iv' sv', r = .returned (.tuple #[refT nv (lv : Nat) iv' sv', .int .i64 0]) ∧ RRow w.heap.size w' iv' (its.take (endOf its st lv)) ∧
      w'.ownsRow B 3 1 sv' (lv + 1) ((0 :: stI (st.take lv)).map (Value.int .i64)) ∧ (∀ b, sv'.ownBlock = some b → sv.ownBlock = some b) ∧ Below w.heap.size w w' := by
  have hlen := hg.len
  have hnv := hg.nvmax
  have hnow := hg.now
  obtain ⟨E, hE⟩ : ∃ E, endOf its st lv = E := ⟨_, rfl⟩
  have hiff := fun (p : Nat) (x : It) (hx : its[p]? = some x) => hg.lev_iff hl hx
  rw [hE] at hiff ⊢
  have hEl := hg.end_le lv
  rw [hE] at hEl
  obtain ⟨Ai, ci, rfl, -, hat⟩ := h.at_
  obtain ⟨As, cs, rfl⟩ := own_shape1 hs
  obtain ⟨bs, rfl, hcs, hbs, -⟩ := own_at (k := 0) (x := 0) hs rfl
  obtain ⟨n, hn⟩ : ∃ n : Int, (nv : Int) = n := ⟨_, rfl⟩
  obtain ⟨now, hw⟩ : ∃ now : Int, ((st.length : Nat) : Int) = now := ⟨_, rfl⟩
  obtain ⟨lq, hlq⟩ : ∃ lq : Int, ((lv : Nat) : Int) = lq := ⟨_, rfl⟩
  obtain ⟨i0, hi0, hz0, hz1, hz2⟩ := info_parts infoItem
  have s1 : IntKind.i64.wrap (lq + 1) = lq + 1 := IntWalk.i64_in _ (by omega)
  have k0 : 0 ≤ lq := by omega
  have k1 : ¬ lq < 0 := by omega
  have k2 : ¬ now < lq := by omega
  unfold refT
  rw [hn, hw, hlq]
  obtain ⟨m1, m2, bb⟩ := ref_blocks w (.int .i64 n) (.int .i64 now) (.slice Ai its.length ci) (.slice (some ⟨bs, 0, none⟩) (st.length + 1) cs)
  obtain ⟨w1, hw1⟩ : ∃ y, (w.alloc (.cells #[.int .i64 n, .int .i64 now, .slice Ai its.length ci, .slice (some ⟨bs, 0, none⟩) (st.length + 1) cs] 69)).alloc (.cells #[.int .i64 0, .int .i64 0, .slice none 0 0, .slice none 0 0] 69) = y := ⟨_, rfl⟩
  rw [hw1] at m1 m2 bb
  have c1 : w1.cell? ⟨w.heap.size, 1, none⟩ = some (.int .i64 now) := m1.cell 1
  have HAt := Lib.hid hat; have HIff := Lib.hid hiff; have M1 := Lib.hid m1; have M2 := Lib.hid m2; have BB := Lib.hid bb; have HS := Lib.hid hs; have HL := Lib.hid hl; have HW1 := Lib.hid hw1; have HLq := Lib.hid hlq; have HNow := Lib.hid hw
  clear hat hiff m1 m2 bb hs hg h hl hw1 hE
  go_enter Try.func37, Try.ntmps37
  go_wp2_with fail
  go_loopw [6, 7] (fun o i wr => RBackRel its E w1 o i wr) (fun _ i _ => its.length - (intOf i).toNat)
  case atStart => exact ⟨0, _, Nat.zero_le _, rfl, rfl, by rw [Nat.zero_min]; exact rrow_nil _ _, by rw [HW1.out]; exact Below.refl _ _⟩
  case round =>
    obtain ⟨j, v, hj, rfl, rfl, hrow, hB⟩ := hrel
    have y1 := M1.out.same (hB.block _ M1.out.lt)
    have hws := BB.out.size
    by_cases hlt : j < its.length
    · obtain ⟨⟨xl, xv, xr⟩, hx⟩ : ∃ x, its[j]? = some x := ⟨_, List.getElem?_eq_getElem hlt⟩
      obtain ⟨b, rfl, hb, e0, e1, e2⟩ := HAt.out j _ hx
      dsimp only at e0 e1 e2
      have hbw := BB.out.trans (hB.mono hws)
      have e0 := (hbw.cell (p := ⟨b, j * 3, none⟩) hb).trans e0
      have e1 := (hbw.cell (p := ⟨b, j * 3 + 1, none⟩) hb).trans e1
      have e2 := (hbw.cell (p := ⟨b, j * 3 + 2, none⟩) hb).trans e2
      have cc2 : wr.cell? ⟨w.heap.size, 2, none⟩ = some (.slice (some ⟨b, 0, none⟩) its.length ci) := y1.cell 2
      have hle := HIff.out j _ hx
      dsimp only at hle
      by_cases hjE : j < E
      · have hlv2 : (xv : Int) ≤ lq := by have := hle.2 hjE; have := HLq.out; omega
        have hst := take_step hx hjE
        obtain ⟨M, hM⟩ : ∃ M, its.take (min j E) = M := ⟨_, rfl⟩
        rw [hM] at hst hrow
        have hMl : M.length ≤ j := by rw [← hM, List.length_take]; omega
        have HSt := Lib.hid hst; have HRw := Lib.hid hrow; have HB := Lib.hid hB
        have hBs := hB.size
        clear hst hrow hB y1 hbw HAt HIff M2 hx hM hle
        go_wp2_with (at_builtin; refine wpList_append_own _ rfl _ _ 67 rfl w1.heap.size 90 i0 _ 3 24 Try.underlying67 hi0 hz0 hz1 hz2 rfl (by decide) _ _ _ rfl (HRw.out.alloc _) ⟨wr.heap.size, 0, none⟩ 1 1 [.int .i64 xl, .int .i64 xr, .int .i64 (xv : Int)] rfl rfl (World.news_of_block (cs := #[.int .i64 xl, .int .i64 xr, .int .i64 (xv : Int)]) (t := 90) (fr := (0, 0)) (heap_alloc_new wr _)) (by simp [Value.oneCell']) (by unfold maxLen; omega) (by omega) (Nat.le_trans hBs (by rw [World.size_alloc]; exact Nat.le_succ _)) ?_; intro v5 w5 hown5 hg5 _; have HO5 := Lib.hid hown5; have HB5 := Lib.hid ((HB.out.alloc hBs (.cells #[.int .i64 xl, .int .i64 xr, .int .i64 (xv : Int)] 90)).grown hg5 (Nat.le_trans hBs (by rw [World.size_alloc]; exact Nat.le_succ _)) (fun k e => (HRw.out.lt k e).1)); clear hown5 hg5)
        refine ⟨⟨j + 1, v5, hlt, rfl, by go_num, ?_, HB5.out⟩, ?_⟩
        · rw [HSt.out]
          exact RRow.push (x := ⟨xl, xv, xr⟩) HO5.out
        · simp [intOf]; omega
      · have hlv2 : ¬ (xv : Int) ≤ lq := by have h1 : ¬ xv ≤ lv := fun h => hjE (hle.1 h); have := HLq.out; omega
        have hst := take_stay (its := its) hjE
        have HSt := Lib.hid hst; have HRw := Lib.hid hrow; have HB := Lib.hid hB
        clear hst hrow hB y1 hbw HAt HIff M2 hx hle
        go_wp2_with fail
        refine ⟨⟨j + 1, _, hlt, rfl, by go_num, by rw [HSt.out]; exact HRw.out, HB.out⟩, ?_⟩
        simp [intOf]; omega
    · obtain rfl : j = its.length := by omega
      rw [Nat.min_eq_right hEl] at hrow
      obtain ⟨Av, cv, rfl, -, -⟩ := hrow.at_
      have x2 := M2.out.same (hB.block _ M2.out.lt)
      have hbd : Below wr.heap.size wr wr.drew := (Below.refl _ _).drew
      have hb0 := BB.out.trans (hB.mono hws)
      have Y := y1.same (hbd.block _ y1.lt)
      have X := x2.same (hbd.block _ x2.lt)
      have R := hrow.on hbd
      have S := owns_on0 (owns_on0 HS.out hb0) hbd
      have Z := hb0.trans (hbd.mono hb0.size)
      obtain ⟨e, he⟩ : ∃ e, (its.take E).length = e := ⟨_, rfl⟩
      rw [he] at R
      have Y1 := Y.store 2 (.slice Av e cv)
      have Y2 := Y1.store 1 (.int .i64 lq)
      have Y3 := Y2.store 3 (.slice (some ⟨bs, 0, none⟩) (lv + 1) cs)
      have X3 := ((X.at_other (c := w.heap.size) (by omega) 2 (.slice Av e cv)).at_other (c := w.heap.size) (by omega) 1 (.int .i64 lq)).at_other (c := w.heap.size) (by omega) 3 (.slice (some ⟨bs, 0, none⟩) (lv + 1) cs)
      have Z3 := ((Z.setCell (p := ⟨w.heap.size, 2, none⟩) (Nat.le_refl _) (.slice Av e cv)).setCell (p := ⟨w.heap.size, 1, none⟩) (Nat.le_refl _) (.int .i64 lq)).setCell (p := ⟨w.heap.size, 3, none⟩) (Nat.le_refl _) (.slice (some ⟨bs, 0, none⟩) (lv + 1) cs)
      have Kp := (((Keeps.refl (fun b => b = w.heap.size) wr.drew).setCell (p := ⟨w.heap.size, 2, none⟩) (.inl rfl) (.slice Av e cv)).setCell (p := ⟨w.heap.size, 1, none⟩) (.inl rfl) (.int .i64 lq)).setCell (p := ⟨w.heap.size, 3, none⟩) (.inl rfl) (.slice (some ⟨bs, 0, none⟩) (lv + 1) cs)
      have hsz1 : w.heap.size + 2 ≤ w1.heap.size := by rw [← HW1.out]; simp
      have R3 := owns_mono (row_turn R Kp (fun b e hb => by
        have := (R.lt b e).1
        have : b = w.heap.size := hb
        omega)) hsz1
      have S3 := own_take (row_turn S Kp (fun b e hb => by
        have h0 : b = w.heap.size := hb
        have h1 : bs = b := by simpa [Value.ownBlock] using e
        omega)) (k := lv + 1) (by have := HL.out; omega)
      rw [← List.map_take, List.take_succ_cons, ← stI_take] at S3
      have d1 : wr.cell? ⟨w.heap.size, 1, none⟩ = some (.int .i64 now) := y1.cell 1
      have d3 : wr.cell? ⟨w.heap.size, 3, none⟩ = some (.slice (some ⟨bs, 0, none⟩) (st.length + 1) cs) := y1.cell 3
      have f2 := y1.frozen 2
      have f1 := y1.frozen 1
      have f3 := y1.frozen 3
      have q1 : lq + 1 ≤ ((st.length + 1 : Nat) : Int) := by have := HL.out; have := HLq.out; omega
      have q2 : 0 ≤ lq + 1 := by omega
      have q3 : (lq + 1).toNat = lv + 1 := by have := HLq.out; omega
      have q4 : lq + 1 ≤ (cs : Int) := by omega
      have cc2 : wr.cell? ⟨w.heap.size, 2, none⟩ = some (.slice Ai its.length ci) := y1.cell 2
      have HE := Lib.hid he
      have HC := Lib.hid (show ∃ A, Whole _ w.heap.size 69 #[.int .i64 n, .int .i64 lq, .slice A e cv, .slice (some ⟨bs, 0, none⟩) (lv + 1) cs] ∧ Whole _ (w.heap.size + 1) 69 #[.int .i64 0, .int .i64 0, .slice none 0 0, .slice none 0 0] ∧ World.ownsRow _ (w.heap.size + 2) 90 3 (.slice A e cv) e (itV (its.take E)) ∧ World.ownsRow _ B 3 1 (.slice (some ⟨bs, 0, none⟩) (lv + 1) cs) (lv + 1) ((0 :: stI (st.take lv)).map (Value.int .i64)) ∧ Below w.heap.size w _ from ⟨_, Y3, X3, he ▸ R3, S3, Z3⟩)
      rw [he]
      clear y1 x2 hbd hb0 Y X R S Z he Y1 Y2 Y3 X3 Z3 Kp R3 S3 hrow hB HAt HIff M1 M2 BB HS
      go_upto_region 9 with fail
      go_cut [] (fun wx => ∃ A, Whole wx w.heap.size 69 #[.int .i64 n, .int .i64 lq, .slice A e cv, .slice (some ⟨bs, 0, none⟩) (lv + 1) cs] ∧ Whole wx (w.heap.size + 1) 69 #[.int .i64 0, .int .i64 0, .slice none 0 0, .slice none 0 0] ∧ wx.ownsRow (w.heap.size + 2) 90 3 (.slice A e cv) e (itV (its.take E)) ∧ wx.ownsRow B 3 1 (.slice (some ⟨bs, 0, none⟩) (lv + 1) cs) (lv + 1) ((0 :: stI (st.take lv)).map (Value.int .i64)) ∧ Below w.heap.size w wx)
      case first =>
        go_region_law (fail)
        all_goals
          go_simp
          go_wp2_with fail
          go_meet
          exact HC.out
      case rest =>
        obtain ⟨A, h1, h2, hrow, hst, hB⟩ := hcut
        obtain ⟨⟨e0, e1, e2, e3⟩, ⟨d0, f0⟩, ⟨d1, f1⟩, ⟨d2, f2⟩, ⟨d3, f3⟩, HZ, HBf⟩ := ref_end h1 h2 hB
        have HRow := Lib.hid hrow; have HSt := Lib.hid hst
        clear h1 h2 hB hrow hst HC
        go_wp2_with fail
        have z0 : _ = some (Value.int .i64 n) := HZ.out.cell 0
        have z1 : _ = some (Value.int .i64 lq) := HZ.out.cell 1
        have z2 : _ = some (Value.slice A e cv) := HZ.out.cell 2
        have z3 : _ = some (Value.slice (some ⟨bs, 0, none⟩) (lv + 1) cs) := HZ.out.cell 3
        refine bodyPost_ret (v := .tuple #[.agg #[.int .i64 n, .int .i64 lq, .slice A e cv, .slice (some ⟨bs, 0, none⟩) (lv + 1) cs], .int .i64 0]) (by simp [results, Try.results37, go_sem, z0, z1, z2, z3]) rfl ⟨_, _, rfl, ?_, ?_, (fun b e => by simpa [Value.ownBlock] using e), HBf.out⟩
        · have KZ := ((((Keeps.refl (fun b => b = w.heap.size + 1) wc).setCell (p := ⟨w.heap.size + 1, 0, none⟩) (.inl rfl) (.int .i64 n)).setCell (p := ⟨w.heap.size + 1, 1, none⟩) (.inl rfl) (.int .i64 lq)).setCell (p := ⟨w.heap.size + 1, 2, none⟩) (.inl rfl) (.slice A e cv)).setCell (p := ⟨w.heap.size + 1, 3, none⟩) (.inl rfl) (.slice (some ⟨bs, 0, none⟩) (lv + 1) cs)
          have := owns_mono (row_turn HRow.out KZ (fun b eb hb => by
            have := (HRow.out.lt b eb).1
            have hb : b = w.heap.size + 1 := hb
            omega)) (by omega : w.heap.size ≤ w.heap.size + 2)
          unfold RRow
          rw [HE.out]
          exact this
        · have KZ := ((((Keeps.refl (fun b => b = w.heap.size + 1) wc).setCell (p := ⟨w.heap.size + 1, 0, none⟩) (.inl rfl) (.int .i64 n)).setCell (p := ⟨w.heap.size + 1, 1, none⟩) (.inl rfl) (.int .i64 lq)).setCell (p := ⟨w.heap.size + 1, 2, none⟩) (.inl rfl) (.slice A e cv)).setCell (p := ⟨w.heap.size + 1, 3, none⟩) (.inl rfl) (.slice (some ⟨bs, 0, none⟩) (lv + 1) cs)
          exact row_turn HSt.out KZ (fun b eb hb => by
            have hb : b = w.heap.size + 1 := hb
            have h1 : bs = b := by simpa [Value.ownBlock] using eb
            omega)
end Go.Proofs.Ytdeedmfofjdbjaa
