/- The arena's Delete. -/
import Derived.Test.YtjkhhnfmefbohaaArMove
namespace Go.Proofs.Ytjkhhnfmefbohaa
open Go.RowKit Go.ChangeAt Go.ChangeShapes Go.WideShapes

def looseB (held used : Int) : Bool := decide (2 * used + 64 < held)
set_option maxHeartbeats 400000 in
theorem loose_any (a b : Int) (hb : 0 ≤ b ∧ b ≤ 2000000000) (w : World) : Calls Try.prog 38 #[.int .i64 a, .int .i64 b] w fun e w' => e = .returned (.bool (looseB a b)) ∧ w' = w := by
  have s1 : IntKind.i64.wrap (2 * b) = 2 * b := IntWalk.i64_in _ (by omega)
  have s2 : IntKind.i64.wrap (2 * b + 64) = 2 * b + 64 := IntWalk.i64_in _ (by omega)
  go_enter Try.func38, Try.ntmps38
  go_wp2
  go_ret
  exact ⟨rfl, rfl⟩

theorem sum_off {L : List (Int × List Int)} (hp : L.Pairwise fun a b => a.1 < b.1) {id : Int} {ls : List Int} (h : (id, ls) ∈ L) : sumL L = sumL (L.filter fun p => decide (p.1 ≠ id)) + ls.length := by
  induction L with
  | nil => cases h
  | cons x r ih =>
    obtain ⟨h1, h2⟩ := List.pairwise_cons.1 hp
    by_cases hx : x.1 = id
    · have hr : r.filter (fun p => decide (p.1 ≠ id)) = r := by
        rw [List.filter_eq_self]
        intro y hy
        have := h1 y hy
        have : y.1 ≠ id := by omega
        simp [this]
      obtain rfl : x = (id, ls) := by
        rcases List.mem_cons.1 h with e | e
        · exact e.symm
        · have := h1 _ e
          have : x.1 < id := this
          omega
      rw [List.filter_cons_of_neg (by simp), hr]
      simp only [sumL, List.map_cons, List.sum_cons]
      omega
    · have hm : (id, ls) ∈ r := by
        rcases List.mem_cons.1 h with e | e
        · rw [← e] at hx; exact absurd rfl hx
        · exact e
      have := ih h2 hm
      rw [List.filter_cons_of_pos (by simp [hx])]
      simp only [sumL, List.map_cons, List.sum_cons] at *
      omega
theorem clO_inc {es : List Ent} (h : es.Pairwise fun a b => a.id < b.id) : (clO es).Pairwise fun a b => a.1 < b.1 := List.pairwise_map.2 (h.filter _)
theorem sum_offI {es : List Ent} (hp : es.Pairwise fun a b => a.id < b.id) {k : Nat} {e : Ent} (hk : es[k]? = some e) (ho : e.on = true) : sumL (clO es) = sumL (clO (offI e.id es)) + e.ls.length := by
  rw [offI_cl]
  exact sum_off (clO_inc hp) (List.mem_map.2 ⟨e, List.mem_filter.2 ⟨List.mem_of_getElem? hk, ho⟩, rfl⟩)
/-- An arena of which one clause was taken away. -/
theorem del_done {K : Nat → Prop} {w w2 : World} {g m n : Nat} {D : DataW Unit} {es : List Ent} {last id : Int} {sv ev : Value} {used : Int} (hg : GoodE es last)
    (hw : Whole w2 g 40 (arC sv ev m used last)) (hs : w2.ownsRow 0 30 1 sv (stO es).length ((stO es).map (Value.int .i64))) (he : w2.ownsRow 0 77 3 ev es.length (entV 0 es))
    (hm : w2.ownsMap Try.prog 3 (plainElem (H := Unit) Try.prog 3) m n (D.del (li id))) (hn : (n : Int) ≤ last) (hi : IdxE D es) (t : Turn K w K w2) (kg : K g) (km : K m) (ks : ∀ b, sv.ownBlock = some b → K b) (ke : ∀ b, ev.ownBlock = some b → K b) :
    ∃ K', Arena K' (w2.setCell ⟨g, 3, none⟩ (.int .i64 (sumL (clO (offI id es)) : Nat))) g (offI id es) last ∧ Turn K w K' (w2.setCell ⟨g, 3, none⟩ (.int .i64 (sumL (clO (offI id es)) : Nat))) := by
  obtain ⟨p0, p1, p2, p3, p4⟩ := after_num (K := K) 3 (.int .i64 (sumL (clO (offI id es)) : Nat)) hw hs he hm kg
  refine arena_of (D := D.del (li id)) p0 ?_ ?_ p3 hn (hi.off hg.inc) hg.off (t.trans p4) kg km ks ke
  · rw [offI_st]; exact p1
  · rw [offI_ent, offI_len]; exact p2

theorem hwh_drew {w : World} {g : Nat} {t : TypeId} {cs : Array Value} (h : Whole w g t cs) : Whole w.drew g t cs := h
theorem T_drew {K K' : Nat → Prop} {w w' : World} (h : Turn K w K' w') : Turn K w K' w'.drew := h.trans (Turn.of_below (Below.refl _ _).drew)

set_option maxRecDepth 100000 in
set_option maxHeartbeats 4000000 in
theorem del_yes {K : Nat → Prop} {g : Nat} {es : List Ent} {last : Int} {k : Nat} {e : Ent} (w : World) (h : Arena K w g es last) (hk : es[k]? = some e) (ho : e.on = true) : Calls Try.prog 15 #[.pointer (some ⟨g, 0, none⟩), .int .i64 e.id] w fun r w' =>
    r = .returned (.int .i64 0) ∧ ∃ K' fs, Arena K' w' g fs last ∧ clO fs = clO (offI e.id es) ∧ (stO fs).length ≤ 2 * sumL (clO fs) + 64 ∧ Turn K w K' w' := by
  have hf := find_yes w h hk ho
  have hgd := h.good
  have hu := hgd.used
  have hsum := sum_offI hgd.inc hk ho
  have hlo := hgd.lo e (List.mem_of_getElem? hk)
  have hl1 := hgd.last1
  have hlen := hgd.len_le
  have hst := hgd.st_le
  obtain ⟨sv, ev, m, n, D, hwh, hs, he, hm, hn, hi, -, hKg, hKm, hKs, hKe, hKo⟩ := h
  obtain ⟨As, cs, rfl⟩ := own_shape0 hs
  obtain ⟨Ae, ce, rfl⟩ := own_shape0 he
  have hkey := keyI e.id (int_wf (by omega))
  have HWh := Lib.hid hwh; have HS := Lib.hid hs; have HE := Lib.hid he; have HM := Lib.hid hm; have HI := Lib.hid hi; have HKey := Lib.hid hkey; have HG := Lib.hid hgd; have HKs := Lib.hid hKs; have HKe := Lib.hid hKe; have HF := Lib.hid hf
  clear hwh hs he hm hi hkey hgd hKs hKe hKo hf hk ho
  obtain ⟨of, hOf⟩ : ∃ i, offE es k = i := ⟨_, rfl⟩
  obtain ⟨ln, hLn⟩ : ∃ i, e.ls.length = i := ⟨_, rfl⟩
  obtain ⟨id, hID⟩ : ∃ i, e.id = i := ⟨_, rfl⟩
  rw [hID] at HKey hsum hlo ⊢
  rw [hLn] at hsum
  rw [hID, hOf, hLn] at HF
  clear hID hOf hLn
  go_enter Try.func15, Try.ntmps15
  go_wp2_with (first
    | (go_at_call 37; go_loud (refine (HF.out).mono ?_; rintro r w1 ⟨rfl, hB1⟩; have hb1 : Below w.heap.size w (w1.alloc (.cells #[.int .i64 id, .int .i64 (of : Nat), .int .i64 (ln : Nat)] 77)) := hB1.alloc hB1.size _; have hg1 : w.grownBy (w1.alloc (.cells #[.int .i64 id, .int .i64 (of : Nat), .int .i64 (ln : Nat)] 77)) none := ⟨hb1.os, hb1.tape, hb1.output, hb1.size, fun k hk _ => hb1.block k hk⟩; have hwh1 := HWh.out.same (hb1.block g HWh.out.lt); have hc2 : (w1.alloc (.cells #[.int .i64 id, .int .i64 (of : Nat), .int .i64 (ln : Nat)] 77)).cell? ⟨g, 2, none⟩ = some (.map (some m)) := hwh1.cell 2; have HWh1 := Lib.hid hwh1; have hx1 := Whole.made w1 77 #[.int .i64 id, .int .i64 (of : Nat), .int .i64 (ln : Nat)]; have HX1 := Lib.hid hx1; have hm1 := HM.out.kept hg1 (by simp); have HM1 := Lib.hid hm1; have hs1 := kept0 HS.out hg1; have HS1 := Lib.hid hs1; have he1 := kept0 HE.out hg1; have HE1 := Lib.hid he1; have HB1 := Lib.hid hb1; clear hwh1 hx1 hm1 hs1 he1 hb1 hg1))
    | (at_delete; go_loud (refine wpList_delete_own _ rfl _ _ 38 3 rfl 3 (Maps.int_keyed Try.underlying3) Try.underlying38 _ m n D rfl HM1.out _ _ rfl HKey.out ?_; intro w2 hown2 ht2; have hg2 := ht2.grown; have hwh2 := HWh1.out.same (hg2.block g HWh1.out.lt (fun e => (HWh1.out.map_ne HM1.out) (by injection e))); have hs2 := HS1.out.kept hg2 (.inr (row_map_ne HS1.out HM1.out)); have he2 := HE1.out.kept hg2 (.inr (row_map_ne HE1.out HM1.out)); have hx2 := HX1.out.same (hg2.block _ HX1.out.lt (fun e => (HX1.out.map_ne HM1.out) (by injection e))); have ht : Turn K w K w2 := (Turn.of_below HB1.out).grown hg2 (fun r e => by cases e; exact .inl hKm); have HWh2 := Lib.hid hwh2; have HS2 := Lib.hid hs2; have HE2 := Lib.hid he2; have HX2 := Lib.hid hx2; have HM2 := Lib.hid hown2; have HT2 := Lib.hid ht; clear hwh2 hs2 he2 hx2 hown2 ht ht2 hg2)))
  have hc3 : w2.cell? ⟨g, 3, none⟩ = some (.int .i64 (sumL (clO es) : Nat)) := HWh2.out.cell 3
  have hx2 : w2.cell? ⟨w1.heap.size, 2, none⟩ = some (.int .i64 (ln : Nat)) := HX2.out.cell 2
  have hf3 : w2.frozen? ⟨g, 3, none⟩ = false := HWh2.out.frozen 3
  have s1 : IntKind.i64.wrap ((sumL (clO es) : Nat) - (ln : Nat) : Int) = (sumL (clO (offI id es)) : Nat) := by rw [hsum, show ((sumL (clO (offI id es)) + ln : Nat) - (ln : Nat) : Int) = (sumL (clO (offI id es)) : Nat) by omega]; exact IntWalk.i64_in _ (by omega)
  clear hc2
  go_simp
  go_still_tail 10, (by kernel_rfl)
  change wpList _ _ _ _ _ w2.drew
  have hdone := del_done (id := id) (w := w) (used := (sumL (clO es) : Nat)) HG.out HWh2.out HS2.out HE2.out HM2.out hn HI.out HT2.out hKg hKm HKs.out HKe.out
  have HDone := Lib.hid hdone
  clear hdone
  go_wp2_with fail
  obtain ⟨K4, hA4, hT4⟩ := HDone.out
  have hA4 := hA4.on (Below.refl _ _).drew
  have hT4 := T_drew hT4
  obtain ⟨w4, hw4⟩ : ∃ x, (w2.setCell ⟨g, 3, none⟩ (.int .i64 (sumL (clO (offI id es)) : Nat))).drew = x := ⟨_, rfl⟩
  rw [hw4] at hA4 hT4 ⊢
  clear HDone hw4 hc3 hx2 hf3 s1 HWh2 HS2 HE2 HX2 HM2 HT2 HWh1 HX1 HS1 HE1 HM1 HB1 HF HKey HM HI HKs HKe HG HWh HS HE
  have hgd4 := hA4.good
  have hu4 := hgd4.used
  have hlen4 := hgd4.len_le
  have hst4 := hgd4.st_le
  have hcl4 := cl_le (offI id es)
  obtain ⟨sv4, ev4, m4, n4, D4, ⟨d0, d1, d2, d3, d4⟩, -, hlt4, hs4, he4, hm4, hn4, hi4⟩ := hA4.cells
  obtain ⟨A5, c5, rfl⟩ := own_shape0 hs4
  obtain ⟨A6, c6, rfl⟩ := own_shape0 he4
  have hlm : ∀ q, (Builtin.len_ #[38] 3 #[.map (some m4)]).run Try.prog (w4.drewN q) = .ok (.int .i64 ((clO (offI id es)).length : Nat)) (w4.drewN q) := fun q => by
    have hb := below_drewN (Below.refl w4.heap.size w4) q
    have hg : w4.grownBy (w4.drewN q) none := ⟨hb.os, hb.tape, hb.output, hb.size, fun k hk _ => hb.block k hk⟩
    have h := (hm4.kept hg (by simp)).len Try.underlying38 3
    rw [hi4.size] at h
    exact h
  have hq1 := fun W => loose_any ((stO (offI id es)).length : Nat) (sumL (clO (offI id es)) : Nat) (by omega) W
  have hq2 := fun W => loose_any ((offI id es).length : Nat) ((clO (offI id es)).length : Nat) (by omega) W
  have hmv := fun q => move_any _ (hA4.on (below_drewN (Below.refl w4.heap.size w4) q))
  have hheld : looseB ((stO (offI id es)).length : Nat) (sumL (clO (offI id es)) : Nat) = false → (stO (offI id es)).length ≤ 2 * sumL (clO (offI id es)) + 64 := fun h => by unfold looseB at h; have := of_decide_eq_false h; omega
  obtain ⟨l1, hL1⟩ : ∃ x, looseB ((stO (offI id es)).length : Nat) (sumL (clO (offI id es)) : Nat) = x := ⟨_, rfl⟩
  obtain ⟨l2, hL2⟩ : ∃ x, looseB ((offI id es).length : Nat) ((clO (offI id es)).length : Nat) = x := ⟨_, rfl⟩
  rw [hL1] at hq1 hheld
  rw [hL2] at hq2
  have HA4 := Lib.hid hA4; have HT4 := Lib.hid hT4; have HQ1 := Lib.hid hq1; have HQ2 := Lib.hid hq2; have HMv := Lib.hid hmv; have HH := Lib.hid hheld
  clear hA4 hT4 hq1 hq2 hmv hL1 hL2 hheld hs4 he4 hm4 hi4 hgd4
  obtain ⟨u4, hU4⟩ : ∃ x, sumL (clO (offI id es)) = x := ⟨_, rfl⟩
  obtain ⟨st4, hS4⟩ : ∃ x, (stO (offI id es)).length = x := ⟨_, rfl⟩
  obtain ⟨ne4, hN4⟩ : ∃ x, (offI id es).length = x := ⟨_, rfl⟩
  obtain ⟨nc4, hC4⟩ : ∃ x, (clO (offI id es)).length = x := ⟨_, rfl⟩
  rw [hU4, hS4] at HQ1
  rw [hN4, hC4] at HQ2
  rw [hU4] at d3
  rw [hS4] at d0
  rw [hN4] at d1
  simp only [hC4] at hlm
  have HH1 := Lib.hid hU4; have HH2 := Lib.hid hS4
  clear hU4 hS4 hN4 hC4
  cases l1
  · cases l2
    · go_quiet (first | (go_at_call 38; exact Calls.quiet_of_same (HQ1.out _)) | (go_at_call 38; exact Calls.quiet_of_same (HQ2.out _)))
      go_wp2
      go_ret
      exact ⟨rfl, K4, _, HA4.out.on (below_drewN (Below.refl _ _) _), rfl, HH.out (by trivial), HT4.out.trans (Turn.of_below (below_drewN (Below.refl _ _) _))⟩
    · go_quiet (first | (go_at_call 38; exact Calls.quiet_of_same (HQ1.out _)) | (go_at_call 38; exact Calls.quiet_of_same (HQ2.out _)))
      go_wp2_with (go_at_call 39; refine (HMv.out _).mono ?_; rintro r w6 ⟨⟨v, rfl⟩, hM⟩; have HM6 := Lib.hid hM; clear hM)
      go_ret
      obtain ⟨K6, hA6, hT6⟩ := HM6.out
      exact ⟨rfl, K6, _, hA6, clO_live _, by rw [stO_live, clO_live]; omega, (HT4.out.trans (Turn.of_below (below_drewN (Below.refl _ _) _))).trans hT6⟩
  · go_quiet (first | (go_at_call 38; exact Calls.quiet_of_same (HQ1.out _)) | (go_at_call 38; exact Calls.quiet_of_same (HQ2.out _)))
    go_wp2_with (go_at_call 39; refine (HMv.out _).mono ?_; rintro r w6 ⟨⟨v, rfl⟩, hM⟩; have HM6 := Lib.hid hM; clear hM)
    go_ret
    obtain ⟨K6, hA6, hT6⟩ := HM6.out
    exact ⟨rfl, K6, _, hA6, clO_live _, by rw [stO_live, clO_live]; omega, (HT4.out.trans (Turn.of_below (below_drewN (Below.refl _ _) _))).trans hT6⟩

set_option maxHeartbeats 400000 in
theorem del_no {K : Nat → Prop} {g : Nat} {es : List Ent} {last : Int} (id : Int) (hw : (Lit.int .i64 id).wf = true) (w : World) (h : Arena K w g es last) (hno : isOn es id = false) : Calls Try.prog 15 #[.pointer (some ⟨g, 0, none⟩), .int .i64 id] w fun r w' =>
    r = .returned (.int .i64 30) ∧ Below w.heap.size w w' := by
  have hf := find_no id hw w h hno
  have HF := Lib.hid hf; clear hf h hno hw
  go_enter Try.func15, Try.ntmps15
  go_wp2_with (go_at_call 37; refine (HF.out).mono ?_; rintro e w1 ⟨rfl, hB⟩)
  go_ret
  exact ⟨rfl, hB.alloc hB.size _⟩
end Go.Proofs.Ytjkhhnfmefbohaa
