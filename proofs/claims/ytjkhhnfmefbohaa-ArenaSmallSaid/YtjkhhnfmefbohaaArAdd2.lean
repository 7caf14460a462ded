/- The arena's Add. -/
import Derived.Test.YtjkhhnfmefbohaaArAdd
import Derived.Deep.DeepCutAuto
namespace Go.Proofs.Ytjkhhnfmefbohaa
open Go.RowKit Go.ChangeAt Go.ChangeShapes Go.WideShapes

/-- Behind the entry: what lies where. -/
def AddCut (K : Nat → Prop) (w0 : World) (g m n : Nat) (D : DataW Unit) (es : List Ent) (sv : Value) (u last id : Int) (c : List Int) (wx : World) : Prop :=
  ∃ gg cap, Whole wx g 40 (arC sv (.slice (some ⟨gg, 0, none⟩) (es.length + 1) cap) m u last) ∧ wx.ownsRow 0 30 1 sv (stO es).length ((stO es).map (Value.int .i64)) ∧
    wx.ownsRow 0 77 3 (.slice (some ⟨gg, 0, none⟩) (es.length + 1) cap) (es.length + 1) (entV 0 es ++ [.int .i64 id, .int .i64 ((stO es).length : Nat), .int .i64 (c.length : Nat)]) ∧
    wx.ownsMap Try.prog 3 (plainElem (H := Unit) Try.prog 3) m n D ∧ Turn K w0 (fun i => K i ∨ i = gg) wx

set_option maxRecDepth 100000 in
set_option maxHeartbeats 2000000 in
theorem add_yes {K : Nat → Prop} {g : Nat} {es : List Ent} {last : Int} (id : Int) (cv : Value) (c : List Int) (w : World) (h : Arena K w g es last) (hI : IntsF .i64 K w cv c) (hr : rightB c = true) (h1 : last < id) (h2 : id ≤ 1073741824) (h3 : sumL (clO es) + c.length ≤ 1048576) (h4 : (stO es).length + c.length ≤ 2097216) :
    Calls Try.prog 14 #[.pointer (some ⟨g, 0, none⟩), .int .i64 id, cv] w fun r w' => ∃ K', r = .returned (.int .i64 0) ∧ Arena K' w' g (es ++ [⟨id, c, true⟩]) id ∧ Turn K w K' w' := by
  have HA := Lib.hid h
  have hgd := h.good
  have hl0 := hgd.last0
  have hl1 := hgd.last1
  obtain ⟨sv, ev, m, n, D, hwh, hs, he, hm, hn, hi, -, hKg, hKm, hKs, hKe, hKo⟩ := h
  have hc0 : w.cell? ⟨g, 0, none⟩ = some sv := hwh.cell 0
  have hc1 : w.cell? ⟨g, 1, none⟩ = some ev := hwh.cell 1
  have hc2 : w.cell? ⟨g, 2, none⟩ = some (.map (some m)) := hwh.cell 2
  have hc3 : w.cell? ⟨g, 3, none⟩ = some (.int .i64 (sumL (clO es) : Nat)) := hwh.cell 3
  have hc4 : w.cell? ⟨g, 4, none⟩ = some (.int .i64 last) := hwh.cell 4
  obtain ⟨As, cs, rfl⟩ := own_shape0 hs
  obtain ⟨Ae, ce, rfl⟩ := own_shape0 he
  obtain ⟨Ac, cc, rfl, -⟩ := ints_shape hI.ints
  have hkey := keyI id (int_wf (by omega))
  have HWh := Lib.hid hwh; have HS := Lib.hid hs; have HE := Lib.hid he; have HM := Lib.hid hm; have HI := Lib.hid hi; have HKey := Lib.hid hkey; have HC := Lib.hid hI; have HR := Lib.hid hr; have HG := Lib.hid hgd; have HKs := Lib.hid hKs; have HKe := Lib.hid hKe; have HKo := Lib.hid hKo
  clear hwh hs he hm hi hkey hI hr hgd hKs hKe hKo
  go_enter Try.func14, Try.ntmps14
  go_wp2_with (first
    | (go_at_call 35; refine (exists_yes _ HA.out).mono ?_; rintro e w' ⟨rfl, rfl⟩)
    | (go_at_call 36; refine (clright_any _ _ c (by omega) _ HC.out.ints).mono ?_; rintro e w' ⟨rfl, rfl⟩; rw [HR.out]))
  go_still_tail 10, (by kernel_rfl)
  change wpList _ _ _ _ _ w.drew
  obtain ⟨w1, hw1⟩ : ∃ x, w.drew = x := ⟨_, rfl⟩
  have t1 : Turn K w K w1 := by rw [← hw1]; exact Turn.of_below (Below.refl _ _).drew
  have HWh1 : Hid (Whole w1 g 40 (arC (.slice As (stO es).length cs) (.slice Ae es.length ce) m (sumL (clO es) : Nat) last)) := by rw [← hw1]; exact Lib.hid HWh.out
  have HS1 : Hid (w1.ownsRow 0 30 1 (.slice As (stO es).length cs) (stO es).length ((stO es).map (Value.int .i64))) := by rw [← hw1]; exact Lib.hid HS.out.drew
  have HE1 : Hid (w1.ownsRow 0 77 3 (.slice Ae es.length ce) es.length (entV 0 es)) := by rw [← hw1]; exact Lib.hid HE.out.drew
  have HM1 : Hid (w1.ownsMap Try.prog 3 (plainElem (H := Unit) Try.prog 3) m n D) := by rw [← hw1]; exact Lib.hid HM.out.drew
  rw [hw1]
  clear hw1 HWh HS HE HM hc0 hc1 hc2 hc3 hc4
  have hlen := HG.out.len_le
  go_wp2_with (at_mapUpdate; refine wpList_mapUpdate_own _ rfl _ _ _ 38 rfl 3 3 (Maps.int_keyed Try.underlying3) Try.underlying38 _ m n _ rfl HM1.out (by unfold maxLen; omega) _ _ _ rfl rfl HKey.out (dn es.length) [] (plainElem_int Try.underlying3 (int_wf (by omega))) ?_; intro w2 hown2 hg2)
  have t2 : Turn K w K w2 := t1.trans ⟨(Keeps.refl K w1).grown hg2 (fun r e => by cases e; exact .inl hKm), fun _ h => .inl h⟩
  have hwh2 := HWh1.out.same (hg2.block g HWh1.out.lt (fun e => (HWh1.out.map_ne HM1.out) (by injection e)))
  have hs2 := HS1.out.kept hg2 (.inr (row_map_ne HS1.out HM1.out))
  have he2 := HE1.out.kept hg2 (.inr (row_map_ne HE1.out HM1.out))
  have HM2 := Lib.hid hown2; have HWh2 := Lib.hid hwh2; have HS2 := Lib.hid hs2; have HE2 := Lib.hid he2
  have hC2 := HC.out.turn t2
  have HC2 := Lib.hid hC2; have T2 := Lib.hid t2
  have hc0 : w2.cell? ⟨g, 0, none⟩ = some (.slice As (stO es).length cs) := hwh2.cell 0
  have hc1 : w2.cell? ⟨g, 1, none⟩ = some (.slice Ae es.length ce) := hwh2.cell 1
  have hf1 : w2.frozen? ⟨g, 1, none⟩ = false := hwh2.frozen 1
  have hgl : g < w2.heap.size := hwh2.lt
  have hne : (Value.slice Ae es.length ce).ownBlock ≠ some g := HWh2.out.row_ne HE2.out (by decide)
  clear t1 t2 hown2 hg2 hwh2 hs2 he2 hC2 HWh1 HS1 HE1 HM1
  have hstl := HG.out.st_le
  have hcl := (rightB_of HR.out).1
  go_simp
  go_cut [] (fun wx => AddCut K w g m (n + 1) (D.put (li id) (dn es.length)) es (.slice As (stO es).length cs) (sumL (clO es) : Nat) last id c wx)
  case first =>
    obtain ⟨i0, hi0, hz0, hz1, hz2⟩ := info_parts infoEnt
    set_option maxHeartbeats 4000000 in
    go_region_law (refine step_append_lies _ (by rfl) _ _ _ (by rfl) 0 77 i0 _ 3 24 Try.underlying37 hi0 hz0 hz1 hz2 rfl (by omega) (.slice Ae es.length ce) es.length (entV 0 es) (by simp [Act.eval]) ((HE2.out.alloc _).drew) ⟨w2.heap.size, 0, none⟩ 1 1 [.int .i64 id, .int .i64 ((stO es).length : Nat), .int .i64 (c.length : Nat)] (by simp [Act.eval]) (by rfl) (World.news_of_block (cs := #[.int .i64 id, .int .i64 ((stO es).length : Nat), .int .i64 (c.length : Nat)]) (t := 77) (fr := (0, 0)) (heap_alloc_new w2 _)) (by simp [Value.oneCell']) (by omega) (by unfold maxLen; omega) (by omega) (Nat.zero_le _) (w2.heap.size + 1) (by simp) ?_; intro gg cap w3 hown3 hgrow hat hlt; have hc3 := (hgrow.cell_far ⟨g, 1, none⟩ (by simp; omega) (Ne.symm hne)).trans (((below1a w2 _).cell (p := ⟨g, 1, none⟩) hgl).trans hc1); have hf3 := (hgrow.frozen_far ⟨g, 1, none⟩ (by simp; omega) (Ne.symm hne)).trans (((below1a w2 _).frozen (p := ⟨g, 1, none⟩) hgl).trans hf1))
    all_goals
      have hgrow' : (w2.alloc (.cells #[.int .i64 id, .int .i64 ((stO es).length : Nat), .int .i64 (c.length : Nat)] 77)).grownBy w3 (Value.slice Ae es.length ce).ownBlock := ⟨hgrow.os, hgrow.tape, hgrow.output, hgrow.size, hgrow.block⟩
      obtain ⟨hwh4, hs4, he4, hm4, t4⟩ := after_entry HWh2.out HS2.out HE2.out HM2.out hgrow' rfl hown3 hat hKg HKe.out
      have t4' := T2.out.trans t4
      have hfin : AddCut K w g m (n + 1) (D.put (li id) (dn es.length)) es (.slice As (stO es).length cs) (sumL (clO es) : Nat) last id c (w3.setCell ⟨g, 1, none⟩ (.slice (some ⟨gg, 0, none⟩) (es.length + 1) cap)) := ⟨gg, cap, hwh4, hs4, he4, hm4, t4'⟩
      have HF := Lib.hid hfin
      clear hwh4 hs4 he4 hm4 t4 t4' hgrow' hfin
      go_simp
      go_wp2_with fail
      go_meet
      exact HF.out
  case rest =>
    obtain ⟨gg, cap, hwh4, hs4, he4, hm4, t4⟩ := hcut
    clear hc0 hc1 hf1 hgl hne HM2 HWh2 HS2 HE2 HC2 T2
    have hC4 := HC.out.turn t4
    have hc0 : wc.cell? ⟨g, 0, none⟩ = some (.slice As (stO es).length cs) := hwh4.cell 0
    have HWh4 := Lib.hid hwh4; have HS4 := Lib.hid hs4; have HE4 := Lib.hid he4; have HM4 := Lib.hid hm4; have HC4 := Lib.hid hC4; have T4 := Lib.hid t4
    clear hwh4 hs4 he4 hm4 t4 hC4
    obtain ⟨i1, hi1, hy0, hy1, hy2⟩ := info_parts infoLit
    go_wp2_with (at_builtin; refine wpList_append2 rfl _ _ 28 29 rfl 30 i1 (.int .i64 0) 8 Try.underlying28 Try.underlying29 hi1 hy0 hy1 hy2 rfl 0 _ _ _ rfl HS4.out .i64 _ (.slice Ac c.length cc) c rfl HC4.out.ints (by unfold maxLen; omega) (by omega) (Nat.zero_le _) ?_; intro v5 w5 hown5 hg5 hat5; obtain ⟨A5, c5, rfl⟩ := own_shape0 hown5; have hst5 := Lib.hid (after_store (K := fun i => K i ∨ i = gg) HWh4.out HS4.out HE4.out HM4.out hg5 hown5 hat5 (.inl hKg) (fun b e => .inl (HKs.out b e))); have hw5 : Whole w5 g 40 (arC (.slice As (stO es).length cs) (.slice (some ⟨gg, 0, none⟩) (es.length + 1) cap) m (sumL (clO es) : Nat) last) := HWh4.out.same (hg5.block g HWh4.out.lt (fun e => HWh4.out.row_ne HS4.out (by decide) e.symm)); have hf5 := hw5.frozen; have hc50 : w5.cell? ⟨g, 0, none⟩ = some (.slice As (stO es).length cs) := hw5.cell 0; have hc53 : w5.cell? ⟨g, 3, none⟩ = some (.int .i64 (sumL (clO es) : Nat)) := hw5.cell 3; have hc54 : w5.cell? ⟨g, 4, none⟩ = some (.int .i64 last) := hw5.cell 4; clear hown5 hg5 hat5 hw5)
    obtain ⟨p0, p1, p2, p3, p4⟩ := hst5.out
    obtain ⟨q0, q1, q2, q3, q4⟩ := after_num 3 (.int .i64 ((sumL (clO es) : Nat) + (c.length : Nat) : Int)) p0 p1 p2 p3 (K := fun i => (K i ∨ i = gg) ∨ (Value.slice A5 ((stO es).length + c.length) c5).ownBlock = some i) (.inl (.inl hKg))
    obtain ⟨r0, r1, r2, r3, r4⟩ := after_num 4 (.int .i64 id) q0 q1 q2 q3 (K := fun i => (K i ∨ i = gg) ∨ (Value.slice A5 ((stO es).length + c.length) c5).ownBlock = some i) (.inl (.inl hKg))
    obtain ⟨K', hA, hT⟩ := add_done (Kx := fun i => (K i ∨ i = gg) ∨ (Value.slice A5 ((stO es).length + c.length) c5).ownBlock = some i) r0 r1 r2 r3 hn HI.out HG.out h1 h2 h3 h4 (T4.out.trans (p4.trans (q4.trans r4))) (.inl (.inl hKg)) (.inl (.inl hKm)) (fun b e => .inr e) (fun b e => .inl (.inr (by simpa [Value.ownBlock] using e.symm)))
    go_ret
    exact ⟨K', rfl, hA, hT⟩
end Go.Proofs.Ytjkhhnfmefbohaa
