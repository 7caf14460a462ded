/- The arena's move: what is there is stored anew. -/
import Derived.Test.YtjkhhnfmefbohaaArAdd
import Derived.WalkMore
namespace Go.Proofs.Ytjkhhnfmefbohaa
open Go.RowKit Go.ChangeAt Go.ChangeShapes Go.WideShapes

theorem run_makeMap_hint {t : TypeId} {k e : TypeId} (hu : Try.prog.underlying t = some (.map k e)) (W : World) (n : Int) : (Instr.makeMap t (some (.int .i64 n))).run Try.prog W = .ok (.map (some W.heap.size)) (W.alloc (.map #[] 0)) := by
  simp [Instr.makeMap, run_underlying hu, asInt, asIntOf, Result.andThen]
theorem isOn_off {es : List Ent} (hp : es.Pairwise fun a b => a.id < b.id) {k : Nat} {e : Ent} (hk : es[k]? = some e) (ho : e.on = false) : isOn es e.id = false := by
  unfold isOn
  rw [List.any_eq_false]
  intro x hx
  obtain ⟨j, hj⟩ := List.mem_iff_getElem?.1 hx
  obtain ⟨hjl, rfl⟩ := List.getElem?_eq_some_iff.1 hj
  obtain ⟨hkl, rfl⟩ := List.getElem?_eq_some_iff.1 hk
  rcases Nat.lt_trichotomy j k with h | h | h
  · have := List.pairwise_iff_getElem.1 hp j k hjl hkl h
    have : es[j].id ≠ es[k].id := by omega
    simp [this]
  · subst h; simp [ho]
  · have := List.pairwise_iff_getElem.1 hp k j hkl hjl h
    have : es[j].id ≠ es[k].id := by omega
    simp [this]
/-- The first k entries, as far as they are there. -/
def preE (es : List Ent) (k : Nat) : List Ent := liveO (es.take k)
theorem preE_on {es : List Ent} {k : Nat} {e : Ent} (hk : es[k]? = some e) (ho : e.on = true) : preE es (k + 1) = preE es k ++ [e] := by
  unfold preE
  obtain ⟨hl, rfl⟩ := List.getElem?_eq_some_iff.1 hk
  rw [List.take_succ_eq_append_getElem hl, liveO_app]
  simp [liveO, ho]
theorem preE_off {es : List Ent} {k : Nat} {e : Ent} (hk : es[k]? = some e) (ho : e.on = false) : preE es (k + 1) = preE es k := by
  unfold preE
  obtain ⟨hl, rfl⟩ := List.getElem?_eq_some_iff.1 hk
  rw [List.take_succ_eq_append_getElem hl, liveO_app]
  simp [liveO, ho]
theorem preE_len (es : List Ent) (k : Nat) : (preE es k).length ≤ es.length := Nat.le_trans (List.length_filter_le _ _) (by rw [List.length_take]; omega)
theorem preE_st (es : List Ent) (k : Nat) : (stO (preE es k)).length ≤ sumL (clO es) := by
  unfold preE
  rw [stO_live]
  have : clO es = clO (es.take k) ++ clO (es.drop k) := by rw [← clO_app, List.take_append_drop]
  rw [this, sumL_app]
  omega
theorem preE_lt {es : List Ent} (hp : es.Pairwise fun a b => a.id < b.id) {k : Nat} {e : Ent} (hk : es[k]? = some e) : ∀ x ∈ preE es k, x.id ≤ e.id - 1 := by
  intro x hx
  obtain ⟨hx, -⟩ := List.mem_filter.1 hx
  obtain ⟨j, hj⟩ := List.mem_iff_getElem?.1 hx
  rw [List.getElem?_take] at hj
  split at hj
  · rename_i hjk
    obtain ⟨hjl, rfl⟩ := List.getElem?_eq_some_iff.1 hj
    obtain ⟨hkl, rfl⟩ := List.getElem?_eq_some_iff.1 hk
    have := List.pairwise_iff_getElem.1 hp j k hjl hkl hjk
    omega
  · cases hj
theorem preE_all (es : List Ent) : preE es es.length = liveO es := by unfold preE; rw [List.take_length]

theorem kept0 {w w' : World} {base : Nat} {e : TypeId} {size n : Nat} {v : Value} {xs : List Value} (h : w.ownsRow base e size v n xs) (hg : w.grownBy w' none) : w'.ownsRow base e size v n xs := h.kept hg (by cases v.ownBlock <;> simp)
theorem grown_none {w w' : World} (h : w.grownBy w' none) : Below w.heap.size w w' := ⟨h.os, h.tape, h.output, h.size, fun k hk => h.block k hk (by simp)⟩
/-- Two rows and a map that lie above w. -/
structure R3 (w : World) (n2 : Nat) (L2 : List Value) (v2 : Value) (n3 : Nat) (L3 : List Value) (v3 : Value) (m c : Nat) (D : DataW Unit) (wr : World) : Prop where
  row2 : wr.ownsRow w.heap.size 30 1 v2 n2 L2
  row3 : wr.ownsRow w.heap.size 77 3 v3 n3 L3
  map : wr.ownsMap Try.prog 3 (plainElem (H := Unit) Try.prog 3) m c D
  at_ : w.heap.size ≤ m
  below : Below w.heap.size w wr
section
variable {w wr w' : World} {n2 n2' n3 n3' m c c' : Nat} {L2 L2' L3 L3' : List Value} {v2 v2' v3 v3' : Value} {D D' : DataW Unit}
theorem R3.on (h : R3 w n2 L2 v2 n3 L3 v3 m c D wr) (hb : Below wr.heap.size wr w') : R3 w n2 L2 v2 n3 L3 v3 m c D w' := by
  have hg : wr.grownBy w' none := ⟨hb.os, hb.tape, hb.output, hb.size, fun k hk _ => hb.block k hk⟩
  exact ⟨kept0 h.row2 hg, kept0 h.row3 hg, h.map.kept hg (by simp), h.at_, h.below.trans (hb.mono h.below.size)⟩
theorem R3.mapStep (h : R3 w n2 L2 v2 n3 L3 v3 m c D wr) (ho : w'.ownsMap Try.prog 3 (plainElem (H := Unit) Try.prog 3) m c' D') (hg : wr.grownBy w' (some m)) : R3 w n2 L2 v2 n3 L3 v3 m c' D' w' :=
  ⟨h.row2.kept hg (.inr (row_map_ne h.row2 h.map)), h.row3.kept hg (.inr (row_map_ne h.row3 h.map)), ho, h.at_, h.below.grown hg h.below.size (fun k e => by cases e; exact h.at_)⟩
theorem R3.row3Step (h : R3 w n2 L2 v2 n3 L3 v3 m c D wr) (ho : w'.ownsRow w.heap.size 77 3 v3' n3' L3') (hg : wr.grownBy w' v3.ownBlock) : R3 w n2 L2 v2 n3' L3' v3' m c D w' :=
  ⟨h.row2.kept hg (rows_ne h.row2 h.row3 (by decide)), ho, h.map.kept hg (fun e => row_map_ne h.row3 h.map e.symm), h.at_, h.below.grown hg h.below.size (fun k e => (h.row3.lt k e).1)⟩
theorem R3.row2Step (h : R3 w n2 L2 v2 n3 L3 v3 m c D wr) (ho : w'.ownsRow w.heap.size 30 1 v2' n2' L2') (hg : wr.grownBy w' v2.ownBlock) : R3 w n2' L2' v2' n3 L3 v3 m c D w' :=
  ⟨ho, h.row3.kept hg (rows_ne h.row3 h.row2 (by decide)), h.map.kept hg (fun e => row_map_ne h.row2 h.map e.symm), h.at_, h.below.grown hg h.below.size (fun k e => (h.row2.lt k e).1)⟩
end
/-- What has been stored anew. -/
def MoveSt (w : World) (fs : List Ent) (v2 v3 : Value) (m2 n2 : Nat) (D2 : DataW Unit) (wr : World) : Prop :=
  R3 w (stO fs).length ((stO fs).map (Value.int .i64)) v2 fs.length (entV 0 fs) v3 m2 n2 D2 wr ∧ IdxE D2 fs
def MoveRel (es : List Ent) (w : World) (m2 : Nat) (t2 t3 t29 : Value) (wr : World) : Prop :=
  ∃ (k : Nat) (v2 v3 : Value) (n2 : Nat) (D2 : DataW Unit), t2 = v2 ∧ t3 = v3 ∧ t29 = .int .i64 k ∧ k ≤ es.length ∧ n2 ≤ (preE es k).length ∧ MoveSt w (preE es k) v2 v3 m2 n2 D2 wr
theorem move_on {es : List Ent} {k : Nat} {e : Ent} {w wr : World} {v2 v3 : Value} {m2 n2 : Nat} {D2 : DataW Unit} (hp : es.Pairwise fun a b => a.id < b.id) (hk : es[k]? = some e) (ho : e.on = true)
    (hi : IdxE D2 (preE es k)) (h : R3 w ((stO (preE es k)).length + e.ls.length) ((stO (preE es k)).map (Value.int .i64) ++ e.ls.map (Value.int .i64)) v2 ((preE es k).length + 1) (entV 0 (preE es k) ++ [.int .i64 e.id, .int .i64 ((stO (preE es k)).length : Nat), .int .i64 (e.ls.length : Nat)]) v3 m2 n2 (D2.put (li e.id) (dn (preE es k).length)) wr) :
    MoveSt w (preE es (k + 1)) v2 v3 m2 n2 (D2.put (li e.id) (dn (preE es k).length)) wr := by
  obtain ⟨id, ls, on⟩ := e
  obtain rfl : on = true := ho
  rw [preE_on hk rfl]
  refine ⟨?_, hi.add (preE_lt hp hk) (by show id - 1 < id; omega)⟩
  rw [stO_snoc, entV_snoc, List.length_append, List.map_append, List.length_append]
  exact h
theorem move_end {K : Nat → Prop} {w wr : World} {g m2 n2 m : Nat} {es : List Ent} {last : Int} {sv ev v2 v3 : Value} {D2 : DataW Unit} (hG : GoodE es last) (hst : MoveSt w (liveO es) v2 v3 m2 n2 D2 wr) (hn : n2 ≤ (liveO es).length)
    (hw : Whole w g 40 (arC sv ev m (sumL (clO es) : Nat) last)) (hKg : K g) :
    ∃ K', Arena K' (((wr.setCell ⟨g, 0, none⟩ v2).setCell ⟨g, 1, none⟩ v3).setCell ⟨g, 2, none⟩ (.map (some m2))) g (liveO es) last ∧ Turn K w K' (((wr.setCell ⟨g, 0, none⟩ v2).setCell ⟨g, 1, none⟩ v3).setCell ⟨g, 2, none⟩ (.map (some m2))) := by
  obtain ⟨h, hi⟩ := hst
  have hwr : Whole wr g 40 (arC sv ev m (sumL (clO es) : Nat) last) := hw.same (h.below.block g hw.lt)
  have hl : (liveO es).length ≤ es.length := List.length_filter_le _ _
  have hlen := hG.len
  obtain ⟨p0, p1, p2, p3, p4⟩ := after_num (K := K) 0 v2 hwr (owns_mono h.row2 (Nat.zero_le _)) (owns_mono h.row3 (Nat.zero_le _)) h.map hKg
  obtain ⟨q0, q1, q2, q3, q4⟩ := after_num (K := K) 1 v3 p0 p1 p2 p3 hKg
  obtain ⟨r0, r1, r2, r3, r4⟩ := after_num (K := K) 2 (.map (some m2)) q0 q1 q2 q3 hKg
  have t : Turn K w K _ := (Turn.of_below h.below).trans (p4.trans (q4.trans r4))
  have ht : Turn K w (fun i => K i ∨ w.heap.size ≤ i) (((wr.setCell ⟨g, 0, none⟩ v2).setCell ⟨g, 1, none⟩ v3).setCell ⟨g, 2, none⟩ (.map (some m2))) := ⟨t.1, fun i x => x⟩
  exact arena_of (by rw [clO_live]; exact r0) r1 r2 r3 (by omega) hi (good_moved hG.inc hG.lo hG.last0 hG.last1 hG.used) ht (.inl hKg) (.inr h.at_) (fun b e => .inr (h.row2.lt b e).1) (fun b e => .inr (h.row3.lt b e).1)

set_option maxRecDepth 100000 in
set_option maxHeartbeats 4000000 in
theorem move_any {K : Nat → Prop} {g : Nat} {es : List Ent} {last : Int} (w : World) (h : Arena K w g es last) : Calls Try.prog 39 #[.pointer (some ⟨g, 0, none⟩)] w fun r w' =>
    (∃ v, r = .returned v) ∧ ∃ K', Arena K' w' g (liveO es) last ∧ Turn K w K' w' := by
  have HA := Lib.hid h
  have hgd := h.good
  have hu := hgd.used
  have hlen := hgd.len_le
  obtain ⟨sv, ev, m, n, D, hwh, -, he, hm, -, hi, -, hKg, -⟩ := h
  have hc0 : w.cell? ⟨g, 0, none⟩ = some sv := hwh.cell 0
  have hc1 : w.cell? ⟨g, 1, none⟩ = some ev := hwh.cell 1
  have hc2 : w.cell? ⟨g, 2, none⟩ = some (.map (some m)) := hwh.cell 2
  have hc3 : w.cell? ⟨g, 3, none⟩ = some (.int .i64 (sumL (clO es) : Nat)) := hwh.cell 3
  have hgl := hwh.lt
  have HW := Lib.hid hwh
  obtain ⟨Ae, ce, rfl⟩ := own_shape0 he
  have hce := fun k e (hk : es[k]? = some e) => ent_cells he hk
  have hsz := hi.size
  have hcl := cl_le es
  have hmm := fun W n => run_makeMap_hint (t := 38) Try.underlying38 W n
  obtain ⟨i0, hi0, hz0, hz1, hz2⟩ := info_parts infoEnt
  obtain ⟨i1, hi1, hy0, hy1, hy2⟩ := info_parts infoLit
  have HG := Lib.hid hgd; have HM := Lib.hid hm; have HCE := Lib.hid hce; have HSz := Lib.hid hsz
  clear hgd hm hce hsz he hi hwh
  go_enter Try.func39, Try.ntmps39
  go_step3
  go_wp2_with (first
    | (at_make; refine wpList_make_own _ rfl _ _ 28 rfl w.heap.size 30 i1 (.int .i64 0) 1 Try.underlying28 hi1 hy0 hy1 .i64 .i64 _ _ rfl rfl rfl (by rw [hy2]; omega) (by unfold maxLen; omega) (Nat.le_refl _) ?_; intro w1 hown1 hg1; have hb1 := grown_none hg1; have hc1 := (hb1.cell (p := ⟨g, 1, none⟩) hgl).trans hc1; have hc2 := (hb1.cell (p := ⟨g, 2, none⟩) hgl).trans hc2; have HR1 := Lib.hid hown1; have HB1 := Lib.hid hb1; have hM1 := HM.out.kept hg1 (by simp); have HM1 := Lib.hid hM1; have hgl1 := Nat.lt_of_lt_of_le hgl HB1.out.size; clear hown1 hg1 hb1 hM1)
    | (at_len; refine wpList_len_own _ rfl _ 38 rfl 3 3 Try.underlying38 _ m n D rfl HM2.out ?_; rw [HSz.out])
    | (at_len; refine wpList_len_own _ rfl _ 38 rfl 3 3 Try.underlying38 _ m n D rfl HM1.out ?_; rw [HSz.out])
    | (at_make; (refine wpList_make_own _ rfl _ _ 37 rfl w.heap.size 77 i0 _ 3 Try.underlying37 hi0 hz0 hz1 .i64 .i64 _ _ rfl rfl rfl (by rw [hz2]; omega) (by unfold maxLen; omega) HB1.out.size ?_; intro w2 hown2 hg2; have hb2 := grown_none hg2; have hc1 := (hb2.cell (p := ⟨g, 1, none⟩) hgl1).trans hc1; have hc2 := (hb2.cell (p := ⟨g, 2, none⟩) hgl1).trans hc2; have hR2 := kept0 HR1.out hg2; have HR2 := Lib.hid hR2; have HE2 := Lib.hid hown2; have hB2 := HB1.out.trans (hb2.mono HB1.out.size); have HB2 := Lib.hid hB2; have hM2 := HM1.out.kept hg2 (by simp); have HM2 := Lib.hid hM2; have hgl2 := Nat.lt_of_lt_of_le hgl HB2.out.size; clear hown2 hg2 hb2 hM2 hB2 hR2)))
  go_step3
  go_wp2_with fail
  have h00 : R3 w 0 [] (.slice (some ⟨w.heap.size, 0, none⟩) 0 (sumL (clO es))) 0 [] (.slice (some ⟨w1.heap.size, 0, none⟩) 0 (clO es).length) w2.heap.size 0 (.map []) (w2.alloc (.map #[] 0)) := ⟨HR2.out.alloc _, HE2.out.alloc _, World.ownsMap_made _ _ _ _, HB2.out.size, HB2.out.alloc HB2.out.size _⟩
  have H00 := Lib.hid h00
  clear h00 HR2 HE2 HB2 HM2 HR1 HB1 HM1 hc0 hc1 hc2 hc3
  obtain ⟨mm, hmm2⟩ : ∃ x, w2.heap.size = x := ⟨_, rfl⟩
  rw [hmm2] at H00 ⊢
  go_loopw [2, 3, 29] (fun a b d wr => MoveRel es w mm a b d wr) (fun _ _ d _ => es.length - (intOf d).toNat)
  case atStart => exact ⟨0, _, _, 0, .map [], rfl, rfl, rfl, Nat.zero_le _, Nat.zero_le _, H00.out, idx_new⟩
  case round =>
    obtain ⟨k, v2, v3, n2, D2, rfl, rfl, rfl, hk, hn2, hst⟩ := hrel
    by_cases hlt : k < es.length
    · obtain ⟨e, hke⟩ : ∃ e, es[k]? = some e := ⟨es[k]'hlt, List.getElem?_eq_getElem _⟩
      obtain ⟨bb, cap, hsv, hbl2, e0, e1, e2⟩ := HCE.out _ e hke
      injection hsv with hA _ hcap
      subst hA hcap
      have e0 := (hst.1.below.cell (p := ⟨bb, k * 3, none⟩) hbl2).trans e0
      have e1 := (hst.1.below.cell (p := ⟨bb, k * 3 + 1, none⟩) hbl2).trans e1
      have e2 := (hst.1.below.cell (p := ⟨bb, k * 3 + 2, none⟩) hbl2).trans e2
      have hid := HG.out.lo e (List.mem_of_getElem? hke)
      have hl1 := HG.out.last1
      have hbx : Below w.heap.size w (wr.alloc (.cells #[.int .i64 e.id, .int .i64 (offE es k : Nat), .int .i64 (e.ls.length : Nat)] 77)) := hst.1.below.alloc hst.1.below.size _
      have HST := Lib.hid hst
      cases ho : e.on
      · have hf := has_no e.id (int_wf (by omega)) _ (HA.out.on hbx) (isOn_off HG.out.inc hke ho)
        have hpre := preE_off hke ho
        have HF := Lib.hid hf; have HP := Lib.hid hpre
        clear hst hf hpre hke ho hbx
        obtain ⟨id, hID⟩ : ∃ i, e.id = i := ⟨_, rfl⟩
        obtain ⟨of, hOf⟩ : ∃ i, offE es k = i := ⟨_, rfl⟩
        obtain ⟨ln, hLn⟩ : ∃ i, e.ls.length = i := ⟨_, rfl⟩
        rw [hID] at e0 hid
        rw [hOf] at e1
        rw [hLn] at e2
        rw [hID, hOf, hLn] at HF
        clear hID hOf hLn
        go_wp2_with (go_at_call 21; refine (HF.out).mono ?_; rintro r w3 ⟨rfl, hB3⟩)
        refine ⟨⟨k + 1, _, _, n2, D2, rfl, rfl, by go_num, by omega, by rw [HP.out]; exact hn2, ?_⟩, ?_⟩
        · rw [HP.out]; exact ⟨HST.out.1.on ((below1a _ _).trans (hB3.mono (by simp))), HST.out.2⟩
        · simp [intOf]; omega
      · have hf := has_yes _ (HA.out.on hbx) hke ho
        have hL := fun (W : World) (hA : Arena K W g es last) => literals_any e.id W hA hke
        have hll := HG.out.ls_le hke ho
        have hfin := fun (X2 X3 : Value) (wx : World) => move_on (w := w) (wr := wx) (v2 := X2) (v3 := X3) (m2 := mm) (n2 := n2 + 1) HG.out.inc hke ho HST.out.2
        have hprl := preE_on hke ho
        have hpl := preE_len es k
        have hps := preE_st es k
        have hkey := keyI e.id (int_wf (by omega))
        have HF := Lib.hid hf; have HL := Lib.hid hL; have HFin := Lib.hid hfin; have HP := Lib.hid hprl; have HKey := Lib.hid hkey
        obtain ⟨A2, c2, rfl⟩ := own_shape0 hst.1.row2
        obtain ⟨A3, c3, rfl⟩ := own_shape0 hst.1.row3
        clear hst hf hL hfin hprl hke ho hbx hkey
        obtain ⟨id, hID⟩ : ∃ i, e.id = i := ⟨_, rfl⟩
        obtain ⟨of, hOf⟩ : ∃ i, offE es k = i := ⟨_, rfl⟩
        obtain ⟨ln, hLn⟩ : ∃ i, e.ls.length = i := ⟨_, rfl⟩
        rw [hID] at e0 hid HKey
        rw [hOf] at e1
        rw [hLn] at e2 hll
        rw [hID, hOf, hLn] at HF HL
        rw [hID, hLn] at HFin
        have hll2 : e.ls.length ≤ 1048576 := by omega
        have HLe := Lib.hid hLn
        clear hID hOf hLn
        have hR0 := HST.out.1.on (below1a wr (.cells #[.int .i64 id, .int .i64 (of : Nat), .int .i64 (ln : Nat)] 77))
        have HR0 := Lib.hid hR0
        clear hR0
        have hszr := HST.out.1.below.size
        have hr3 : ∀ b, (Value.slice A3 (preE es k).length c3).ownBlock = some b → b < wr.heap.size := fun b e => (HST.out.1.row3.lt b e).2
        have Hr3 := Lib.hid hr3
        clear hr3
        go_wp2_with (first
          | (go_at_call 21; (refine (HF.out).mono ?_; rintro r w3 ⟨rfl, hB3⟩; have hX3 := (Whole.made wr 77 #[.int .i64 id, .int .i64 (of : Nat), .int .i64 (ln : Nat)]).same (hB3.block wr.heap.size (by simp)); have x0 : w3.cell? ⟨wr.heap.size, 0, none⟩ = some (.int .i64 id) := hX3.cell 0; have x2 : w3.cell? ⟨wr.heap.size, 2, none⟩ = some (.int .i64 (ln : Nat)) := hX3.cell 2; have HX3 := Lib.hid hX3; have hR3 := HR0.out.on hB3; have HR3 := Lib.hid hR3; clear hX3 hR3 hB3))
          | (at_mapUpdate; (refine wpList_mapUpdate_own _ rfl _ _ _ 38 rfl 3 3 (Maps.int_keyed Try.underlying3) Try.underlying38 _ mm n2 D2 rfl HR3.out.map (by unfold maxLen; omega) _ _ _ rfl rfl HKey.out (dn (preE es k).length) [] (plainElem_int Try.underlying3 (int_wf (by omega))) ?_; intro w4 hown4 hg4; have hR4 := HR3.out.mapStep hown4 hg4; have hX4 := HX3.out.same (hg4.block wr.heap.size HX3.out.lt (by have := HX3.out.map_ne HR3.out.map; simpa using this)); have x0 : w4.cell? ⟨wr.heap.size, 0, none⟩ = some (.int .i64 id) := hX4.cell 0; have x2 : w4.cell? ⟨wr.heap.size, 2, none⟩ = some (.int .i64 (ln : Nat)) := hX4.cell 2; have HX4 := Lib.hid hX4; have HR4 := Lib.hid hR4; clear hX4 hR4 hown4 hg4))
          | (at_builtin; (refine wpList_append_own _ rfl _ _ 37 rfl w.heap.size 77 i0 _ 3 24 Try.underlying37 hi0 hz0 hz1 hz2 rfl (by decide) _ _ _ rfl (HR4.out.row3.alloc _) ⟨w4.heap.size, 0, none⟩ 1 1 [.int .i64 id, .int .i64 ((stO (preE es k)).length : Nat), .int .i64 (ln : Nat)] rfl rfl (World.news_of_block (cs := #[.int .i64 id, .int .i64 ((stO (preE es k)).length : Nat), .int .i64 (ln : Nat)]) (t := 77) (fr := (0, 0)) (heap_alloc_new w4 _)) (by simp [Value.oneCell']) (by unfold maxLen; omega) (by omega) (by have := HR4.out.below.size; simp; omega) ?_; intro v5 w5 hown5 hg5 _; obtain ⟨A5, c5, rfl⟩ := own_shape0 hown5; have hR5 := (HR4.out.on (below1a w4 _)).row3Step hown5 hg5; have hX5 := (HX4.out.same ((below1a w4 _).block wr.heap.size HX4.out.lt)).same (hg5.block wr.heap.size (Nat.lt_of_lt_of_le HX4.out.lt (below1a w4 _).size) (fun e => by have := Hr3.out _ e.symm; omega)); have x0 : w5.cell? ⟨wr.heap.size, 0, none⟩ = some (.int .i64 id) := hX5.cell 0; have x1 : w5.cell? ⟨wr.heap.size, 1, none⟩ = some (.int .i64 (of : Nat)) := hX5.cell 1; have x2 : w5.cell? ⟨wr.heap.size, 2, none⟩ = some (.int .i64 (ln : Nat)) := hX5.cell 2; have HR5 := Lib.hid hR5; clear hX5 hR5 hown5 hg5))
          | (go_at_call 42; (refine (HL.out _ (HA.out.on HR5.out.below)).mono ?_; rintro r w6 ⟨v6, rfl, hI6, hB6⟩; have hR6 := HR5.out.on hB6; have HR6 := Lib.hid hR6; obtain ⟨A6, c6, rfl, -⟩ := ints_shape hI6; have HI6 := Lib.hid hI6; clear hR6 hI6 hB6))
          | (at_builtin; (refine wpList_append2 rfl _ _ 28 29 rfl 30 i1 (.int .i64 0) 8 Try.underlying28 Try.underlying29 hi1 hy0 hy1 hy2 rfl w.heap.size _ _ _ rfl HR6.out.row2 .i64 _ _ e.ls rfl HI6.out (by unfold maxLen; omega) (by omega) HR6.out.below.size ?_; intro v7 w7 hown7 hg7 _; have hR7 := HR6.out.row2Step hown7 hg7; have HR7 := Lib.hid hR7; clear hR7 hown7 hg7)))
        refine ⟨⟨k + 1, _, _, n2 + 1, _, rfl, rfl, by go_num, by omega, by rw [HP.out]; simp; omega, HFin.out _ _ _ (by have h7 := HR7.out; rw [HLe.out] at h7; exact h7)⟩, ?_⟩
        simp [intOf]; omega
    · obtain rfl : k = es.length := by omega
      rw [preE_all] at hst hn2
      obtain ⟨A2, c2, rfl⟩ := own_shape0 hst.1.row2
      obtain ⟨A3, c3, rfl⟩ := own_shape0 hst.1.row3
      have hwr := HW.out.same (hst.1.below.block g hgl)
      have hfz := hwr.frozen
      have hc0 : wr.cell? ⟨g, 0, none⟩ = some sv := hwr.cell 0
      have hc1 : wr.cell? ⟨g, 1, none⟩ = some (.slice Ae es.length ce) := hwr.cell 1
      have hc2 : wr.cell? ⟨g, 2, none⟩ = some (.map (some m)) := hwr.cell 2
      have HSt := Lib.hid hst
      clear hwr hst
      go_wp2_with fail
      rw [Exit.noGoto_normal]
      go_end0
      exact ⟨⟨_, rfl⟩, move_end HG.out HSt.out hn2 HW.out hKg⟩
end Go.Proofs.Ytjkhhnfmefbohaa
