/- clauses.sorted: literals in their order, each once. -/
import Derived.Test.YtgoflapolglfcaaGreatRight
import Derived.Test.YtgoflapolglfcaaGreatShelf
import Derived.Sort.OwnSortedInts
import Derived.Lib.OwnBridge
namespace Go.Proofs.YtgoflapolglfcaaGreat
open Go.ChangeShapes Go.WideShapes Go.ChangeAt Go.RowKit Go.Shelf Go.Sort

theorem below_grown (w : World) (n : Nat) (os : Array Obj) : RowKit.Below w.heap.size w (grow (w.drewN n) os) :=
  ⟨rfl, rfl, rfl, by simp, fun k hk => heap_grow_old _ _ (by simpa using hk)⟩
/-- A reading of a row leaves all as it was. -/
theorem SW.belowHere {w W : World} {blk off : Nat} {d : Array Int} (hH : Holds (Value.int .i64) w blk off d) (h : SW (Value.int .i64) w blk off d W) : RowKit.Below w.heap.size w W := by
  obtain ⟨n, os, rfl⟩ := h
  have h0 : Holds (Value.int .i64) (Sort.ahead w n) blk off d := holds_ahead _ w n blk off d hH
  show RowKit.Below w.heap.size w (grow (putRow (Value.int .i64) (Sort.ahead w n) blk off d) os)
  rw [putRow_self _ _ _ _ _ h0]
  exact below_grown w n os
theorem swoI : SWO (ltOf compareI) := ⟨ltI_irrefl, fun _ _ _ h k => ltI_trans h k, fun x y z h k => by
  have h1 : leI y x = true := by unfold leI; rw [show ltI x y = false from h]; rfl
  have h2 : leI z y = true := by unfold leI; rw [show ltI y z = false from k]; rfl
  have h3 := leI_trans z y x h2 h1
  have h4 : ltI x z = false := by simpa [leI] using h3
  exact h4⟩
theorem cmp_reads (blk off size : Nat) (w : World) : CmpReads Tryz.prog 74 #[] (Value.int .i64) compareI blk off size w := fun _ _ _ _ x y => (compare_any x y _).mono fun _ _ ⟨he, hw⟩ => ⟨he, 0, hw.symm⟩
theorem eg_cmp : ∀ args w, (callFunc 74 args).run Tryz.prog w = .ok (.enter 74 args) w := enters_of Tryz.func74 (by kernel_rfl) rfl

/-- The sort of a row of the call's own. -/
theorem sortL_own {B : Nat} (W : World) (v : Value) (zs : List Int) (hz : zs.length < 4611686018427387904) (hrow : W.ownsRow B 35 1 v zs.length (zs.map (Value.int .i64))) (hvn : v ≠ .slice none 0 0) (hB : B ≤ W.heap.size) :
    Calls Tryz.prog 94 #[v, .func (.func 74) #[] #[]] W fun e W' => e = .returned (.tuple #[]) ∧ W'.ownsRow B 35 1 v zs.length ((msI zs).map (Value.int .i64)) ∧ RowKit.Below B W W' := by
  obtain ⟨g, cap, rfl, hbg, hgl, hncap, hcm, hlen, hH⟩ := Lib.holds_of_ownsRow hrow hvn
  have hs : zs.toArray.size = zs.length := by simp
  have hc := Tryz.slices_SortFunc_total_f94 (Value.int .i64) (fun _ => rfl) compareI swoI 74 #[] g 0 cap zs.toArray W eg_cmp (cmp_reads g 0 _ W).lays hH hgl (by simpa using hz) (fun x y h k => ltI_total h k)
  rw [hs] at hc
  refine hc.mono fun e W' ⟨he, n, os, hw⟩ => ⟨he, ?_, ?_⟩
  · rw [hw]
    rcases hrow.2 with ⟨h0, _⟩ | ⟨g', cap', cur, hv', hbase, hb, h1, h2, h3, h4⟩
    · cases h0
    · cases hv'
      exact ownsRow_sortedI (msI_length zs) hbase hb h1 h2 h3
  · rw [hw]
    exact (RowKit.Below.refl _ W).grown (grownBy_sortedI _) hB (fun k e => by cases e; exact hbg)
/-- slices.Compact of a row of the call's own. -/
theorem compactL_own {B : Nat} (W : World) (v : Value) (zs : List Int) (hz : zs.length ≤ 1000000) (hrow : W.ownsRow B 35 1 v zs.length (zs.map (Value.int .i64))) (hvn : v ≠ .slice none 0 0) (hB : B ≤ W.heap.size) :
    Calls Tryz.prog 95 #[v] W fun e W' => ∃ b cap, e = .returned (.slice (some ⟨b, 0, none⟩) (Lib.compact zs).length cap) ∧ B ≤ b ∧ b < W'.heap.size ∧ Holds (Value.int .i64) W' b 0 (Lib.compact zs).toArray ∧ RowKit.Below B W W' := by
  obtain ⟨g, cap, rfl, hbg, hgl, hncap, hcm, hlen, hH⟩ := Lib.holds_of_ownsRow hrow hvn
  have hcl := Lib.compact_length_le zs
  refine (Tryz.slices_Compact_int_f95 g 0 cap zs W hH (by omega) hncap).mono fun e W' ⟨he, q, hw⟩ => ⟨g, cap, he, hbg, ?_⟩
  refine and_assoc.1 ⟨?_, ?_⟩
  · obtain ⟨ts, hts⟩ : ∃ ts, Lib.compact zs ++ List.replicate (zs.length - (Lib.compact zs).length) 0 = ts := ⟨_, rfl⟩
    have htl : ts.length = zs.length := by rw [← hts, List.length_append, List.length_replicate]; omega
    have hr : W'.ownsRow B 35 1 (.slice (some ⟨g, 0, none⟩) zs.length cap) zs.length (ts.map (Value.int .i64)) := by
      rw [hw, hts, ← grow_empty (putRow (Value.int .i64) (Sort.ahead W q) g 0 ts.toArray)]
      rcases hrow.2 with ⟨h0, _⟩ | ⟨g', cap', cur, hv', hbase, hb, h1, h2, h3, h4⟩
      · cases h0
      · cases hv'
        exact ownsRow_sortedI htl hbase hb h1 h2 h3
    refine ⟨(hr.lt g rfl).2, fun j hj => ?_⟩
    have hj' : j < (Lib.compact zs).length := by simpa using hj
    rw [Nat.zero_add, bang_get]
    refine ⟨?_, hr.frozenAt j⟩
    rw [hr.cellAt j (by omega), List.getElem?_map, ← hts, List.getElem?_append_left hj']
    simp [hj']
  · rw [hw, ← grow_empty (putRow (Value.int .i64) (Sort.ahead W q) g 0 _)]
    exact (RowKit.Below.refl _ W).grown (grownBy_sortedI _) hB (fun k e => by cases e; exact hbg)

/-- What sorted hands back: what it was given, or a row of its own. -/
def FreshOr (w : World) (sv : Value) (zs : List Int) (v : Value) (w' : World) : Prop :=
  (v = sv ∧ normL zs = zs) ∨ ∃ b cap, v = .slice (some ⟨b, 0, none⟩) (normL zs).length cap ∧ w.heap.size ≤ b ∧ b < w'.heap.size ∧ Holds (Value.int .i64) w' b 0 (normL zs).toArray
theorem FreshOr.lits {w w' : World} {sv v : Value} {zs : List Int} (h : FreshOr w sv zs v w') (hI : Lits w.heap.size w sv zs) (hb : RowKit.Below w.heap.size w w') : Lits w'.heap.size w' v (normL zs) := by
  rcases h with ⟨rfl, hn⟩ | ⟨b, cap, rfl, -, h1, h2⟩
  · rw [hn]; exact hI.on hb
  · exact .inr ⟨b, 0, cap, rfl, h1, h2⟩
set_option maxRecDepth 100000 in
set_option maxHeartbeats 2000000 in
theorem clsorted_fine (sv : Value) (zs : List Int) (hz : zs.length ≤ 1000000) (w : World) (hI : Lits w.heap.size w sv zs) :
    Calls Tryz.prog 71 #[sv] w fun e w' => ∃ v, e = .returned v ∧ FreshOr w sv zs v w' ∧ RowKit.Below w.heap.size w w' := by
  have hin := incr_any w.heap.size sv zs (by omega) w hI.ints
  obtain ⟨A, c, rfl, -⟩ := ints_shape hI.ints
  have HI := Lib.hid hI; clear hI
  cases hb : incB zs
  · rw [hb] at hin
    have hne : zs ≠ [] := by rintro rfl; cases hb
    have hpos : 0 < zs.length := List.length_pos_iff.2 hne
    have hcl : ∀ q, Calls Tryz.prog 93 #[.slice A zs.length c] (w.drewN q) fun e w' => ∃ v, e = .returned v ∧ w'.ownsRow w.heap.size 35 1 v zs.length (zs.map (Value.int .i64)) ∧ v ≠ .slice none 0 0 ∧ RowKit.Below w.heap.size w w' := by
      intro q
      rcases HI.out.ints with ⟨A', c', e, -, h0⟩ | ⟨b, off, cap, e, hbl, hc⟩
      · exact absurd h0 hne
      · cases e
        have hbq : RowKit.Below w.heap.size w (w.drewN q) := ⟨rfl, rfl, rfl, Nat.le_refl _, fun _ _ => rfl⟩
        refine (Tryz.slices_Clone_int_f93 b off zs.length c zs (w.drewN q) (Nat.le_refl _) (by omega) (fun j hj => by rw [List.getD_eq_getElem?_getD]; exact hc j hj)).mono fun e w' ⟨v', he, hr, hv, hb'⟩ => ?_
        rw [List.take_length] at hr
        exact ⟨v', he, hr, hv, hbq.trans hb'⟩
    have HIn := Lib.hid hin; have HCl := Lib.hid hcl
    clear hb hin hcl hne
    go_enter Tryz.func71, Tryz.ntmps71
    go_wp2_with fail
    refine HIn.out.mono ?_
    rintro e w' ⟨rfl, q, rfl⟩
    go_wp2_with fail
    refine (HCl.out q).mono ?_
    rintro e w1 ⟨v1, rfl, hr1, hv1, hb1⟩
    have HS := Lib.hid (sortL_own w1 v1 zs (by omega) hr1 hv1 hb1.size)
    clear hr1
    go_wp2_with fail
    refine HS.out.mono ?_
    rintro e w2 ⟨rfl, hr2, hb2⟩
    have hml := msI_length zs
    rw [← hml] at hr2
    have HK := Lib.hid (compactL_own w2 v1 (msI zs) (by omega) hr2 hv1 (Nat.le_trans hb1.size hb2.size))
    clear hr2 hml
    go_wp2_with fail
    refine HK.out.mono ?_
    rintro e w3 ⟨b3, cap3, rfl, hl3, hl4, hl5, hb3⟩
    have hb4 := hb1.trans (hb2.trans hb3)
    have HL := Lib.hid hl5; clear hl5
    go_wp2_with fail
    go_ret
    exact ⟨_, rfl, .inr ⟨b3, cap3, rfl, hl3, hl4, HL.out⟩, hb4⟩
  · rw [hb] at hin
    have hn := norm_of_inc ((incB_iff zs).1 hb)
    have HN := Lib.hid hn; have HIn := Lib.hid hin
    clear hb hin hn
    go_enter Tryz.func71, Tryz.ntmps71
    go_wp2_with fail
    refine HIn.out.mono ?_
    rintro e w' ⟨rfl, q, rfl⟩
    go_wp2_with fail
    go_ret
    have hbq : RowKit.Below w.heap.size w (w.drewN q) := ⟨rfl, rfl, rfl, Nat.le_refl _, fun _ _ => rfl⟩
    exact ⟨_, rfl, .inl ⟨rfl, HN.out⟩, hbq⟩
theorem clsorted_any (B : Nat) (sv : Value) (zs : List Int) (hz : zs.length ≤ 1000000) (w : World) (hB : B ≤ w.heap.size) (hI : Lits B w sv zs) :
    Calls Tryz.prog 71 #[sv] w fun e w' => ∃ v, e = .returned v ∧ Lits w'.heap.size w' v (normL zs) ∧ RowKit.Below w.heap.size w w' :=
  (clsorted_fine sv zs hz w (hI.more hB)).mono fun _ _ ⟨v, he, hf, hb⟩ => ⟨v, he, hf.lits (hI.more hB) hb, hb⟩
end Go.Proofs.YtgoflapolglfcaaGreat
