/- lits.meeting and lits.Vars in this seat, for every list: out of the texts of stage 1. -/
import Derived.Test.YtmghmmkljplnfaaGreatFoGreat
import Derived.Test.YtmghmmkljplnfaaGreatShelf
import Derived.Maps.Views
import Derived.Maps.OwnSet
import Derived.Laws.EntriesVeiled
import Derived.Sort.OwnSortedInts
import Derived.Lib.OwnBridge
namespace Go.Proofs.YtmghmmkljplnfaaGreat.vr
open Go.RowKit Go.Shelf Go.Sort
open Go.Maps (Keyed)

attribute [local go_sem] Oper.semAt_some

/-- The variables that were asked of, as a map to true. -/
def metD {H : Type} (l : List Int) : DataW H := l.foldl (fun D x => D.put (.int .i64 x) (.lit (.bool true))) (.map [])
theorem metD_snoc {H : Type} (l : List Int) (x : Int) : metD (H := H) (l ++ [x]) = (metD l).put (.int .i64 x) (.lit (.bool true)) := by simp [metD]
theorem metD_at {H : Type} (l : List Int) (x : Int) : Maps.IsMap (metD (H := H) l) ∧ (metD (H := H) l).atKey (.int .i64 x) (.lit (.bool false)) = .lit (.bool (decide (x ∈ l))) := by
  suffices h : ∀ r : List Int, Maps.IsMap (metD (H := H) r.reverse) ∧ (metD (H := H) r.reverse).atKey (.int .i64 x) (.lit (.bool false)) = .lit (.bool (decide (x ∈ r))) by
    have := h l.reverse
    rw [List.reverse_reverse] at this
    simpa using this
  intro r
  induction r with
  | nil => exact ⟨⟨[], rfl⟩, rfl⟩
  | cons y r ih =>
    rw [List.reverse_cons, metD_snoc]
    refine ⟨ih.1.put _ _, ?_⟩
    by_cases e : x = y
    · subst e
      rw [Maps.atKey_put_same ih.1 (by trivial)]
      simp
    · rw [Maps.atKey_put_other (by intro h; exact e (by injection h)), ih.2]
      simp [e]

theorem boolElem_inv {H : Type} {P : Program} {e : TypeId} (he : P.underlying e = some .bool) {v : Value} {z : DataW H × List MemPlace} (h : plainElem P e v = some z) : ∃ b, v = .bool b ∧ z = (.lit (.bool b), []) := by
  unfold plainElem at h
  rw [he] at h
  cases v <;> simp at h
  exact ⟨_, rfl, h.symm⟩

theorem look_bool {H : Type} {P : Program} {w : World} {k : TypeId} {b n : Nat} {D : DataW H} {t e : TypeId} (h : w.ownsMap P k (plainElem P e) b n D) (K : Keyed P k) (ht : P.underlying t = some (.map k e)) (he : P.underlying e = some .bool) (hz : (zeroValue e).run P w = .ok (.bool false) w)
    {key : Value} {kl : Lit} (hkey : keyOf P k key = some kl) {c : Bool} (hc : D.atKey kl (.lit (.bool false)) = .lit (.bool c)) : (Instr.lookup t (.map (some b)) key false).run P w = .ok (.bool c) w := by
  obtain ⟨v, ps, hrun, hv⟩ := h.lookup K ht hz (plainElem_bool he false) hkey
  obtain ⟨c', rfl, hc'⟩ := boolElem_inv he hv
  rw [hc] at hc'
  simp only [Prod.mk.injEq, DataW.lit.injEq, Lit.bool.injEq] at hc'
  rw [hrun, hc'.1]

theorem meeting_in (n : Nat) (w : World) :
    CallsIn .wide n Tryz.prog 54 #[] w fun e w' => e = .returned (.func (.func 83) #[] #[.pointer (some ⟨w.heap.size + 1, 0, none⟩)]) ∧ w' = (w.alloc (.map #[] 0)).alloc (.cells #[.map (some w.heap.size)] 127) := by
  have hmm := @run_makeMap Tryz.prog
  refine callsIn_of_wp Tryz.func54 rfl trivial ?_ rfl
  simp only [Tryz.ntmps54, List.size_toArray, List.length_nil, Nat.reduceSub, Array.replicate_succ, Array.replicate_zero, List.push_toArray, List.append_toArray, List.nil_append, List.cons_append]
  gi_wp2
  go_ret
  exact ⟨rfl, rfl⟩

set_option maxHeartbeats 1000000 in
theorem isMet_in {H : Type} (n : Nat) (x : V) (Bm bm k : Nat) (l : List Int) (w : World) (hc : w.cell? ⟨Bm, 0, none⟩ = some (.map (some bm))) (hown : w.ownsMap Tryz.prog 3 (plainElem (H := H) Tryz.prog 4) bm k (metD l)) (hk : k < maxLen) :
    CallsIn .wide n Tryz.prog 83 #[.int .i64 x.1, .pointer (some ⟨Bm, 0, none⟩)] w fun e w' =>
      e = .returned (.bool (decide (x.1 ∈ l))) ∧ w'.ownsMap Tryz.prog 3 (plainElem (H := H) Tryz.prog 4) bm (k + 1) (metD (l ++ [x.1])) ∧ w.grownBy w' (some bm) := by
  have hwf : (Lit.int .i64 x.1).wf = true := by have := x.2; exact WalkArith.wf_i64 (by omega)
  have hkey := Maps.keyOf_int_mk Tryz.underlying3 hwf
  have hrun := look_bool hown (Maps.int_keyed Tryz.underlying3) Tryz.underlying127 Tryz.underlying4 (by kernel_rfl) hkey (metD_at l x.1).2
  rw [metD_snoc]
  have Hown := Lib.hid hown; clear hown
  refine callsIn_of_wp Tryz.func83 rfl trivial ?_ rfl
  simp only [Tryz.ntmps83, List.size_toArray, List.length_cons, List.length_nil, Nat.reduceAdd, Nat.reduceSub, Array.replicate_succ, Array.replicate_zero, List.push_toArray, List.append_toArray, List.nil_append, List.cons_append]
  gi_wp2_with (gi_at_mapUpdate; refine wpListIn_mapUpdate_own _ rfl _ _ _ 127 rfl 3 4 (Maps.int_keyed Tryz.underlying3) Tryz.underlying127 _ bm k _ rfl Hown.out hk _ _ _ rfl rfl hkey _ [] (plainElem_bool Tryz.underlying4 true) ?_; intro w1 hown1 hgrow1)
  go_ret
  exact ⟨rfl, hown1, hgrow1⟩

/-- Each number once, where it comes first. -/
def ded (l : List Int) : List Int := l.foldl (fun a x => if x ∈ a then a else a ++ [x]) []
theorem ded_snoc (l : List Int) (x : Int) : ded (l ++ [x]) = if x ∈ ded l then ded l else ded l ++ [x] := by unfold ded; rw [List.foldl_append]; rfl
theorem ded_mem (l : List Int) (y : Int) : y ∈ ded l ↔ y ∈ l := by
  suffices h : ∀ r : List Int, y ∈ ded r.reverse ↔ y ∈ r by
    have := h l.reverse
    rw [List.reverse_reverse] at this
    simpa using this
  intro r
  induction r with
  | nil => simp [ded]
  | cons x r ih =>
    rw [List.reverse_cons, ded_snoc]
    split
    · rename_i hx
      rw [ih]
      constructor
      · intro h; exact List.mem_cons_of_mem _ h
      · intro h
        rcases List.mem_cons.1 h with rfl | h
        · exact ih.1 hx
        · exact h
    · rw [List.mem_append, ih]; simp [or_comm]
theorem ded_length (l : List Int) : (ded l).length ≤ l.length := by
  suffices h : ∀ r : List Int, (ded r.reverse).length ≤ r.length by
    have := h l.reverse
    rw [List.reverse_reverse] at this
    simpa using this
  intro r
  induction r with
  | nil => simp [ded]
  | cons x r ih =>
    rw [List.reverse_cons, ded_snoc]
    split
    · simp; omega
    · simp; omega
theorem ded_in {l : List Int} {x : Int} (h : decide (x ∈ l) = true) : ded (l ++ [x]) = ded l := by
  rw [ded_snoc, if_pos ((ded_mem l x).2 (of_decide_eq_true h))]
theorem ded_out {l : List Int} {x : Int} (h : decide (x ∈ l) = false) : ded (l ++ [x]) = ded l ++ [x] := by
  rw [ded_snoc, if_neg (fun e => (of_decide_eq_false h) ((ded_mem l x).1 e))]
/-- The variables of a list, each once, in order. -/
def varsL (zs : List Int) : List Int := (ded (vl zs)).mergeSort fun x y => decide (x ≤ y)
theorem vals_length (l : List V) : (vals l).length = l.length := by simp only [vals, List.length_map]


/-- What Vars hands back: a slice of its own. -/
def OwnInts (w : World) (zs : List Int) (e : Ending) (w' : World) : Prop :=
  ∃ v, e = .returned v ∧ w'.ownsRow w.heap.size 3 1 v zs.length (zs.map (Value.int .i64)) ∧ (v = .slice none 0 0 ↔ zs = []) ∧ Below w.heap.size w w'


theorem map_not_row {H : Type} {W : World} {P : Program} {k : TypeId} {R : Value → Option (DataW H × List MemPlace)} {b n : Nat} {D : DataW H} (h : W.ownsMap P k R b n D) {base size m : Nat} {e : TypeId} {v : Value} {xs : List Value} (hr : W.ownsRow base e size v m xs) : some b ≠ v.ownBlock := by
  obtain ⟨es, ck, hh, _⟩ := h
  rcases hr.2 with ⟨rfl, _⟩ | ⟨g, cap, cur, rfl, _, hgb, _⟩
  · simp [Value.ownBlock]
  · intro e'
    obtain rfl : b = g := by simpa [Value.ownBlock] using e'
    rw [hh] at hgb
    cases hgb
theorem map_not_box {H : Type} {W : World} {P : Program} {k : TypeId} {R : Value → Option (DataW H × List MemPlace)} {b n B : Nat} {D : DataW H} (h : W.ownsMap P k R b n D) {t : TypeId} {v : Value} (hr : Boxed W B t v) : B ≠ b := by
  obtain ⟨es, ck, hh, _⟩ := h
  rintro rfl
  rw [show W.heap[B]? = _ from hr] at hh
  cases hh

/-- What holds between two rounds of the loop of Vars. -/
def VarsI (w : World) (pre : List V) (W : World) : Prop :=
  ((∃ v, Boxed W w.heap.size 29 v ∧ W.ownsRow w.heap.size 3 1 v (ded (vals pre)).length ((ded (vals pre)).map (Value.int .i64)) ∧ (v = .slice none 0 0 ↔ ded (vals pre) = [])) ∧
    Boxed W (w.heap.size + 1 + 1) 127 (.map (some (w.heap.size + 1))) ∧
    Boxed W (w.heap.size + 1 + 1 + 1) 85 (.func (.func 83) #[] #[.pointer (some ⟨w.heap.size + 1 + 1, 0, none⟩)]) ∧
    W.ownsMap Tryz.prog 3 (plainElem (H := Unit) Tryz.prog 4) (w.heap.size + 1) pre.length (metD (vals pre))) ∧ Below w.heap.size w W

set_option maxRecDepth 100000 in
set_option maxHeartbeats 4000000 in
theorem vars_in (sv : Value) (zs : List Int) (hreach : zs.length ≤ 17592186044415) (w : World) (hI : Ints w.heap.size w sv zs) :
    CallsIn .wide 3 Tryz.prog 19 #[sv] w (OwnInts w (varsL zs)) := by
  obtain ⟨i0, hi, hz0, hz1, hz2⟩ := info_parts infoInt
  refine callsIn_of_wp_marks Tryz.func19 rfl trivial ?_ rfl
  simp only [Tryz.ntmps19, List.size_toArray, List.length_cons, List.length_nil, Nat.reduceAdd, Nat.reduceSub, Array.replicate_succ, Array.replicate_zero, List.push_toArray, List.append_toArray, List.nil_append, List.cons_append]
  have HI := Lib.hid hI; clear hI
  gi_wp2_with (refine ⟨trivial, ?_⟩; gi_at_call 54; refine (meeting_in _ _).mono ?_; rintro e w' ⟨rfl, rfl⟩)
  have hB4 := ((((Below.refl w.heap.size w).alloc (Nat.le_refl _) (.cells #[.slice none 0 0] 29)).alloc (by simp) (.map #[] 0)).alloc (by simp; omega) (.cells #[.map (some (w.heap.size + 1))] 127)).alloc (by simp; omega) (.cells #[.func (.func 83) #[] #[.pointer (some ⟨w.heap.size + 1 + 1, 0, none⟩)]] 85)
  have h0 : VarsI w [] ((((w.alloc (.cells #[.slice none 0 0] 29)).alloc (.map #[] 0)).alloc (.cells #[.map (some (w.heap.size + 1))] 127)).alloc (.cells #[.func (.func 83) #[] #[.pointer (some ⟨w.heap.size + 1 + 1, 0, none⟩)]] 85)) := by
    have b1 := (((Boxed.new w 29 (.slice none 0 0)).alloc (.map #[] 0)).alloc (.cells #[.map (some (w.heap.size + 1))] 127)).alloc (.cells #[.func (.func 83) #[] #[.pointer (some ⟨w.heap.size + 1 + 1, 0, none⟩)]] 85)
    have m1 := ((World.ownsMap_made (w.alloc (.cells #[.slice none 0 0] 29)) Tryz.prog 3 (plainElem (H := Unit) Tryz.prog 4)).alloc (.cells #[.map (some (w.heap.size + 1))] 127)).alloc (.cells #[.func (.func 83) #[] #[.pointer (some ⟨w.heap.size + 1 + 1, 0, none⟩)]] 85)
    have b2 := (Boxed.new ((w.alloc (.cells #[.slice none 0 0] 29)).alloc (.map #[] 0)) 127 (.map (some (w.heap.size + 1)))).alloc (.cells #[.func (.func 83) #[] #[.pointer (some ⟨w.heap.size + 1 + 1, 0, none⟩)]] 85)
    have b3 := Boxed.new (((w.alloc (.cells #[.slice none 0 0] 29)).alloc (.map #[] 0)).alloc (.cells #[.map (some (w.heap.size + 1))] 127)) 85 (.func (.func 83) #[] #[.pointer (some ⟨w.heap.size + 1 + 1, 0, none⟩)])
    simp only [World.size_alloc] at m1 b2 b3
    exact ⟨⟨⟨_, b1, World.ownsRow_nil _ _ _ _, by simp [ded, vals]⟩, b2, b3, m1⟩, hB4⟩
  obtain ⟨W4, hW4⟩ : ∃ W4, (((w.alloc (.cells #[.slice none 0 0] 29)).alloc (.map #[] 0)).alloc (.cells #[.map (some (w.heap.size + 1))] 127)).alloc (.cells #[.func (.func 83) #[] #[.pointer (some ⟨w.heap.size + 1 + 1, 0, none⟩)]] 85) = W4 := ⟨_, rfl⟩
  have hs4 : W4.heap.size = w.heap.size + 1 + 1 + 1 + 1 := by rw [← hW4]; simp
  rw [hW4] at hB4 h0 ⊢
  clear hW4
  refine ⟨trivial, ?_⟩
  refine (variables_in 2 w.heap.size sv zs W4 (HI.out.below hB4)).mono ?_
  rintro e w' ⟨rfl, rfl⟩
  have Hs4 := Lib.hid hs4; clear hs4
  have H0 := Lib.hid h0; clear h0
  gi_wp2
  have hs4 := Hs4.out
  have bN := Boxed.new W4 38 sv
  have hB5 : Below w.heap.size w (W4.alloc (.cells #[sv] 38)) := hB4.alloc hB4.size _
  obtain ⟨⟨⟨v0, q1, q2, q3⟩, q4, q5, q6⟩, _⟩ := H0.out
  refine wpIn_rangeFunc_ownG rfl (by omega) (gf := 84) (lb := #[.pointer (some ⟨W4.heap.size, 0, none⟩)]) rfl trivial (enters_of Tryz.func84 (by kernel_rfl) rfl)
    (vars_stops 2 (by omega) W4.heap.size w.heap.size sv zs hreach _ (by simp) (by simp; omega) bN.cell (HI.out.below hB5)) belowK_t (belowK_b (by simp; omega)) (Below.refl _ _) (fun _ => rfl)
    (VarsI w)
    (fun _ _ _ => False)
    (OwnFrom.and (OwnFrom.and (Own.from (holdsRow_own w.heap.size w.heap.size 29 3 1 (fun pre => (ded (vals pre)).length) (fun pre => (ded (vals pre)).map (Value.int .i64)) (fun pre v => v = .slice none 0 0 ↔ ded (vals pre) = [])) _)
      (OwnFrom.and (Own.from (boxed_own _ _ _) _) (OwnFrom.and (Own.from (boxed_own _ _ _) _) (fun s A B row hs hg hr => hs.kept hg (fun e => by have := (hr _ e.symm).1; simp at this; omega))))) (ownFrom_below (Nat.le_refl _) (by simp; omega)))
    (fun _ _ _ _ _ hs _ _ => hs)
    ⟨⟨⟨v0, q1.alloc _, q2.alloc _, q3⟩, q4.alloc _, q5.alloc _, q6.alloc _⟩, hB5⟩
    (fun x => { tmps := #[sv, undef, .slice none 0 0, .pointer (some ⟨w.heap.size, 0, none⟩), .pointer (some ⟨w.heap.size + 1 + 1 + 1, 0, none⟩), .int .i64 x.1, .func (.func 83) #[] #[.pointer (some ⟨w.heap.size + 1 + 1, 0, none⟩)], sv, .func (.func 84) #[] #[.pointer (some ⟨W4.heap.size, 0, none⟩)], .int .i64 x.1, undef, undef, undef, undef, undef, undef, undef, undef, undef, undef, undef], defers := [] }) ?assign ?body ?done ?stop
  case assign =>
    intro l x W K hK
    clear hs4
    gi_wp2
    exact hK
  case body =>
    rintro l pre x W ⟨⟨⟨v, hv, hrow, hnil⟩, hbm, hbf, hmap⟩, hB⟩ hlt
    have hcf := hbf.cell
    have hM := isMet_in (H := Unit) 0 x (w.heap.size + 1 + 1) (w.heap.size + 1) pre.length (vals pre) W hbm.cell hmap (by unfold maxLen; omega)
    -- what the closure's call leaves as it lay
    have hkeep : ∀ w1, W.grownBy w1 (some (w.heap.size + 1)) → (Boxed w1 w.heap.size 29 v ∧ w1.ownsRow w.heap.size 3 1 v (ded (vals pre)).length ((ded (vals pre)).map (Value.int .i64))) ∧
        Boxed w1 (w.heap.size + 1 + 1) 127 (.map (some (w.heap.size + 1))) ∧
        Boxed w1 (w.heap.size + 1 + 1 + 1) 85 (.func (.func 83) #[] #[.pointer (some ⟨w.heap.size + 1 + 1, 0, none⟩)]) ∧ Below w.heap.size W w1 ∧ KeepsFrom (W4.alloc (.cells #[sv] 38)).heap.size W w1 := fun w1 hg =>
      ⟨⟨hv.kept hg (fun e => by injection e with e; omega), hrow.kept hg (.inr (map_not_row hmap hrow).symm)⟩, hbm.kept hg (fun e => by injection e with e; omega), hbf.kept hg (fun e => by injection e with e; omega),
        (Below.refl _ W).grown hg hB.size (fun k e => by cases e; omega), KeepsFrom.of_grownBy hg (fun j e => by cases e; simp; omega)⟩
    have HK := Lib.hid hkeep; clear hkeep
    have hpl : (ded (vals pre)).length ≤ pre.length := by have := ded_length (vals pre); rw [vals_length] at this; exact this
    clear hv hrow hbm hbf hmap hs4 q1 q2 q3 q4 q5 q6
    cases hm : decide (x.1 ∈ vals pre)
    · have Hm := Lib.hid hm; clear hm
      have HM := Lib.hid hM; clear hM
      have Hnil := Lib.hid hnil; clear hnil
      gi_wp2_with (first
        | (refine ⟨trivial, ?_⟩; gi_at_call 83; refine (CallsIn.inRound l HM.out).mono ?_; rintro e w1 ⟨rfl, hm1, hg1⟩; obtain ⟨⟨hv1, hrow1⟩, hbm1, hbf1, hB1, hK1⟩ := HK.out w1 hg1; have hc1 := hv1.cell; rw [Hm.out])
        | (gi_at_builtin; refine wpListIn_append_own _ rfl _ _ 29 rfl w.heap.size 3 i0 (.int .i64 0) 1 8 Tryz.underlying29 hi hz0 hz1 hz2 rfl (by decide) _ _ _ rfl (hrow1.alloc _) ⟨w1.heap.size, 0, none⟩ 1 1 [.int .i64 x.1] rfl rfl (cell_one_new _ _ _) (by simp [Value.oneCell']) (by unfold maxLen; omega) (by omega) (by have := hB.size; have := hB1.size; simp; omega) ?_; intro v' w2 hown' hgrow _; obtain ⟨g', cap', rfl⟩ := ownsRow_succ hown'; obtain ⟨hv1', hv2, hr2, hk2, hb2⟩ := hv1.appended (by decide) hrow1 (Nat.le_trans hB.size hB1.size) (Nat.le_refl _) hown' hgrow; have hc2 := hv1'.cell; have hf2 := hv1'.frozen))
      have hg2 : (w1.alloc (.cells #[.int .i64 x.1] 3)).grownBy w2 v.ownBlock := hgrow
      have bm2 := ((hbm1.alloc (.cells #[.int .i64 x.1] 3)).kept hg2 ((hbm1.alloc (.cells #[.int .i64 x.1] 3)).not_row (by decide) (hrow1.alloc (.cells #[.int .i64 x.1] 3)))).other (B' := w.heap.size) (by omega) (.slice (some ⟨g', 0, none⟩) ((ded (vals pre)).length + 1) cap')
      have bf2 := ((hbf1.alloc (.cells #[.int .i64 x.1] 3)).kept hg2 ((hbf1.alloc (.cells #[.int .i64 x.1] 3)).not_row (by decide) (hrow1.alloc (.cells #[.int .i64 x.1] 3)))).other (B' := w.heap.size) (by omega) (.slice (some ⟨g', 0, none⟩) ((ded (vals pre)).length + 1) cap')
      have m2 := ((hm1.alloc (.cells #[.int .i64 x.1] 3)).kept hg2 (map_not_row (hm1.alloc (.cells #[.int .i64 x.1] 3)) (hrow1.alloc (.cells #[.int .i64 x.1] 3)))).kept (grownBy_setCell' w2 w.heap.size (.slice (some ⟨g', 0, none⟩) ((ded (vals pre)).length + 1) cap')) (fun e => by injection e with e; omega)
      refine ⟨hK1.trans (hk2.from _), hB1.trans hb2, ⟨⟨_, hv2, ?_, ?_⟩, bm2, bf2, ?_⟩, hB.trans (hB1.trans hb2)⟩
      · rw [vals_snoc, ded_out Hm.out]; simpa using hr2
      · rw [vals_snoc, ded_out Hm.out]; simp
      · rw [vals_snoc, List.length_append]; exact m2
    · have Hm := Lib.hid hm; clear hm
      have HM := Lib.hid hM; clear hM
      have Hnil := Lib.hid hnil; clear hnil
      gi_wp2_with (refine ⟨trivial, ?_⟩; gi_at_call 83; refine (CallsIn.inRound l HM.out).mono ?_; rintro e w1 ⟨rfl, hm1, hg1⟩; rw [Hm.out])
      obtain ⟨⟨hv1, hrow1⟩, hbm1, hbf1, hB1, hK1⟩ := HK.out w1 hg1
      refine ⟨hK1, hB1, ⟨⟨v, hv1, ?_, ?_⟩, hbm1, hbf1, ?_⟩, hB.trans hB1⟩
      · rw [vals_snoc, ded_in Hm.out]; exact hrow1
      · rw [vals_snoc, ded_in Hm.out]; exact Hnil.out
      · rw [vals_snoc, List.length_append]; exact hm1
  case done =>
    rintro D ys W hD hys ⟨⟨⟨v, hv, hrow, hnil⟩, -⟩, hB⟩ hK
    rw [hys] at hrow hnil
    clear hs4 q1 q2 q3 q4 q5 q6 hys H0 Hs4
    have hDl : D < W.heap.size := (Array.getElem?_eq_some_iff.1 hK).1
    simp at hD
    have hDw : w.heap.size ≤ D := by have := hB4.size; omega
    by_cases hd : ded (vl zs) = []
    · obtain rfl := hnil.2 hd
      have hvl : varsL zs = [] := by unfold varsL; rw [hd]; simp
      have Hvl := Lib.hid hvl; clear hvl
      clear hnil hrow hd
      have hc := hv.cell
      gi_wp2_with (refine ⟨trivial, ?_⟩; gi_at_call 56; refine (callsIn_wide.2 (Tryz.slices_Sort_int_none_f56 _ _ _)).mono ?_; rintro e w' ⟨rfl, rfl⟩)
      refine ⟨by simp, .inl ⟨_, _, rfl, run_takeDeferred hK, ?_⟩⟩
      refine ⟨_, results_tmp rfl _ _ _, _, rfl, ?_, ?_, ?_⟩
      · rw [Hvl.out]; exact World.ownsRow_nil _ _ _ _
      · rw [Hvl.out]; exact ⟨fun _ => rfl, fun _ => rfl⟩
      · exact hB.trans (belowK_b (w := w) (Nat.le_refl _) _ D _ _ hDw hK rfl rfl)
    · have hvn : v ≠ .slice none 0 0 := fun e => hd (hnil.1 e)
      obtain ⟨g, cap, rfl, hbg, hgl, hncap, hcm, hlen, hH⟩ := Lib.holds_of_ownsRow hrow hvn
      have hbx := hrow.2
      have hzl : (ded (vl zs)).length ≤ zs.length := by
        refine Nat.le_trans (ded_length _) ?_
        unfold vl
        rw [List.length_map]
        exact List.length_filter_le _ _
      have hsort := Tryz.slices_Sort_int_f56 g 0 cap (ded (vl zs)) W hH hgl (by omega)
      have HS := Lib.hid hsort; clear hsort
      have hml : ((ded (vl zs)).mergeSort fun x y => decide (x ≤ y)).length = (ded (vl zs)).length := List.length_mergeSort _
      have Hml := Lib.hid hml; clear hml
      have hend : ∀ n os, ∃ W', grow (putRow (Value.int .i64) (Sort.ahead W n) g 0 ((ded (vl zs)).mergeSort fun x y => decide (x ≤ y)).toArray) os = W' ∧ W'.ownsRow w.heap.size 3 1 (.slice (some ⟨g, 0, none⟩) (ded (vl zs)).length cap) (ded (vl zs)).length (((ded (vl zs)).mergeSort fun x y => decide (x ≤ y)).map (Value.int .i64)) ∧
          Boxed W' w.heap.size 29 (.slice (some ⟨g, 0, none⟩) (ded (vl zs)).length cap) ∧ W'.heap[D]? = some (.deferred (some [])) ∧ Below w.heap.size W W' := by
        intro n os
        refine ⟨_, rfl, ?_, hv.kept (grownBy_sortedI _) (hv.not_row (by decide) hrow), ?_, ?_⟩
        · rcases hbx with ⟨h0, _⟩ | ⟨g', cap', cur, hv', hbase, hb, h1, h2, h3, h4⟩
          · cases h0
          · cases hv'
            exact ownsRow_sortedI Hml.out hbase hb h1 h2 h3
        · refine ((grownBy_sortedI (w := W) (g := g) (n := n) (os := os) _).block D hDl ?_).trans hK
          rintro e
          injection e with e
          subst e
          rcases hbx with ⟨h0, _⟩ | ⟨g', cap', cur, hv', hbase, hb, h1, h2, h3, h4⟩
          · cases h0
          · cases hv'
            rw [hK] at hb
            cases hb
        · exact (Below.refl _ W).grown (grownBy_sortedI _) hB.size (fun k e => by cases e; exact hbg)
      have HE := Lib.hid hend; clear hend
      have hc := hv.cell
      have Hd := Lib.hid hd
      clear hnil hrow hd hH hlen hbx hvn
      gi_wp2_with (refine ⟨trivial, ?_⟩; gi_at_call 56; refine (callsIn_wide.2 HS.out).mono ?_; rintro e w' ⟨rfl, nn, os, rfl⟩; obtain ⟨W', hW', hr', hb', hK', hBe⟩ := HE.out nn os; rw [hW']; clear hW'; have hc' := hb'.cell)
      refine ⟨by simp, .inl ⟨_, _, rfl, run_takeDeferred hK', ?_⟩⟩
      refine ⟨_, results_tmp rfl _ _ _, _, rfl, ?_, ?_, ?_⟩
      · unfold varsL; rw [Hml.out]; exact ownsRow_putObj hr' _ hK' rfl
      · refine ⟨(fun e => by cases e), fun e => absurd (List.eq_nil_of_length_eq_zero ?_) Hd.out⟩
        rw [← Hml.out]
        show (varsL zs).length = 0
        rw [e]; rfl
      · exact (hB.trans hBe).trans (belowK_b (w := w) (Nat.le_refl _) _ D _ _ hDw hK' rfl rfl)
  case stop =>
    rintro D c pre W _ _ h _
    exact h.elim

theorem vars_any (sv : Value) (zs : List Int) (hreach : zs.length ≤ 17592186044415) (w : World) (hI : Ints w.heap.size w sv zs) :
    Calls Tryz.prog 19 #[sv] w (OwnInts w (varsL zs)) :=
  (callsIn_wide (n := 3)).1 (vars_in sv zs hreach w hI)
end Go.Proofs.YtmghmmkljplnfaaGreat.vr
