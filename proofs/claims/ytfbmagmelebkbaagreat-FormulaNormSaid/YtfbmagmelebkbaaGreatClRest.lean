/- clauses.rest and Without. -/
import Derived.Test.YtfbmagmelebkbaaGreatClCollect
import Derived.Test.YtfbmagmelebkbaaGreatRefMore
namespace Go.Proofs.YtfbmagmelebkbaaGreat
open Go.ChangeShapes Go.WideShapes Go.ChangeAt Go.RowKit Go.Shelf Go.Sort

attribute [local go_sem] Oper.semAt_some

theorem kpR_refl (Bx B H : Nat) (W : World) : KpR Bx B H W W := ⟨RowKit.Below.refl _ _, fun _ _ _ ho _ hr => ⟨ho, hr⟩⟩
theorem lessL_snoc (l : List Int) (x k : Int) : lessL (l ++ [x]) k = if x = k then lessL l k else lessL l k ++ [x] := by
  unfold lessL
  rw [List.filter_append]
  by_cases h : x = k
  · rw [if_pos h]; simp [h]
  · rw [if_neg h]; simp [h]
theorem lessL_length (l : List Int) (k : Int) : (lessL l k).length ≤ l.length := List.length_filter_le _ _
theorem filter_inc {l : List Int} (h : Inc l) (p : Int → Bool) : Inc (l.filter p) := List.Pairwise.sublist List.filter_sublist h
theorem norm_filter (zs : List Int) (p : Int → Bool) : (normL zs).filter p = normL (zs.filter p) :=
  (norm_unique (filter_inc (norm_inc zs) p) fun x => by rw [List.mem_filter, List.mem_filter, norm_mem]).symm
theorem less_norm (zs : List Int) (l : Int) : lessL (normL zs) l = normL (lessL zs l) := norm_filter zs _

/-- A box ahead of the row is no part of it. -/
theorem owns_ne {W : World} {base n Bx : Nat} {e : TypeId} {v : Value} {xs : List Value} (h : W.ownsRow base e 1 v n xs) (hb : Bx < base) : some Bx ≠ v.ownBlock := by
  rcases h.2 with ⟨rfl, -⟩ | ⟨g, cap, cur, rfl, hg, -⟩
  · simp [Value.ownBlock]
  · intro e'
    have : Bx = g := by simpa [Value.ownBlock] using e'
    omega
/-- The same row, of the later base, behind the store of the slice into its box. -/
theorem owns_set {W : World} {base n Bx : Nat} {t e : TypeId} {u v : Value} {xs : List Value} (h : W.ownsRow base e 1 v n xs) (hv : Boxed W Bx t u) (hte : t ≠ e) : (W.setCell ⟨Bx, 0, none⟩ v).ownsRow base e 1 v n xs :=
  h.kept (grownBy_setCell' W Bx v) (.inr (hv.not_row hte h).symm)
/-- What holds between two rounds of the loop of rest. -/
def RestI (w : World) (l : Int) (pre : List Int) (W : World) : Prop :=
  ((∃ v, Boxed W (w.heap.size + 1) 41 v ∧ W.ownsRow (w.heap.size + 1 + 1) 37 1 v (lessL pre l).length ((lessL pre l).map (Value.int .i64)) ∧ True) ∧ Boxed W w.heap.size 37 (.int .i64 l)) ∧ RowKit.Below w.heap.size w W

set_option maxRecDepth 100000 in
set_option maxHeartbeats 4000000 in
theorem rest_in (n : Nat) (hn : 3 ≤ n) (sv : Value) (zs : List Int) (l : Int) (hreach : zs.length ≤ 1000000) (w : World) (hI : Lits w.heap.size w sv zs) :
    CallsIn .wide n Tryz.prog 90 #[sv, .int .i64 l] w (GivesE 37 w (normL (lessL zs l))) := by
  have h1 : 1 ≤ n := by omega
  obtain ⟨i0, hi, hz0, hz1, hz2⟩ := info_parts infoLit
  obtain ⟨A0, c0, rfl, -⟩ := ints_shape hI.ints
  rw [← less_norm]
  refine callsIn_of_wp_marks Tryz.func90 rfl trivial ?_ rfl
  simp only [Tryz.ntmps90, List.size_toArray, List.length_cons, List.length_nil, Nat.reduceAdd, Nat.reduceSub, Array.replicate_succ, Array.replicate_zero, List.push_toArray, List.append_toArray, List.nil_append, List.cons_append]
  have HI := Lib.hid hI; clear hI
  gi_wp2_with fail
  have hB2 := ((RowKit.Below.refl w.heap.size w).alloc (Nat.le_refl _) (.cells #[.int .i64 l] 37)).alloc (by simp) (.cells #[.slice none 0 0] 41)
  have b1 := (Boxed.new w 37 (.int .i64 l)).alloc (.cells #[.slice none 0 0] 41)
  have b2 := Boxed.new (w.alloc (.cells #[.int .i64 l] 37)) 41 (.slice none 0 0)
  rw [World.size_alloc] at b2
  have hs2 : ((w.alloc (.cells #[.int .i64 l] 37)).alloc (.cells #[.slice none 0 0] 41)).heap.size = w.heap.size + 1 + 1 := by simp
  obtain ⟨W2, hW2⟩ : ∃ W2, (w.alloc (.cells #[.int .i64 l] 37)).alloc (.cells #[.slice none 0 0] 41) = W2 := ⟨_, rfl⟩
  rw [hW2] at hB2 b1 b2 hs2 ⊢
  clear hW2
  have Hs2 := Lib.hid hs2; clear hs2
  refine ⟨trivial, ?_⟩
  refine (normal_in (n - 1) w.heap.size _ zs W2 (HI.out.below hB2).ints).mono ?_
  rintro e w' ⟨rfl, rfl⟩
  gi_wp2_with fail
  have hs2 := Hs2.out
  have bN := Boxed.new W2 38 (.slice A0 zs.length c0)
  have hB5 : RowKit.Below w.heap.size w (W2.alloc (.cells #[.slice A0 zs.length c0] 38)) := hB2.alloc hB2.size _
  have b1' := b1.alloc (.cells #[.slice A0 zs.length c0] 38)
  have b2' := b2.alloc (.cells #[.slice A0 zs.length c0] 38)
  refine wpIn_rangeFunc_ownG rfl (by omega) (gf := 111) (lb := #[.pointer (some ⟨W2.heap.size, 0, none⟩)]) rfl trivial (enters_of Tryz.func111 (by kernel_rfl) rfl)
    (normal_stops (n - 1) (by omega) W2.heap.size (w.heap.size + 1) w.heap.size _ zs hreach _ (by simp) (by simp; omega) (by simp; omega) bN.cell (HI.out.below hB5) (fun v hv => by rw [b2'.cell] at hv; cases hv; rfl))
    kpR_t (kpR_b (by simp; omega) (by simp; omega)) (RowKit.Below.refl _ _) (fun _ => rfl)
    (RestI w l)
    (fun _ _ _ => False)
    (OwnFrom.and (OwnFrom.and (Own.from (holdsRow_own (w.heap.size + 1 + 1) (w.heap.size + 1) 41 37 1 (fun pre => (lessL pre l).length) (fun pre => (lessL pre l).map (Value.int .i64)) (fun _ _ => True)) _) (Own.from (boxed_own _ _ _) _)) (ownFrom_below (Nat.le_refl _) (by simp; omega)))
    (fun _ _ _ _ _ hs _ _ => hs)
    ⟨⟨⟨_, b2', World.ownsRow_nil _ _ _ _, trivial⟩, b1'⟩, hB5⟩
    (fun x => { tmps := #[.slice A0 zs.length c0, .int .i64 l, undef, .pointer (some ⟨w.heap.size, 0, none⟩), .slice none 0 0, .pointer (some ⟨w.heap.size + 1, 0, none⟩), .int .i64 x, .slice A0 zs.length c0, .func (.func 111) #[] #[.pointer (some ⟨W2.heap.size, 0, none⟩)], .int .i64 x, undef, undef, undef, undef, undef, undef, undef, undef], defers := [] }) ?assign ?body ?done ?stop
  case assign =>
    intro l x W K hK
    clear hs2
    gi_wp2_with fail
    exact hK
  case body =>
    rintro r pre x W ⟨⟨⟨v, hv, hrow, -⟩, hbl⟩, hB⟩ hlt
    have hcv := hv.cell
    have hcf := hv.frozen
    have hcl := hbl.cell
    have hsn := lessL_snoc pre x l
    have hln := lessL_length pre l
    clear hs2 bN b1 b2 b1' b2' hB2 hB5
    have hsz : w.heap.size + 1 + 1 ≤ W.heap.size := by have := (Array.getElem?_eq_some_iff.1 hv).1; omega
    obtain ⟨hrb, hrb1, hrb2⟩ := owns_base hsz hrow
    have hrow0 := owns_mono hrow (base' := w.heap.size) (by omega)
    by_cases hx : x = l
    · rw [if_pos hx] at hsn
      subst hx
      have HS := Lib.hid hsn; clear hsn
      have HR := Lib.hid hrow; clear hrow hrb hrow0
      gi_wp2_with fail
      exact ⟨(KeepsOthers.refl W).from _, kpR_refl _ _ _ _, ⟨⟨v, hv, by rw [HS.out]; exact HR.out, trivial⟩, hbl⟩, hB⟩
    · rw [if_neg hx] at hsn
      have hq : (x == l) = false := by rw [beq_eq_false_iff_ne]; exact hx
      have HS := Lib.hid hsn; clear hsn hx
      obtain ⟨o, ho⟩ : ∃ o, lessL pre l = o := ⟨_, rfl⟩
      rw [ho] at hrow hrow0 hrb hln HS
      clear ho
      gi_wp2_with (gi_at_builtin; refine wpListIn_append_own _ rfl _ _ 41 rfl (rowBase W v) 37 i0 (.int .i64 0) 1 8 Tryz.underlying41 hi hz0 hz1 hz2 rfl (by decide) _ _ _ rfl (hrb.alloc _) ⟨W.heap.size, 0, none⟩ 1 1 [.int .i64 x] rfl rfl (cell_one_new _ _ _) (by simp [Value.oneCell']) (by unfold maxLen; omega) (by omega) (by simp; omega) ?_; intro v' w2 hownb hgrow _; have hown' := owns_mono hownb (Nat.le_trans (Nat.le_add_right _ 2) hrb1); obtain ⟨g', cap', rfl⟩ := ownsRow_succ hown'; obtain ⟨hv1', hv2, -, hk2, hb2⟩ := hv.appended (by decide) hrow0 hB.size (by omega) hown' hgrow; have hc2 := hv1'.cell; have hf2 := hv1'.frozen)
      have bl2 := ((hbl.alloc (.cells #[.int .i64 x] 37)).kept hgrow (owns_ne hrow (by omega))).other (B' := w.heap.size + 1) (by omega) (.slice (some ⟨g', 0, none⟩) (o.length + 1) cap')
      refine ⟨hk2.from _, kpR_append (by have := Hs2.out; simp; omega) hv hgrow hownb hv2 hb2, ⟨⟨_, hv2, ?_, trivial⟩, bl2⟩, hB.trans hb2⟩
      rw [HS.out, List.length_append, List.map_append]; exact owns_mono (owns_set hownb hv1' (by decide)) hrb1
  case done =>
    rintro D ys W hD hys ⟨⟨⟨v, hv, hrow, -⟩, hbl⟩, hB⟩ hK
    subst hys
    have hcv := hv.cell
    have HR := Lib.hid hrow; clear hrow hs2 bN b1 b2 b1' b2' hbl
    simp at hD
    gi_wp2_with fail
    refine ⟨by simp, .inl ⟨_, _, rfl, run_takeDeferred hK, ?_⟩⟩
    refine ⟨_, results_tmp rfl _ _ _, ?_⟩
    exact ⟨v, rfl, ownsRow_putObj (owns_mono HR.out (by omega)) _ hK rfl, hB.trans (belowK_b (w := w) (Nat.le_refl _) W D _ _ (by have := hB2.size; omega) hK rfl rfl)⟩
  case stop =>
    rintro D c pre W _ _ h _
    exact h.elim
theorem rest_any (B : Nat) (sv : Value) (zs : List Int) (l : Int) (hreach : zs.length ≤ 1000000) (w : World) (hB : B ≤ w.heap.size) (hI : Lits B w sv zs) :
    Calls Tryz.prog 90 #[sv, .int .i64 l] w (GivesE 37 w (normL (lessL zs l))) :=
  (callsIn_wide (n := 3)).1 (rest_in 3 (by omega) sv zs l hreach w (hI.more hB))
end Go.Proofs.YtfbmagmelebkbaaGreat
