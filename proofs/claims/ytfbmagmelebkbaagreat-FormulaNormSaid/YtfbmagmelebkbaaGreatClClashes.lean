/- clauses.Clashes. -/
import Derived.Test.YtfbmagmelebkbaaGreatClUnion
import Derived.RegionIn
import Derived.Laws.EntriesVeiled
import Derived.Shelf.RegionOpen
namespace Go.Proofs.YtfbmagmelebkbaaGreat
open Go.ChangeShapes Go.WideShapes Go.ChangeAt Go.RowKit Go.Shelf Go.Sort

attribute [local go_sem] Oper.semAt_some

/-- All blocks but one are as they were. -/
def Agr (s : Nat) (X W : World) : Prop := X.heap.size ≤ W.heap.size ∧ ∀ k, k < X.heap.size → k ≠ s → W.heap[k]? = X.heap[k]?
theorem Agr.refl (s : Nat) (X : World) : Agr s X X := ⟨Nat.le_refl _, fun _ _ _ => rfl⟩
theorem Agr.below {s : Nat} {X W W' : World} (h : Agr s X W) (hb : RowKit.Below W.heap.size W W') : Agr s X W' := ⟨Nat.le_trans h.1 hb.size, fun k hk hne => (hb.block k (Nat.lt_of_lt_of_le hk h.1)).trans (h.2 k hk hne)⟩
theorem Agr.grown {s : Nat} {X W W' : World} {row : Option Nat} (h : Agr s X W) (hg : W.grownBy W' row) (hr : ∀ k, row = some k → X.heap.size ≤ k) : Agr s X W' :=
  ⟨Nat.le_trans h.1 hg.size, fun k hk hne => (hg.block k (Nat.lt_of_lt_of_le hk h.1) (fun e => by have := hr k e.symm; omega)).trans (h.2 k hk hne)⟩
theorem Agr.set {s : Nat} {X W : World} (h : Agr s X W) (v : Value) : Agr s X (W.setCell ⟨s, 0, none⟩ v) :=
  ⟨by simpa [World.setCell] using h.1, fun k hk hne => (RowKit.Below.heap_setCell _ _ _ _ (by show k ≠ s; omega)).trans (h.2 k hk hne)⟩
theorem agr_own {β : Type} {s B : Nat} {X : World} (hB : X.heap.size ≤ B) : OwnFrom B (fun (_ : β) W => Agr s X W) :=
  fun _ _ _ _ hs hg hr => hs.grown hg (fun k e => Nat.le_trans hB (hr k e).1)

/-- The function f answers whether a list has a literal, wherever its own cells are as in X. -/
def HasFn (s : Nat) (X : World) (Bh : Nat) (zs : List Int) : Prop :=
  ∀ W, Agr s X W → ∀ x, Calls Tryz.prog 121 #[.int .i64 x, .pointer (some ⟨Bh, 0, none⟩)] W fun e W' => e = .returned (.bool (hasB zs x)) ∧ RowKit.Below W.heap.size W W'

set_option maxHeartbeats 1000000 in
theorem having_keep (s B : Nat) (sv : Value) (zs : List Int) (hz : zs.length ≤ 1000000) (w : World) (hB : B ≤ s) (hs : s < w.heap.size) (hI : Lits B w sv zs) :
    Calls Tryz.prog 86 #[sv] w fun e w' => ∃ Bh, e = .returned (.func (.func 121) #[] #[.pointer (some ⟨Bh, 0, none⟩)]) ∧ HasFn s w' Bh zs ∧ RowKit.Below w.heap.size w w' := by
  have hnl := norm_length zs
  have HS := Lib.hid (clsorted_fine sv zs hz w (hI.more (by omega)))
  have HI := Lib.hid hI
  obtain ⟨A, c, rfl, -⟩ := ints_shape hI.ints
  clear hI
  go_enter Tryz.func86, Tryz.ntmps86
  go_wp2_with fail
  refine HS.out.mono ?_
  rintro e w1 ⟨v, rfl, hf, hb⟩
  have hbs := hb.size
  have hl : ∀ W, (∀ k, k < w1.heap.size → k ≠ s → W.heap[k]? = w1.heap[k]?) → w1.heap.size ≤ W.heap.size → Lits W.heap.size W v (normL zs) := by
    intro W hW hsz
    rcases hf with ⟨rfl, hn⟩ | ⟨b, cap, rfl, h1, h2, h3⟩
    · rw [hn]
      rcases (HI.out.below (hb.mono (by omega))) with h0 | ⟨b, off, cap, e, hbb, hc⟩
      · exact .inl h0
      · have hbk := hW b (by omega) (by omega)
        refine .inr ⟨b, off, cap, e, by omega, fun j hj => ?_⟩
        exact ⟨(World.cell?_of_block (w := w1) (a := ⟨b, off + j, none⟩) hbk).trans (hc j hj).1, (World.frozen?_of_block (w := w1) (a := ⟨b, off + j, none⟩) hbk).trans (hc j hj).2⟩
    · have hbk := hW b h2 (by omega)
      refine .inr ⟨b, 0, cap, rfl, by omega, fun j hj => ?_⟩
      exact ⟨(World.cell?_of_block (w := w1) (a := ⟨b, 0 + j, none⟩) hbk).trans (h3 j hj).1, (World.frozen?_of_block (w := w1) (a := ⟨b, 0 + j, none⟩) hbk).trans (h3 j hj).2⟩
  obtain ⟨A1, c1, rfl, -⟩ := ints_shape (hf.lits (HI.out.more (by omega)) hb).ints
  have HL := Lib.hid hl; clear hl hf
  go_wp2_with fail
  go_ret
  refine ⟨w1.heap.size, rfl, fun W hW x => ?_, hb.trans (((RowKit.Below.refl _ w1).alloc (Nat.le_refl _) _).mono hb.size)⟩
  have hsz : w1.heap.size < W.heap.size := by have := hW.1; simp at this; omega
  have hbx : W.heap[w1.heap.size]? = (w1.alloc (.cells #[.slice A1 (normL zs).length c1] 38)).heap[w1.heap.size]? := hW.2 _ (by simp) (by have := hb.size; omega)
  have h := has1_any W.heap.size w1.heap.size (.slice A1 (normL zs).length c1) (normL zs) x (by omega) (norm_inc zs) W (Nat.le_refl _)
    ((World.cell?_of_block (a := ⟨w1.heap.size, 0, none⟩) hbx).trans (Boxed.new w1 38 _).cell)
    (HL.out W (fun k hk hne => (hW.2 k (by simp; omega) hne).trans (RowKit.Below.heap_alloc _ _ _ hk)) (by omega))
  rw [hasB_norm] at h
  exact h

theorem kpR_below {Bx B H : Nat} {W W' : World} (hb : RowKit.Below W.heap.size W W') (hB : B ≤ W.heap.size) (hx : Bx < W.heap.size) : KpR Bx B H W W' :=
  ⟨hb.mono hB, fun k _ _ ho _ hr => ⟨(hb.block k (Array.getElem?_eq_some_iff.1 ho).1).trans ho, fun ⟨v, b, h1, h2, h3⟩ => hr ⟨v, b, (hb.cell (p := ⟨Bx, 0, none⟩) hx).symm.trans h1, h2, h3⟩⟩⟩

def clashL (pre ys : List Int) : List Int := pre.filter fun x => hasB ys (negI x)
theorem clashL_snoc (l ys : List Int) (x : Int) : clashL (l ++ [x]) ys = if hasB ys (negI x) then clashL l ys ++ [x] else clashL l ys := by
  unfold clashL
  rw [List.filter_append]
  cases h : hasB ys (negI x)
  · simp [h]
  · simp [h]
theorem clash_norm {xs ys : List Int} (hl : ∀ x ∈ xs, litB x = true) : clashL (normL xs) ys = normL (xs.filter fun x => hasB ys (-x)) := by
  unfold clashL
  rw [norm_filter]
  congr 1
  refine List.filter_congr fun x hx => ?_
  rw [negI, if_pos (hl x hx)]

def ClashI (w X : World) (b7 : Nat) (f : Value) (ys pre : List Int) (W : World) : Prop :=
  ((∃ v, Boxed W w.heap.size 38 v ∧ W.ownsRow X.heap.size 37 1 v (clashL pre ys).length ((clashL pre ys).map (Value.int .i64)) ∧ True) ∧ Boxed W b7 99 f ∧ Agr w.heap.size X W) ∧ RowKit.Below w.heap.size w W

set_option maxRecDepth 100000 in
set_option maxHeartbeats 4000000 in
theorem clashes_in (n : Nat) (hn : 4 ≤ n) (xv yv : Value) (xs ys : List Int) (hx : xs.length ≤ 1000000) (hy : ys.length ≤ 1000000) (w : World) (hI : Lits w.heap.size w xv xs) (hJ : Lits w.heap.size w yv ys) :
    CallsIn .wide n Tryz.prog 39 #[xv, yv] w (Gives2 37 w (if rightB xs && rightB ys then normL (xs.filter fun x => hasB ys (-x)) else []) (if rightB xs && rightB ys then 0 else 20)) := by
  have h1 : 1 ≤ n := by omega
  obtain ⟨i0, hi, hz0, hz1, hz2⟩ := info_parts infoLit
  have hr1 := clright_any w.heap.size xv xs (by omega) w hI.ints
  have hr2 := clright_any w.heap.size yv ys (by omega) w hJ.ints
  have hB1 : RowKit.Below w.heap.size w (w.alloc (.cells #[.slice none 0 0] 38)) := (RowKit.Below.refl _ w).alloc (Nat.le_refl _) _
  have hh := having_keep w.heap.size w.heap.size yv ys hy (w.alloc (.cells #[.slice none 0 0] 38)) (Nat.le_refl _) (by simp) (hJ.below hB1)
  obtain ⟨A1, c1, rfl, -⟩ := ints_shape hI.ints
  obtain ⟨A2, c2, rfl, -⟩ := ints_shape hJ.ints
  have HI := Lib.hid hI
  clear hI hJ
  cases r1 : rightB xs
  · rw [r1] at hr1
    rw [Bool.false_and, if_neg (by decide), if_neg (by decide)]
    have H1 := Lib.hid hr1
    clear r1 hr1 hr2 hh
    refine callsIn_of_wp_marks Tryz.func39 rfl trivial ?_ rfl
    simp only [Tryz.ntmps39, List.size_toArray, List.length_cons, List.length_nil, Nat.reduceAdd, Nat.reduceSub, Array.replicate_succ, Array.replicate_zero, List.push_toArray, List.append_toArray, List.nil_append, List.cons_append]
    gi_wp2_with (refine ⟨trivial, ?_⟩; gi_at_call 57; refine (callsIn_wide.2 H1.out).mono ?_; rintro e w' ⟨rfl, rfl⟩)
    refine ⟨trivial, ?_⟩
    gi_wp2_with fail
    exact ⟨_, results_tmp2 rfl _ _ _, _, rfl, World.ownsRow_nil _ _ _ _, RowKit.Below.refl _ _⟩
  · rw [r1] at hr1
    rw [Bool.true_and]
    cases r2 : rightB ys
    · rw [r2] at hr2
      rw [if_neg (by decide), if_neg (by decide)]
      have H1 := Lib.hid hr1; have H2 := Lib.hid hr2
      clear r1 r2 hr1 hr2 hh
      refine callsIn_of_wp_marks Tryz.func39 rfl trivial ?_ rfl
      simp only [Tryz.ntmps39, List.size_toArray, List.length_cons, List.length_nil, Nat.reduceAdd, Nat.reduceSub, Array.replicate_succ, Array.replicate_zero, List.push_toArray, List.append_toArray, List.nil_append, List.cons_append]
      gi_wp2_with fail
      refine ⟨trivial, ?_⟩
      refine (callsIn_wide.2 H1.out).mono ?_
      rintro e w' ⟨rfl, rfl⟩
      gi_wp2_with fail
      refine ⟨trivial, ?_⟩
      refine (callsIn_wide.2 H2.out).mono ?_
      rintro e w' ⟨rfl, rfl⟩
      gi_wp2_with fail
      exact ⟨_, results_tmp2 rfl _ _ _, _, rfl, World.ownsRow_nil _ _ _ _, RowKit.Below.refl _ _⟩
    · rw [r2] at hr2
      obtain ⟨-, hl⟩ := rightB_of r1
      rw [if_pos rfl, if_pos rfl, ← clash_norm hl]
      have H1 := Lib.hid hr1; have H2 := Lib.hid hr2; have HH := Lib.hid hh
      clear r1 r2 hr1 hr2 hh hl
      refine callsIn_of_wp_marks Tryz.func39 rfl trivial ?_ rfl
      simp only [Tryz.ntmps39, List.size_toArray, List.length_cons, List.length_nil, Nat.reduceAdd, Nat.reduceSub, Array.replicate_succ, Array.replicate_zero, List.push_toArray, List.append_toArray, List.nil_append, List.cons_append]
      gi_wp2_with fail
      refine ⟨trivial, ?_⟩
      refine (callsIn_wide.2 H1.out).mono ?_
      rintro e w' ⟨rfl, rfl⟩
      gi_wp2_with fail
      refine ⟨trivial, ?_⟩
      refine (callsIn_wide.2 H2.out).mono ?_
      rintro e w' ⟨rfl, rfl⟩
      gi_wp2_with fail
      have b6 := Boxed.new w 38 (.slice none 0 0)
      have hs1 : (w.alloc (.cells #[.slice none 0 0] 38)).heap.size = w.heap.size + 1 := by simp
      obtain ⟨W1, hW1⟩ : ∃ W1, w.alloc (.cells #[.slice none 0 0] 38) = W1 := ⟨_, rfl⟩
      rw [hW1] at HH hB1 b6 hs1 ⊢
      clear hW1
      refine ⟨trivial, ?_⟩
      refine (callsIn_wide.2 HH.out).mono ?_
      rintro e X ⟨Bh, rfl, hfn, hb2⟩
      have b6X : Boxed X w.heap.size 38 (.slice none 0 0) := b6.kept (below_grownBy hb2) (by simp)
      have hBX := hB1.trans (hb2.mono hB1.size)
      have hsX : w.heap.size < X.heap.size := by have := hb2.size; omega
      have HF := Lib.hid hfn
      clear hfn hb2 b6 hs1 hB1 HH
      gi_wp2_with fail
      have hb7 : RowKit.Below X.heap.size X (X.alloc (.cells #[.func (.func 121) #[] #[.pointer (some ⟨Bh, 0, none⟩)]] 99)) := (RowKit.Below.refl _ X).alloc (Nat.le_refl _) _
      have b7 := Boxed.new X 99 (.func (.func 121) #[] #[.pointer (some ⟨Bh, 0, none⟩)])
      have b6' := b6X.alloc (.cells #[.func (.func 121) #[] #[.pointer (some ⟨Bh, 0, none⟩)]] 99)
      have hs7 : (X.alloc (.cells #[.func (.func 121) #[] #[.pointer (some ⟨Bh, 0, none⟩)]] 99)).heap.size = X.heap.size + 1 := by simp
      obtain ⟨X2, hX2⟩ : ∃ X2, X.alloc (.cells #[.func (.func 121) #[] #[.pointer (some ⟨Bh, 0, none⟩)]] 99) = X2 := ⟨_, rfl⟩
      rw [hX2] at hb7 b7 b6' hs7 ⊢
      clear hX2 b6X
      have hB2 := hBX.trans (hb7.mono (by omega))
      have Hs7 := Lib.hid hs7; clear hs7
      refine ⟨trivial, ?_⟩
      refine (normal_in (n - 1) w.heap.size _ xs X2 (HI.out.below hB2).ints).mono ?_
      rintro e w' ⟨rfl, rfl⟩
      gi_wp2_with fail
      have hs7 := Hs7.out
      have bN := Boxed.new X2 38 (.slice A1 xs.length c1)
      have hB5 : RowKit.Below w.heap.size w (X2.alloc (.cells #[.slice A1 xs.length c1] 38)) := hB2.alloc hB2.size _
      have hA5 : Agr w.heap.size X (X2.alloc (.cells #[.slice A1 xs.length c1] 38)) := (Agr.refl w.heap.size X).below (hb7.alloc hb7.size _)
      have b6'' := b6'.alloc (.cells #[.slice A1 xs.length c1] 38)
      have b7'' := b7.alloc (.cells #[.slice A1 xs.length c1] 38)
      refine wpIn_rangeFunc_ownG rfl (by omega) (gf := 111) (lb := #[.pointer (some ⟨X2.heap.size, 0, none⟩)]) rfl trivial (enters_of Tryz.func111 (by kernel_rfl) rfl)
        (normal_stops (n - 1) (by omega) X2.heap.size w.heap.size w.heap.size _ xs hx _ (by simp) (by simp; omega) (by simp; omega) bN.cell (HI.out.below hB5) (fun v hv => by rw [b6''.cell] at hv; cases hv; rfl))
        kpR_t (kpR_b (by simp; omega) (by simp; omega)) (RowKit.Below.refl _ _) (fun _ => rfl)
        (ClashI w X X.heap.size (.func (.func 121) #[] #[.pointer (some ⟨Bh, 0, none⟩)]) ys)
        (fun _ _ _ => False)
        (OwnFrom.and (OwnFrom.and (Own.from (holdsRow_own X.heap.size w.heap.size 38 37 1 (fun pre => (clashL pre ys).length) (fun pre => (clashL pre ys).map (Value.int .i64)) (fun _ _ => True)) _) (OwnFrom.and (Own.from (boxed_own _ _ _) _) (agr_own (by simp; omega)))) (ownFrom_below (Nat.le_refl _) (by simp; omega)))
        (fun _ _ _ _ _ hs _ _ => hs)
        ⟨⟨⟨_, b6'', World.ownsRow_nil _ _ _ _, trivial⟩, b7'', hA5⟩, hB5⟩
        (fun x => { tmps := #[.slice A1 xs.length c1, .slice A2 ys.length c2, undef, undef, .slice none 0 0, .int .i64 0, .pointer (some ⟨w.heap.size, 0, none⟩), .pointer (some ⟨X.heap.size, 0, none⟩), .int .i64 x, .slice A1 xs.length c1, .bool true, .bool false, .bool false, .slice A2 ys.length c2, .bool true, .bool false, .bool false, .slice A2 ys.length c2, .func (.func 121) #[] #[.pointer (some ⟨Bh, 0, none⟩)], .slice A1 xs.length c1, .func (.func 111) #[] #[.pointer (some ⟨X2.heap.size, 0, none⟩)], .int .i64 x, undef, undef, undef, undef, undef, undef, undef, undef, undef], defers := [] }) ?assign ?body ?done ?stop
      case assign =>
        intro l x W K hK
        clear hs7
        gi_wp2_with fail
        exact hK
      case body =>
        rintro r pre x W ⟨⟨⟨v, hv, hrow, -⟩, hb7, hag⟩, hB⟩ hlt
        have hcv := hv.cell
        have hcf := hv.frozen
        have hc7 := hb7.cell
        clear hs7 bN b6' b6'' b7 b7'' hB2 hB5 hA5
        have hd : 1 ≤ n - 1 - 1 := by omega
        have hmx : Tryz.prog.follows .mixedOrders = true := by kernel_rfl
        have hneg := fun W => neg_any x W
        have HN := Lib.hid hneg; clear hneg
        have hsn := clashL_snoc pre ys x
        have hln : (clashL pre ys).length ≤ pre.length := List.length_filter_le _ _
        have hW0 : w.heap.size < W.heap.size := (Array.getElem?_eq_some_iff.1 hv).1
        obtain ⟨o, ho⟩ : ∃ o, clashL pre ys = o := ⟨_, rfl⟩
        rw [ho] at hrow hln hsn
        clear ho
        cases hq : hasB ys (negI x)
        · rw [hq, if_neg (by decide)] at hsn
          have HQ := Lib.hid hq; have HS := Lib.hid hsn; have HR := Lib.hid hrow; clear hq hsn hrow
          gi_wp2_with fail
          gi_region_with_o (first
            | (refine ⟨trivial, ?_⟩; gi_at_call 64; refine (CallsIn.inRound r (callsIn_wide.2 (HN.out _))).mono ?_; rintro e w' ⟨rfl, rfl⟩)
            | (refine ⟨trivial, ?_⟩; gi_at_call 121; refine (CallsIn.inRound r (callsIn_wide.2 (HF.out _ (by exact hag) _))).mono ?_; rintro e w4 ⟨rfl, hb4⟩; rw [HQ.out]))
          all_goals
            have hb5 : RowKit.Below W.heap.size W w4 := ((RowKit.Below.refl W.heap.size W).drew).trans hb4
            clear hb4
            gi_wp2_with fail
            exact ⟨KeepsFrom.of_grownBy (below_grownBy hb5) (fun j e => by cases e), kpR_below hb5 hB.size hW0, ⟨⟨v, hv.kept (below_grownBy hb5) (by simp), by rw [HS.out]; exact owns_on HR.out hb5, trivial⟩, hb7.kept (below_grownBy hb5) (by simp), hag.below hb5⟩, hB.trans (hb5.mono hB.size)⟩
        · rw [hq, if_pos rfl] at hsn
          have HQ := Lib.hid hq; have HS := Lib.hid hsn; clear hq hsn
          gi_wp2_with fail
          gi_region_with_o (first
            | (refine ⟨trivial, ?_⟩; gi_at_call 64; refine (CallsIn.inRound r (callsIn_wide.2 (HN.out _))).mono ?_; rintro e w' ⟨rfl, rfl⟩)
            | (refine ⟨trivial, ?_⟩; gi_at_call 121; refine (CallsIn.inRound r (callsIn_wide.2 (HF.out _ (by exact hag) _))).mono ?_; rintro e w4 ⟨rfl, hb4⟩; rw [HQ.out]))
          all_goals
            have hb5 : RowKit.Below W.heap.size W w4 := ((RowKit.Below.refl W.heap.size W).drew).trans hb4
            have hv4 := hv.kept (below_grownBy hb5) (by simp)
            have h74 := hb7.kept (below_grownBy hb5) (by simp)
            have hrow4 := owns_on hrow hb5
            have hag4 := hag.below hb5
            have hB4 := hB.trans (hb5.mono hB.size)
            have hX4 : X.heap.size ≤ w4.heap.size := hag4.1
            obtain ⟨hrb, hrb1, hrb2⟩ := owns_base hX4 hrow4
            have hrow0 := owns_mono hrow4 (base' := w.heap.size) (by omega)
            have hk1 : KeepsFrom (X2.alloc (.cells #[.slice A1 xs.length c1] 38)).heap.size W w4 := KeepsFrom.of_grownBy (below_grownBy hb5) (fun j e => by cases e)
            have hp1 : KpR w.heap.size w.heap.size (X2.alloc (.cells #[.slice A1 xs.length c1] 38)).heap.size W w4 := kpR_below hb5 hB.size hW0
            have hcv4 := hv4.cell
            have hcf4 := hv4.frozen
            have HK1 := Lib.hid hk1; have HP1 := Lib.hid hp1
            clear hb4 hcv hcf hc7 hk1 hp1
            gi_wp2_with (gi_at_builtin; refine wpListIn_append_own _ rfl _ _ 38 rfl (rowBase w4 v) 37 i0 (.int .i64 0) 1 8 Tryz.underlying38 hi hz0 hz1 hz2 rfl (by decide) _ _ _ rfl (hrb.alloc _) ⟨w4.heap.size, 0, none⟩ 1 1 [.int .i64 x] rfl rfl (cell_one_new _ _ _) (by simp [Value.oneCell']) (by unfold maxLen; omega) (by omega) (by simp; omega) ?_; intro v' w2 hownb hgrow _; have hown' := owns_mono hownb (Nat.le_trans (Nat.le_of_lt hsX) hrb1); obtain ⟨g', cap', rfl⟩ := ownsRow_succ hown'; obtain ⟨hv1', hv2, -, hk2, hb2⟩ := hv4.appended (by decide) hrow0 hB4.size (Nat.le_refl _) hown' hgrow; have hc2 := hv1'.cell; have hf2 := hv1'.frozen)
            have b72 := ((h74.alloc (.cells #[.int .i64 x] 37)).kept hgrow ((h74.alloc (.cells #[.int .i64 x] 37)).not_row (by decide) (hrow4.alloc (.cells #[.int .i64 x] 37)))).other (B' := w.heap.size) (by omega) (.slice (some ⟨g', 0, none⟩) (o.length + 1) cap')
            have hag2 := ((hag4.below ((RowKit.Below.refl _ w4).alloc (Nat.le_refl _) (.cells #[.int .i64 x] 37))).grown hgrow (fun k e => (hrow4.lt k e).1)).set (.slice (some ⟨g', 0, none⟩) (o.length + 1) cap')
            refine ⟨HK1.out.trans (hk2.from _), kpR_t HP1.out (kpR_append (by have := Hs7.out; simp; omega) hv4 hgrow hownb hv2 hb2), ⟨⟨_, hv2, ?_, trivial⟩, b72, hag2⟩, hB4.trans hb2⟩
            rw [HS.out, List.length_append, List.map_append]; exact owns_mono (owns_set hownb hv1' (by decide)) hrb1
      case done =>
        rintro D ys' W hD hys ⟨⟨⟨v, hv, hrow, -⟩, -, -⟩, hB⟩ hK
        subst hys
        have hcv := hv.cell
        have HR := Lib.hid hrow; clear hrow hs7 bN b6' b6'' b7 b7'' hB5 hA5
        simp at hD
        gi_wp2_with fail
        refine ⟨by simp, .inl ⟨_, _, rfl, run_takeDeferred hK, ?_⟩⟩
        refine ⟨_, results_tmp2 rfl _ _ _, ?_⟩
        exact ⟨v, rfl, ownsRow_putObj (owns_mono HR.out (by omega)) _ hK rfl, hB.trans (belowK_b (w := w) (Nat.le_refl _) W D _ _ (by have := hB2.size; omega) hK rfl rfl)⟩
      case stop =>
        rintro D c pre W _ _ h _
        exact h.elim
theorem clashes_any (B : Nat) (xv yv : Value) (xs ys : List Int) (hx : xs.length ≤ 1000000) (hy : ys.length ≤ 1000000) (w : World) (hB : B ≤ w.heap.size) (hI : Lits B w xv xs) (hJ : Lits B w yv ys) :
    Calls Tryz.prog 39 #[xv, yv] w (Gives2 37 w (if rightB xs && rightB ys then normL (xs.filter fun x => hasB ys (-x)) else []) (if rightB xs && rightB ys then 0 else 20)) :=
  (callsIn_wide (n := 4)).1 (clashes_in 4 (by omega) xv yv xs ys hx hy w (hI.more hB) (hJ.more hB))
end Go.Proofs.YtfbmagmelebkbaaGreat
