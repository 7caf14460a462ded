/- clauses.Always. -/
import Derived.Test.YtgoflapolglfcaaGreatClRest
namespace Go.Proofs.YtgoflapolglfcaaGreat
open Go.ChangeShapes Go.WideShapes Go.ChangeAt Go.RowKit Go.Shelf Go.Sort

attribute [local go_sem] Oper.semAt_some

theorem kpR_setBox {Bx B H : Nat} {W : World} {c : Nat} {u : Value} (hc : c < H) (hB : B ≤ c) (h0 : ∀ v, (W.setCell ⟨c, 0, none⟩ u).cell? ⟨Bx, 0, none⟩ = some v → v.ownBlock = none) : KpR Bx B H W (W.setCell ⟨c, 0, none⟩ u) :=
  ⟨(RowKit.Below.refl _ W).setCell (p := ⟨c, 0, none⟩) hB u, fun k o hk ho _ _ => ⟨by rw [RowKit.Below.heap_setCell _ _ _ _ (by show k ≠ c; omega)]; exact ho, fun ⟨v, b, h1, h2, _⟩ => by rw [h0 v h1] at h2; cases h2⟩⟩

/-- The number that came last. -/
def lastI (l : List Int) : Int := l.getLast?.getD 0
theorem lastI_snoc (l : List Int) (x : Int) : lastI (l ++ [x]) = x := by simp [lastI]
/-- None came right behind its negation. -/
def NoHit (l : List Int) : Prop := ∀ p y, p ++ [y] <+: l → y ≠ negI (lastI p)
def Hit (l : List Int) : Prop := ∃ p y, p ++ [y] <+: l ∧ y = negI (lastI p)
theorem noHit_nil : NoHit [] := fun p y h => by have := h.length_le; simp at this
theorem noHit_snoc {l : List Int} {x : Int} (h : NoHit l) (hx : x ≠ negI (lastI l)) : NoHit (l ++ [x]) := by
  intro p y hp
  rcases List.prefix_concat_iff.1 hp with e | hp
  · obtain ⟨rfl, e2⟩ := List.append_inj' e rfl
    cases e2
    exact hx
  · exact h p y hp
theorem hit_alw {zs l : List Int} (hl : ∀ x ∈ zs, litB x = true) (hp : l <+: normL zs) (h : Hit l) : alwB zs = true := by
  obtain ⟨p, y, h1, h2⟩ := h
  have h3 := h1.trans hp
  have hy : y ∈ zs := norm_mem.1 (h3.subset (by simp))
  have hly := litB_of (hl y hy)
  unfold lastI at h2
  cases hq : p.getLast? with
  | none => rw [hq] at h2; simp only [Option.getD_none] at h2; rw [show negI 0 = 0 by decide] at h2; omega
  | some z =>
    rw [hq] at h2
    simp only [Option.getD_some] at h2
    have hz : z ∈ zs := norm_mem.1 (h3.subset (List.mem_append.2 (.inl (List.mem_of_getLast? hq))))
    rw [negI, if_pos (hl z hz)] at h2
    exact alwB_iff.2 ⟨z, hz, h2 ▸ hy⟩
theorem idx_pair {v : Int} (h0 : 1 ≤ v) (h1 : v ≤ 1048576) : litB v = true ∧ litB (-v) = true ∧ idxI v = 2 * v - 2 ∧ idxI (-v) = 2 * v - 1 := by
  have a : litB v = true := litB_yes (by omega) (by omega) (by omega)
  have b : litB (-v) = true := litB_yes (by omega) (by omega) (by omega)
  refine ⟨a, b, ?_, ?_⟩
  · rw [idxI, if_pos a, if_neg (by omega)]
  · rw [idxI, if_pos b, if_pos (by omega)]; omega
theorem ltI_idx_iff {a b : Int} (ha : litB a = true) (hb : litB b = true) : ltI a b = true ↔ idxI a < idxI b := by
  constructor
  · intro h
    rcases ltI_iff.1 h with ⟨h1, _⟩ | ⟨h1, _, _⟩ | ⟨_, _, h3⟩
    · rw [ha] at h1; cases h1
    · rw [ha] at h1; cases h1
    · exact h3
  · exact ltI_idx ha hb
theorem alw_hit {zs : List Int} (hl : ∀ x ∈ zs, litB x = true) (h : alwB zs = true) : Hit (normL zs) := by
  obtain ⟨v, h0, hv, hv'⟩ : ∃ v : Int, 1 ≤ v ∧ v ∈ zs ∧ -v ∈ zs := by
    obtain ⟨x, hx, hx'⟩ := alwB_iff.1 h
    have := litB_of (hl x hx)
    by_cases h0 : 0 < x
    · exact ⟨x, by omega, hx, hx'⟩
    · exact ⟨-x, by omega, hx', by simpa using hx⟩
  have h1 := (litB_of (hl v hv)).2.2
  obtain ⟨l1, l2, i1, i2⟩ := idx_pair h0 h1
  obtain ⟨p, r, hpr⟩ := List.append_of_mem (norm_mem.2 hv)
  have hinc := norm_inc zs
  rw [hpr] at hinc
  obtain ⟨-, hr, hpr'⟩ := List.pairwise_append.1 hinc
  obtain ⟨hr1, hr2⟩ := List.pairwise_cons.1 hr
  have hm : -v ∈ r := by
    have hm := norm_mem.2 hv'
    rw [hpr] at hm
    rcases List.mem_append.1 hm with hm | hm
    · have h2 := hpr' (-v) hm v (by simp)
      rw [ltI_idx_iff l2 l1] at h2
      omega
    · rcases List.mem_cons.1 hm with e | hm
      · omega
      · exact hm
  cases r with
  | nil => cases hm
  | cons y r' =>
    have hyl : litB y = true := hl y (norm_mem.1 (by rw [hpr]; simp))
    have hy1 := hr1 y (by simp)
    rw [ltI_idx_iff l1 hyl] at hy1
    have hyv : y = -v := by
      rcases List.mem_cons.1 hm with e | hm
      · exact e.symm
      · have h3 := (List.pairwise_cons.1 hr2).1 (-v) hm
        rw [ltI_idx_iff hyl l2] at h3
        omega
    refine ⟨p ++ [v], y, ⟨r', by rw [hpr]; simp⟩, ?_⟩
    rw [lastI_snoc, hyv, negI, if_pos l1]
theorem noHit_alw {zs : List Int} (hl : ∀ x ∈ zs, litB x = true) (h : NoHit (normL zs)) : alwB zs = false := by
  cases e : alwB zs
  · rfl
  · obtain ⟨p, y, h1, h2⟩ := alw_hit hl e
    exact (h p y h1 h2).elim

def AlwI (w : World) (pre : List Int) (W : World) : Prop := (NoHit pre ∧ Boxed W w.heap.size 4 (.bool false) ∧ Boxed W (w.heap.size + 1) 35 (.int .i64 (lastI pre))) ∧ RowKit.Below w.heap.size w W
def AlwX (w : World) (c : Code) (pre : List Int) (W : World) : Prop := (c = .ret ∧ Hit pre ∧ Boxed W w.heap.size 4 (.bool true)) ∧ RowKit.Below w.heap.size w W

set_option maxRecDepth 100000 in
set_option maxHeartbeats 4000000 in
theorem always_in (n : Nat) (hn : 3 ≤ n) (sv : Value) (zs : List Int) (hreach : zs.length ≤ 1000000) (w : World) (hI : Lits w.heap.size w sv zs) :
    CallsIn .wide n Tryz.prog 68 #[sv] w fun e w' => e = .returned (.bool (rightB zs && alwB zs)) ∧ RowKit.Below w.heap.size w w' := by
  have h1 : 1 ≤ n := by omega
  have hR := fun W (hb : RowKit.Below w.heap.size w W) => clright_any w.heap.size sv zs (by omega) W (hI.below hb).ints
  obtain ⟨A0, c0, rfl, -⟩ := ints_shape hI.ints
  have HI := Lib.hid hI; clear hI
  have b0 := Boxed.new w 4 (.bool false)
  have hB0 : RowKit.Below w.heap.size w (w.alloc (.cells #[.bool false] 4)) := (RowKit.Below.refl _ w).alloc (Nat.le_refl _) _
  have HR := Lib.hid (hR _ hB0); clear hR
  cases hr : rightB zs
  · rw [hr] at HR
    rw [Bool.false_and]
    clear hr
    have hb0c := b0.cell
    have hb0f := b0.frozen
    refine callsIn_of_wp_marks Tryz.func68 rfl trivial ?_ rfl
    simp only [Tryz.ntmps68, List.size_toArray, List.length_cons, List.length_nil, Nat.reduceAdd, Nat.reduceSub, Array.replicate_succ, Array.replicate_zero, List.push_toArray, List.append_toArray, List.nil_append, List.cons_append]
    gi_wp2_with (refine ⟨trivial, ?_⟩; gi_at_call 29; refine (callsIn_wide.2 HR.out).mono ?_; rintro e w' ⟨rfl, rfl⟩)
    refine ⟨.bool false, ?_, rfl, hB0⟩
    simp [results, Tryz.f68, go_sem]
  · rw [hr] at HR
    rw [Bool.true_and]
    obtain ⟨-, hl⟩ := rightB_of hr
    have HL := Lib.hid hl; clear hr hl
    refine callsIn_of_wp_marks Tryz.func68 rfl trivial ?_ rfl
    simp only [Tryz.ntmps68, List.size_toArray, List.length_cons, List.length_nil, Nat.reduceAdd, Nat.reduceSub, Array.replicate_succ, Array.replicate_zero, List.push_toArray, List.append_toArray, List.nil_append, List.cons_append]
    gi_wp2_with (refine ⟨trivial, ?_⟩; gi_at_call 29; refine (callsIn_wide.2 HR.out).mono ?_; rintro e w' ⟨rfl, rfl⟩)
    have hB2 := hB0.alloc (by simp) (.cells #[.int .i64 0] 35)
    have b1 := b0.alloc (.cells #[.int .i64 0] 35)
    have b2 := Boxed.new (w.alloc (.cells #[.bool false] 4)) 35 (.int .i64 0)
    rw [World.size_alloc] at b2
    have hs2 : ((w.alloc (.cells #[.bool false] 4)).alloc (.cells #[.int .i64 0] 35)).heap.size = w.heap.size + 1 + 1 := by simp
    obtain ⟨W2, hW2⟩ : ∃ W2, (w.alloc (.cells #[.bool false] 4)).alloc (.cells #[.int .i64 0] 35) = W2 := ⟨_, rfl⟩
    rw [hW2] at hB2 b1 b2 hs2 ⊢
    clear hW2 b0 hB0 HR
    have Hs2 := Lib.hid hs2; clear hs2
    refine ⟨trivial, ?_⟩
    refine (normal_in (n - 1) w.heap.size _ zs W2 (HI.out.below hB2).ints).mono ?_
    rintro e w' ⟨rfl, rfl⟩
    gi_wp2_with fail
    have hs2 := Hs2.out
    have bN := Boxed.new W2 36 (.slice A0 zs.length c0)
    have hB5 : RowKit.Below w.heap.size w (W2.alloc (.cells #[.slice A0 zs.length c0] 36)) := hB2.alloc hB2.size _
    have b1' := b1.alloc (.cells #[.slice A0 zs.length c0] 36)
    have b2' := b2.alloc (.cells #[.slice A0 zs.length c0] 36)
    refine wpIn_rangeFunc_ownG rfl (by omega) (gf := 81) (lb := #[.pointer (some ⟨W2.heap.size, 0, none⟩)]) rfl trivial (enters_of Tryz.func81 (by kernel_rfl) rfl)
      (normal_stops (n - 1) (by omega) W2.heap.size w.heap.size w.heap.size _ zs hreach _ (by simp) (by simp; omega) (by simp; omega) bN.cell (HI.out.below hB5) (fun v hv => by rw [b1'.cell] at hv; cases hv; rfl))
      kpR_t (kpR_b (by simp; omega) (by simp; omega)) (RowKit.Below.refl _ _) (fun _ => rfl)
      (AlwI w) (AlwX w)
      (OwnFrom.and (OwnFrom.and (ownFrom_pure _ _) (OwnFrom.and (Own.from (boxed_own _ _ _) _) (Own.from (boxed_own _ _ _) _))) (ownFrom_below (Nat.le_refl _) (by simp; omega)))
      (fun c => OwnFrom.and (OwnFrom.and (ownFrom_pure _ _) (OwnFrom.and (ownFrom_pure _ _) (Own.from (boxed_own _ _ _) _))) (ownFrom_below (Nat.le_refl _) (by simp; omega)))
      ⟨⟨noHit_nil, b1', b2'⟩, hB5⟩
      (fun x => { tmps := #[.slice A0 zs.length c0, undef, .pointer (some ⟨w.heap.size, 0, none⟩), .pointer (some ⟨w.heap.size + 1, 0, none⟩), .int .i64 x, .slice A0 zs.length c0, .bool true, .bool false, .slice A0 zs.length c0, .func (.func 81) #[] #[.pointer (some ⟨W2.heap.size, 0, none⟩)], .int .i64 x, undef, undef, undef, undef, undef], defers := [] }) ?assign ?body ?done ?stop
    case assign =>
      intro l x W K hK
      clear hs2
      gi_wp2_with fail
      exact hK
    case body =>
      rintro r pre x W ⟨⟨hnh, hb0, hb1⟩, hB⟩ hlt
      have hc0 := hb0.cell
      have hf0 := hb0.frozen
      have hc1 := hb1.cell
      have hf1 := hb1.frozen
      clear hs2 bN b1 b2 b1' b2' hB2 hB5
      obtain ⟨m, hm⟩ : ∃ m, negI (lastI pre) = m := ⟨_, rfl⟩
      have hcall := fun W => neg_any (lastI pre) W
      rw [hm] at hcall
      have HM := Lib.hid hm; have HN := Lib.hid hnh; have HC := Lib.hid hcall
      clear hm hnh hcall
      have hn1 : 1 ≤ n - 1 - 1 := by omega
      by_cases hx : x = m
      · have hq : (x == m) = true := by rw [beq_iff_eq]; exact hx
        have HX := Lib.hid hx; clear hx
        gi_wp2_with (refine ⟨trivial, ?_⟩; gi_at_call 46; refine (CallsIn.inRound r (callsIn_wide.2 (HC.out _))).mono ?_; rintro e w' ⟨rfl, rfl⟩)
        refine ⟨(KeepsOthers.setCell _ _ _).from _, ⟨⟨rfl, ⟨pre, x, List.prefix_refl _, by rw [HM.out]; exact HX.out⟩, hb0.set _⟩, hB.setCell (p := ⟨w.heap.size, 0, none⟩) (Nat.le_refl _) _⟩⟩
      · have hq : (x == m) = false := by rw [beq_eq_false_iff_ne]; exact hx
        have HX := Lib.hid hx; clear hx
        gi_wp2_with (refine ⟨trivial, ?_⟩; gi_at_call 46; refine (CallsIn.inRound r (callsIn_wide.2 (HC.out _))).mono ?_; rintro e w' ⟨rfl, rfl⟩)
        have hb0' := hb0.other (B' := w.heap.size + 1) (by omega) (.int .i64 x)
        refine ⟨(KeepsOthers.setCell _ _ _).from _, kpR_setBox (by have := Hs2.out; simp; omega) (by omega) (fun v hv => by rw [hb0'.cell] at hv; cases hv; rfl), ⟨noHit_snoc HN.out (by rw [HM.out]; exact HX.out), hb0', by rw [lastI_snoc]; exact hb1.set _⟩, hB.setCell (p := ⟨w.heap.size + 1, 0, none⟩) (by simp) _⟩
    case done =>
      rintro D ys W hD hys ⟨⟨hnh, hb0, hb1⟩, hB⟩ hK
      subst hys
      have hc0 := hb0.cell
      have hf0 := hb0.frozen
      have ha := noHit_alw HL.out hnh
      have HA := Lib.hid ha
      clear hs2 bN b1 b2 b1' b2' hb1 hnh ha
      simp at hD
      gi_wp2_with fail
      have hK' := (KeepsOthers.setCell W ⟨w.heap.size, 0, none⟩ (.bool false)).same D _ hK rfl
      refine ⟨by simp, .inl ⟨_, _, rfl, run_takeDeferred hK', ?_⟩⟩
      have hc5 := cell_kept (hb0.set (.bool false)).cell (grownBy_putObj' _ D (.deferred none)) (fun r e => by cases e; exact ⟨_, hK', rfl⟩)
      refine ⟨.bool false, ?_, by rw [HA.out], (hB.setCell (p := ⟨w.heap.size, 0, none⟩) (Nat.le_refl _) _).trans (belowK_b (w := w) (Nat.le_refl _) _ D _ _ (by have := hB2.size; omega) hK' rfl rfl)⟩
      simp [results, Tryz.f68, go_sem, hc5]
    case stop =>
      rintro D c pre W hD hpre ⟨⟨rfl, hh, hb0⟩, hB⟩ hK
      have ha := hit_alw HL.out hpre hh
      have HA := Lib.hid ha
      clear hs2 bN b1 b2 b1' b2' hh ha
      simp at hD
      gi_wp2_with fail
      refine ⟨by simp, .inl ⟨_, _, rfl, run_takeDeferred hK, ?_⟩⟩
      have hc5 := cell_kept hb0.cell (grownBy_putObj' _ D (.deferred none)) (fun r e => by cases e; exact ⟨_, hK, rfl⟩)
      refine ⟨.bool true, ?_, by rw [HA.out], hB.trans (belowK_b (w := w) (Nat.le_refl _) W D _ _ (by have := hB2.size; omega) hK rfl rfl)⟩
      simp [results, Tryz.f68, go_sem, hc5]
theorem always_any (B : Nat) (sv : Value) (zs : List Int) (hreach : zs.length ≤ 1000000) (w : World) (hB : B ≤ w.heap.size) (hI : Lits B w sv zs) :
    Calls Tryz.prog 68 #[sv] w fun e w' => e = .returned (.bool (rightB zs && alwB zs)) ∧ RowKit.Below w.heap.size w w' :=
  (callsIn_wide (n := 3)).1 (always_in 3 (by omega) sv zs hreach w (hI.more hB))
end Go.Proofs.YtgoflapolglfcaaGreat
