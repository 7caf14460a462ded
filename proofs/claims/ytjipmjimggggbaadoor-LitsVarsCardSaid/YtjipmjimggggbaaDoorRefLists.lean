/- Slices of integers that come in; the reference's functions of lists. -/
import Derived.Test.YtjipmjimggggbaaDoorRef
import Derived.Test.YtjipmjimggggbaaDoorVars
import Derived.Test.YtjipmjimggggbaaDoorGreatest
import Derived.OwnWalk
import Derived.ChangeSlices
namespace Go.Proofs.YtjipmjimggggbaaDoor
open Go.ChangeShapes Go.WideShapes Go.ChangeAt Go.RowKit

/-- The slice value sv holds the numbers zs of kind k, in a block below B. -/
def IntsK (k : IntKind) (B : Nat) (W : World) (sv : Value) (zs : List Int) : Prop :=
  (∃ A c, sv = .slice A 0 c ∧ zs = []) ∨ ∃ b off cap, sv = .slice (some ⟨b, off, none⟩) zs.length cap ∧ b < B ∧ ∀ j, j < zs.length → W.cell? ⟨b, off + j, none⟩ = some (.int k (zs[j]?.getD 0))
theorem IntsK.ints {B : Nat} {W : World} {sv : Value} {zs : List Int} (h : IntsK .i64 B W sv zs) : Ints B W sv zs := h
theorem IntsK.below {k : IntKind} {B : Nat} {X Y : World} (h : Below B X Y) {sv : Value} {zs : List Int} : IntsK k B X sv zs → IntsK k B Y sv zs
  | .inl e => .inl e
  | .inr ⟨b, off, cap, e, hb, hc⟩ => .inr ⟨b, off, cap, e, hb, fun j hj => (h.cell (p := ⟨b, off + j, none⟩) hb).trans (hc j hj)⟩
theorem ints_of {H : Type} {enc : TypeId × Value → H} {P : Program} {W : World} {r : Reach} {base b0 : Nat} {sp : Nat → Bool} {hd : Bool} {t e : TypeId} {k : IntKind} {v : Value} {d : DataW H} {ps : List MemPlace} (ht : P.underlying t = some (.slice e)) (he : P.underlying e = some (.int k)) (hc : P.cellsOf e = 1)
    (hval : Value.okWide P W r b0 t v) (h : DataW.Trod enc P W base sp hd t v d ps) : ∃ zs, IntsK k W.heap.size W v zs ∧ zs.length ≤ maxLen ∧ ∀ x ∈ zs, (Lit.int k x).wf = true := by
  obtain ⟨a0, len, cap, rfl⟩ := okWide_slice ht hval
  obtain ⟨fuel, hf⟩ := h
  rcases open_ints ht he hc hf with ⟨hcs, -⟩ | ⟨a, len', cap', zs, hcs, -, hl, hm, hz, -, hcell, hwz⟩
  · simp [Value.cells] at hcs
    obtain ⟨rfl, rfl, rfl⟩ := hcs
    exact ⟨[], .inl ⟨_, _, rfl, rfl⟩, Nat.zero_le _, fun x hx => by cases hx⟩
  · simp [Value.cells] at hcs
    obtain ⟨rfl, rfl, rfl⟩ := hcs
    have hlz : len ≤ zs.length := by rw [hz]; split <;> omega
    refine ⟨zs.take len, ?_, by rw [List.length_take]; omega, fun x hx => hwz x (List.mem_of_mem_take hx)⟩
    have hlt : (zs.take len).length = len := by rw [List.length_take]; omega
    by_cases h0 : len = 0
    · subst h0
      exact .inl ⟨_, _, rfl, by simp⟩
    · obtain ⟨b, off, sp'⟩ := a
      have h0' := hcell 0 (by omega)
      have hpl : sp' = none := by simpa [Addr.add] using World.cell?_spot h0'
      subst hpl
      have hadd : ∀ j, (⟨b, off, none⟩ : Addr).add j = ⟨b, off + j, none⟩ := fun j => by
        unfold Addr.add
        split
        · subst_vars; rfl
        · rfl
      have hb := World.block_lt_of_cell? W _ h0'
      rw [hadd] at hb
      refine .inr ⟨b, off, cap, by rw [hlt], hb, fun j hj => ?_⟩
      rw [hlt] at hj
      rw [← hadd j, hcell j (by omega), List.getElem?_take_of_lt hj]
      rfl

/-! ### The greatest variable -/
theorem vl_take (zs : List Int) {k : Nat} (h : k < zs.length) : maxL (vl (zs.take (k + 1))) = max (maxL (vl (zs.take k))) (varI (zs[k]?.getD 0)) ∧ 0 ≤ maxL (vl (zs.take k)) := by
  have h0 : ∀ l : List Int, 0 ≤ maxL l := by
    intro l
    suffices hs : ∀ r : List Int, 0 ≤ maxL r.reverse by have := hs l.reverse; rwa [List.reverse_reverse] at this
    intro r
    induction r with
    | nil => exact Int.le_refl _
    | cons x r ih => rw [List.reverse_cons, maxL_snoc]; omega
  refine ⟨?_, h0 _⟩
  rw [take_one zs h]
  cases hl : litB (zs[k]?.getD 0)
  · rw [vl_no _ hl, varI_no hl]
    have := h0 (vl (zs.take k))
    omega
  · rw [vl_yes _ hl, maxL_snoc]

def GRel (zs : List Int) (n i : Value) : Prop := ∃ k : Nat, k ≤ zs.length ∧ i = .int .i64 k ∧ n = .int .i64 (maxL (vl (zs.take k)))
set_option maxRecDepth 100000 in
set_option maxHeartbeats 1000000 in
theorem ref_greatest (sv : Value) (zs : List Int) (hz : zs.length ≤ 9223372036854775807) (B : Nat) (w : World) (hI : Ints B w sv zs) : Calls Tryd.prog 21 #[sv] w fun e w' => e = .returned (.int .i64 (maxL (vl zs))) ∧ w = w' := by
  rcases hI with ⟨A, c, rfl, rfl⟩ | ⟨b, off, cap, rfl, -, hc⟩
  · go_enter Tryd.func21, Tryd.ntmps21
    go_wp2
    go_loop [3, 4] (fun n i => n = .int .i64 0 ∧ i = .int .i64 0) (fun _ _ => 0)
    case atStart => exact ⟨rfl, rfl⟩
    case round =>
      obtain ⟨rfl, rfl⟩ := hrel
      go_wp2
      go_ret
      exact ⟨rfl, rfl⟩
  · have HC := Lib.hid hc; clear hc
    go_enter Tryd.func21, Tryd.ntmps21
    go_wp2
    go_loop [3, 4] (fun n i => GRel zs n i) (fun _ i => zs.length - (intOf i).toNat)
    case atStart => exact ⟨0, Nat.zero_le _, rfl, rfl⟩
    case round =>
      obtain ⟨k, hk, rfl, rfl⟩ := hrel
      by_cases hlt : k < zs.length
      · have hck := HC.out k hlt
        obtain ⟨h1, h2⟩ := vl_take zs hlt
        obtain ⟨x, hx⟩ : ∃ x, zs[k]?.getD 0 = x := ⟨_, rfl⟩
        rw [hx] at hck h1
        obtain ⟨m, hm⟩ : ∃ m, maxL (vl (zs.take k)) = m := ⟨_, rfl⟩
        rw [hm] at h1 h2 ⊢
        have H1 := Lib.hid h1; clear h1 hx hm
        go_wp2_with (go_at_call 43; refine (ref_var _ _).mono ?_; rintro e w' ⟨rfl, rfl⟩)
        all_goals
          have hnew : GRel zs (.int .i64 (max m (varI x))) (.int .i64 ((k : Int) + 1)) := ⟨k + 1, by omega, by go_num, by rw [H1.out]⟩
          go_round
        case rel => first | (rw [show max m (varI x) = varI x by omega] at hnew; exact hnew) | (rw [show max m (varI x) = m by omega] at hnew; exact hnew)
        case measure => simp [intOf]; omega
        case rel => first | (rw [show max m (varI x) = varI x by omega] at hnew; exact hnew) | (rw [show max m (varI x) = m by omega] at hnew; exact hnew)
        case measure => simp [intOf]; omega
      · obtain rfl : k = zs.length := by omega
        have ht := List.take_length (l := zs)
        go_wp2
        go_ret
        exact ⟨rfl, rfl⟩

/-! ### The variables, by growing order -/
theorem sorted_ext : ∀ {a b : List Int}, a.Pairwise (· < ·) → b.Pairwise (· < ·) → (∀ x, x ∈ a ↔ x ∈ b) → a = b
  | [], [], _, _, _ => rfl
  | [], y :: b, _, _, h => absurd ((h y).2 (by simp)) (by simp)
  | x :: a, [], _, _, h => absurd ((h x).1 (by simp)) (by simp)
  | x :: a, y :: b, ha, hb, h => by
    obtain ⟨ha1, ha2⟩ := List.pairwise_cons.1 ha
    obtain ⟨hb1, hb2⟩ := List.pairwise_cons.1 hb
    have hxy : x = y := by
      have h1 := (h x).1 (by simp)
      have h2 := (h y).2 (by simp)
      rcases List.mem_cons.1 h1 with e | m1
      · exact e
      · rcases List.mem_cons.1 h2 with e | m2
        · exact e.symm
        · have := hb1 x m1
          have := ha1 y m2
          omega
    subst hxy
    rw [sorted_ext ha2 hb2 fun z => ?_]
    constructor
    · intro hz
      rcases List.mem_cons.1 ((h z).1 (List.mem_cons_of_mem _ hz)) with e | m
      · have := ha1 z hz; omega
      · exact m
    · intro hz
      rcases List.mem_cons.1 ((h z).2 (List.mem_cons_of_mem _ hz)) with e | m
      · have := hb1 z hz; omega
      · exact m
theorem ded_nodup (l : List Int) : (ded l).Nodup := by
  suffices hs : ∀ r : List Int, (ded r.reverse).Nodup by have := hs l.reverse; rwa [List.reverse_reverse] at this
  intro r
  induction r with
  | nil => simp [ded]
  | cons x r ih =>
    rw [List.reverse_cons, ded_snoc]
    split
    · exact ih
    · rename_i hx
      exact List.nodup_append.2 ⟨ih, by simp, by
        intro a ha b hb
        have hbx : b = x := by simpa using hb
        rintro rfl
        exact hx (hbx ▸ ha)⟩
theorem varsL_sorted (zs : List Int) : (varsL zs).Pairwise (· < ·) := by
  have hp : (varsL zs).Perm (ded (vl zs)) := List.mergeSort_perm _ _
  have hn : (varsL zs).Nodup := hp.nodup_iff.2 (ded_nodup _)
  have hs : (varsL zs).Pairwise (fun x y => decide (x ≤ y) = true) := List.pairwise_mergeSort (fun a b c => by simp; omega) (fun a b => by simp; omega) _
  have hboth := List.pairwise_and_iff.2 ⟨hs, hn⟩
  refine hboth.imp ?_
  rintro a b ⟨h1, h2⟩
  have := of_decide_eq_true h1
  omega
theorem varsL_mem (zs : List Int) (x : Int) : x ∈ varsL zs ↔ x ∈ vl zs := by
  have hp : (varsL zs).Perm (ded (vl zs)) := List.mergeSort_perm _ _
  rw [hp.mem_iff, ded_mem]

/-- The least variable beyond another one, and 0 if there is none. -/
def bestL (lst : Int) (zs : List Int) : Int := zs.foldl (fun b x => if lst < varI x ∧ (b = 0 ∨ varI x < b) then varI x else b) 0
theorem bestL_snoc (lst : Int) (zs : List Int) (x : Int) : bestL lst (zs ++ [x]) = if lst < varI x ∧ (bestL lst zs = 0 ∨ varI x < bestL lst zs) then varI x else bestL lst zs := by
  unfold bestL; rw [List.foldl_append]; rfl
theorem vl_mem_snoc (zs : List Int) (x v : Int) : v ∈ vl (zs ++ [x]) ↔ v ∈ vl zs ∨ (litB x = true ∧ v = varI x) := by
  cases hl : litB x
  · rw [vl_no _ hl]; simp
  · rw [vl_yes _ hl]; simp
theorem bestL_is (lst : Int) (h0 : 0 ≤ lst) (zs : List Int) : (bestL lst zs = 0 ∧ ∀ v ∈ vl zs, v ≤ lst) ∨ (bestL lst zs ∈ vl zs ∧ lst < bestL lst zs ∧ ∀ v ∈ vl zs, lst < v → bestL lst zs ≤ v) := by
  suffices hs : ∀ r : List Int, (bestL lst r.reverse = 0 ∧ ∀ v ∈ vl r.reverse, v ≤ lst) ∨ (bestL lst r.reverse ∈ vl r.reverse ∧ lst < bestL lst r.reverse ∧ ∀ v ∈ vl r.reverse, lst < v → bestL lst r.reverse ≤ v) by
    have := hs zs.reverse; rwa [List.reverse_reverse] at this
  intro r
  induction r with
  | nil => exact .inl ⟨rfl, (fun v hv => by cases hv)⟩
  | cons x r ih =>
    rw [List.reverse_cons, bestL_snoc]
    obtain ⟨b, hb⟩ : ∃ b, bestL lst r.reverse = b := ⟨_, rfl⟩
    rw [hb] at ih ⊢
    by_cases hc : lst < varI x ∧ (b = 0 ∨ varI x < b)
    · rw [if_pos hc]
      have hl : litB x = true := by
        cases hl : litB x
        · rw [varI_no hl] at hc; omega
        · rfl
      refine .inr ⟨(vl_mem_snoc _ _ _).2 (.inr ⟨hl, rfl⟩), hc.1, fun v hv hlv => ?_⟩
      rcases (vl_mem_snoc _ _ _).1 hv with hv | ⟨-, rfl⟩
      · rcases ih with ⟨_, h2⟩ | ⟨_, _, h2⟩
        · have := h2 v hv; omega
        · have := h2 v hv hlv; omega
      · exact Int.le_refl _
    · rw [if_neg hc]
      rcases ih with ⟨h1, h2⟩ | ⟨h1, h2, h3⟩
      · refine .inl ⟨h1, fun v hv => ?_⟩
        rcases (vl_mem_snoc _ _ _).1 hv with hv | ⟨-, rfl⟩
        · exact h2 v hv
        · omega
      · refine .inr ⟨(vl_mem_snoc _ _ _).2 (.inl h1), h2, fun v hv hlv => ?_⟩
        rcases (vl_mem_snoc _ _ _).1 hv with hv | ⟨-, rfl⟩
        · exact h3 v hv hlv
        · omega
/-- What has been found when all variables up to lst are. -/
def Sofar (zs o : List Int) (lst : Int) : Prop := o.Pairwise (· < ·) ∧ (∀ x ∈ o, x ∈ vl zs ∧ x ≤ lst) ∧ ∀ v ∈ vl zs, v ≤ lst → v ∈ o
theorem vl_pos {zs : List Int} {v : Int} (h : v ∈ vl zs) : 1 ≤ v ∧ v ≤ 1048576 := by
  unfold vl at h
  obtain ⟨x, hx, rfl⟩ := List.mem_map.1 h
  exact varI_yes (List.mem_filter.1 hx).2
theorem Sofar.start (zs : List Int) : Sofar zs [] 0 := ⟨List.Pairwise.nil, (fun x hx => by cases hx), fun v hv h => by have := vl_pos hv; omega⟩
theorem Sofar.next {zs o : List Int} {lst b : Int} (h : Sofar zs o lst) (h1 : b ∈ vl zs) (h2 : lst < b) (h3 : ∀ v ∈ vl zs, lst < v → b ≤ v) : Sofar zs (o ++ [b]) b := by
  obtain ⟨s1, s2, s3⟩ := h
  refine ⟨List.pairwise_append.2 ⟨s1, List.pairwise_singleton _ _, fun x hx y hy => ?_⟩, fun x hx => ?_, fun v hv hle => ?_⟩
  · have := (s2 x hx).2
    have : y = b := by simpa using hy
    omega
  · rcases List.mem_append.1 hx with hx | hx
    · exact ⟨(s2 x hx).1, by have := (s2 x hx).2; omega⟩
    · obtain rfl : x = b := by simpa using hx
      exact ⟨h1, Int.le_refl _⟩
  · by_cases hl : v ≤ lst
    · exact List.mem_append.2 (.inl (s3 v hv hl))
    · have := h3 v hv (by omega)
      exact List.mem_append.2 (.inr (by simp; omega))
theorem Sofar.all {zs o : List Int} {lst : Int} (h : Sofar zs o lst) (h1 : ∀ v ∈ vl zs, v ≤ lst) : o = varsL zs :=
  sorted_ext h.1 (varsL_sorted zs) fun x => ⟨fun hx => (varsL_mem zs x).2 (h.2.1 x hx).1, fun hx => h.2.2 x ((varsL_mem zs x).1 hx) (h1 x ((varsL_mem zs x).1 hx))⟩

def VRel (w : World) (zs : List Int) (out last : Value) (wr : World) : Prop :=
  ∃ (o : List Int) (lst : Int), last = .int .i64 lst ∧ 0 ≤ lst ∧ lst ≤ 1048576 ∧ wr.ownsRow w.heap.size 3 1 out o.length (o.map (Value.int .i64)) ∧ (out = .slice none 0 0 ↔ o = []) ∧ Below w.heap.size w wr ∧ Sofar zs o lst ∧ o.length ≤ lst.toNat
def BRel (lst : Int) (zs : List Int) (best i : Value) : Prop := ∃ k : Nat, k ≤ zs.length ∧ i = .int .i64 k ∧ best = .int .i64 (bestL lst (zs.take k))
theorem bestL_bd (lst : Int) (h0 : 0 ≤ lst) (zs : List Int) : 0 ≤ bestL lst zs ∧ bestL lst zs ≤ 1048576 := by
  rcases bestL_is lst h0 zs with ⟨h, -⟩ | ⟨h, -, -⟩
  · omega
  · have := vl_pos h; omega

theorem step_a {lst v m : Int} (h1 : lst < v) (h2 : m = 0 ∨ v < m) : (if lst < v ∧ (m = 0 ∨ v < m) then v else m) = v := if_pos ⟨h1, h2⟩
set_option maxRecDepth 100000 in
set_option maxHeartbeats 4000000 in
theorem ref_vars (sv : Value) (zs : List Int) (hz : zs.length ≤ 9223372036854775807) (w : World) (hI : Ints w.heap.size w sv zs) : Calls Tryd.prog 20 #[sv] w (OwnInts w (varsL zs)) := by
  obtain ⟨i0, hi, hz0, hz1, hz2⟩ := info_parts infoInt
  rcases hI with ⟨A, c, rfl, rfl⟩ | ⟨b, off, cap, rfl, hb, hc⟩
  · go_enter Tryd.func20, Tryd.ntmps20
    go_wp2
    go_loopw [3, 4] (fun out last wr => out = .slice none 0 0 ∧ last = .int .i64 0 ∧ wr = w) (fun _ _ _ => 0)
    case atStart => exact ⟨rfl, rfl, rfl⟩
    case round =>
      obtain ⟨rfl, rfl, rfl⟩ := hrel
      go_wp2
      go_loop [5, 6] (fun best i => best = .int .i64 0 ∧ i = .int .i64 0) (fun _ _ => 0)
      case atStart => exact ⟨rfl, rfl⟩
      case round =>
        obtain ⟨rfl, rfl⟩ := hrel
        go_wp2
        go_ret
        have he : varsL [] = [] := by simp [varsL, vl, ded]
        exact ⟨_, rfl, by rw [he]; exact World.ownsRow_nil _ _ _ _, by rw [he]; exact ⟨fun _ => rfl, fun _ => rfl⟩, Below.refl _ _⟩
  · have HC := Lib.hid hc; clear hc
    go_enter Tryd.func20, Tryd.ntmps20
    go_wp2
    go_loopw [3, 4] (fun out last wr => VRel w zs out last wr) (fun _ last _ => 1048577 - (intOf last).toNat)
    case atStart => exact ⟨[], 0, rfl, by omega, by omega, World.ownsRow_nil _ _ _ _, ⟨fun _ => rfl, fun _ => rfl⟩, Below.refl _ _, Sofar.start zs, by simp⟩
    case round =>
      obtain ⟨o, lst, rfl, l0, l1, hrow, hnil, hbw, hso, hol⟩ := hrel
      obtain ⟨wo, rfl⟩ : ∃ wo : World, wo = wr := ⟨_, rfl⟩
      have HR := Lib.hid hrow; have HN := Lib.hid hnil; have HS := Lib.hid hso; clear hrow hnil hso
      go_wp2
      go_loop [5, 6] (fun best i => BRel lst zs best i) (fun _ i => zs.length - (intOf i).toNat)
      case atStart => exact ⟨0, Nat.zero_le _, rfl, rfl⟩
      case round =>
        obtain ⟨k, hk, rfl, rfl⟩ := hrel
        by_cases hlt : k < zs.length
        · have hck : wo.cell? ⟨b, off + k, none⟩ = some (.int .i64 (zs[k]?.getD 0)) := (hbw.cell (p := ⟨b, off + k, none⟩) hb).trans (HC.out k hlt)
          have hst := bestL_snoc lst (zs.take k) (zs[k]?.getD 0)
          rw [← take_one zs hlt] at hst
          have hbd := bestL_bd lst l0 (zs.take k)
          obtain ⟨x, hx⟩ : ∃ x, zs[k]?.getD 0 = x := ⟨_, rfl⟩
          obtain ⟨m, hm⟩ : ∃ m, bestL lst (zs.take k) = m := ⟨_, rfl⟩
          rw [hx] at hck
          rw [hx, hm] at hst
          rw [hm] at hbd ⊢
          obtain ⟨v, hv⟩ : ∃ v, varI x = v := ⟨_, rfl⟩
          rw [hv] at hst
          have H1 := Lib.hid hst; have HV := Lib.hid hv; clear hst hx hm hv
          go_wp2_with (go_at_call 43; refine (ref_var _ _).mono ?_; rintro e w' ⟨rfl, rfl⟩; rw [HV.out])
          · have hnew : BRel lst zs (.int .i64 v) (.int .i64 ((k : Int) + 1)) := ⟨k + 1, by omega, by go_num, by rw [H1.out, step_a (by assumption) (.inl (by assumption))]⟩
            go_round
            case rel => exact hnew
            case measure => simp [intOf]; omega
          · have hq : (m == 0) = true ∨ v < m := by assumption
            have hq' : m = 0 ∨ v < m := by rcases hq with h | h; exact .inl (beq_iff_eq.1 h); exact .inr h
            have hnew : BRel lst zs (.int .i64 v) (.int .i64 ((k : Int) + 1)) := ⟨k + 1, by omega, by go_num, by rw [H1.out, step_a (by assumption) hq']⟩
            go_round
            case rel => exact hnew
            case measure => simp [intOf]; omega
          · have hq : (m == 0) = false ∧ m ≤ v := by assumption
            have hq' : ¬ m = 0 := beq_eq_false_iff_ne.1 hq.1
            have hnew : BRel lst zs (.int .i64 m) (.int .i64 ((k : Int) + 1)) := ⟨k + 1, by omega, by go_num, by rw [H1.out, if_neg (by omega)]⟩
            go_round
            case rel => exact hnew
            case measure => simp [intOf]; omega
          · have hq : ¬ lst < v := by first | assumption | omega
            have hnew : BRel lst zs (.int .i64 m) (.int .i64 ((k : Int) + 1)) := ⟨k + 1, by omega, by go_num, by rw [H1.out, if_neg (by omega)]⟩
            go_round
            case rel => exact hnew
            case measure => simp [intOf]; omega
        · obtain rfl : k = zs.length := by omega
          obtain ⟨bb, hbb⟩ : ∃ bb, bestL lst (zs.take zs.length) = bb := ⟨_, rfl⟩
          have hb2 : bestL lst zs = bb := by rw [← hbb, List.take_length]
          rw [hbb]
          have his := bestL_is lst l0 zs
          rw [hb2] at his
          clear hbb hb2
          rcases his with ⟨rfl, hall⟩ | ⟨hm, hlb, hle⟩
          · have hov := HS.out.all hall
            clear hall
            have HO := Lib.hid hov; clear hov
            go_wp2
            go_ret
            exact ⟨_, rfl, by rw [← HO.out]; exact HR.out, by rw [← HO.out]; exact HN.out, hbw⟩
          · have hbd := vl_pos hm
            have hnx := HS.out.next hm hlb hle
            have HX := Lib.hid hnx; clear hnx hm hle
            have hb0 : (bb == 0) = false := beq_eq_false_iff_ne.2 (by omega)
            go_wp2_with (at_builtin; refine wpList_append_own _ rfl _ _ 25 rfl w.heap.size 3 i0 (.int .i64 0) 1 8 Tryd.underlying25 hi hz0 hz1 hz2 rfl (by decide) _ _ _ rfl (HR.out.alloc _) ⟨wo.heap.size, 0, none⟩ 1 1 [.int .i64 bb] rfl rfl (cell_one_new _ _ _) (by simp [Value.oneCell']) (by unfold maxLen; omega) (by omega) (by have := hbw.size; simp; omega) ?_; intro v' w2 hown' hgrow _)
            obtain ⟨g', cap', rfl⟩ := ownsRow_succ hown'
            have hbn : Below w.heap.size w w2 := by
              refine (hbw.alloc hbw.size _).grown hgrow (by have := hbw.size; simp; omega) (fun k e => ?_)
              exact (HR.out.lt k e).1
            have hlen : (o ++ [bb]).length = o.length + 1 := by simp
            have hol' : o.length + 1 ≤ bb.toNat := by omega
            refine ⟨⟨o ++ [bb], bb, rfl, by omega, hbd.2, ?_, ⟨(fun e => by cases e), (fun e => by simp at e)⟩, hbn, HX.out, by rw [hlen]; exact hol'⟩, ?_⟩
            · rw [hlen, List.map_append]
              exact hown'
            · simp [intOf]; omega
end Go.Proofs.YtjipmjimggggbaaDoor
