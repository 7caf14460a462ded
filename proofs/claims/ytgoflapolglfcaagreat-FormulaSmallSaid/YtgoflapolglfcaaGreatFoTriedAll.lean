/- formula.failing, mark, numbered. -/
/- failure's mark. -/
/- formula.numbered. -/
/- The map of the clauses that were met: its keys. -/
/- formula.tried. -/
import Derived.Test.YtgoflapolglfcaaGreatFoFails
import Derived.Laws.BitsLemmas
import Derived.Deep.Onto
import Derived.Laws.MakeOwn
import Derived.OwnWalk
import Derived.Test.YtgoflapolglfcaaGreatPlain
import Derived.Maps.Views
import Derived.Maps.OwnSet
import Derived.DeepKeys4
import Derived.Maps.OwnIn
import Derived.Test.YtgoflapolglfcaaGreatClSorted
namespace Go.Proofs.YtgoflapolglfcaaGreat
open Go.RowKit Go.ChangeAt Go.ChangeShapes Go.WideShapes

theorem wraps_i64 : ∀ n : Int, 0 ≤ n → n < 2 ^ 62 → IntKind.i64.wrap n = n := fun n h k => IntWalk.i64_in _ (by omega)
theorem or_nat {a b : Nat} (ha : a < 2 ^ 62) (hb : b < 2 ^ 62) : bits .or .i64 (a : Int) (b : Int) = ((a ||| b : Nat) : Int) := (bits_nat .i64 62 (by decide) wraps_i64 a b ha hb).2
theorem and_nat {a b : Nat} (ha : a < 2 ^ 62) (hb : b < 2 ^ 62) : bits .and .i64 (a : Int) (b : Int) = ((a &&& b : Nat) : Int) := (bits_nat .i64 62 (by decide) wraps_i64 a b ha hb).1
def FlgRel (n : Nat) (zs : List Int) (w1 : World) (g : Nat) (i : Value) (wr : World) : Prop := ∃ k : Nat, k ≤ zs.length ∧ i = .int .i64 k ∧ Whole wr g 102 #[.int .i64 (lowN n (zs.take k) : Nat), .int .i64 (highN n (zs.take k) : Nat)] ∧ Keeps (fun i => i = g) w1 wr
set_option maxRecDepth 100000 in
set_option maxHeartbeats 2000000 in
theorem failing_any {C : Nat} {cv : Value} {zs : List Int} (n : Nat) (hn : n ≤ 16) (w : World) (hC : C ≤ w.heap.size) (hz : zs.length ≤ 1000000) (hl : ∀ l ∈ zs, litB l = true ∧ l.natAbs ≤ n) (hc : Ints C w cv zs) :
    Calls Tryz.prog 61 #[cv, .int .i64 (n : Nat)] w fun e w' => e = .returned (.agg #[.int .i64 (lowN n zs : Nat), .int .i64 (highN n zs : Nat)]) ∧ Below w.heap.size w w' := by
  obtain ⟨Ac, cc, rfl, hcc⟩ := ints_shape hc
  have h0 : Whole ((w.alloc (.cells #[.int .i64 0, .int .i64 0] 102)).alloc (.cells #[.int .i64 0, .int .i64 0] 102)) (w.heap.size + 1) 102 #[.int .i64 0, .int .i64 0] := by
    have := Whole.made (w.alloc (.cells #[.int .i64 0, .int .i64 0] 102)) 102 #[.int .i64 0, .int .i64 0]
    rwa [World.size_alloc] at this
  have hr0 : Whole ((w.alloc (.cells #[.int .i64 0, .int .i64 0] 102)).alloc (.cells #[.int .i64 0, .int .i64 0] 102)) w.heap.size 102 #[.int .i64 0, .int .i64 0] :=
    (Whole.made w 102 #[.int .i64 0, .int .i64 0]).same ((below1a (w.alloc (.cells #[.int .i64 0, .int .i64 0] 102)) (.cells #[.int .i64 0, .int .i64 0] 102)).block _ (by simp))
  have hb1 : Below w.heap.size w ((w.alloc (.cells #[.int .i64 0, .int .i64 0] 102)).alloc (.cells #[.int .i64 0, .int .i64 0] 102)) := (below1a w _).alloc (by simp) _
  obtain ⟨w1, hw1⟩ : ∃ y, (w.alloc (.cells #[.int .i64 0, .int .i64 0] 102)).alloc (.cells #[.int .i64 0, .int .i64 0] 102) = y := ⟨_, rfl⟩
  rw [hw1] at h0 hr0 hb1
  have HW := Lib.hid hw1; have HCc := Lib.hid hcc; have HLit := Lib.hid hl; have HB := Lib.hid hb1; have H0 := Lib.hid h0; have HR0 := Lib.hid hr0
  clear hw1 hcc hl hc hb1 h0 hr0
  obtain ⟨lo', hlo'⟩ : ∃ m, lowN n zs = m := ⟨_, rfl⟩
  obtain ⟨hi', hhi'⟩ : ∃ m, highN n zs = m := ⟨_, rfl⟩
  rw [hlo', hhi']
  have HLo' := Lib.hid hlo'; have HHi' := Lib.hid hhi'
  clear hlo' hhi'
  go_enter Tryz.func61, Tryz.ntmps61
  go_wp2_with fail
  rw [HW.out]
  go_loopw [11] (fun i wr => FlgRel n zs w1 (w.heap.size + 1) i wr) (fun i _ => zs.length - (intOf i).toNat)
  case atStart => exact ⟨0, Nat.zero_le _, rfl, H0.out, Keeps.refl _ _⟩
  case round =>
    obtain ⟨k, hk, rfl, hx, hkp⟩ := hrel
    by_cases hlt : k < zs.length
    · obtain ⟨bc, oc, rfl, hb, hck⟩ := HCc.out k hlt
      have htk := take_one zs hlt
      have hmem := get_mem hlt
      obtain ⟨y, hy⟩ : ∃ y, zs[k]?.getD 0 = y := ⟨_, rfl⟩
      rw [hy] at hck htk hmem
      obtain ⟨hly, hyn⟩ := HLit.out y hmem
      obtain ⟨y0, y1, y2⟩ := litB_of hly
      have hvy : varI y = (y.natAbs : Int) := by unfold varI; rw [hly]; simp only [if_true]; split <;> omega
      obtain ⟨v, hv⟩ : ∃ v : Int, varI y = v := ⟨_, rfl⟩
      have hva := fun W => var_any y W
      have hna := fun W => negd_any y W
      have hnb : negdB y = decide (y < 0) := by unfold negdB; rw [hly, Bool.and_true]
      rw [hv] at hvy hva
      rw [hnb] at hna
      obtain ⟨q, hq⟩ : ∃ q, n - y.natAbs = q := ⟨_, rfl⟩
      have hqv : (n : Int) - v = (q : Int) := by omega
      have s1 : IntKind.i64.wrap ((n : Int) - v) = (q : Int) := by rw [hqv]; exact IntWalk.i64_in _ (by omega)
      have hq16 : q ≤ 16 := by omega
      obtain ⟨lo, hlo⟩ : ∃ m, lowN n (zs.take k) = m := ⟨_, rfl⟩
      obtain ⟨hi, hhi⟩ : ∃ m, highN n (zs.take k) = m := ⟨_, rfl⟩
      have hsm : ∀ l ∈ zs.take k, 1 ≤ l.natAbs ∧ l.natAbs ≤ n := fun l hl => by
        obtain ⟨h1, h2⟩ := HLit.out l (List.mem_of_mem_take hl)
        have := litB_of h1
        omega
      have h62 : 2 ^ n ≤ 2 ^ 62 := Nat.pow_le_pow_right (by omega) (by omega)
      have hlo62 : lo < 2 ^ 62 := by rw [← hlo]; exact Nat.lt_of_lt_of_le (low_lt hsm) h62
      have hhi62 : hi < 2 ^ 62 := by rw [← hhi]; exact Nat.lt_of_lt_of_le (high_lt hsm) h62
      clear hsm h62
      rw [hlo, hhi] at hx
      have x0 : wr.cell? ⟨w.heap.size + 1, 0, none⟩ = some (.int .i64 lo) := hx.cell 0
      have x1 : wr.cell? ⟨w.heap.size + 1, 1, none⟩ = some (.int .i64 hi) := hx.cell 1
      have hki : (k : Int) < (zs.length : Int) := by omega
      have hck : wr.cell? ⟨bc, oc + k, none⟩ = some (.int .i64 y) := (World.cell?_of_block (hkp.block bc (Nat.lt_of_lt_of_le (Nat.lt_of_lt_of_le hb hC) HB.out.size) (by omega))).trans ((HB.out.cell (p := ⟨bc, oc + k, none⟩) (Nat.lt_of_lt_of_le hb hC)).trans hck)
      have HX := Lib.hid hx; have HKp := Lib.hid hkp; have HTk := Lib.hid htk; have HVa := Lib.hid hva; have HNa := Lib.hid hna; have HLo := Lib.hid hlo; have HHi := Lib.hid hhi; have HNx := Lib.hid hlt
      clear hx hkp htk hva hna hlo hhi hmem hly hyn hy HCc HLit hvy hv hnb hb
      obtain ⟨p, hp⟩ : ∃ p, 2 ^ q = p := ⟨_, rfl⟩
      have hp62 : p < 2 ^ 62 := by rw [← hp]; exact Nat.pow_lt_pow_right (by omega) (by omega)
      have s2 : IntKind.i64.wrap ((2 : Int) ^ q) = (p : Int) := by
        rw [show ((2 : Int) ^ q) = (p : Int) by rw [← hp]; norm_cast]
        exact IntWalk.i64_in _ (by omega)
      have s3 : bits .or .i64 (lo : Int) (p : Int) = ((lo ||| p : Nat) : Int) := or_nat hlo62 hp62
      have s4 : bits .or .i64 (hi : Int) (p : Int) = ((hi ||| p : Nat) : Int) := or_nat hhi62 hp62
      have f0 : wr.frozen? ⟨w.heap.size + 1, 0, none⟩ = false := HX.out.frozen 0
      have f1 : wr.frozen? ⟨w.heap.size + 1, 1, none⟩ = false := HX.out.frozen 1
      have HP := Lib.hid (show bitN n y = p by unfold bitN; rw [hq, hp])
      clear hp hq hp62 hlo62 hhi62
      by_cases hneg : y < 0
      · have hnd : decide (y < 0) = true := decide_eq_true hneg
        rw [hnd] at HNa
        clear hnd
        go_wp2_with (first | (go_at_call 33; refine (HVa.out _).mono ?_; rintro e w' ⟨rfl, rfl⟩) | (go_at_call 34; refine (HNa.out _).mono ?_; rintro e w' ⟨rfl, rfl⟩))
        go_roundw
        case rel => exact ⟨k + 1, HNx.out, by go_num, by
          rw [HTk.out, lowN_snoc, highN_snoc, if_pos hneg, if_pos hneg, HLo.out, HHi.out, HP.out]
          exact HX.out.store 1 _, HKp.out.setCell (p := ⟨w.heap.size + 1, 1, none⟩) (.inl rfl) _⟩
        case measure => simp [intOf]; omega
      · have hnd : decide (y < 0) = false := decide_eq_false hneg
        rw [hnd] at HNa
        clear hnd
        have HNeg := Lib.hid (show ¬ y < 0 from hneg)
        go_wp2_with (first | (go_at_call 33; refine (HVa.out _).mono ?_; rintro e w' ⟨rfl, rfl⟩) | (go_at_call 34; refine (HNa.out _).mono ?_; rintro e w' ⟨rfl, rfl⟩))
        go_roundw
        case rel => exact ⟨k + 1, HNx.out, by go_num, by
          rw [HTk.out, lowN_snoc, highN_snoc, if_neg (by have := HNeg.out; omega), if_neg (by have := HNeg.out; omega), HLo.out, HHi.out, HP.out]
          exact HX.out.store 0 _, HKp.out.setCell (p := ⟨w.heap.size + 1, 0, none⟩) (.inl rfl) _⟩
        case measure => simp [intOf]; omega
    · obtain rfl : k = zs.length := by omega
      rw [List.take_length] at hx
      rw [HLo'.out, HHi'.out] at hx
      have x0 : wr.cell? ⟨w.heap.size + 1, 0, none⟩ = some (.int .i64 lo') := hx.cell 0
      have x1 : wr.cell? ⟨w.heap.size + 1, 1, none⟩ = some (.int .i64 hi') := hx.cell 1
      have hr := HR0.out.same (hkp.block w.heap.size HR0.out.lt (by simp))
      have y0 : wr.cell? ⟨w.heap.size, 0, none⟩ = some (.int .i64 0) := hr.cell 0
      have y1 : wr.cell? ⟨w.heap.size, 1, none⟩ = some (.int .i64 0) := hr.cell 1
      have f0 : wr.frozen? ⟨w.heap.size, 0, none⟩ = false := hr.frozen 0
      have f1 : wr.frozen? ⟨w.heap.size, 1, none⟩ = false := hr.frozen 1
      have HWh := Lib.hid ((hr.store 0 (.int .i64 lo')).store 1 (.int .i64 hi'))
      have HBw := Lib.hid (show Below w.heap.size w wr from HB.out.trans (hkp.below HB.out.size (fun i e => by omega)))
      clear hx hkp HLit HCc hr
      go_wp2_with fail
      refine bodyPost_ret (results_cell_row rfl _ _ w.heap.size 102 _ (0, 0) _ rfl HWh.out Tryz.underlying102 rfl (by kernel_rfl)) rfl ?_
      exact ⟨rfl, (HBw.out.setCell (p := ⟨w.heap.size, 0, none⟩) (Nat.le_refl _) _).setCell (p := ⟨w.heap.size, 1, none⟩) (Nat.le_refl _) _⟩
end Go.Proofs.YtgoflapolglfcaaGreat
namespace Go.Proofs.YtgoflapolglfcaaGreat
open Go.RowKit Go.ChangeAt Go.ChangeShapes Go.WideShapes

theorem andNot_nat {a b : Nat} (ha : a < 2 ^ 62) (hb : b < 2 ^ 62) : ∃ o : Nat, bits .andNot .i64 (a : Int) (b : Int) = (o : Int) ∧ o ≤ a ∧ ∀ k, o.testBit k = (a.testBit k && !b.testBit k) := by
  refine ⟨(BitVec.ofNat 64 a &&& ~~~BitVec.ofNat 64 b).toNat, ?_, ?_, fun k => ?_⟩
  · show IntKind.i64.wrap ((BitVec.ofInt 64 (a : Int) &&& ~~~BitVec.ofInt 64 (b : Int)).toNat : Int) = _
    rw [BitVec.ofInt_natCast, BitVec.ofInt_natCast]
    have h1 : (BitVec.ofNat 64 a &&& ~~~BitVec.ofNat 64 b).toNat ≤ a := by
      rw [BitVec.toNat_and]
      refine Nat.le_trans Nat.and_le_left ?_
      rw [BitVec.toNat_ofNat]
      exact Nat.mod_le _ _
    exact IntWalk.i64_in _ (by omega)
  · rw [BitVec.toNat_and]
    refine Nat.le_trans Nat.and_le_left ?_
    rw [BitVec.toNat_ofNat]
    exact Nat.mod_le _ _
  · rw [BitVec.testBit_toNat, BitVec.getLsbD_and, BitVec.getLsbD_not, ← BitVec.testBit_toNat, ← BitVec.testBit_toNat, BitVec.toNat_ofNat, BitVec.toNat_ofNat, Nat.mod_eq_of_lt (by omega), Nat.mod_eq_of_lt (by omega)]
    rcases Nat.lt_or_ge k 64 with hk | hk
    · simp [hk]
    · rw [Nat.testBit_lt_two_pow (Nat.lt_of_lt_of_le (show a < 2 ^ 64 by omega) (Nat.pow_le_pow_right (by omega) hk))]
      simp
/-- Which numbers are marked, when the part i is still to come. -/
def Marked (M : Nat) (F G : Nat → Bool) (o hi : Nat) (i : Int) : Prop := ∀ N, N < M → (G N = true ↔ F N = true ∨ ∃ s, s &&& o = s ∧ i < (s : Int) ∧ N = s ||| hi)
def MrkRel (M : Nat) (F : Nat → Bool) (B : Nat) (fv : Value) (o hi : Nat) (w1 : World) (i : Value) (wr : World) : Prop := ∃ (x : Int) (G : Nat → Bool), i = .int .i64 x ∧ -1 ≤ x ∧ x ≤ o ∧ (∀ s, s &&& o = s → (s : Int) ≤ x → s ≤ x.toNat &&& o) ∧ Marked M F G o hi x ∧ wr.ownsRow B 4 1 fv M ((List.range M).map fun N => Value.bool (G N)) ∧ Keeps (fun i => fv.ownBlock = some i) w1 wr
theorem marked_start {M : Nat} {F : Nat → Bool} {o hi : Nat} : Marked M F F o hi (o : Int) := fun N _ => ⟨.inl, fun h => by
  rcases h with h | ⟨s, h1, h2, -⟩
  · exact h
  · have : s ≤ o := by rw [← h1]; exact Nat.and_le_right
    omega⟩
/-- One part more. -/
theorem marked_step {M : Nat} {F G : Nat → Bool} {o hi t : Nat} {x : Int} (h : Marked M F G o hi x) (hx : 0 ≤ x) (ht : x.toNat &&& o = t) (hs : ∀ s, s &&& o = s → (s : Int) ≤ x → s ≤ x.toNat &&& o) : Marked M F (fun N => if N = t ||| hi then true else G N) o hi ((t : Int) - 1) := fun N hN => by
  have hto : t &&& o = t := by rw [← ht, Nat.and_assoc, Nat.and_self]
  have htx : (t : Int) ≤ x := by
    have : t ≤ x.toNat := by rw [← ht]; exact Nat.and_le_left
    omega
  by_cases e : N = t ||| hi
  · simp only [e, if_true, true_iff]
    exact .inr ⟨t, hto, by omega, rfl⟩
  · simp only [e, if_false]
    rw [h N hN]
    constructor
    · rintro (a | ⟨s, a, b, c⟩)
      · exact .inl a
      · exact .inr ⟨s, a, by omega, c⟩
    · rintro (a | ⟨s, a, b, c⟩)
      · exact .inl a
      · refine .inr ⟨s, a, ?_, c⟩
        rcases Int.lt_or_le x (s : Int) with k | k
        · exact k
        · have := hs s a k
          rw [ht] at this
          have : s = t := by omega
          subst this
          exact absurd c e
theorem marked_next {o t : Nat} {x : Int} (ht : x.toNat &&& o = t) : ∀ s, s &&& o = s → (s : Int) ≤ (t : Int) - 1 → s ≤ ((t : Int) - 1).toNat &&& o := fun s hs hle => by
  have hto : t &&& o = t := by rw [← ht, Nat.and_assoc, Nat.and_self]
  have := part_le o t s hto hs (by omega)
  rwa [show ((t : Int) - 1).toNat = t - 1 by omega]
theorem marked_end {n : Nat} {zs : List Int} {F G : Nat → Bool} {o : Nat} {x : Int} (hx : x < 0) (hl : ∀ l ∈ zs, 1 ≤ l.natAbs ∧ l.natAbs ≤ n) (ho : ∀ k, o.testBit k = (decide (k < n) && !((lowN n zs).testBit k || (highN n zs).testBit k))) (hd : lowN n zs &&& highN n zs = 0) (h : Marked (2 ^ n) F G o (highN n zs) x) :
    ∀ N, N < 2 ^ n → G N = (F N || !holdsM (bitM n N) zs) := fun N hN => by
  have hp := fails_part (N := N) hl ho hd
  rw [Bool.eq_iff_iff, h N hN, Bool.or_eq_true]
  constructor
  · rintro (a | ⟨s, a, -, c⟩)
    · exact .inl a
    · exact .inr (by rw [(hp.2 ⟨s, a, c⟩).2]; rfl)
  · rintro (a | a)
    · exact .inl a
    · obtain ⟨s, b, c⟩ := hp.1 ⟨hN, by simpa using a⟩
      exact .inr ⟨s, b, by omega, c⟩
theorem range_set {M : Nat} {G : Nat → Bool} {t : Nat} : ((List.range M).map fun N => Value.bool (G N)).set t (.bool true) = (List.range M).map fun N => Value.bool (if N = t then true else G N) := by
  apply List.ext_getElem?
  intro i
  rw [List.getElem?_set]
  by_cases hi : i < M
  · by_cases e : t = i
    · subst e
      simp [hi]
    · rw [if_neg e]
      simp [hi, Ne.symm e]
  · have : M ≤ i := by omega
    by_cases e : t = i
    · subst e
      simp [hi]
    · rw [if_neg e]
      simp [hi]
set_option maxRecDepth 100000 in
set_option maxHeartbeats 2000000 in
theorem mark_any {B : Nat} {fv : Value} {zs : List Int} (n : Nat) (hn : n ≤ 16) (F : Nat → Bool) (w : World) (hl : ∀ l ∈ zs, 1 ≤ l.natAbs ∧ l.natAbs ≤ n) (hr : w.ownsRow B 4 1 fv (2 ^ n) ((List.range (2 ^ n)).map fun N => Value.bool (F N))) :
    Calls Tryz.prog 62 #[.agg #[.int .i64 (lowN n zs : Nat), .int .i64 (highN n zs : Nat)], fv] w fun e w' => e = .returned (.tuple #[]) ∧ w'.ownsRow B 4 1 fv (2 ^ n) ((List.range (2 ^ n)).map fun N => Value.bool (F N || !holdsM (bitM n N) zs)) ∧ Keeps (fun i => fv.ownBlock = some i) w w' := by
  have hpos := Nat.two_pow_pos n
  have h16 : 2 ^ n ≤ 65536 := Nat.le_trans (Nat.pow_le_pow_right (by omega) hn) (by decide)
  obtain ⟨g, cap, rfl⟩ : ∃ g cap, fv = .slice (some ⟨g, 0, none⟩) (2 ^ n) cap := by
    rcases hr.2 with ⟨-, h0⟩ | ⟨g, cap, cur, h, -⟩
    · omega
    · exact ⟨g, cap, h⟩
  have hlow := low_lt hl
  have hhigh := high_lt hl
  have hfin : ∀ (G : Nat → Bool), (∀ N, N < 2 ^ n → G N = (F N || !holdsM (bitM n N) zs)) → ((List.range (2 ^ n)).map fun N => Value.bool (G N)) = (List.range (2 ^ n)).map fun N => Value.bool (F N || !holdsM (bitM n N) zs) := fun G hG => List.map_congr_left fun N hN => by rw [hG N (List.mem_range.1 hN)]
  have h62 : 2 ^ n ≤ 2 ^ 62 := Nat.pow_le_pow_right (by omega) (by omega)
  obtain ⟨M, hM⟩ : ∃ M, 2 ^ n = M := ⟨_, rfl⟩
  obtain ⟨lo, hlo⟩ : ∃ m, lowN n zs = m := ⟨_, rfl⟩
  obtain ⟨hi, hhi⟩ : ∃ m, highN n zs = m := ⟨_, rfl⟩
  have m1 := Whole.made w 102 #[.int .i64 (lo : Nat), .int .i64 (hi : Nat)]
  have k1 : Keeps (fun i => (Value.slice (some ⟨g, 0, none⟩) (2 ^ n) cap).ownBlock = some i) w (w.alloc (.cells #[.int .i64 (lo : Nat), .int .i64 (hi : Nat)] 102)) := Keeps.of_below (below1a w _)
  have hr1 := hr.alloc (.cells #[.int .i64 (lo : Nat), .int .i64 (hi : Nat)] 102)
  have hsl : w.heap.size ≠ g := fun e => by have := (hr.lt g rfl).2; omega
  obtain ⟨w1, hw1⟩ : ∃ y, w.alloc (.cells #[.int .i64 (lo : Nat), .int .i64 (hi : Nat)] 102) = y := ⟨_, rfl⟩
  rw [hw1] at m1 k1 hr1
  have x0 : w1.cell? ⟨w.heap.size, 0, none⟩ = some (.int .i64 lo) := m1.cell 0
  have x1 : w1.cell? ⟨w.heap.size, 1, none⟩ = some (.int .i64 hi) := m1.cell 1
  have hlo62 : lo < 2 ^ 62 := by omega
  have hhi62 : hi < 2 ^ 62 := by omega
  have a1 : bits .and .i64 (lo : Int) (hi : Int) = ((lo &&& hi : Nat) : Int) := and_nat hlo62 hhi62
  have a2 : bits .or .i64 (lo : Int) (hi : Int) = ((lo ||| hi : Nat) : Int) := or_nat hlo62 hhi62
  have hor : lo ||| hi < 2 ^ n := Nat.or_lt_two_pow (by omega) (by omega)
  by_cases hd : lowN n zs &&& highN n zs = 0
  · obtain ⟨o, ho1, ho2, ho3⟩ := andNot_nat (a := 2 ^ n - 1) (b := lo ||| hi) (by omega) (by omega)
    have ho : ∀ k, o.testBit k = (decide (k < n) && !((lowN n zs).testBit k || (highN n zs).testBit k)) := fun k => by
      rw [ho3 k, Nat.testBit_two_pow_sub_one, ← hlo, ← hhi, Nat.testBit_or]
    have HFin := Lib.hid fun (x : Int) (G : Nat → Bool) (hx : x < 0) (h : Marked (2 ^ n) F G o (highN n zs) x) => hfin G (marked_end hx hl ho hd h)
    rw [hhi, hM] at HFin
    rw [hlo, hhi] at hd
    rw [hd] at a1
    obtain ⟨q, hq⟩ : ∃ q, lo ||| hi = q := ⟨_, rfl⟩
    rw [hq] at a2 ho1
    have a3 : bits .andNot .i64 ((M : Int) - 1) (q : Int) = (o : Int) := by rw [← hM, ← ho1]; congr 1; omega
    have a4 : IntKind.i64.wrap ((M : Int) - 1) = (M : Int) - 1 := IntWalk.i64_in _ (by omega)
    have HW := Lib.hid hw1; have HM1 := Lib.hid m1; have HK1 := Lib.hid k1; have HR1 := Lib.hid hr1; have HE := Lib.hid hM
    rw [hM] at HK1 HR1 ⊢
    rw [hM] at hpos h16 ho2 hhigh
    obtain ⟨R, hR⟩ : ∃ R, ((List.range M).map fun N => Value.bool (F N || !holdsM (bitM n N) zs)) = R := ⟨_, rfl⟩
    rw [hR] at HFin
    rw [hR, hlo, hhi]
    rw [hhi] at hhigh
    clear hw1 m1 k1 hr1 hr hlow hfin ho1 ho3 ho hd hq hl hor hM hlo hhi hR h62 hlo62
    go_enter Tryz.func62, Tryz.ntmps62
    go_wp2_with fail
    rw [HW.out]
    go_wp2_with fail
    go_loopw [5] (fun i wr => MrkRel M F B (.slice (some ⟨g, 0, none⟩) M cap) o hi w1 i wr) (fun i _ => (intOf i + 1).toNat)
    case atStart => exact ⟨(o : Int), F, rfl, by omega, Int.le_refl _, (fun s h1 h2 => by rw [Int.toNat_natCast, Nat.and_self]; omega), marked_start, HR1.out, Keeps.refl _ _⟩
    case round =>
      obtain ⟨x, G, rfl, hx1, hxo, hs, hmk, hrow, hkp⟩ := hrel
      have hb0 : wr.heap[w.heap.size]? = w1.heap[w.heap.size]? := hkp.block w.heap.size HM1.out.lt (fun e => hsl (by simpa [Value.ownBlock] using e.symm))
      have x0 : wr.cell? ⟨w.heap.size, 0, none⟩ = some (.int .i64 lo) := (HM1.out.same hb0).cell 0
      have x1 : wr.cell? ⟨w.heap.size, 1, none⟩ = some (.int .i64 hi) := (HM1.out.same hb0).cell 1
      have HMk := Lib.hid hmk; have HS := Lib.hid hs; have HKp := Lib.hid hkp; have HRow := Lib.hid hrow
      clear hmk hs hkp hrow hb0
      by_cases hx : x < 0
      · have HX := Lib.hid (HFin.out x G hx HMk.out)
        go_wp2_with fail
        go_end0
        exact ⟨rfl, by rw [← HX.out]; exact HRow.out, HK1.out.trans HKp.out (fun _ _ h => h)⟩
      · obtain ⟨t, ht⟩ : ∃ t, x.toNat &&& o = t := ⟨_, rfl⟩
        have hto : t ≤ o := by rw [← ht]; exact Nat.and_le_right
        have htx : t ≤ x.toNat := by rw [← ht]; exact Nat.and_le_left
        have b1 : bits .and .i64 x (o : Int) = (t : Int) := by
          rw [show x = ((x.toNat : Nat) : Int) by omega, and_nat (by omega) (by omega), ht]
        have htm : t ||| hi < M := by rw [← HE.out]; exact Nat.or_lt_two_pow (by rw [HE.out]; omega) (by rw [HE.out]; omega)
        have b2 : bits .or .i64 (t : Int) (hi : Int) = ((t ||| hi : Nat) : Int) := or_nat (by omega) hhi62
        obtain ⟨u, hu⟩ : ∃ u, t ||| hi = u := ⟨_, rfl⟩
        have hst := marked_step HMk.out (by omega) ht HS.out
        have hnx := marked_next ht
        rw [hu] at b2 htm
        have c1 : wr.cell? ⟨g, u, none⟩ = some (.bool (G u)) := by
          rw [HRow.out.cellAt u (by omega), List.getElem?_map, List.getElem?_range htm]
          rfl
        have f1 : wr.frozen? ⟨g, u, none⟩ = false := HRow.out.frozenAt u
        have hw2 := HRow.out.stored u (.bool true)
        rw [range_set] at hw2
        have b3 : IntKind.i64.wrap ((t : Int) - 1) = (t : Int) - 1 := IntWalk.i64_in _ (by omega)
        have hum : (u : Int) < (M : Int) := by omega
        have HW2 := Lib.hid hw2; have HSt := Lib.hid hst; have HNx := Lib.hid hnx; have HU := Lib.hid hu
        have HLt := Lib.hid (show (t : Int) - 1 < x by omega); have HTo := Lib.hid hto
        clear hw2 hst hnx hu ht htm hto htx
        go_wp2_with fail
        go_roundw
        case rel => exact ⟨(t : Int) - 1, _, by go_num, by omega, by have := HTo.out; omega, HNx.out, by have := HSt.out; rwa [HU.out] at this, HW2.out.1, HKp.out.setCell (p := ⟨g, u, none⟩) (.inl rfl) _⟩
        case measure => have := HLt.out; simp [intOf]; omega
  · have hG := hfin F fun N _ => by rw [fails_none hl hd]; simp
    rw [← hG]
    rw [hlo, hhi] at hd ⊢
    obtain ⟨q, hq⟩ : ∃ q, lo &&& hi = q := ⟨_, rfl⟩
    rw [hq] at a1 hd
    have hqe : ((q : Int) == 0) = false := by rw [beq_eq_false_iff_ne]; omega
    have HW := Lib.hid hw1; have HK1 := Lib.hid k1; have HR1 := Lib.hid hr1
    clear hw1 m1 k1 hr1 hr hlow hhigh hfin hG hd hq hl hor hM hlo hhi h62 hlo62 hhi62 a2
    go_enter Tryz.func62, Tryz.ntmps62
    go_wp2_with fail
    rw [HW.out]
    go_wp2_with fail
    refine bodyPost_ret (results_none rfl _ _ _) rfl ?_
    exact ⟨rfl, HR1.out, HK1.out⟩
end Go.Proofs.YtgoflapolglfcaaGreat
namespace Go.Proofs.YtgoflapolglfcaaGreat
open Go.RowKit Go.ChangeAt Go.ChangeShapes Go.WideShapes

theorem infoBool : (Tryz.prog.info? 4).map (fun i => (i.zero, i.size, i.bytes)) = some (some (.bool false), 1, 1) := by kernel_rfl
theorem made_bools (n : Nat) : (madeCells (Value.bool false).cells (n * 1)).toList = List.replicate n (Value.bool false) := by
  apply List.ext_getElem?
  intro i
  by_cases h : i < n
  · simp [madeCells, Value.cells, h, Nat.mod_one]
  · simp [madeCells, Value.cells, h]
theorem range_put {M : Nat} {G : Nat → Bool} {t : Nat} {b : Bool} : ((List.range M).map fun N => Value.bool (G N)).set t (.bool b) = (List.range M).map fun N => Value.bool (if N = t then b else G N) := by
  apply List.ext_getElem?
  intro i
  rw [List.getElem?_set]
  by_cases hi : i < M
  · by_cases e : t = i
    · subst e
      simp [hi]
    · rw [if_neg e]
      simp [hi, Ne.symm e]
  · have : M ≤ i := by omega
    by_cases e : t = i
    · subst e
      simp [hi]
    · rw [if_neg e]
      simp [hi]
def NumRel (n N : Nat) (w : World) (i : Value) (wr : World) : Prop := ∃ k : Nat, k ≤ n ∧ i = .int .i64 k ∧ wr.ownsRow w.heap.size 4 1 (.slice (some ⟨w.heap.size, 0, none⟩) n n) n ((List.range n).map fun j => Value.bool (decide (j < k) && N.testBit (n - 1 - j))) ∧ Below w.heap.size w wr
set_option maxRecDepth 100000 in
set_option maxHeartbeats 1000000 in
theorem numbered_any (n N : Nat) (hn : n ≤ 16) (hN : N < 2 ^ n) (w : World) :
    Calls Tryz.prog 52 #[.int .i64 (N : Nat), .int .i64 (n : Nat)] w fun e w' => ∃ v, e = .returned v ∧ w'.ownsRow w.heap.size 4 1 v n ((bitM n N).map Value.bool) ∧ Below w.heap.size w w' := by
  obtain ⟨i0, hi, hz0, hz1, hz2⟩ := info_parts infoBool
  go_enter Tryz.func52, Tryz.ntmps52
  go_wp2_with (at_make; refine wpList_make_full _ rfl _ _ 29 rfl w.heap.size 4 i0 (.bool false) 1 Tryz.underlying29 hi hz0 hz1 .i64 .i64 _ _ n rfl rfl rfl rfl (by rw [hz2]; omega) (by unfold maxLen; omega) (Nat.le_refl _) ?_; intro w1 hown1 hg1)
  rw [made_bools] at hown1
  have hb1 : Below w.heap.size w w1 := (Below.refl _ _).grown hg1 (Nat.le_refl _) (fun k e => by cases e)
  have hown1 : w1.ownsRow w.heap.size 4 1 (.slice (some ⟨w.heap.size, 0, none⟩) n n) n ((List.range n).map fun j => Value.bool (decide (j < 0) && N.testBit (n - 1 - j))) := by
    rw [show ((List.range n).map fun j => Value.bool (decide (j < 0) && N.testBit (n - 1 - j))) = List.replicate n (.bool false) from ?_]
    · exact hown1
    · rw [List.eq_replicate_iff]
      exact ⟨by simp, fun b hb => by obtain ⟨j, -, rfl⟩ := List.mem_map.1 hb; rfl⟩
  have HO := Lib.hid hown1; have HB1 := Lib.hid hb1
  clear hown1 hb1 hg1
  have hN62 : N < 2 ^ 62 := Nat.lt_of_lt_of_le hN (Nat.pow_le_pow_right (by omega) (by omega))
  have hn1 : IntKind.i64.wrap ((n : Int) - 1) = (n : Int) - 1 := IntWalk.i64_in _ (by omega)
  go_loopw [11] (fun i wr => NumRel n N w i wr) (fun i _ => n - (intOf i).toNat)
  case atStart => exact ⟨0, Nat.zero_le _, rfl, HO.out, HB1.out⟩
  case round =>
    obtain ⟨k, hk, rfl, hrow, hbw⟩ := hrel
    by_cases hlt : k < n
    · obtain ⟨q, hq⟩ : ∃ q, n - 1 - k = q := ⟨_, rfl⟩
      have s1 : IntKind.i64.wrap ((n : Int) - 1 - (k : Int)) = (q : Int) := by rw [show (n : Int) - 1 - (k : Int) = (q : Int) by omega]; exact IntWalk.i64_in _ (by omega)
      obtain ⟨r, hr⟩ : ∃ r, N / 2 ^ q = r := ⟨_, rfl⟩
      have s0 : min q 64 = q := Nat.min_eq_left (by omega)
      have s2 : (N : Int) / 2 ^ q = (r : Int) := by rw [← hr]; norm_cast
      have hr62 : r < 2 ^ 62 := by rw [← hr]; exact Nat.lt_of_le_of_lt (Nat.div_le_self _ _) hN62
      obtain ⟨u, hu⟩ : ∃ u, r &&& 1 = u := ⟨_, rfl⟩
      have s3 : bits .and .i64 (r : Int) 1 = (u : Int) := by rw [← hu]; exact and_nat (b := 1) hr62 (by decide)
      have s4 : ((u : Int) == 1) = N.testBit q := by
        rw [Nat.testBit_eq_decide_div_mod_eq, hr, ← Nat.and_one_is_mod, hu, Bool.eq_iff_iff, beq_iff_eq, decide_eq_true_eq]
        omega
      obtain ⟨b, hb⟩ : ∃ b, N.testBit q = b := ⟨_, rfl⟩
      rw [hb] at s4
      have c1 : wr.cell? ⟨w.heap.size, k, none⟩ = some (.bool (decide (k < k) && N.testBit (n - 1 - k))) := by
        rw [hrow.cellAt k (by omega), List.getElem?_map, List.getElem?_range hlt]
        rfl
      have f1 : wr.frozen? ⟨w.heap.size, k, none⟩ = false := hrow.frozenAt k
      have hw2 := (hrow.stored k (.bool b)).1
      rw [range_put] at hw2
      have hw3 : ((List.range n).map fun j => Value.bool (if j = k then b else (decide (j < k) && N.testBit (n - 1 - j)))) = (List.range n).map fun j => Value.bool (decide (j < k + 1) && N.testBit (n - 1 - j)) := List.map_congr_left fun j hj => by
        by_cases e : j = k
        · subst e; rw [if_pos rfl, hq, hb]; simp
        · rw [if_neg e]
          have : decide (j < k) = decide (j < k + 1) := by rw [decide_eq_decide]; omega
          rw [this]
      rw [hw3] at hw2
      have hkn : (k : Int) < (n : Int) := by omega
      have HW2 := Lib.hid hw2; have HBw := Lib.hid hbw; have HNx := Lib.hid hlt
      clear hw2 hw3 hbw hq hr hu hb hrow hr62
      go_wp2_with fail
      go_roundw
      case rel => exact ⟨k + 1, HNx.out, by go_num, HW2.out, HBw.out.setCell (p := ⟨w.heap.size, k, none⟩) (Nat.le_refl _) _⟩
      case measure => simp [intOf]; omega
    · obtain rfl : k = n := by omega
      have e : ((List.range k).map fun j => Value.bool (decide (j < k) && N.testBit (k - 1 - j))) = (bitM k N).map Value.bool := by
        unfold bitM
        rw [List.map_map]
        refine List.map_congr_left fun j hj => ?_
        rw [decide_eq_true (List.mem_range.1 hj)]
        rfl
      rw [e] at hrow
      have HR := Lib.hid hrow; have HBw := Lib.hid hbw
      clear hrow hbw e
      go_wp2_with fail
      go_ret
      exact ⟨_, rfl, HR.out, HBw.out⟩
end Go.Proofs.YtgoflapolglfcaaGreat
namespace Go.Proofs.YtgoflapolglfcaaGreat
open Go.RowKit Go.ChangeAt Go.ChangeShapes Go.WideShapes
open Go.Maps (Keyed)

/-- A key: two numbers. -/
abbrev kv (x : Nat × Nat) : Value := .agg #[.int .i64 (x.1 : Nat), .int .i64 (x.2 : Nat)]
def KOk2 (x : Nat × Nat) : Prop := x.1 < 2 ^ 62 ∧ x.2 < 2 ^ 62
theorem fkeyed : Keyed Tryz.prog 102 := Keyed.of_law (deep_law_laid laidOut (m := 3) (by omega) (of_decide_eq_true (by kernel_rfl)) (by kernel_rfl) (by kernel_rfl))
theorem key_pair {P : Program} {k t : TypeId} {f1 f2 : Field} {d : Nat} {a b : Int} (hu : P.underlying k = some (.struct #[f1, f2])) (hk : P.keyType k = true) (hc : P.cellsOf k = 2) (hd : P.types.size = d + 1) (t1 : f1.type = t) (t2 : f2.type = t) (o1 : f1.offset = 0) (o2 : f2.offset = 1) (n1 : (f1.name != "_") = true) (n2 : (f2.name != "_") = true)
    (hti : P.underlying t = some (.int .i64)) (hct : P.cellsOf t = 1) (w1 : (Lit.int .i64 a).wf = true) (w2 : (Lit.int .i64 b).wf = true) : keyOf P k (.agg #[.int .i64 a, .int .i64 b]) = some (.string (keyBytes [.int .i64 a, .int .i64 b])) := by
  have h1 : P.keyLits (d + 1) t [.int .i64 a] = some [.int .i64 a] := by simp [Program.keyLits, hti, w1]
  have h2 : P.keyLits (d + 1) t [.int .i64 b] = some [.int .i64 b] := by simp [Program.keyLits, hti, w2]
  have hf : Value.formed P k (.agg #[.int .i64 a, .int .i64 b]) = true := by simp [Value.formed, hu, hc]
  have hl : P.keyLits (d + 1 + 1) k [.int .i64 a, .int .i64 b] = some [.int .i64 a, .int .i64 b] := by
    unfold Program.keyLits
    have hall : (#[f1, f2] : Array Field).all (·.name != "_") = true := by simp [bne_iff_ne] at n1 n2 ⊢; exact ⟨n1, n2⟩
    simp only [hu, List.length_cons, List.length_nil, hc, hall, and_self, if_true]
    simp [List.mapM_cons, List.mapM_nil, t1, t2, o1, o2, hct, h1, h2]
  unfold keyOf
  simp only [hu, hk, hf, Bool.and_self, if_true, hd, Value.cells]
  rw [hl]
  rfl
def kl (x : Nat × Nat) : Lit := .string (keyBytes [.int .i64 (x.1 : Nat), .int .i64 (x.2 : Nat)])
theorem key_of {x : Nat × Nat} (h : KOk2 x) : keyOf Tryz.prog 102 (kv x) = some (kl x) := by
  have hs : 0 < Tryz.prog.types.size := of_decide_eq_true (by kernel_rfl)
  obtain ⟨d, hd⟩ : ∃ d, Tryz.prog.types.size = d + 1 := ⟨Tryz.prog.types.size - 1, by omega⟩
  exact key_pair (t := 3) Tryz.underlying102 (by kernel_rfl) (by kernel_rfl) hd rfl rfl rfl rfl rfl rfl Tryz.underlying3 (by kernel_rfl) (WalkArith.wf_i64 (by have := h.1; omega)) (WalkArith.wf_i64 (by have := h.2; omega))
theorem kl_inj {x y : Nat × Nat} (hx : KOk2 x) (hy : KOk2 y) (h : kl x = kl y) : x = y := by
  have h1 := key_of hx
  rw [h] at h1
  have := fkeyed.inj h1 (key_of hy)
  simp at this
  exact Prod.ext (by omega) (by omega)
/-- The keys that were met, as a map to true. -/
def metF (l : List (Nat × Nat)) : DataW Nat := l.foldl (fun D x => D.put (kl x) (.lit (.bool true))) (.map [])
theorem metF_snoc (l : List (Nat × Nat)) (x : Nat × Nat) : metF (l ++ [x]) = (metF l).put (kl x) (.lit (.bool true)) := by simp [metF]
theorem metF_at (l : List (Nat × Nat)) (hl : ∀ y ∈ l, KOk2 y) {x : Nat × Nat} (hx : KOk2 x) : Maps.IsMap (metF l) ∧ (metF l).atKey (kl x) (.lit (.bool false)) = .lit (.bool (decide (x ∈ l))) := by
  suffices h : ∀ r : List (Nat × Nat), (∀ y ∈ r, KOk2 y) → Maps.IsMap (metF r.reverse) ∧ (metF r.reverse).atKey (kl x) (.lit (.bool false)) = .lit (.bool (decide (x ∈ r))) by
    have := h l.reverse (fun y hy => hl y (List.mem_reverse.1 hy))
    rw [List.reverse_reverse] at this
    simpa using this
  intro r
  induction r with
  | nil => intro _; exact ⟨⟨[], rfl⟩, rfl⟩
  | cons y r ih =>
    intro hr
    have ih := ih fun z hz => hr z (by simp [hz])
    rw [List.reverse_cons, metF_snoc]
    refine ⟨ih.1.put _ _, ?_⟩
    by_cases e : x = y
    · subst e
      rw [Maps.atKey_put_same ih.1 (by trivial)]
      simp
    · rw [Maps.atKey_put_other (by intro h; exact e (kl_inj hx (hr y (by simp)) h)), ih.2]
      simp [e]
/-- What is known of a clause by its key. -/
theorem holds_key {n N : Nat} {zs ys : List Int} (h : ∀ l ∈ zs, 1 ≤ l.natAbs ∧ l.natAbs ≤ n) (h' : ∀ l ∈ ys, 1 ≤ l.natAbs ∧ l.natAbs ≤ n) (e : (lowN n zs, highN n zs) = (lowN n ys, highN n ys)) : holdsM (bitM n N) zs = holdsM (bitM n N) ys := by
  simp only [Prod.mk.injEq] at e
  have h1 := fails_bits (N := N) h
  have h2 := fails_bits (N := N) h'
  rw [e.1, e.2] at h1
  have := h1.trans h2.symm
  cases a : holdsM (bitM n N) zs <;> cases b : holdsM (bitM n N) ys <;> simp [a, b] at this ⊢
end Go.Proofs.YtgoflapolglfcaaGreat
namespace Go.Proofs.YtgoflapolglfcaaGreat
open Go.RowKit Go.ChangeAt Go.ChangeShapes Go.WideShapes
open Go.Maps (Keyed)

/-- In which models some of the clauses fails. -/
def failN (n : Nat) (L : List (List Int)) (N : Nat) : Bool := L.any fun zs => !holdsM (bitM n N) zs
theorem failN_holds (n : Nat) (L : List (List Int)) (N : Nat) : failN n L N = !holdsN n L N := by
  unfold failN holdsN
  rw [List.not_all_eq_any_not]
theorem failN_snoc (n : Nat) (L : List (List Int)) (zs : List Int) (N : Nat) : failN n (L ++ [zs]) N = (failN n L N || !holdsM (bitM n N) zs) := by simp [failN]
/-- What tells a clause. -/
def keyN (n : Nat) (zs : List Int) : Nat × Nat := (lowN n zs, highN n zs)
theorem keyN_ok {n : Nat} {zs : List Int} (hn : n ≤ 16) (h : ∀ l ∈ zs, 1 ≤ l.natAbs ∧ l.natAbs ≤ n) : KOk2 (keyN n zs) := by
  have h1 := low_lt h
  have h2 := high_lt h
  have h62 : 2 ^ n ≤ 2 ^ 62 := Nat.pow_le_pow_right (by omega) (by omega)
  exact ⟨Nat.lt_of_lt_of_le h1 h62, Nat.lt_of_lt_of_le h2 h62⟩
theorem failN_met {n : Nat} {L : List (List Int)} {zs ys : List Int} (h : ∀ l ∈ zs, 1 ≤ l.natAbs ∧ l.natAbs ≤ n) (h' : ∀ l ∈ ys, 1 ≤ l.natAbs ∧ l.natAbs ≤ n) (hy : ys ∈ L) (e : keyN n zs = keyN n ys) (N : Nat) : failN n (L ++ [zs]) N = failN n L N := by
  rw [failN_snoc, holds_key (N := N) h h' e]
  cases hh : holdsM (bitM n N) ys
  · have : failN n L N = true := List.any_eq_true.2 ⟨ys, hy, by rw [hh]; rfl⟩
    rw [this]; rfl
  · simp
def TrdRel (n : Nat) (L : List (List Int)) (B : Nat) (fv : Value) (bm : Nat) (w0 : World) (i : Value) (wr : World) : Prop := ∃ (k : Nat) (l : List (Nat × Nat)) (m : Nat), k ≤ L.length ∧ i = .int .i64 k ∧ wr.ownsRow B 4 1 fv (2 ^ n) ((List.range (2 ^ n)).map fun N => Value.bool (failN n (L.take k) N)) ∧
  wr.ownsMap Tryz.prog 102 (plainElem (H := Nat) Tryz.prog 4) bm m (metF l) ∧ m ≤ k ∧ (∀ x, x ∈ l ↔ ∃ zs ∈ L.take k, x = keyN n zs) ∧ Keeps (fun i => fv.ownBlock = some i ∨ i = bm) w0 wr
theorem boolElem_inv {H : Type} {P : Program} {e : TypeId} (he : P.underlying e = some .bool) {v : Value} {z : DataW H × List MemPlace} (h : plainElem P e v = some z) : ∃ b, v = .bool b ∧ z = (.lit (.bool b), []) := by
  unfold plainElem at h
  rw [he] at h
  cases v <;> simp at h
  exact ⟨_, rfl, h.symm⟩
theorem look_bool {H : Type} {P : Program} {w : World} {k : TypeId} {b n : Nat} {D : DataW H} {t e : TypeId} (h : w.ownsMap P k (plainElem P e) b n D) (K : Keyed P k) (ht : P.underlying t = some (.map k e)) (he : P.underlying e = some .bool) (hz : (zeroValue e).run P w = .ok (.bool false) w)
    {key : Value} {kl : Lit} (hkey : keyOf P k key = some kl) {c : Bool} (hc : D.atKey kl (.lit (.bool false)) = .lit (.bool c)) : (Instr.lookup t (.map (some b)) key false).run P w = .ok (.bool c) w := by
  obtain ⟨v, ps, hrun, hv⟩ := h.lookup K ht hz (plainElem_bool he false) hkey
  obtain ⟨c', rfl, hc'⟩ := boolElem_inv he hv
  rw [hc] at hc'
  simp only [Prod.mk.injEq, DataW.lit.injEq, Lit.bool.injEq] at hc'
  rw [hrun, hc'.1]
theorem ownsMap_on {H : Type} {P : Program} {W W' : World} {k : TypeId} {R : Value → Option (DataW H × List MemPlace)} {b n : Nat} {D : DataW H} (h : W.ownsMap P k R b n D) (hb : Below W.heap.size W W') : W'.ownsMap P k R b n D :=
  h.kept (row := none) ⟨hb.os, hb.tape, hb.output, hb.size, fun k hk _ => hb.block k hk⟩ (by simp)
theorem owns_on0 {W W' : World} {base e n sz : Nat} {v : Value} {xs : List Value} (h : W.ownsRow base e sz v n xs) (hb : Below W.heap.size W W') : W'.ownsRow base e sz v n xs :=
  h.kept (row := none) ⟨hb.os, hb.tape, hb.output, hb.size, fun k hk _ => hb.block k hk⟩ (by cases v.ownBlock <;> simp)
theorem takeL_one {α : Type} (L : List α) {k : Nat} {x : α} (h : L[k]? = some x) : L.take (k + 1) = L.take k ++ [x] := by
  obtain ⟨hk, rfl⟩ := List.getElem?_eq_some_iff.1 h
  rw [List.take_succ_eq_append_getElem hk]
set_option maxRecDepth 100000 in
set_option maxHeartbeats 2000000 in
theorem tried_bad {C : Nat} {v : Value} {L : List (List Int)} (vars : Int) (w : World) (hC : C ≤ w.heap.size) (hn : L.length ≤ 1000000000) (hz : ∀ zs ∈ L, zs.length ≤ 1000000) (hL : RowsL C w v L) (f : Int) (hf : (if (chkI vars L).2 = 0 then (if 16 < vars then 5 else 0) else (chkI vars L).2) = f) (h0 : f ≠ 0) :
    Calls Tryz.prog 31 #[.agg #[.int .i64 vars, v]] w fun e w' => e = .returned (.tuple #[.slice none 0 0, .int .i64 f]) ∧ Below w.heap.size w w' := by
  obtain ⟨A, cap, rfl, hat⟩ := rowsL_shape hL
  have b1 := below1a w (.cells #[.int .i64 vars, .slice A L.length cap] 27)
  have m1 := fo_new w vars (.slice A L.length cap) 27
  obtain ⟨w1, hw1⟩ : ∃ y, w.alloc (.cells #[.int .i64 vars, .slice A L.length cap] 27) = y := ⟨_, rfl⟩
  rw [hw1] at b1 m1
  have c0 := m1.1
  have c1 := m1.2.1
  have hck := check_any vars w1 (Nat.le_trans hC b1.size) hn hz (hL.below (b1.mono hC))
  obtain ⟨x1, hx1⟩ : ∃ r, (chkI vars L).1 = r := ⟨_, rfl⟩
  obtain ⟨x2, hx2⟩ : ∃ r, (chkI vars L).2 = r := ⟨_, rfl⟩
  rw [hx1, hx2] at hck
  rw [hx2] at hf
  have HCk := Lib.hid hck; have HB := Lib.hid b1; have HW := Lib.hid hw1; have HF1 := Lib.hid m1
  clear hck hx1 b1 m1 hw1 hat hL hz hx2
  by_cases hx : x2 = 0
  · subst hx
    rw [if_pos rfl] at hf
    have h16 : 16 < vars := by
      rcases Int.lt_or_le 16 vars with h | h
      · exact h
      · rw [if_neg (by omega)] at hf; omega
    rw [if_pos h16] at hf
    subst hf
    go_enter Tryz.func31, Tryz.ntmps31
    go_wp2_with fail
    rw [HW.out]
    go_wp2_with fail
    refine HCk.out.mono ?_
    rintro e w2 ⟨rfl, hb2⟩
    obtain ⟨c0, c1, -⟩ := HF1.out.on hb2
    have HB2 := Lib.hid (below_cat HB.out hb2)
    clear hb2
    go_wp2_with fail
    go_ret2
    exact ⟨rfl, HB2.out⟩
  · rw [if_neg hx] at hf
    subst hf
    have hq : (x2 == 0) = false := by rw [beq_eq_false_iff_ne]; exact hx
    go_enter Tryz.func31, Tryz.ntmps31
    go_wp2_with fail
    rw [HW.out]
    go_wp2_with fail
    refine HCk.out.mono ?_
    rintro e w2 ⟨rfl, hb2⟩
    have HB2 := Lib.hid (below_cat HB.out hb2)
    clear hb2
    go_wp2_with fail
    go_ret2
    exact ⟨rfl, HB2.out⟩
set_option maxRecDepth 100000 in
set_option maxHeartbeats 2000000 in
theorem tried_ok {C : Nat} {v : Value} {L : List (List Int)} (n : Nat) (hn16 : n ≤ 16) (w : World) (hC : C ≤ w.heap.size) (hz : ∀ zs ∈ L, zs.length ≤ 1000000) (hL : RowsL C w v L) (hok : (chkI (n : Int) L).2 = 0) :
    Calls Tryz.prog 31 #[.agg #[.int .i64 (n : Nat), v]] w fun e w' => ∃ fv, e = .returned (.tuple #[fv, .int .i64 0]) ∧ w'.ownsRow w.heap.size 4 1 fv (2 ^ n) ((List.range (2 ^ n)).map fun N => Value.bool (failN n L N)) ∧ Below w.heap.size w w' := by
  obtain ⟨-, -, hln, hlit⟩ := chk_ok hok
  obtain ⟨A, cap, rfl, hat⟩ := rowsL_shape hL
  have b1 := below1a w (.cells #[.int .i64 (n : Nat), .slice A L.length cap] 27)
  have m1 := fo_new w (n : Nat) (.slice A L.length cap) 27
  obtain ⟨w1, hw1⟩ : ∃ y, w.alloc (.cells #[.int .i64 (n : Nat), .slice A L.length cap] 27) = y := ⟨_, rfl⟩
  rw [hw1] at b1 m1
  have c0 := m1.1
  have c1 := m1.2.1
  have hck := check_any (n : Nat) w1 (Nat.le_trans hC b1.size) (by omega) hz (hL.below (b1.mono hC))
  obtain ⟨x1, hx1⟩ : ∃ r, (chkI (n : Nat) L).1 = r := ⟨_, rfl⟩
  rw [hx1, hok] at hck
  have hsm : ∀ zs ∈ L, ∀ l ∈ zs, litB l = true ∧ l.natAbs ≤ n := fun zs hzs l hl => by
    obtain ⟨h5, h6⟩ := (hlit zs hzs).2 l hl
    exact ⟨h5, by omega⟩
  obtain ⟨M, hM⟩ : ∃ M, 2 ^ n = M := ⟨_, rfl⟩
  have h16 : M ≤ 65536 := by rw [← hM]; exact Nat.le_trans (Nat.pow_le_pow_right (by omega) hn16) (by decide)
  have hni : (n : Int) ≤ 16 := by omega
  have s1 : IntKind.i64.wrap ((2 : Int) ^ n) = (M : Int) := by
    rw [show ((2 : Int) ^ n) = (M : Int) by rw [← hM]; norm_cast]
    exact IntWalk.i64_in _ (by omega)
  obtain ⟨i0, hi, hz0, hz1, hz2⟩ := info_parts infoBool
  have hmm := @run_makeMap Tryz.prog
  have HCk := Lib.hid hck; have HB := Lib.hid b1; have HW := Lib.hid hw1; have HF1 := Lib.hid m1; have HAt := Lib.hid hat; have HZ := Lib.hid hz; have HSm := Lib.hid hsm; have HM := Lib.hid hM
  clear hck hx1 b1 m1 hw1 hat hL hz hok hlit hsm hM
  go_enter Tryz.func31, Tryz.ntmps31
  go_wp2_with fail
  rw [HW.out]
  go_wp2_with fail
  refine HCk.out.mono ?_
  rintro e w2 ⟨rfl, hb2⟩
  obtain ⟨c0, c1, -⟩ := HF1.out.on hb2
  have HB2 := Lib.hid (below_cat HB.out hb2); have HF2 := Lib.hid (HF1.out.on hb2)
  clear hb2
  go_wp2_with (at_make; refine wpList_make_full _ rfl _ _ 29 rfl w2.heap.size 4 i0 (.bool false) 1 Tryz.underlying29 hi hz0 hz1 .i64 .i64 _ _ M rfl rfl rfl rfl (by rw [hz2]; omega) (by unfold maxLen; omega) (Nat.le_refl _) ?_; intro w3 hown3 hg3; have hb3 : Below w2.heap.size w2 w3 := (Below.refl _ _).grown hg3 (Nat.le_refl _) (fun k e => by cases e); have HF4 := Lib.hid ((HF2.out.on hb3).on (below1a w3 (.map #[] 0))); have c0 := HF4.out.1; have c1 := HF4.out.2.1)
  rw [made_bools] at hown3
  have hmp := World.ownsMap_made (H := Nat) w3 Tryz.prog 102 (plainElem (H := Nat) Tryz.prog 4)
  have hr4 := hown3.alloc (.map #[] 0)
  have hb4 : Below w2.heap.size w2 (w3.alloc (.map #[] 0)) := hb3.alloc hb3.size _
  have hsz : w2.heap.size < w3.heap.size := (hown3.lt w2.heap.size rfl).2
  obtain ⟨w4, hw4⟩ : ∃ y, w3.alloc (.map #[] 0) = y := ⟨_, rfl⟩
  obtain ⟨bm, hbm⟩ : ∃ y, w3.heap.size = y := ⟨_, rfl⟩
  obtain ⟨fb, hfb⟩ : ∃ y, w2.heap.size = y := ⟨_, rfl⟩
  rw [hw4] at c0 c1 hmp hr4 hb4 HF4 ⊢
  rw [hbm] at hmp hsz ⊢
  rw [hfb] at hr4 hsz hb4 ⊢
  have HMp := Lib.hid hmp; have HR4 := Lib.hid hr4; have HB4 := Lib.hid hb4; have HFb := Lib.hid hfb
  clear hmp hr4 hb4 hw4 hbm hfb hown3 hg3 hb3
  have hstart : TrdRel n L w.heap.size (.slice (some ⟨fb, 0, none⟩) M M) bm w4 (.int .i64 (0 : Nat)) w4 := by
    refine ⟨0, [], 0, Nat.zero_le _, rfl, ?_, HMp.out, Nat.le_refl _, fun x => by simp, Keeps.refl _ _⟩
    rw [HM.out, show ((List.range M).map fun N => Value.bool (failN n (L.take 0) N)) = List.replicate M (.bool false) from by
      rw [List.eq_replicate_iff]
      exact ⟨by simp, fun b hb => by obtain ⟨j, -, rfl⟩ := List.mem_map.1 hb; rfl⟩]
    exact owns_mono HR4.out (by rw [← HFb.out]; exact HB2.out.size)
  have HSt := Lib.hid hstart
  clear hstart
  have hgb : w.heap.size < fb := by rw [← HFb.out]; exact HF2.out.2.2
  go_loopw [30] (fun i wr => TrdRel n L w.heap.size (.slice (some ⟨fb, 0, none⟩) M M) bm w4 i wr) (fun i _ => L.length - (intOf i).toNat)
  case atStart => exact HSt.out
  case round =>
    clear HSt
    obtain ⟨k, l, m, hk, rfl, hrow, hmap, hmk, hmem, hkp⟩ := hrel
    have hrl := (hrow.lt fb rfl).2
    have hml := hmap.lt
    have hk4 : wr.heap[w.heap.size]? = w4.heap[w.heap.size]? := hkp.block w.heap.size HF4.out.2.2 (fun h => by
      rcases h with h | h
      · simp [Value.ownBlock] at h; omega
      · omega)
    have c0 : wr.cell? ⟨w.heap.size, 0, none⟩ = some (.int .i64 n) := (World.cell?_of_block hk4).trans HF4.out.1
    have c1 : wr.cell? ⟨w.heap.size, 1, none⟩ = some (.slice A L.length cap) := (World.cell?_of_block hk4).trans HF4.out.2.1
    have hBr : Below w.heap.size w wr := (below_cat HB2.out (by rw [HFb.out]; exact HB4.out)).trans (hkp.below (Nat.le_of_lt HF4.out.2.2) (fun i h => by
      rcases h with h | h
      · simp [Value.ownBlock] at h; omega
      · omega))
    by_cases hlt : k < L.length
    · obtain ⟨zs, hx⟩ : ∃ zs, L[k]? = some zs := ⟨_, List.getElem?_eq_getElem hlt⟩
      obtain ⟨b, off, As, cs, rfl, hb, hc, hI⟩ := HAt.out k zs hx
      have hc := (hBr.cell (p := ⟨b, off + k, none⟩) (Nat.lt_of_lt_of_le hb hC)).trans hc
      have hzm := List.mem_of_getElem? hx
      have hfl := failing_any n hn16 wr (Nat.le_trans hC hBr.size) (HZ.out zs hzm) (HSm.out zs hzm) ((hI.below (hBr.mono hC)).ints)
      have hsz : ∀ l ∈ zs, 1 ≤ l.natAbs ∧ l.natAbs ≤ n := fun l hl => by
        obtain ⟨h1, h2⟩ := HSm.out zs hzm l hl
        have := litB_of h1
        omega
      have hsl : ∀ ys ∈ L, ∀ l ∈ ys, 1 ≤ l.natAbs ∧ l.natAbs ≤ n := fun ys hy l hl => by
        obtain ⟨h1, h2⟩ := HSm.out ys hy l hl
        have := litB_of h1
        omega
      obtain ⟨lo, hlo⟩ : ∃ x, lowN n zs = x := ⟨_, rfl⟩
      obtain ⟨hi', hhi⟩ : ∃ x, highN n zs = x := ⟨_, rfl⟩
      have hkn : keyN n zs = (lo, hi') := by unfold keyN; rw [hlo, hhi]
      have hko : KOk2 (lo, hi') := by rw [← hkn]; exact keyN_ok hn16 hsz
      have hll : ∀ y ∈ l, KOk2 y := fun y hy => by
        obtain ⟨ys, h1, rfl⟩ := (hmem y).1 hy
        exact keyN_ok hn16 (hsl ys (List.mem_of_mem_take h1))
      have hat := metF_at l hll hko
      have hlk : ∀ W, W.ownsMap Tryz.prog 102 (plainElem (H := Nat) Tryz.prog 4) bm m (metF l) → (Instr.lookup 100 (.map (some bm)) (kv (lo, hi')) false).run Tryz.prog W = .ok (.bool (decide ((lo, hi') ∈ l))) W := fun W hW =>
        look_bool hW fkeyed Tryz.underlying100 Tryz.underlying4 (by kernel_rfl) (key_of hko) hat.2
      rw [hlo, hhi] at hfl
      have HFl := Lib.hid hfl; have HMap := Lib.hid hmap; have HRow := Lib.hid hrow; have HKp := Lib.hid hkp; have HMem := Lib.hid hmem; have HLk := Lib.hid hlk; have HX := Lib.hid hx; have HBr := Lib.hid hBr; have HSz := Lib.hid hsz; have HSl := Lib.hid hsl; have HKn := Lib.hid hkn; have HKo := Lib.hid hko; have HNx := Lib.hid hlt
      have hki : (k : Int) < (L.length : Int) := by omega
      clear hfl hmap hrow hkp hmem hlk hx hBr hsz hsl hI hb hzm HAt HZ HSm hll hat hkn hko hlo hhi hk4 hlt
      go_wp2_with fail
      refine HFl.out.mono ?_
      rintro e w5 ⟨rfl, hb5⟩
      have hmp6 := ownsMap_on (HMap.out) (hb5.trans ((below1a w5 (.cells #[.int .i64 (lo : Nat), .int .i64 (hi' : Nat)] 102)).mono hb5.size))
      have hr6 := owns_on0 HRow.out (hb5.trans ((below1a w5 (.cells #[.int .i64 (lo : Nat), .int .i64 (hi' : Nat)] 102)).mono hb5.size))
      have hk6 := HKp.out.then_below (hb5.trans ((below1a w5 (.cells #[.int .i64 (lo : Nat), .int .i64 (hi' : Nat)] 102)).mono hb5.size))
      have hx6 := Whole.made w5 102 #[.int .i64 (lo : Nat), .int .i64 (hi' : Nat)]
      have hxb : bm < w5.heap.size := Nat.lt_of_lt_of_le HMap.out.lt hb5.size
      have hxf : fb < w5.heap.size := Nat.lt_of_lt_of_le (HRow.out.lt fb rfl).2 hb5.size
      obtain ⟨w6, hw6⟩ : ∃ y, w5.alloc (.cells #[.int .i64 (lo : Nat), .int .i64 (hi' : Nat)] 102) = y := ⟨_, rfl⟩
      rw [hw6] at hmp6 hr6 hk6 hx6
      obtain ⟨xb, hxbe⟩ : ∃ y, w5.heap.size = y := ⟨_, rfl⟩
      rw [hxbe] at hx6 hxb hxf
      have x0 : w6.cell? ⟨xb, 0, none⟩ = some (.int .i64 lo) := hx6.cell 0
      have x1 : w6.cell? ⟨xb, 1, none⟩ = some (.int .i64 hi') := hx6.cell 1
      have hl6 := HLk.out w6 hmp6
      have HMp6 := Lib.hid hmp6; have HR6 := Lib.hid hr6; have HK6 := Lib.hid hk6; have HX6 := Lib.hid hx6
      clear hmp6 hr6 hk6 hx6 hb5 HRow HMap HKp HLk c0 c1
      cases hin : decide ((lo, hi') ∈ l)
      · rw [hin] at hl6
        have HIn := Lib.hid (of_decide_eq_false hin)
        clear hin
        go_wp2_with (at_mapUpdate; refine wpList_mapUpdate_own _ rfl _ _ _ 100 rfl 102 4 fkeyed Tryz.underlying100 _ bm m _ rfl HMp6.out (by unfold maxLen; omega) _ _ _ rfl rfl (key_of HKo.out) _ [] (plainElem_bool Tryz.underlying4 true) ?_; intro w7 hown7 hg7; have hx7 := HX6.out.same (hg7.block xb HX6.out.lt (fun e => by cases e; omega)); have x0 : w7.cell? ⟨xb, 0, none⟩ = some (.int .i64 lo) := hx7.cell 0; have x1 : w7.cell? ⟨xb, 1, none⟩ = some (.int .i64 hi') := hx7.cell 1)
        have hr7 := HR6.out.kept hg7 (.inr (by simp [Value.ownBlock]; omega))
        rw [← HM.out] at hr7
        have hmk := mark_any n hn16 _ w7 HSz.out hr7
        have hkn := HKn.out
        unfold keyN at hkn
        simp only [Prod.mk.injEq] at hkn
        rw [hkn.1, hkn.2] at hmk
        rw [HM.out] at hmk
        have HMk := Lib.hid hmk; have HOwn7 := Lib.hid hown7; have HG7 := Lib.hid hg7
        clear hr7 hmk hkn hown7 hg7 hx7
        refine HMk.out.mono ?_
        rintro e w8 ⟨rfl, hr8, hk8⟩
        have hg8 : w7.grownBy w8 (some fb) := ⟨hk8.os, hk8.tape, hk8.output, hk8.size, fun j hj hne => hk8.block j hj (fun e => hne (by simpa [Value.ownBlock] using e.symm))⟩
        have hmp8 := HOwn7.out.kept hg8 (by simp; omega)
        have hk9 := (HK6.out.grown HG7.out (fun r e => by cases e; exact .inl (.inr rfl))).trans hk8 (fun _ _ h => .inl h)
        have HR8 := Lib.hid hr8; have HMp8 := Lib.hid hmp8; have HK9 := Lib.hid hk9
        clear hr8 hmp8 hk9 hk8 hg8 HMk HOwn7 HG7
        go_wp2_with fail
        go_roundw
        case rel =>
          refine ⟨k + 1, l ++ [(lo, hi')], m + 1, HNx.out, by go_num, ?_, by rw [metF_snoc]; exact HMp8.out, by omega, fun x => ?_, HK9.out⟩
          · rw [HM.out, takeL_one L HX.out, show ((List.range M).map fun N => Value.bool (failN n (L.take k ++ [zs]) N)) = (List.range M).map fun N => Value.bool (failN n (L.take k) N || !holdsM (bitM n N) zs) from List.map_congr_left fun N _ => by rw [failN_snoc]]
            exact HR8.out
          · rw [takeL_one L HX.out, List.mem_append, List.mem_singleton, HMem.out x]
            constructor
            · rintro (⟨ys, h1, h2⟩ | h)
              · exact ⟨ys, List.mem_append.2 (.inl h1), h2⟩
              · exact ⟨zs, List.mem_append.2 (.inr (by simp)), by rw [HKn.out]; exact h⟩
            · rintro ⟨ys, h1, h2⟩
              rcases List.mem_append.1 h1 with h1 | h1
              · exact .inl ⟨ys, h1, h2⟩
              · obtain rfl := List.mem_singleton.1 h1
                exact .inr (by rw [h2, HKn.out])
        case measure => simp [intOf]; omega
      · rw [hin] at hl6
        have HIn := Lib.hid (of_decide_eq_true hin)
        clear hin
        go_wp2_with fail
        go_roundw
        case rel =>
          obtain ⟨ys, h1, h2⟩ := (HMem.out _).1 HIn.out
          rw [← HKn.out] at h2
          refine ⟨k + 1, l, m, HNx.out, by go_num, ?_, HMp6.out, by omega, fun x => ?_, HK6.out⟩
          · rw [takeL_one L HX.out, show ((List.range (2 ^ n)).map fun N => Value.bool (failN n (L.take k ++ [zs]) N)) = (List.range (2 ^ n)).map fun N => Value.bool (failN n (L.take k) N) from List.map_congr_left fun N _ => by rw [failN_met HSz.out (HSl.out ys (List.mem_of_mem_take h1)) h1 h2]]
            exact HR6.out
          · rw [takeL_one L HX.out, HMem.out x]
            constructor
            · rintro ⟨us, h3, h4⟩
              exact ⟨us, List.mem_append.2 (.inl h3), h4⟩
            · rintro ⟨us, h3, h4⟩
              rcases List.mem_append.1 h3 with h3 | h3
              · exact ⟨us, h3, h4⟩
              · obtain rfl := List.mem_singleton.1 h3
                exact ⟨ys, h1, by rw [h4, h2]⟩
        case measure => simp [intOf]; omega
    · obtain rfl : k = L.length := by omega
      rw [List.take_length] at hrow
      have HRow := Lib.hid hrow; have HBr := Lib.hid hBr
      clear hrow hmap hmem hkp hBr HAt HZ HSm hk4
      go_wp2_with fail
      go_ret2
      exact ⟨_, rfl, HRow.out, HBr.out⟩
end Go.Proofs.YtgoflapolglfcaaGreat
