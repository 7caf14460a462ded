/- The walk of ArenaStays. -/
import Derived.Test.YtjkhhnfmefbohaaLawUse
import Derived.Deep.DeepCutAuto
import Derived.Laws.MakeOwn
namespace Go.Proofs.Ytjkhhnfmefbohaa.arenaStays
open Go.RowKit Go.ChangeAt Go.ChangeShapes Go.WideShapes

theorem owns_on {W W' : World} {base n : Nat} {e : TypeId} {v : Value} {xs : List Value} (h : W.ownsRow base e 1 v n xs) (hb : Below W.heap.size W W') : W'.ownsRow base e 1 v n xs := kept0 h ⟨hb.os, hb.tape, hb.output, hb.size, fun k hk _ => hb.block k hk⟩
/-! ### what is there -/
def stayL (zss : List (List Int)) (n : Nat) (th : Nat → Bool) : List (Int × List Int) := ((List.range n).filter th).map fun (i : Nat) => (2 * (i : Int) + 1, madeL (zss[i]?.getD []))
def offT (th : Nat → Bool) (t i : Nat) : Bool := if i = t then false else th i
def allT (_ : Nat) : Bool := true
theorem stayL_all (zss : List (List Int)) (n : Nat) : stayL zss n allT = putL zss n := by
  unfold stayL putL
  rw [show (List.range n).filter allT = List.range n from List.filter_eq_self.2 (fun _ _ => rfl)]
theorem stayL_succ (zss : List (List Int)) (k : Nat) (th : Nat → Bool) : stayL zss (k + 1) th = stayL zss k th ++ if th k then [(2 * (k : Int) + 1, madeL (zss[k]?.getD []))] else [] := by
  unfold stayL
  rw [List.range_succ, List.filter_append, List.map_append]
  cases h : th k <;> simp [h]
theorem stayL_sum (zss : List (List Int)) (th : Nat → Bool) (k : Nat) : sumL (stayL zss k th) ≤ 20 * k := by
  induction k with
  | zero => simp [stayL, sumL]
  | succ k ih =>
    rw [stayL_succ, sumL_app]
    have := madeL_len (zss[k]?.getD [])
    cases h : th k <;> simp [sumL] at * <;> omega
theorem stayL_yes (zss : List (List Int)) {th : Nat → Bool} {k : Nat} (h : th k = true) : sumL (stayL zss (k + 1) th) = sumL (stayL zss k th) + (madeL (zss[k]?.getD [])).length := by
  rw [stayL_succ, h, sumL_app]; simp [sumL]
theorem stayL_no (zss : List (List Int)) {th : Nat → Bool} {k : Nat} (h : th k = false) : sumL (stayL zss (k + 1) th) = sumL (stayL zss k th) := by
  rw [stayL_succ, h, sumL_app]; simp [sumL]
theorem stayL_mem (zss : List (List Int)) {n t : Nat} {th : Nat → Bool} (h : t < n) (ht : th t = true) : (2 * (t : Int) + 1, madeL (zss[t]?.getD [])) ∈ stayL zss n th :=
  List.mem_map.2 ⟨t, List.mem_filter.2 ⟨List.mem_range.2 h, ht⟩, rfl⟩
theorem stayL_out (zss : List (List Int)) (n : Nat) {t : Nat} {th : Nat → Bool} (ht : th t = false) : ∀ p ∈ stayL zss n th, p.1 ≠ 2 * (t : Int) + 1 := fun p hp e => by
  obtain ⟨i, hi, rfl⟩ := List.mem_map.1 hp
  obtain ⟨-, hi⟩ := List.mem_filter.1 hi
  have : i = t := by simp only at e; omega
  rw [this, ht] at hi
  cases hi
theorem stayL_del (zss : List (List Int)) (n t : Nat) (th : Nat → Bool) : (stayL zss n th).filter (fun p => decide (p.1 ≠ 2 * (t : Int) + 1)) = stayL zss n (offT th t) := by
  unfold stayL
  rw [List.filter_map, List.filter_filter]
  congr 1
  refine List.filter_congr fun i _ => ?_
  unfold offT
  by_cases h : i = t
  · rw [if_pos h, h]; simp
  · rw [if_neg h]
    have : (2 * (i : Int) + 1 ≠ 2 * (t : Int) + 1) := by omega
    simp [this]
theorem offT_no {th : Nat → Bool} {t : Nat} (h : th t = false) : offT th t = th := by
  funext i
  unfold offT
  split
  · rename_i e; rw [e, h]
  · rfl
/-! ### the row of marks -/
def thC (n : Nat) (th : Nat → Bool) : Array Value := (Array.range n).map fun i => Value.int .i64 (if th i then 1 else 0)
theorem thC_at {n t : Nat} (th : Nat → Bool) (h : t < n) : (thC n th)[t]? = some (.int .i64 (if th t then 1 else 0)) := by simp [thC, h]
theorem thC_off (n t : Nat) (th : Nat → Bool) : (thC n th).setIfInBounds t (.int .i64 0) = thC n (offT th t) := by
  refine Array.ext (by simp [thC]) fun i h1 h2 => ?_
  rw [Array.getElem_setIfInBounds (by simpa [thC] using h2)]
  by_cases h : t = i
  · simp [thC, offT, h]
  · have : ¬ i = t := fun e => h e.symm
    simp [thC, offT, h, this]
def firstT (k i : Nat) : Bool := decide (i < k)
theorem thC_on (n k : Nat) : (thC n (firstT k)).setIfInBounds k (.int .i64 1) = thC n (firstT (k + 1)) := by
  refine Array.ext (by simp [thC]) fun i h1 h2 => ?_
  rw [Array.getElem_setIfInBounds (by simpa [thC] using h2)]
  by_cases h : k = i
  · subst h
    have : firstT (k + 1) k = true := decide_eq_true (by omega)
    simp [thC, this]
  · have : firstT (k + 1) i = firstT k i := decide_eq_decide.2 (by omega)
    simp [thC, h, this]
theorem thC_all (n : Nat) : thC n (firstT n) = thC n allT := by
  refine Array.ext (by simp [thC]) fun i h1 h2 => ?_
  have h2 : i < n := by simpa [thC] using h2
  have : firstT n i = true := decide_eq_true h2
  simp [thC, this, allT]
theorem infoI : ∃ i : TypeInfo, Try.prog.info? 3 = some i ∧ i.zero = some (.int .i64 0) ∧ i.size = 1 ∧ i.bytes = 8 := info_parts infoInt
theorem make_th (n : Nat) (hn : n ≤ 60) (W : World) : (Instr.makeSlice 25 (.int .i64 (n : Int)) (.int .i64 (n : Int))).run Try.prog W = .ok (.slice (some ⟨W.heap.size, 0, none⟩) n n) (W.alloc (.cells (thC n (firstT 0)) 3)) := by
  obtain ⟨i, hi, hz, hs, hb⟩ := infoI
  have h := run_make (P := Try.prog) W 25 3 i (.int .i64 0) Try.underlying25 hi hz .i64 .i64 n n (by omega) (by omega) (by rw [hb]; omega) (by omega)
  rw [hs] at h
  simp only [Int.toNat_natCast, Nat.mul_one] at h
  rw [h]
  have : madeCells (Value.int .i64 0).cells n = thC n (firstT 0) := by
    refine Array.ext (by simp [thC, madeCells]) fun i h1 h2 => ?_
    have : firstT 0 i = false := decide_eq_false (by omega)
    simp [thC, madeCells, this, Value.cells, Nat.mod_one]
  rw [this]

section
variable {K : Nat → Prop} {g n : Nat} {zss : List (List Int)} {th : Nat → Bool} {last : Int} {w : World}
theorem del_st (h : Ar K w g (stayL zss n th) last) {t : Nat} (ht : t < n) (hn : n ≤ 60) : Calls Try.prog 15 #[.pointer (some ⟨g, 0, none⟩), .int .i64 (2 * (t : Int) + 1)] w fun r w' =>
    ∃ (e : Int) (K' : Nat → Prop), r = .returned (.int .i64 e) ∧ (th t = true ∧ e = 0 ∨ th t = false ∧ e = 30) ∧ Ar K' w' g (stayL zss n (offT th t)) last ∧ Turn K w K' w' := by
  cases hb : th t
  · exact (del_bad h (int_wf (by omega)) (stayL_out zss n hb)).mono fun r w' ⟨hr, hw⟩ => ⟨30, K, hr, .inr ⟨rfl, rfl⟩, by rw [offT_no hb]; exact h.on hw, Turn.of_below hw⟩
  · refine (del_ok h (stayL_mem zss ht hb)).mono fun r w' ⟨hr, K', hA, hT⟩ => ⟨0, K', hr, .inl ⟨rfl, rfl⟩, ?_, hT⟩
    rw [stayL_del] at hA
    exact hA
theorem held_st (h : Ar K w g (stayL zss n th) last) {u : Nat} (hu : sumL (stayL zss n th) = u) : Calls Try.prog 23 #[.pointer (some ⟨g, 0, none⟩)] w fun e w' => ∃ m : Nat, e = .returned (.int .i64 (m : Nat)) ∧ ¬ (m : Int) < (u : Int) ∧ ¬ (2 * (u : Int) + 64 < (m : Int)) ∧ w = w' :=
  (held_ar h).mono fun e w' ⟨m, he, h1, h2, hw⟩ => ⟨m, he, by omega, by omega, hw⟩
end
/-! ### the loops -/
def Rel1 (n : Nat) (w : World) (K : Nat → Prop) (g tb : Nat) (zss : List (List Int)) (s : Value) (wr : World) : Prop :=
  ∃ i : Nat, i ≤ n ∧ s = .int .i64 i ∧ Ar K wr g (putL zss n) (lastN n) ∧ Whole wr tb 3 (thC n (firstT i)) ∧ Below w.heap.size w wr
structure St (n : Nat) (w : World) (g tb : Nat) (zss : List (List Int)) (th : Nat → Bool) (K : Nat → Prop) (wr : World) : Prop where
  ar : Ar K wr g (stayL zss n th) (lastN n)
  row : Whole wr tb 3 (thC n th)
  off : ¬ K tb
  base : ∀ i, K i → w.heap.size ≤ i
  below : Below w.heap.size w wr
theorem St.on {n : Nat} {w : World} {g tb : Nat} {zss : List (List Int)} {th : Nat → Bool} {K : Nat → Prop} {wr w' : World} (h : St n w g tb zss th K wr) (hb : Below wr.heap.size wr w') : St n w g tb zss th K w' :=
  ⟨h.ar.on hb, h.row.same (hb.block _ h.row.lt), h.off, h.base, h.below.trans (hb.mono h.below.size)⟩
theorem St.turn {n : Nat} {w : World} {g tb : Nat} {zss : List (List Int)} {th : Nat → Bool} {K K' : Nat → Prop} {wr w' : World} {t : Nat} (h : St n w g tb zss th K wr) (hA : Ar K' w' g (stayL zss n (offT th t)) (lastN n)) (hT : Turn K wr K' w') (hB : w.heap.size ≤ tb) :
    St n w g tb zss (offT th t) K' (w'.setCell ⟨tb, t, none⟩ (.int .i64 0)) := by
  have hoff := hT.off h.row.lt h.off
  refine ⟨hA.set hoff _, ?_, hoff, hT.from_ h.below.size h.base, (h.below.trans (hT.below h.below.size h.base)).setCell (p := ⟨tb, t, none⟩) hB _⟩
  have := (h.row.same (hT.1.block tb h.row.lt h.off)).store t (.int .i64 0)
  rwa [thC_off] at this
def Rel2 (m n : Nat) (w : World) (g tb : Nat) (zss : List (List Int)) (s : Value) (wr : World) : Prop :=
  ∃ (k : Nat) (th : Nat → Bool) (K : Nat → Prop), k ≤ m ∧ s = .int .i64 k ∧ St n w g tb zss th K wr
def Rel3 (n : Nat) (w : World) (zss : List (List Int)) (th : Nat → Bool) (s14 s82 : Value) (wr : World) : Prop :=
  ∃ j : Nat, j ≤ n ∧ s14 = .int .i64 (sumL (stayL zss j th) : Nat) ∧ s82 = .int .i64 j ∧ Below w.heap.size w wr

set_option maxRecDepth 100000 in
set_option maxHeartbeats 8000000 in
theorem core (v : Value) (zss : List (List Int)) (gv : Value) (gs : List Int) (hF : Fits gv) (hgm : gs.length ≤ maxLen) (hgw : ∀ x ∈ gs, (Lit.int .u8 x).wf = true) (w : World) (hR : Rows2 .u8 w.heap.size w v zss) (hG : IntsK .u8 w.heap.size w gv gs) (hm : zss.length ≤ maxLen) (hw : ∀ zs ∈ zss, zs.length ≤ maxLen ∧ ∀ x ∈ zs, (Lit.int .u8 x).wf = true) :
    Calls Try.prog 5 #[v, gv] w fun e w' => e = .returned (.bool true) ∧ Below w.heap.size w w' := by
  obtain ⟨A, cap, rfl, -, -, hc⟩ := hR.shape
  obtain ⟨A2, cap2, rfl, hA2, hg⟩ : ∃ A c, gv = .slice A gs.length c ∧ (A = none → c = 0) ∧ ∀ j, j < gs.length → ∃ b off, A = some ⟨b, off, none⟩ ∧ b < w.heap.size ∧ w.cell? ⟨b, off + j, none⟩ = some (.int .u8 (gs[j]?.getD 0)) := by
    rcases hG with ⟨A, c, rfl, hA, rfl⟩ | ⟨b, off, c, rfl, hb, hg⟩
    · exact ⟨A, c, rfl, hA, fun j hj => by cases hj⟩
    · exact ⟨_, c, rfl, (fun e => by cases e), fun j hj => ⟨b, off, rfl, hb, hg j hj⟩⟩
  have hcap2 := hF _ _ _ rfl
  have hput := put_any _ zss w hR hm hw
  obtain ⟨n, hn⟩ : ∃ n, min zss.length 60 = n := ⟨_, rfl⟩
  have hn1 : n ≤ zss.length := by omega
  have hn2 : n ≤ 60 := by omega
  have hmin : min (zss.length : Int) 60 = (n : Int) := by omega
  obtain ⟨m, hmn⟩ : ∃ m, min gs.length 60 = m := ⟨_, rfl⟩
  have hm1 : m ≤ gs.length := by omega
  have hm2 : m ≤ 60 := by omega
  have hmin2 : min (gs.length : Int) 60 = (m : Int) := by omega
  rw [hn] at hput
  have hmk := make_th n hn2
  have HP := Lib.hid hput; have HC := Lib.hid hc; have HW := Lib.hid hw; have HG := Lib.hid hg; have HGw := Lib.hid hgw
  unfold maxLen at hm hgm
  clear hR hw hn hput hc hG hg hgw hF hmn
  go_enter Try.func5, Try.ntmps5
  go_wp2_with fail
  refine (HP.out).mono ?_
  rintro r w1 ⟨g, K1, rfl, hA1, hK1, hB1⟩
  have HA1 := Lib.hid hA1; have HK1 := Lib.hid hK1; have HB1 := Lib.hid hB1
  clear hA1 hK1 hB1 HP
  go_wp2_with fail
  have hkok := HA1.out.kok
  have hbl := below1a w1 (.cells (thC n (firstT 0)) 3)
  have hA2 := HA1.out.on hbl
  have hW2 := Whole.made w1 3 (thC n (firstT 0))
  have hB2 := HB1.out.trans (hbl.mono HB1.out.size)
  have hoff : ¬ K1 w1.heap.size := fun x => Nat.lt_irrefl _ (hkok.lt x)
  have htb := HB1.out.size
  obtain ⟨tb, htbn⟩ : ∃ x, w1.heap.size = x := ⟨_, rfl⟩
  obtain ⟨w2, hw2⟩ : ∃ x, w1.alloc (.cells (thC n (firstT 0)) 3) = x := ⟨_, rfl⟩
  rw [htbn] at hW2 hoff htb ⊢
  rw [hw2] at hA2 hW2 hB2 ⊢
  have HA2 := Lib.hid hA2; have HW2 := Lib.hid hW2; have HB2 := Lib.hid hB2
  clear hA2 hW2 hB2 hw2 hbl hkok HA1 HB1 htbn hmk
  go_loopw [33] (fun i wr => Rel1 n w K1 g tb zss i wr) (fun i _ => n - (intOf i).toNat)
  case atStart => exact ⟨0, Nat.zero_le _, rfl, HA2.out, HW2.out, HB2.out⟩
  case round =>
    obtain ⟨i, hi, rfl, hA, hW, hB⟩ := hrel
    by_cases hlt : i < n
    · have hcell : wr.cell? ⟨tb, i, none⟩ = some (.int .i64 (if firstT i i then 1 else 0)) := (hW.cell i).trans (thC_at _ hlt)
      have hfz := hW.frozen i
      have HA := Lib.hid hA; have HW3 := Lib.hid hW; have HB := Lib.hid hB
      clear hA hW hB HC HW HG HGw HA2 HW2 HB2
      go_wp2_with fail
      refine ⟨⟨i + 1, hlt, by go_num, HA.out.set hoff _, ?_, HB.out.setCell (p := ⟨tb, i, none⟩) htb _⟩, ?_⟩
      · have := HW3.out.store i (.int .i64 1)
        rwa [thC_on] at this
      · simp [intOf]; omega
    · obtain rfl : i = n := by omega
      rw [thC_all] at hW
      have HS : Hid (St i w g tb zss allT K1 wr) := Lib.hid ⟨by rw [stayL_all]; exact hA, hW, hoff, HK1.out, hB⟩
      clear hA hW hB hoff HA2 HW2 HB2 HK1
      go_wp2_with fail
      go_loopw [46] (fun k wr => Rel2 m i w g tb zss k wr) (fun k _ => m - (intOf k).toNat)
      case atStart => exact ⟨0, allT, K1, Nat.zero_le _, rfl, HS.out⟩
      case round =>
        obtain ⟨k, th, K, hk, rfl, hS⟩ := hrel
        by_cases hkm : k < m
        · obtain ⟨b2, off2, rfl, hb2, hcx⟩ := HG.out k (by omega)
          have hcx := (hS.below.cell (p := ⟨b2, off2 + k, none⟩) hb2).trans hcx
          obtain ⟨x0, x1⟩ := u8_wf (HGw.out (gs[k]?.getD 0) (by rw [List.getElem?_eq_getElem (by omega)]; exact List.getElem_mem _))
          obtain ⟨x, hx⟩ : ∃ x, gs[k]?.getD 0 = x := ⟨_, rfl⟩
          rw [hx] at hcx x0 x1
          clear hx
          by_cases hn0 : i = 0
          · subst hn0
            have HS3 := Lib.hid hS
            clear hS HC HW HG HGw HS
            go_wp2_with fail
            refine (arawake_any _).mono ?_
            rintro r x5 ⟨rfl, hb⟩
            have HB5 := Lib.hid (HS3.out.below.trans (hb.mono HS3.out.below.size))
            clear hb HS3
            go_wp2_with fail
            go_ret
            exact ⟨rfl, HB5.out⟩
          · have htn := Nat.mod_lt x.toNat (show 0 < i by omega)
            have htm : ((x.toNat % i : Nat) : Int) = x % (i : Int) := by rw [Int.natCast_emod, Int.toNat_of_nonneg x0]
            obtain ⟨t, ht⟩ : ∃ t, x.toNat % i = t := ⟨_, rfl⟩
            rw [ht] at htm htn
            have hq : x.tmod (i : Int) = (t : Int) := by rw [htm, Int.tmod_eq_emod_of_nonneg x0]
            have hnz : ¬ ((i : Int) = 0) := by omega
            have hwb : IntKind.i64.wrap x = x := by rw [IntKind.wrap_i64]; omega
            have hcell : wr.cell? ⟨tb, t, none⟩ = some (.int .i64 (if th t then 1 else 0)) := (hS.row.cell t).trans (thC_at _ htn)
            have HS3 := Lib.hid hS; have HCl := Lib.hid hcell
            clear hS ht htm hcell HG HGw HS
            go_wp2_with fail
            refine (del_st HS3.out.ar htn hn2).mono ?_
            rintro r w4 ⟨e, K4, rfl, he, hA4, hT4⟩
            have hrow4 := HS3.out.row.same (hT4.1.block tb HS3.out.row.lt HS3.out.off)
            have hcell4 : w4.cell? ⟨tb, t, none⟩ = some (.int .i64 (if th t then 1 else 0)) := (hrow4.cell t).trans (thC_at _ htn)
            have hfz4 := hrow4.frozen t
            have HS4 := Lib.hid (HS3.out.turn hA4 hT4 htb)
            have He := Lib.hid he
            clear he hA4 hT4 hrow4 HS3 HCl
            go_upto_region 17 with fail
            go_cut [76] (fun s76 wx => s76 = .bool false ∧ wx = w4)
            case first =>
              rcases He.out with ⟨hb, rfl⟩ | ⟨hb, rfl⟩
              · rw [hb] at hcell4
                go_wp2_with fail
                go_meet
                exact ⟨rfl, rfl⟩
              · rw [hb] at hcell4
                go_wp2_with fail
                go_meet
                exact ⟨rfl, rfl⟩
            case rest =>
              obtain ⟨rfl, rfl⟩ := hcut
              go_wp2_with fail
              obtain ⟨w5, hw5⟩ : ∃ y, wc.setCell ⟨tb, t, none⟩ (.int .i64 0) = y := ⟨_, rfl⟩
              obtain ⟨th2, hth2⟩ : ∃ y, offT th t = y := ⟨_, rfl⟩
              rw [hw5] at HS4 ⊢
              rw [hth2] at HS4
              clear hw5 hth2 hcell4 hfz4 He hq hnz hwb
              go_loopw [14, 82] (fun s14 s82 wr => Rel3 i w5 zss th2 s14 s82 wr) (fun _ j _ => i - (intOf j).toNat)
              case atStart => exact ⟨0, Nat.zero_le _, rfl, rfl, Below.refl _ _⟩
              case round =>
                obtain ⟨j, hj, rfl, rfl, hB5⟩ := hrel
                have hS5 := HS4.out.on hB5
                have hsum := stayL_sum zss th2 j
                obtain ⟨u, hu⟩ : ∃ y, sumL (stayL zss j th2) = y := ⟨_, rfl⟩
                rw [hu] at hsum ⊢
                by_cases hjl : j < i
                · have hcellj := (hS5.row.cell j).trans (thC_at th2 hjl)
                  cases hbj : th2 j
                  · rw [hbj] at hcellj
                    have hsn := (stayL_no zss hbj).trans hu
                    have hget := get_out hS5.ar (int_wf (by omega)) (stayL_out zss i hbj)
                    have HGt := Lib.hid hget; have HB := Lib.hid hB5; have HSn := Lib.hid hsn
                    clear hS5 hget hB5 hsn hu HC HW HS4
                    go_wp2_with fail
                    refine (HGt.out).mono ?_
                    rintro r w6 ⟨rfl, hb6⟩
                    have HB6 := Lib.hid (HB.out.trans (hb6.mono HB.out.size))
                    clear hb6 HGt HB
                    go_wp2_with fail
                    refine ⟨⟨j + 1, hjl, by rw [HSn.out], by go_num, HB6.out⟩, ?_⟩
                    simp [intOf]; omega
                  · rw [hbj] at hcellj
                    obtain ⟨b, off, sv, rfl, hb, hcx, hI, hFs⟩ := HC.out j (by omega)
                    have hz := HW.out (zss[j]?.getD []) (by rw [List.getElem?_eq_getElem (by omega)]; exact List.getElem_mem _)
                    have hsy := stayL_yes zss hbj
                    have hml := madeL_len (zss[j]?.getD [])
                    have hget := get_in hS5.ar (stayL_mem zss hjl hbj)
                    have hmade := fun (W : World) (hB : Below w.heap.size w W) => made_any w.heap.size sv (zss[j]?.getD []) (by have := hz.1; unfold maxLen at this; omega) hz.2 hFs W hB.size (hI.below hB)
                    obtain ⟨c, hcn⟩ : ∃ c, madeL (zss[j]?.getD []) = c := ⟨_, rfl⟩
                    rw [hcn] at hml hsy hget
                    simp only [hcn] at hmade
                    rw [hu] at hsy
                    have HGt := Lib.hid hget; have HB := Lib.hid hB5; have HSy := Lib.hid hsy; have HMd := Lib.hid hmade; have HBw := Lib.hid hS5.below; have HCx := Lib.hid hcx
                    clear hS5 hget hB5 hsy hmade hu hz hI hFs hcx hcn HC HW HS4
                    go_wp2_with fail
                    refine (HGt.out).mono ?_
                    rintro r w6 ⟨vc, rfl, hr6, hb6⟩
                    obtain ⟨Ac, cc, rfl⟩ := own_shape0 hr6
                    have hbw6 := HBw.out.trans (hb6.mono HBw.out.size)
                    have hcx6 := (hbw6.cell (p := ⟨b, off + j, none⟩) hb).trans HCx.out
                    have HMd6 := Lib.hid (HMd.out w6 hbw6)
                    have HB6 := Lib.hid (HB.out.trans (hb6.mono HB.out.size)); have HR6 := Lib.hid hr6
                    clear hb6 hr6 hbw6 HGt HB HMd HBw HCx
                    go_wp2_with fail
                    refine (HMd6.out).mono ?_
                    rintro r w7 ⟨vd, rfl, hr7, hb7⟩
                    have heq := equal_yes (owns_on HR6.out hb7) (ints_own hr7) (by omega)
                    have HB7 := Lib.hid (HB6.out.trans (hb7.mono HB6.out.size)); have HEq := Lib.hid heq
                    clear hr7 heq hb7 HMd6 HB6 HR6 hcx6
                    go_wp2_with fail
                    refine (HEq.out).mono ?_
                    rintro r w8 ⟨rfl, q, rfl⟩
                    have HB8 := Lib.hid (below_drewN HB7.out q)
                    clear HEq HB7
                    go_wp2_with fail
                    refine ⟨⟨j + 1, hjl, by rw [HSy.out]; go_num, by go_num, HB8.out⟩, ?_⟩
                    simp [intOf]; omega
                · obtain rfl : j = i := by omega
                  have HS6 := Lib.hid hS5; have HU := Lib.hid hu
                  clear hS5 hB5 hu HS4 HC HW
                  go_wp2_with fail
                  refine (used_is (n := (u : Int)) HS6.out.ar (by rw [HU.out])).mono ?_
                  rintro r w' ⟨rfl, rfl⟩
                  go_wp2_with fail
                  refine (held_st HS6.out.ar HU.out).mono ?_
                  rintro r w' ⟨m1, rfl, hm1a, hm1b, rfl⟩
                  go_wp2_with fail
                  refine (held_st HS6.out.ar HU.out).mono ?_
                  rintro r w' ⟨m2, rfl, hm2a, hm2b, rfl⟩
                  go_wp2_with fail
                  refine ⟨⟨k + 1, th2, K4, hkm, by go_num, HS6.out⟩, ?_⟩
                  simp [intOf]; omega
        · obtain rfl : k = m := by omega
          have HS3 := Lib.hid hS
          clear hS HC HW HG HGw HS
          go_wp2_with fail
          refine (arawake_any _).mono ?_
          rintro r x5 ⟨rfl, hb⟩
          have HB5 := Lib.hid (HS3.out.below.trans (hb.mono HS3.out.below.size))
          clear hb HS3
          go_wp2_with fail
          go_ret
          exact ⟨rfl, HB5.out⟩
theorem arenaStays_walk (v : Value) (zss : List (List Int)) (hm : zss.length ≤ maxLen) (hw : ∀ zs ∈ zss, zs.length ≤ maxLen ∧ ∀ x ∈ zs, (Lit.int .u8 x).wf = true) (gv : Value) (gs : List Int) (hgm : gs.length ≤ maxLen) (hgw : ∀ x ∈ gs, (Lit.int .u8 x).wf = true) (hF : Fits gv) (w : World) (hR : Rows2 .u8 w.heap.size w v zss) (hG : IntsK .u8 w.heap.size w gv gs) :
    Calls Try.prog 5 #[v, gv] w fun e w' => e = .returned (.bool true) ∧ Below w.heap.size w w' :=
  core v zss gv gs hF hgm hgw w hR hG hm hw
end Go.Proofs.Ytjkhhnfmefbohaa.arenaStays
