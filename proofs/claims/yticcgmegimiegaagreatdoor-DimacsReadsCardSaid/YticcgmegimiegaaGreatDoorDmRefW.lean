/- The reference's Check of formulas, as stage 6 has it. -/
/- The reference's decimal, Header, Line, Write of formulas: they write what dimacs writes. -/
import Derived.Test.YticcgmegimiegaaGreatDoorFoMath
import Derived.Test.YticcgmegimiegaaGreatDoorRef02
import Derived.Test.YticcgmegimiegaaGreatDoorFoMem
import Derived.Deep.QuietTactic
import Derived.BigQuiet
import Derived.Test.YticcgmegimiegaaGreatDoorDmText
import Derived.Test.YticcgmegimiegaaGreatDoorDmTextMath
import Derived.Test.YticcgmegimiegaaGreatDoorDmEv
import Derived.Deep.RegionHeld3
import Derived.IntWalk
namespace Go.Proofs.YticcgmegimiegaaGreatDoor
open Go.RowKit Go.ChangeAt Go.ChangeShapes Go.WideShapes

def ChkRel (vars : Int) (L : List (List Int)) (w1 : World) (i : Value) (wr : World) : Prop := ∃ k : Nat, k ≤ L.length ∧ i = .int .i64 k ∧ (∀ (m : Nat) (ys : List Int), m < k → L[m]? = some ys → badE vars ys = 0) ∧ Below w1.heap.size w1 wr
def ChkIn (vars : Int) (zs : List Int) (w1 : World) (i : Value) (wr : World) : Prop := ∃ k : Nat, k ≤ zs.length ∧ i = .int .i64 k ∧ (∀ l ∈ zs.take k, varI l ≤ vars) ∧ Below w1.heap.size w1 wr
set_option maxRecDepth 100000 in
set_option maxHeartbeats 2000000 in
theorem ref05_check {C : Nat} {v : Value} {L : List (List Int)} (vars : Int) (w : World) (hC : C ≤ w.heap.size) (hn : L.length ≤ 1000000000) (hz : ∀ zs ∈ L, zs.length ≤ 1000000000) (hL : RowsI C w v L) :
    Calls Tryz.prog 37 #[.agg #[.int .i64 vars, v]] w fun e w' => e = .returned (.tuple #[.int .i64 (chkI vars L).1, .int .i64 (chkI vars L).2]) ∧ Below w.heap.size w w' := by
  obtain ⟨A, cap, rfl, hat⟩ := hL.shape
  have b1 := below1a w (.cells #[.int .i64 vars, .slice A L.length cap] 69)
  have m1 := Whole.made w 69 #[.int .i64 vars, .slice A L.length cap]
  obtain ⟨w1, hw1⟩ : ∃ y, w.alloc (.cells #[.int .i64 vars, .slice A L.length cap] 69) = y := ⟨_, rfl⟩
  rw [hw1] at b1 m1
  have c0 : w1.cell? ⟨w.heap.size, 0, none⟩ = some (.int .i64 vars) := m1.cell 0
  have c1 : w1.cell? ⟨w.heap.size, 1, none⟩ = some (.slice A L.length cap) := m1.cell 1
  have HB := Lib.hid b1; have HW := Lib.hid hw1; have HAt := Lib.hid hat; have HZ := Lib.hid hz; have HL1 := Lib.hid m1.lt
  clear b1 m1 hw1 hat hL hz
  obtain ⟨r1, hr1⟩ : ∃ r, (chkI vars L).1 = r := ⟨_, rfl⟩
  obtain ⟨r2, hr2⟩ : ∃ r, (chkI vars L).2 = r := ⟨_, rfl⟩
  rw [hr1, hr2]
  by_cases hv : vars < 0 ∨ 1048576 < vars
  · rw [chkI_vars hv] at hr1 hr2
    dsimp only at hr1 hr2
    subst hr1 hr2
    rcases hv with hv | hv
    all_goals
      clear HAt HZ
      go_enter Tryz.func37, Tryz.ntmps37
      go_wp2_with fail
      rw [HW.out]
      go_ret2
      exact ⟨rfl, HB.out⟩
  · have HV := Lib.hid hv
    have hv1 : ¬ vars < 0 := by omega
    have hv2 : ¬ 1048576 < vars := by omega
    clear hv
    by_cases hm : 262144 < L.length
    · rw [chkI_many HV.out hm] at hr1 hr2
      dsimp only at hr1 hr2
      subst hr1 hr2
      have hmi : (262144 : Int) < (L.length : Int) := by omega
      clear HAt HZ hm
      go_enter Tryz.func37, Tryz.ntmps37
      go_wp2_with fail
      rw [HW.out]
      go_ret2
      exact ⟨rfl, HB.out⟩
    · have HM := Lib.hid hm
      have HR1 := Lib.hid hr1; have HR2 := Lib.hid hr2
      have hmi : ¬ (262144 : Int) < (L.length : Int) := by omega
      clear hm hr1 hr2
      go_enter Tryz.func37, Tryz.ntmps37
      go_wp2_with fail
      rw [HW.out]
      go_loopw [4] (fun i wr => ChkRel vars L w1 i wr) (fun i _ => L.length - (intOf i).toNat)
      case atStart => exact ⟨0, Nat.zero_le _, rfl, (fun m ys hm => by omega), Below.refl _ _⟩
      case round =>
        obtain ⟨k, hk, rfl, hall, hB1⟩ := hrel
        have hlt1 : w.heap.size < w1.heap.size := HL1.out
        have c0 := (hB1.cell (p := ⟨w.heap.size, 0, none⟩) hlt1).trans c0
        have c1 := (hB1.cell (p := ⟨w.heap.size, 1, none⟩) hlt1).trans c1
        have HBf := Lib.hid (below_cat HB.out hB1); have HB1 := Lib.hid hB1
        by_cases hlt : k < L.length
        · obtain ⟨zs, hx⟩ : ∃ zs, L[k]? = some zs := ⟨_, List.getElem?_eq_getElem hlt⟩
          obtain ⟨b, off, As, cs, rfl, hb, hc, hI⟩ := HAt.out k zs hx
          have hc := (HBf.out.cell (p := ⟨b, off + k, none⟩) (Nat.lt_of_lt_of_le hb hC)).trans hc
          have hI1 := hI.below (HBf.out.mono hC)
          have hzl := HZ.out zs (List.mem_of_getElem? hx)
          have hri := ref02_right C _ zs (by omega) wr hI1
          obtain ⟨_, _, esh, hcz⟩ := ints_shape hI1
          cases esh
          have hki : (k : Int) < (L.length : Int) := by omega
          have HRi := Lib.hid hri; have HAll := Lib.hid hall; have HX := Lib.hid hx; have HNx := Lib.hid hlt; have HCz := Lib.hid hcz; have HCC := Lib.hid hC; have HL := Lib.hid hlt1
          clear hri hI hI1 hall hx hb HAt HZ hcz hB1 hlt1
          cases hr : rightB zs
          · have HF := Lib.hid (chkI_at HV.out HM.out HX.out HAll.out (badE_none hr) (by decide))
            have HRr := Lib.hid hr
            clear hr
            go_wp2_with fail
            refine (HRi.out).mono ?_
            rintro e w' ⟨rfl, rfl⟩
            rw [HRr.out]
            go_wp2_with fail
            go_ret2
            exact ⟨by rw [← HR1.out, ← HR2.out, HF.out]; rfl, HBf.out⟩
          · have HRr := Lib.hid hr
            clear hr
            go_wp2_with fail
            refine (HRi.out).mono ?_
            rintro e w' ⟨rfl, rfl⟩
            rw [HRr.out]
            clear HRi
            go_wp2_with fail
            obtain ⟨w2, rfl⟩ : ∃ y : World, y = wr := ⟨_, rfl⟩
            go_loopw [6] (fun i wq => ChkIn vars zs w2 i wq) (fun i _ => zs.length - (intOf i).toNat)
            case atStart => exact ⟨0, Nat.zero_le _, rfl, (fun l hl => by cases hl), Below.refl _ _⟩
            case round =>
              obtain ⟨q, hq, rfl, hin, hB2⟩ := hrel
              have hs2 : w1.heap.size ≤ w2.heap.size := HB1.out.size
              have c0 := (hB2.cell (p := ⟨w.heap.size, 0, none⟩) (Nat.lt_of_lt_of_le HL.out hs2)).trans c0
              have c1 := (hB2.cell (p := ⟨w.heap.size, 1, none⟩) (Nat.lt_of_lt_of_le HL.out hs2)).trans c1
              by_cases hlq : q < zs.length
              · obtain ⟨bz, oz, rfl, hbz, hck⟩ := HCz.out q hlq
                have hck := (hB2.cell (p := ⟨bz, oz + q, none⟩) (Nat.lt_of_lt_of_le hbz (Nat.le_trans HCC.out HBf.out.size))).trans hck
                have htk := take_one zs hlq
                have hmem := get_mem hlq
                obtain ⟨y, hy⟩ : ∃ y, zs[q]?.getD 0 = y := ⟨_, rfl⟩
                rw [hy] at hck htk hmem
                obtain ⟨u, hu⟩ : ∃ u : Int, varI y = u := ⟨_, rfl⟩
                have hva : ∀ n, Calls Tryz.prog 77 #[.int .i64 y] (wr.drewN n) fun e w' => e = .returned (.int .i64 u) ∧ w' = wr.drewN n := fun n => by
                  have := ref_var y (wr.drewN n)
                  rw [hu] at this
                  exact this.mono fun _ _ ⟨a, b⟩ => ⟨a, b.symm⟩
                have hqi : (q : Int) < (zs.length : Int) := by omega
                have HVa := Lib.hid hva; have HTk := Lib.hid htk; have HMem := Lib.hid hmem; have HU := Lib.hid hu; have HIn := Lib.hid hin; have HNq := Lib.hid hlq; have HB2 := Lib.hid hB2
                clear hva htk hmem hu hin hy HCz hB2 hs2
                by_cases hfar : vars < u
                · have HF := Lib.hid (chkI_at HV.out HM.out HX.out HAll.out (badE_lit HRr.out HMem.out (by rw [HU.out]; exact hfar)) (by decide))
                  go_wp2_with fail
                  go_quiet (first | (go_at_call 77; exact Calls.quiet_of_same (HVa.out _)))
                  go_wp2_with fail
                  go_ret2
                  exact ⟨by rw [← HR1.out, ← HR2.out, HF.out]; rfl, below_drewN (below_cat HBf.out HB2.out) _⟩
                · go_wp2_with fail
                  go_quiet (first | (go_at_call 77; exact Calls.quiet_of_same (HVa.out _)))
                  go_wp2_with fail
                  refine ⟨⟨q + 1, HNq.out, by go_num, fun l hl => ?_, below_drewN HB2.out _⟩, ?_⟩
                  · rw [HTk.out, List.mem_append] at hl
                    rcases hl with hl | hl
                    · exact HIn.out l hl
                    · obtain rfl := List.mem_singleton.1 hl
                      rw [HU.out]
                      omega
                  · simp [intOf]; omega
              · obtain rfl : q = zs.length := by omega
                rw [List.take_length] at hin
                have HBad := Lib.hid (badE_ok HRr.out hin); have HB2 := Lib.hid hB2
                clear hin HCz hB2
                go_wp2_with fail
                refine ⟨⟨k + 1, HNx.out, by go_num, fun m ys hm hy => ?_, below_cat HB1.out HB2.out⟩, ?_⟩
                · rcases Nat.lt_or_ge m k with h | h
                  · exact HAll.out m ys h hy
                  · obtain rfl : m = k := by omega
                    rw [HX.out] at hy
                    cases hy
                    exact HBad.out
                · simp [intOf]; omega
        · obtain rfl : k = L.length := by omega
          have HF := Lib.hid (chkI_ok HV.out HM.out (fun zs hzs => by
            obtain ⟨m, hm⟩ := List.mem_iff_getElem?.1 hzs
            exact hall m zs (List.getElem?_eq_some_iff.1 hm).1 hm))
          clear hall HAt HZ hB1
          go_wp2_with fail
          go_ret2
          exact ⟨by rw [← HR1.out, ← HR2.out, HF.out]; rfl, HBf.out⟩
end Go.Proofs.YticcgmegimiegaaGreatDoor
namespace Go.Proofs.YticcgmegimiegaaGreatDoor
open Go.RowKit Go.ChangeAt Go.ChangeShapes Go.WideShapes Go.Shelf Go.Sort

theorem below_b1 (w : World) (a : Obj) : Below w.heap.size w (w.alloc a) := (Below.refl _ w).alloc (Nat.le_refl _) a
theorem dec_len (n : Nat) : (Lib.decDigits n).length ≤ n + 1 := by
  by_cases h : n = 0
  · subst h; rw [dec_step]; decide
  · have := decR_len n
    rw [decR_pos n (by omega)] at this
    omega
set_option maxRecDepth 100000 in
set_option maxHeartbeats 2000000 in
theorem dec06_any : ∀ (n : Nat), n ≤ 1048576 → ∀ w : World, Calls Tryz.prog 80 #[.int .i64 n] w fun e w' => e = .returned (str (Lib.decDigits n)) ∧ Below w.heap.size w w' := by
  intro n
  induction n using Nat.strongRecOn with
  | ind n ih =>
    intro hn w
    by_cases h : n < 10
    · have hd : Lib.decDigits n = [UInt8.ofNat (48 + n)] := by rw [dec_step, if_pos h]
      have hsl := fun W => slice_digit n h W
      rw [hd]
      obtain ⟨o, ho⟩ : ∃ o, [UInt8.ofNat (48 + n)] = o := ⟨_, rfl⟩
      rw [ho] at hsl ⊢
      have hni : (n : Int) < 10 := by omega
      have hn0 : (0 : Int) ≤ (n : Int) := by omega
      clear ho hd ih
      go_enter Tryz.func80, Tryz.ntmps80
      go_wp2_with fail
      go_ret
      exact ⟨rfl, Below.refl _ _⟩
    · have hd : Lib.decDigits n = Lib.decDigits (n / 10) ++ [UInt8.ofNat (48 + n % 10)] := by rw [dec_step, if_neg h]
      have hsl := fun W => slice_digit (n % 10) (Nat.mod_lt _ (by omega)) W
      have hih := ih (n / 10) (by omega) (by omega)
      have hl1 := dec_len (n / 10)
      obtain ⟨o, ho⟩ : ∃ o, UInt8.ofNat (48 + n % 10) = o := ⟨_, rfl⟩
      obtain ⟨A, hA⟩ : ∃ x, Lib.decDigits (n / 10) = x := ⟨_, rfl⟩
      obtain ⟨q, hq⟩ : ∃ q, n / 10 = q := ⟨_, rfl⟩
      obtain ⟨r, hr⟩ : ∃ r, n % 10 = r := ⟨_, rfl⟩
      rw [hd]
      rw [ho, hr] at hsl
      rw [ho, hA]
      rw [hA] at hih hl1
      rw [hq] at hih hl1
      have e1 : Int.tdiv (n : Int) 10 = (q : Int) := by rw [Int.tdiv_eq_ediv_of_nonneg (by omega)]; omega
      have e2 : Int.tmod (n : Int) 10 = (r : Int) := by rw [Int.tmod_eq_emod_of_nonneg (by omega)]; omega
      have hr1 : (r : Int) < 10 := by omega
      have hr0 : (0 : Int) ≤ (r : Int) := by omega
      have hni : ¬ (n : Int) < 10 := by omega
      have hA2 : A.length ≤ 1048577 := by omega
      have ew1 : IntKind.i64.wrap (q : Int) = (q : Int) := IntWalk.i64_in _ (by omega)
      have ew2 : IntKind.i64.wrap ((r : Int) + 1) = (r : Int) + 1 := IntWalk.i64_in _ (by omega)
      have hs1 : ¬ (9223372036854775807 : Int) < (A.length : Int) + 1 := by omega
      have hs2 : ¬ 9223372036854775807 < A.length + 1 := by omega
      have HIh := Lib.hid hih
      clear ih hih hd ho hA hq hr hn hl1 h
      go_enter Tryz.func80, Tryz.ntmps80
      go_wp2_with fail
      go_region_held3 (fun _ => True) (trivial) (first
        | (go_at_call 80; (with_reducible refine (HIh.out _).mono ?_); rintro e w1 ⟨rfl, hb⟩; have HB := Lib.hid hb; clear hb))
      go_wp2_with fail
      go_ret
      exact ⟨rfl, (Below.refl _ w).drew.trans (HB.out.mono (Nat.le_refl _))⟩
theorem itoa_dec (n : Nat) : Lib.itoa (n : Int) = Lib.decDigits n := by
  unfold Lib.itoa
  rw [if_neg (by omega)]
  rfl
set_option maxRecDepth 100000 in
set_option maxHeartbeats 2000000 in
theorem hdr06_any (v n : Int) (hv0 : 0 ≤ v) (hv1 : v ≤ 1048576) (hn0 : 0 ≤ n) (hn1 : n ≤ 262144) (w : World) : Calls Tryz.prog 42 #[.int .i64 v, .int .i64 n] w fun e w' => e = .returned (str (hdrL v n)) ∧ Below w.heap.size w w' := by
  obtain ⟨a, rfl⟩ : ∃ a : Nat, v = (a : Int) := ⟨v.toNat, by omega⟩
  obtain ⟨b, rfl⟩ : ∃ b : Nat, n = (b : Int) := ⟨n.toNat, by omega⟩
  have h1 := dec06_any a (by omega)
  have h2 := dec06_any b (by omega)
  have l1 := dec_len a
  have l2 := dec_len b
  unfold hdrL
  rw [itoa_dec, itoa_dec]
  obtain ⟨A, hA⟩ : ∃ x, Lib.decDigits a = x := ⟨_, rfl⟩
  obtain ⟨B, hB⟩ : ∃ x, Lib.decDigits b = x := ⟨_, rfl⟩
  rw [hA] at h1 l1 ⊢
  rw [hB] at h2 l2 ⊢
  have l1 : A.length ≤ 1048577 := by omega
  have l2 : B.length ≤ 1048577 := by omega
  have H1 := Lib.hid h1; have H2 := Lib.hid h2
  clear h1 h2 hA hB
  go_enter Tryz.func42, Tryz.ntmps42
  go_wp2_with fail
  refine (H1.out w).mono ?_
  rintro e w1 ⟨rfl, hb1⟩
  have HB1 := Lib.hid hb1; clear hb1
  go_wp2_with fail
  refine (H2.out w1).mono ?_
  rintro e w2 ⟨rfl, hb2⟩
  have HB2 := Lib.hid (HB1.out.trans (hb2.mono HB1.out.size)); clear hb2
  go_wp2_with fail
  go_ret
  refine ⟨?_, HB2.out⟩
  have hs : (({ data := #[112, 32, 99, 110, 102, 32] } : ByteArray) ++ { data := A.toArray } ++ { data := #[32] } ++ { data := B.toArray }) = { data := ([112, 32, 99, 110, 102, 32] ++ (A ++ (32 :: B))).toArray } := by
    apply ByteArray.ext
    simp [ByteArray.data_append]
  exact congrArg (fun x => Ending.returned (Value.string x)) hs
def Ln6 (w : World) (c : List Int) (o i : Value) (wr : World) : Prop := ∃ k : Nat, k ≤ c.length ∧ i = .int .i64 k ∧ o = str (wordsL (c.take k)) ∧ wr = w
set_option maxRecDepth 100000 in
set_option maxHeartbeats 2000000 in
theorem line06_any (B : Nat) (sv : Value) (c : List Int) (hc : c.length ≤ 1000000) (w : World) (hI : Ints B w sv c) : Calls Tryz.prog 41 #[sv] w fun e w' => e = .returned (str (lineL c)) ∧ w' = w := by
  obtain ⟨A, cap, rfl, hat⟩ := ints_shape hI
  obtain ⟨m, hm⟩ : ∃ m, c.length = m := ⟨_, rfl⟩
  rw [hm] at hat ⊢
  have HAt := Lib.hid hat; have HM := Lib.hid hm
  clear hat hI
  have hmi : (m : Int) ≤ 1000000 := by omega
  clear hm hc
  go_enter Tryz.func41, Tryz.ntmps41
  go_wp2_with fail
  go_loopw [3, 4] (fun o i wr => Ln6 w c o i wr) (fun _ i _ => m - (intOf i).toNat)
  case atStart => exact ⟨0, Nat.zero_le _, rfl, rfl, rfl⟩
  case round =>
    obtain ⟨k, hk, rfl, rfl, rfl⟩ := hrel
    rw [HM.out] at hk
    by_cases hlt : k < m
    · obtain ⟨b, off, rfl, -, hcell⟩ := HAt.out k hlt
      obtain ⟨x, hx⟩ : ∃ x, c[k]?.getD 0 = x := ⟨_, rfl⟩
      have hck : c[k]? = some x := by
        rw [← hx, List.getElem?_eq_getElem (by have := HM.out; omega)]
        rfl
      rw [hx] at hcell
      have hsn : wordsL (c.take (k + 1)) = wordsL (c.take k) ++ (textL x ++ [32]) := by rw [List.take_add_one, hck, Option.toList_some, wordsL_snoc]
      have hl1 := words_len (c.take k)
      have hl2 : (c.take k).length ≤ k := by rw [List.length_take]; omega
      have ht := text_len x
      have hrt := ref_text x
      obtain ⟨P, hP⟩ : ∃ P, wordsL (c.take k) = P := ⟨_, rfl⟩
      obtain ⟨T, hT⟩ : ∃ T, textL x = T := ⟨_, rfl⟩
      rw [hP] at hl1 hsn ⊢
      rw [hT] at hsn ht hrt
      have hPl : P.length ≤ 22000000 := by omega
      have hki : (k : Int) < (m : Int) := by omega
      have HRt := Lib.hid hrt; have HSn := Lib.hid hsn; have HLt := Lib.hid hlt
      clear hl1 hl2 hrt hsn hlt hx hck hP hT hk
      go_wp2_with fail
      refine (HRt.out _).mono ?_
      rintro e w1 ⟨rfl, rfl⟩
      go_wp2_with fail
      go_roundw
      case rel => exact ⟨k + 1, by have := HLt.out; have := HM.out; omega, by go_num, by rw [HSn.out]; exact congrArg Value.string (by apply ByteArray.ext; simp [ByteArray.data_append]), rfl⟩
      case measure => simp [intOf]; have := HLt.out; omega
    · obtain rfl : k = m := by omega
      have hall : c.take k = c := List.take_of_length_le (by have := HM.out; omega)
      rw [hall]
      have hl1 := words_len c
      have hl2 := HM.out
      have hln : lineL c = wordsL c ++ [48] := rfl
      obtain ⟨P, hP⟩ : ∃ P, wordsL c = P := ⟨_, rfl⟩
      rw [hP] at hl1 hln ⊢
      have hPl : P.length ≤ 22000000 := by omega
      have HLn := Lib.hid hln
      clear hl1 hl2 hall hln hP hlt
      go_wp2_with fail
      go_ret
      exact ⟨by rw [HLn.out]; exact congrArg (fun x => Ending.returned (Value.string x)) (by apply ByteArray.ext; simp [ByteArray.data_append]), rfl⟩
def Wr6 (w : World) (V : Int) (v : Value) (L : List (List Int)) (o i : Value) (wr : World) : Prop := ∃ k : Nat, k ≤ L.length ∧ i = .int .i64 k ∧ o = str (hdrL V L.length ++ [10] ++ linesF (L.take k)) ∧ (k = 0 ∨ (hdrL V L.length ++ [10] ++ linesF (L.take k)).length ≤ 4194304) ∧ Below w.heap.size w wr ∧ Whole wr w.heap.size 69 #[.int .i64 V, v]
set_option maxRecDepth 100000 in
set_option maxHeartbeats 2000000 in
theorem write06_any {B : Nat} {v : Value} {L : List (List Int)} (V : Int) (w : World) (hB : B ≤ w.heap.size) (hok : (chkI V L).2 = 0) (hL : RowsI B w v L) :
    Calls Tryz.prog 38 #[.agg #[.int .i64 V, v]] w fun e w' => e = .returned (.tuple #[str (writeT V L).1, .int .i64 (writeT V L).2]) ∧ Below w.heap.size w w' := by
  obtain ⟨A, cap, rfl, hat⟩ := hL.shape
  obtain ⟨hv0, hv1, hl, hr⟩ := chk_ok hok
  have hwt : writeT V L = if 4194304 < (textF V L).length ∧ L ≠ [] then ([], 3) else (textF V L, 0) := by unfold writeT; rw [if_pos hok]
  obtain ⟨n, hnn⟩ : ∃ n, L.length = n := ⟨_, rfl⟩
  have hb1 := below_b1 w (.cells #[.int .i64 V, .slice A L.length cap] 69)
  have m1 := Whole.made w 69 #[.int .i64 V, .slice A L.length cap]
  obtain ⟨w1, hw1⟩ : ∃ y, w.alloc (.cells #[.int .i64 V, .slice A L.length cap] 69) = y := ⟨_, rfl⟩
  rw [hw1] at hb1 m1
  have hhd := fun W => hdr06_any V n hv0 hv1 (by omega) (by omega) W
  have hhl := hdr_len hv0 hv1 (Int.natCast_nonneg n) (by omega)
  have hH : hdrL V n = hdrL V L.length := by rw [hnn]
  obtain ⟨H, hHn⟩ : ∃ H, hdrL V n = H := ⟨_, rfl⟩
  rw [hHn] at hhd hhl hH
  rw [hnn] at m1 hw1 ⊢
  have c0 : w1.cell? ⟨w.heap.size, 0, none⟩ = some (.int .i64 V) := m1.cell 0
  have c1 : w1.cell? ⟨w.heap.size, 1, none⟩ = some (.slice A n cap) := m1.cell 1
  have HAt := Lib.hid hat; have HR := Lib.hid hr; have HWt := Lib.hid hwt; have HNn := Lib.hid hnn; have HB1 := Lib.hid hb1; have HM1 := Lib.hid m1; have HW1 := Lib.hid hw1; have HHd := Lib.hid hhd; have HHl := Lib.hid hhl; have HH := Lib.hid hH; have HBw := Lib.hid hB
  clear hat hr hwt hb1 m1 hw1 hhd hH hL hok hB hHn
  rw [hnn] at hl
  clear hnn
  go_enter Tryz.func38, Tryz.ntmps38
  go_wp2_with fail
  rw [HW1.out]
  go_wp2_with fail
  refine (HHd.out w1).mono ?_
  rintro e w2 ⟨rfl, hb2⟩
  have hm2 := HM1.out.same (hb2.block _ HM1.out.lt)
  have d1 : w2.cell? ⟨w.heap.size, 1, none⟩ = some (.slice A n cap) := hm2.cell 1
  have hst : Wr6 w V (.slice A n cap) L (str (H ++ [10])) (.int .i64 0) w2 := ⟨0, Nat.zero_le _, rfl, by rw [← HH.out, List.take_zero, show linesF [] = [] from rfl, List.append_nil], .inl rfl, HB1.out.trans (hb2.mono HB1.out.size), hm2⟩
  have HSt := Lib.hid hst
  clear hb2 hm2 hst c0 c1
  go_wp2_with fail
  go_loopw [4, 5] (fun o i wr => Wr6 w V (.slice A n cap) L o i wr) (fun _ i _ => n - (intOf i).toNat)
  case atStart => exact HSt.out
  case round =>
    clear HSt d1
    obtain ⟨k, hk, rfl, rfl, hlen, hbw, hmr⟩ := hrel
    rw [HNn.out] at hk
    have e1 := hmr.cell 1
    have e1 : wr.cell? ⟨w.heap.size, 1, none⟩ = some (.slice A n cap) := e1
    obtain ⟨P, hP⟩ : ∃ P, hdrL V L.length ++ [10] ++ linesF (L.take k) = P := ⟨_, rfl⟩
    rw [hP] at hlen ⊢
    have hPl : P.length ≤ 4194304 := by
      rcases hlen with rfl | h
      · rw [← hP, ← HH.out, List.take_zero, show linesF [] = [] from rfl]
        have := HHl.out
        simp only [List.length_append, List.length_cons, List.length_nil]
        omega
      · exact h
    by_cases hlt : k < n
    · obtain ⟨c, hc⟩ : ∃ c, L[k]? = some c := ⟨_, List.getElem?_eq_getElem (by have := HNn.out; omega)⟩
      obtain ⟨b, off, As, cs, rfl, hbl, hcell, hI⟩ := HAt.out k c hc
      have hcr := (hbw.cell (p := ⟨b, off + k, none⟩) (by have := HBw.out; dsimp only; omega)).trans hcell
      have hrc := (HR.out c (List.mem_of_getElem? hc)).1
      have hrl := (rightB_of hrc).1
      have hln := line06_any B (.slice As c.length cs) c (by omega) wr (hI.below (hbw.mono HBw.out))
      have hll := line_len hrc
      have hsn : hdrL V L.length ++ [10] ++ linesF (L.take (k + 1)) = P ++ (lineL c ++ [10]) := by rw [List.take_add_one, hc, ← hP, Option.toList_some, linesF_snoc]; simp only [List.append_assoc]
      obtain ⟨T, hT⟩ : ∃ T, lineL c = T := ⟨_, rfl⟩
      rw [hT] at hln hll hsn
      have hki : (k : Int) < (n : Int) := by omega
      obtain ⟨m, hm⟩ : ∃ m, (P ++ (T ++ [10])).length = m := ⟨_, rfl⟩
      have hml : m = P.length + T.length + 1 := by rw [← hm]; simp only [List.length_append, List.length_cons, List.length_nil]; omega
      have hss : ∀ x : List UInt8, x = P ++ (T ++ [10]) → (({ data := P.toArray } : ByteArray) ++ { data := T.toArray } ++ { data := #[10] }) = { data := x.toArray } := fun x hx => by
        subst hx
        apply ByteArray.ext
        simp [ByteArray.data_append]
      have HLn := Lib.hid hln; have HSn := Lib.hid hsn; have HLt := Lib.hid hlt; have HBr := Lib.hid hbw; have HMr := Lib.hid hmr; have HMl := Lib.hid hml; have HSs := Lib.hid hss; have HMm := Lib.hid hm
      clear hln hsn hlt hbw hmr hc hcell hI hT hP hrc hrl hlen hbl hml hss hm
      go_wp2_with fail
      refine HLn.out.mono ?_
      rintro e w3 ⟨rfl, rfl⟩
      have hz : ((P.length : Int) + (T.length : Int)) + 1 = (m : Int) := by have := HMl.out; omega
      by_cases hbig : 4194304 < m
      · have hbi : (4194304 : Int) < (m : Int) := by omega
        go_wp2_with fail
        go_ret2
        have hw : writeT V L = ([], 3) := by
          have h1 := linesF_le L (k + 1)
          have h2 := congrArg List.length HSn.out
          rw [HWt.out, if_pos ⟨by have := HMm.out; unfold textF; simp only [List.length_append, List.length_cons, List.length_nil] at h2 this ⊢; omega, fun e => by have := HLt.out; have := HNn.out; rw [e] at this; simp at this; omega⟩]
        exact ⟨by rw [hw]; rfl, HBr.out⟩
      · have hbi : ¬ (4194304 : Int) < (m : Int) := by omega
        go_wp2_with fail
        go_roundw
        case rel => exact ⟨k + 1, by have := HLt.out; have := HNn.out; omega, by go_num, by rw [HSn.out]; exact congrArg Value.string (HSs.out _ rfl), .inr (by rw [HSn.out, HMm.out]; omega), HBr.out, HMr.out⟩
        case measure => simp [intOf]; have := HLt.out; omega
    · obtain rfl : k = n := by omega
      have hPt : P = textF V L := by rw [← hP, List.take_of_length_le (by have := HNn.out; omega)]; rfl
      rw [hPt] at hlen ⊢
      have hw : writeT V L = (textF V L, 0) := by
        rw [HWt.out, if_neg]
        rintro ⟨h1, h2⟩
        rcases hlen with h | h
        · exact h2 (List.eq_nil_of_length_eq_zero (by have := HNn.out; omega))
        · omega
      have HBr := Lib.hid hbw
      obtain ⟨T, hT⟩ : ∃ T, textF V L = T := ⟨_, rfl⟩
      rw [hT] at hlen hw ⊢
      have HW := Lib.hid hw
      clear hlen hPt hP hPl hlt hw hbw hmr hT
      go_wp2_with fail
      go_ret2
      exact ⟨by rw [HW.out]; rfl, HBr.out⟩
end Go.Proofs.YticcgmegimiegaaGreatDoor
