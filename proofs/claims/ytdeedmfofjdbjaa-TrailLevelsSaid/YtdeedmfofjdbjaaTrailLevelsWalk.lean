/- The walk of TrailLevels. -/
import Derived.Test.YtdeedmfofjdbjaaTrLevMath
import Derived.Test.YtdeedmfofjdbjaaTrLiterals
import Derived.Test.YtdeedmfofjdbjaaEqual
import Derived.Deep.RegionHeld3
import Derived.Deep.QuietTactic
import Derived.BigQuiet
namespace Go.Proofs.Ytdeedmfofjdbjaa.trailLevels
open Go.RowKit Go.ChangeAt Go.ChangeShapes Go.WideShapes

/-- The first loop: the world stays. -/
def Rel1 (n : Nat) (w2 : World) (i : Value) (wr : World) : Prop := ∃ k : Nat, k ≤ n ∧ i = .int .i64 k ∧ wr = w2
def Rel2 (its : List It) (w2 : World) (c v : Value) (wr : World) : Prop := ∃ k : Nat, k ≤ 8 ∧ v = .int .i64 ((k : Int) + 1) ∧ c = .int .i64 (cntV its k : Nat) ∧ Below w2.heap.size w2 wr
def Rel3 (n : Nat) (w2 : World) (i : Value) (wr : World) : Prop := ∃ k : Nat, k ≤ n ∧ i = .int .i64 k ∧ Below w2.heap.size w2 wr
theorem val_is {nv : Nat} {its : List It} {st : List Nat} {K : Nat → Prop} {w : World} {g : Nat} (h : Trl K w g nv its st) (l x : Int) (hx : valI its l = x) : Calls Try.prog 26 #[.pointer (some ⟨g, 0, none⟩), .int .i64 l] w fun r W' => r = .returned (.int .i64 x) ∧ Below w.heap.size w W' := by
  rw [← hx]; exact value_tr l w h
theorem own_atx {w : World} {B : Nat} {e : TypeId} {A : Option Addr} {n cap k : Nat} {xs : List Int} {x : Int} (h : w.ownsRow B e 1 (.slice A n cap) n (xs.map (Value.int .i64))) (hx : xs[k]? = some x) : ∃ bp, A = some ⟨bp, 0, none⟩ ∧ n ≤ cap ∧ bp < w.heap.size ∧ w.cell? ⟨bp, k, none⟩ = some (.int .i64 x) := own_at h hx
set_option maxRecDepth 100000 in
set_option maxHeartbeats 4000000 in
theorem core (v : Value) (zs : List Int) (w : World) (hI : IntsK .u8 w.heap.size w v zs) (hF : Fits v) (hm : zs.length ≤ maxLen) (hw : ∀ x ∈ zs, (Lit.int .u8 x).wf = true) :
    Calls Try.prog 6 #[v] w fun e w' => e = .returned (.bool true) ∧ Below w.heap.size w w' := by
  have hput := put_any v zs w hI hF hm hw
  obtain ⟨A0, cap0, rfl, -⟩ := intsK_shape hI
  have HPut := Lib.hid hput
  clear hput hI hF hm hw
  go_enter Try.func6, Try.ntmps6
  go_wp2_with fail
  refine (HPut.out).mono ?_
  rintro r w1 ⟨g, K, its, st, al, lv, rfl, hst, hP⟩
  obtain ⟨sl, hsl⟩ : ∃ sl : Int, (st.length : Int) = sl := ⟨_, rfl⟩
  have hs0 : 0 ≤ sl := by omega
  have hs4 : sl ≤ 40 := by omega
  have hnow := fun W (h : Trl K W g 8 its st) => now_tr W h
  rw [hsl] at hnow
  have HNow := Lib.hid hnow; have HSl := Lib.hid hsl
  obtain ⟨m, hml⟩ : ∃ m, its.length = m := ⟨_, rfl⟩
  have hm8 := hP.tr.good.len
  have hall := hP.all
  have hlev := hP.lev
  rw [litsOf_len, hml] at hall
  rw [levsOf_len, hml] at hlev
  obtain ⟨Aa, ca, rfl⟩ := own_shape1 hall
  obtain ⟨Al, cl, rfl⟩ := own_shape1 hlev
  rw [hml] at hm8
  have hlen := fun W (h : Trl K W g 8 its st) => len_tr W h
  rw [hml] at hlen
  have HLen := Lib.hid hlen
  have HMl := Lib.hid hml
  have HP := Lib.hid hP
  clear hP hall hnow hsl hml HPut hst hlev hlen
  go_wp2_with fail
  refine (HLen.out _ HP.out.tr).mono ?_
  rintro r w' ⟨rfl, rfl⟩
  go_wp2_with fail
  refine (literals_tr _ HP.out.tr).mono ?_
  rintro r x4 ⟨lv4, rfl, hr4, hb4⟩
  have HP6 := Lib.hid (HP.out.on hb4)
  have HR4 := Lib.hid hr4
  clear hr4 hb4 HP
  go_wp2_with fail
  have hra : x4.ownsRow w.heap.size 36 1 (.slice Aa m ca) (litsOf its).length ((litsOf its).map (Value.int .i64)) := HP6.out.all
  have hlm : (litsOf its).length ≤ 8 := by rw [litsOf_len, HMl.out]; exact hm8
  refine (equal_cl _ (by omega) (by omega) (ints_own HR4.out) (ints_own hra)).mono ?_
  rintro r x5 ⟨rfl, q, rfl⟩
  rw [beq_self_eq_true]
  have HP7 := Lib.hid (HP6.out.on (below_drewN (Below.refl _ _) q))
  obtain ⟨w2, hw2⟩ : ∃ W, x4.drewN q = W := ⟨_, rfl⟩
  rw [hw2] at HP7 ⊢
  clear hra hlm HP6 HR4 hw2
  go_wp2_with fail
  refine (HNow.out _ HP7.out.tr).mono ?_
  rintro r x6 ⟨rfl, rfl⟩
  go_wp2_with fail
  have hlv : w2.ownsRow w.heap.size 3 1 (.slice Al m cl) m ((levsOf its).map (Value.int .i64)) := by
    have := HP7.out.lev
    rw [levsOf_len, HMl.out] at this
    exact this
  have hal : w2.ownsRow w.heap.size 36 1 (.slice Aa m ca) m ((litsOf its).map (Value.int .i64)) := by
    have := HP7.out.all
    rw [litsOf_len, HMl.out] at this
    exact this
  have HLv := Lib.hid hlv; have HAl := Lib.hid hal
  clear hlv hal
  go_loopw [41] (fun i wr => Rel1 (st.length + 1) w2 i wr) (fun i _ => st.length + 1 - (intOf i).toNat)
  case atStart => exact ⟨0, Nat.zero_le _, rfl, rfl⟩
  case round =>
    obtain ⟨k, hk, rfl, rfl⟩ := hrel
    by_cases hlt : k < st.length + 1
    · have hks : (k : Int) < sl + 1 := by have := HSl.out; omega
      have hk41 : (k : Int) ≤ 41 := by omega
      obtain ⟨q, hq, hqm, hF1, hF2, hF0⟩ : ∃ q : Nat, startI st (k : Int) = (q : Int) ∧ q ≤ m ∧ (q < m → ∃ y : Int, (levsOf its)[q]? = some y ∧ (k : Int) ≤ y) ∧ (∀ p, q = p + 1 → ∃ z : Int, (levsOf its)[p]? = some z ∧ z < (k : Int)) ∧ (k = 0 → q = 0) := by
        have hgd := HP7.out.tr.good
        have hmm := HMl.out
        cases k with
        | zero =>
          refine ⟨0, startI_0 st, Nat.zero_le _, fun h => ?_, (fun p h => by omega), fun _ => rfl⟩
          obtain ⟨x, hx⟩ : ∃ x, its[0]? = some x := ⟨its[0]'(by omega), List.getElem?_eq_getElem _⟩
          exact ⟨_, levsOf_at hx, by omega⟩
        | succ j =>
          have hj : j < st.length := by omega
          have hle := hgd.le st[j] (List.getElem_mem _)
          refine ⟨st[j], startI_succ hj, by omega, fun h => ?_, fun p h => ?_, fun h => by omega⟩
          · obtain ⟨x, hx⟩ : ∃ x, its[st[j]]? = some x := ⟨its[st[j]]'(by omega), List.getElem?_eq_getElem _⟩
            exact ⟨_, levsOf_at hx, by have := hgd.lev_ge hj hx; omega⟩
          · obtain ⟨x, hx⟩ : ∃ x, its[p]? = some x := ⟨its[p]'(by omega), List.getElem?_eq_getElem _⟩
            exact ⟨_, levsOf_at hx, by have := hgd.lev_lt hj h.symm hx; omega⟩
      have hst := start_tr (k : Int) (by omega) (by omega) wr HP7.out.tr
      rw [hq] at hst
      have HSt := Lib.hid hst
      clear hst hq
      have hqm' : (q : Int) ≤ (m : Int) := by omega
      by_cases hk0 : k = 0
      · obtain rfl := hF0 hk0
        subst hk0
        clear hF0 hF2
        by_cases hm0 : 0 < m
        · obtain ⟨y, hy, hky⟩ := hF1 hm0
          obtain ⟨bl, rfl, -, hbl, hcy⟩ := own_atx HLv.out hy
          have hm0' : (0 : Int) < (m : Int) := by omega
          have hky' : ¬ y < 0 := by omega
          clear hF1 hy hky
          go_wp2_with (go_at_call 20; refine (HSt.out).mono ?_; rintro r x7 ⟨rfl, rfl⟩)
          exact ⟨⟨1, by omega, rfl, rfl⟩, by simp [intOf]⟩
        · have hm0' : ¬ (0 : Int) < (m : Int) := by omega
          clear hF1
          go_wp2_with (go_at_call 20; refine (HSt.out).mono ?_; rintro r x7 ⟨rfl, rfl⟩)
          exact ⟨⟨1, by omega, rfl, rfl⟩, by simp [intOf]⟩
      · have hk0' : ¬ ((k : Int) = 0) := by omega
        have hk1 : (0 : Int) < (k : Int) := by omega
        clear hF0
        by_cases hm0 : q < m
        · obtain ⟨y, hy, hky⟩ := hF1 hm0
          obtain ⟨bl, rfl, -, hbl, hcy⟩ := own_atx HLv.out hy
          have hm0' : (q : Int) < (m : Int) := by omega
          have hky' : ¬ y < (k : Int) := by omega
          clear hF1 hy hky
          cases q with
          | zero =>
            clear hF2
            go_wp2_with (go_at_call 20; refine (HSt.out).mono ?_; rintro r x7 ⟨rfl, rfl⟩)
            exact ⟨⟨k + 1, by omega, by go_num, rfl⟩, by simp [intOf]; omega⟩
          | succ p =>
            obtain ⟨z, hz, hkz⟩ := hF2 p rfl
            obtain ⟨bl2, hbl2, -, -, hcz⟩ := own_atx HLv.out hz
            obtain rfl : bl = bl2 := by injection hbl2 with h; injection h
            have hp1 : ((p + 1 : Nat) : Int) - 1 = (p : Int) := by omega
            have hp0 : (0 : Int) < ((p + 1 : Nat) : Int) := by omega
            have hpm : (p : Int) < (m : Int) := by omega
            have hkz' : ¬ (k : Int) ≤ z := by omega
            clear hF2 hz hbl2 hkz
            go_wp2_with (go_at_call 20; refine (HSt.out).mono ?_; rintro r x7 ⟨rfl, rfl⟩)
            exact ⟨⟨k + 1, by omega, by go_num, rfl⟩, by simp [intOf]; omega⟩
        · have hm0' : ¬ (q : Int) < (m : Int) := by omega
          clear hF1
          cases q with
          | zero =>
            clear hF2
            go_wp2_with (go_at_call 20; refine (HSt.out).mono ?_; rintro r x7 ⟨rfl, rfl⟩)
            exact ⟨⟨k + 1, by omega, by go_num, rfl⟩, by simp [intOf]; omega⟩
          | succ p =>
            obtain ⟨z, hz, hkz⟩ := hF2 p rfl
            obtain ⟨bl, rfl, -, hbl, hcz⟩ := own_atx HLv.out hz
            have hp1 : ((p + 1 : Nat) : Int) - 1 = (p : Int) := by omega
            have hp0 : (0 : Int) < ((p + 1 : Nat) : Int) := by omega
            have hpm : (p : Int) < (m : Int) := by omega
            have hkz' : ¬ (k : Int) ≤ z := by omega
            clear hF2 hz hkz
            go_wp2_with (go_at_call 20; refine (HSt.out).mono ?_; rintro r x7 ⟨rfl, rfl⟩)
            exact ⟨⟨k + 1, by omega, by go_num, rfl⟩, by simp [intOf]; omega⟩
    · obtain rfl : k = st.length + 1 := by omega
      have hkk : ((st.length + 1 : Nat) : Int) = sl + 1 := by have := HSl.out; omega
      rw [hkk]
      clear hkk hlt hk
      go_wp2_with fail
      go_loopw [10, 11] (fun c v wx => Rel2 its wr c v wx) (fun _ v _ => 9 - (intOf v).toNat)
      case atStart => exact ⟨0, Nat.zero_le _, rfl, rfl, Below.refl _ _⟩
      case round =>
        obtain ⟨k, hk, rfl, rfl, hB⟩ := hrel
        have HP8 := Lib.hid (HP7.out.on hB); have HB := Lib.hid hB
        clear hB
        have hvars := vars_tr _ HP8.out.tr
        have HVars := Lib.hid hvars
        clear hvars
        by_cases hlt : k < 8
        · obtain ⟨y, hy⟩ : ∃ y, valI its ((k : Int) + 1) = y := ⟨_, rfl⟩
          have hfl := HP8.out.tr.good.val_flip ((k : Int) + 1) (by omega)
          rw [hy] at hfl
          have hcs := cntV_succ its k
          have hna : ((k : Int) + 1).natAbs = k + 1 := by omega
          have hk8 : (k : Int) + 1 ≤ 8 := by omega
          have hk0 : (0 : Int) ≤ (k : Int) := by omega
          have hcb : cntV its k ≤ 8 := by
            unfold cntV
            exact Nat.le_trans (List.length_filter_le _ _) (by rw [List.length_range]; omega)
          obtain ⟨c, hc⟩ : ∃ c, cntV its k = c := ⟨_, rfl⟩
          rw [hc] at hcs hcb ⊢
          have HY := Lib.hid hy; have HFl := Lib.hid hfl
          clear hfl hc
          have hq : (y = 0 ∧ cntV its (k + 1) = c) ∨ ((y = 1 ∨ y = -1) ∧ cntV its (k + 1) = c + 1) := by
            rcases val_mem its ((k : Int) + 1) with h | h | h
            · have hm := val_has (its := its) (l := (k : Int) + 1) (by rw [h]; decide)
              rw [hna] at hm
              rw [if_pos hm] at hcs
              exact .inr ⟨.inl (by omega), hcs⟩
            · have hm := val_has (its := its) (l := (k : Int) + 1) (by rw [h]; decide)
              rw [hna] at hm
              rw [if_pos hm] at hcs
              exact .inr ⟨.inr (by omega), hcs⟩
            · have hm := val_hasnt (its := its) (l := (k : Int) + 1) h
              rw [hna] at hm
              rw [if_neg hm] at hcs
              exact .inl ⟨by omega, by omega⟩
          clear hcs hy hna
          have hstep : ∀ y' : Int, y' = -y → -y' = y := fun y' h => by omega
          rcases hq with ⟨hyv, hcs⟩ | ⟨hyv | hyv, hcs⟩
          all_goals
            subst hyv
            have HCs := Lib.hid hcs
            clear hcs hstep
            go_wp2_with (go_at_call 27; refine (HVars.out).mono ?_; rintro r x7 ⟨rfl, rfl⟩)
            refine (val_is HP8.out.tr _ _ HY.out).mono ?_
            rintro r x8 ⟨rfl, hb⟩
            have HP9 := Lib.hid (HP8.out.on hb); have HB9 := Lib.hid (HB.out.trans (hb.mono HB.out.size))
            clear hb
            go_wp2_with fail
            refine (val_is HP9.out.tr _ _ HFl.out).mono ?_
            rintro r x9 ⟨rfl, hb⟩
            have HP10 := Lib.hid (HP9.out.on hb); have HB10 := Lib.hid (HB9.out.trans (hb.mono HB9.out.size))
            clear hb
            go_wp2_with fail
            refine (val_is HP10.out.tr _ _ HY.out).mono ?_
            rintro r x10 ⟨rfl, hb⟩
            have HB11 := Lib.hid (HB10.out.trans (hb.mono HB10.out.size))
            clear hb
            go_wp2_with fail
            exact ⟨⟨k + 1, by omega, by go_num, by first | (rw [HCs.out]; done) | (rw [HCs.out]; go_num), HB11.out⟩, by simp [intOf]; omega⟩
        · obtain rfl : k = 8 := by omega
          have hcm : cntV its 8 = m := by rw [HP8.out.tr.good.cnt, HMl.out]
          rw [hcm, show ((8 : Nat) : Int) + 1 = 9 from rfl]
          clear hcm hlt hk
          go_wp2_with (go_at_call 27; refine (HVars.out).mono ?_; rintro r x7 ⟨rfl, rfl⟩)
          go_loopw [130] (fun i wx => Rel3 m wr i wx) (fun i _ => m - (intOf i).toNat)
          case atStart => exact ⟨0, Nat.zero_le _, rfl, Below.refl _ _⟩
          case round =>
            obtain ⟨k, hk, rfl, hB2⟩ := hrel
            have HP9 := Lib.hid (HP8.out.on hB2); have HB2 := Lib.hid hB2
            clear hB2
            by_cases hlt : k < m
            · have hal : _ := HP9.out.all
              have hlv : _ := HP9.out.lev
              have hmm := HMl.out
              rw [litsOf_len, hmm] at hal
              rw [levsOf_len, hmm] at hlv
              obtain ⟨x, hx⟩ : ∃ x, its[k]? = some x := ⟨its[k]'(by omega), List.getElem?_eq_getElem _⟩
              obtain ⟨ba, rfl, hca, hba, hcx⟩ := own_atx hal (litsOf_at hx)
              obtain ⟨bl, rfl, -, hbl, hcy⟩ := own_atx hlv (levsOf_at hx)
              have hgd := HP9.out.tr.good
              have n1 := hgd.not_before hx (l := -x.lit) (by show (-x.lit).natAbs = x.lit.natAbs; omega)
              have n2 := hgd.not_before hx (l := x.lit) rfl
              have hin := ints_own (xs := (litsOf its).take k) (by rw [List.map_take]; exact own_take hal (Nat.le_of_lt hlt))
              have htl : ((litsOf its).take k).length ≤ 1000000 := by rw [List.length_take]; omega
              have hc1 := fun (W : World) (hb : Below _ _ W) => contains_tr (-x.lit) W htl (hin.below hb) n1
              have hc2 := fun (W : World) (hb : Below _ _ W) => contains_tr x.lit W htl (hin.below hb) n2
              have hprev : ∀ p, k = p + 1 → ∃ z : Int, (levsOf its)[p]? = some z ∧ z ≤ (x.level : Int) := fun p hp => by
                obtain ⟨y, hy⟩ : ∃ y, its[p]? = some y := ⟨its[p]'(by omega), List.getElem?_eq_getElem _⟩
                exact ⟨_, levsOf_at hy, by have := hgd.lev_mono (show p ≤ k by omega) hy hx; omega⟩
              have hks : (k : Int) < (m : Int) := by omega
              have hk8 : (k : Int) < 8 := by omega
              have hkc : (k : Int) ≤ (ca : Int) := by omega
              have hkc' : k ≤ ca := by omega
              have hxl : 1 ≤ x.lit.natAbs ∧ x.lit.natAbs ≤ 8 := hgd.lit x (List.mem_of_getElem? hx)
              have hy0 : -8 ≤ x.lit := by omega
              have hy1 : x.lit ≤ 8 := by omega
              obtain ⟨y, hy⟩ : ∃ y, x.lit = y := ⟨_, rfl⟩
              rw [hy] at hy0 hy1
              obtain ⟨e, he⟩ : ∃ e : Int, (x.level : Int) = e := ⟨_, rfl⟩
              rw [hy] at hcx hc1 hc2
              rw [he] at hcy hprev
              have HC1 := Lib.hid hc1; have HC2 := Lib.hid hc2
              clear hc1 hc2 hin htl n1 n2 hgd hal hx hy he hmm HAl HLv hxl
              cases k with
              | zero =>
                clear hprev hlv
                have hd : decide ((0 : Int) < 0) = false := by decide
                rw [show ((0 : Nat) : Int) = 0 from rfl]
                go_upto_region 23 with fail
                go_quiet (first
                  | (go_at_call 32; exact Calls.quiet_of_same ((HC1.out _ (below_drewN (Below.refl _ _) _)).mono fun _ _ ⟨he, hw⟩ => ⟨he, hw.symm⟩))
                  | (go_at_call 32; exact Calls.quiet_of_same ((HC2.out _ (below_drewN (Below.refl _ _) _)).mono fun _ _ ⟨he, hw⟩ => ⟨he, hw.symm⟩)))
                go_wp2_with fail
                exact ⟨⟨_, hlt, by go_num, HB2.out.trans (below_drewN (Below.refl _ _) _ |>.mono HB2.out.size)⟩, by simp [intOf]; omega⟩
              | succ p =>
                obtain ⟨z, hz, hze⟩ := hprev p rfl
                obtain ⟨bl2, hbl2, -, -, hcz⟩ := own_atx hlv hz
                obtain rfl : bl = bl2 := by injection hbl2 with h; injection h
                have hp1 : ((p + 1 : Nat) : Int) - 1 = (p : Int) := by omega
                have hp0 : (0 : Int) < ((p + 1 : Nat) : Int) := by omega
                have hpm : (p : Int) < (m : Int) := by omega
                have hze' : ¬ e < z := by omega
                clear hprev hz hbl2 hze hlv
                go_upto_region 23 with fail
                go_quiet (first
                  | (go_at_call 32; exact Calls.quiet_of_same ((HC1.out _ (below_drewN (Below.refl _ _) _)).mono fun _ _ ⟨he, hw⟩ => ⟨he, hw.symm⟩))
                  | (go_at_call 32; exact Calls.quiet_of_same ((HC2.out _ (below_drewN (Below.refl _ _) _)).mono fun _ _ ⟨he, hw⟩ => ⟨he, hw.symm⟩)))
                go_wp2_with fail
                exact ⟨⟨_, hlt, by go_num, HB2.out.trans (below_drewN (Below.refl _ _) _ |>.mono HB2.out.size)⟩, by simp [intOf]; omega⟩
            · obtain rfl : k = m := by omega
              have hvars := vars_tr _ HP9.out.tr
              have HVars2 := Lib.hid hvars
              clear hvars
              go_wp2_with (go_at_call 27; refine (HVars2.out).mono ?_; rintro r x7 ⟨rfl, rfl⟩)
              refine (trawake_any _).mono ?_
              rintro r x8 ⟨rfl, hb⟩
              have HB9 := Lib.hid (HP9.out.below.trans (hb.mono HP9.out.below.size))
              clear hb
              go_wp2_with fail
              go_ret
              exact ⟨rfl, HB9.out⟩
theorem trailLevels_walk (v : Value) (zs : List Int) (hm : zs.length ≤ maxLen) (hw : ∀ x ∈ zs, (Lit.int .u8 x).wf = true) (hF : Fits v) (w : World) (hI : IntsK .u8 w.heap.size w v zs) :
    Calls Try.prog 6 #[v] w fun e w' => e = .returned (.bool true) ∧ Below w.heap.size w w' := core v zs w hI hF hm hw
end Go.Proofs.Ytdeedmfofjdbjaa.trailLevels
