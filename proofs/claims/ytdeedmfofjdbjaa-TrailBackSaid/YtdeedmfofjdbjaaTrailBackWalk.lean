/- The walk of TrailBack. -/
import Derived.Test.YtdeedmfofjdbjaaTrLevMath
import Derived.Test.YtdeedmfofjdbjaaTrLiterals
import Derived.Test.YtdeedmfofjdbjaaEqual
import Derived.Deep.RegionHeld3
import Derived.Deep.DeepCutAuto
namespace Go.Proofs.Ytdeedmfofjdbjaa.trailBack
open Go.RowKit Go.ChangeAt Go.ChangeShapes Go.WideShapes

theorem end_level {nv : Nat} {its : List It} {st : List Nat} (h : TG nv its st) {k : Nat} (hk : k ≤ st.length) {p : Nat} {x : It} (hx : its[p]? = some x) : (p < endOf its st k ↔ x.level ≤ k) := by
  have hl := (List.getElem?_eq_some_iff.1 hx).1
  have hlev := h.lev p x hx
  rcases Nat.lt_or_ge k st.length with h1 | h1
  · have he : endOf its st k = st[k] := by unfold endOf; rw [List.getElem?_eq_getElem h1]; rfl
    rw [he]
    constructor
    · intro h2; rw [hlev]; exact countP_le' h.inc h1 h2
    · intro h2
      rcases Nat.lt_or_ge p st[k] with h3 | h3
      · exact h3
      · have := countP_ge h.inc h1 h3
        omega
  · obtain rfl : k = st.length := by omega
    rw [endOf_now]
    have : st.countP (fun s => decide (s ≤ p)) ≤ st.length := List.countP_le_length
    constructor
    · intro _; omega
    · intro _; exact hl
def Rel1 (N : Nat) (w2 : World) (i : Value) (wr : World) : Prop := ∃ j : Nat, j ≤ N ∧ i = .int .i64 j ∧ wr = w2
def Rel2 (m : Nat) (w2 : World) (i : Value) (wr : World) : Prop := ∃ j : Nat, j ≤ m ∧ i = .int .i64 j ∧ Below w2.heap.size w2 wr
def Rel3 (w : World) (g : Nat) (its : List It) (st2 : List Nat) (al lv : Value) (xs ls : List Int) (N m : Nat) (i : Value) (wr : World) : Prop :=
  ∃ (j : Nat) (K : Nat → Prop) (its3 : List It), N + j ≤ m ∧ i = .int .i64 j ∧ its3.length = N + j ∧ (∀ y ∈ its3, ∃ p x, its[p]? = some x ∧ p < N + j ∧ y.vr = x.vr) ∧ PS w g 8 its3 st2 al lv xs ls K wr
theorem val_is {nv : Nat} {its : List It} {st : List Nat} {K : Nat → Prop} {w : World} {g : Nat} (h : Trl K w g nv its st) (l x : Int) (hx : valI its l = x) : Calls Try.prog 26 #[.pointer (some ⟨g, 0, none⟩), .int .i64 l] w fun r W' => r = .returned (.int .i64 x) ∧ Below w.heap.size w W' := by
  rw [← hx]; exact value_tr l w h
theorem var_is (l : Int) (v : Int) (hv : varI l = v) (w : World) : Calls Try.prog 31 #[.int .i64 l] w fun e w' => e = .returned (.int .i64 v) ∧ w = w' := by
  rw [← hv]; exact var_any l w
theorem eq_part {w W : World} {g N m k : Nat} {its : List It} {st : List Nat} {Aa : Option Addr} {ca : Nat} {lv v4 : Value} {K : Nat → Prop} {B : Nat}
    (hP : PS w g 8 (its.take N) (st.take k) (.slice Aa m ca) lv (litsOf its) (levsOf its) K W) (hr : W.ownsRow B 36 1 v4 N ((litsOf (its.take N)).map (Value.int .i64))) (hN : N ≤ m) (hm : its.length = m) (hl : (its.take N).length = N) :
    Calls Try.prog 29 #[v4, .slice Aa N ca] W fun e w' => e = .returned (.bool true) ∧ ∃ q, w' = W.drewN q := by
  have h1 := hP.all
  have hlen := hP.tr.good.len
  rw [litsOf_len, hm] at h1
  have h2 := own_take h1 hN
  rw [← List.map_take, ← litsOf_take] at h2
  have hl2 : (litsOf (its.take N)).length = N := by rw [litsOf_len, hl]
  refine (equal_cl _ (by omega) (by omega) (ints_own hr) (ints_own h2)).mono ?_
  rintro r w' ⟨rfl, h⟩
  rw [beq_self_eq_true]
  exact ⟨rfl, h⟩
set_option maxRecDepth 100000 in
set_option maxHeartbeats 4000000 in
theorem core (v : Value) (zs : List Int) (tz : Int) (ht0 : 0 ≤ tz) (ht1 : tz ≤ 255) (w : World) (hI : IntsK .u8 w.heap.size w v zs) (hF : Fits v) (hm : zs.length ≤ maxLen) (hw : ∀ x ∈ zs, (Lit.int .u8 x).wf = true) :
    Calls Try.prog 5 #[v, .int .u8 tz] w fun e w' => e = .returned (.bool true) ∧ Below w.heap.size w w' := by
  have hput := put_any v zs w hI hF hm hw
  obtain ⟨A0, cap0, rfl, -⟩ := intsK_shape hI
  have HPut := Lib.hid hput
  clear hput hI hF hm hw
  go_enter Try.func5, Try.ntmps5
  go_wp2_with fail
  refine (HPut.out).mono ?_
  rintro r w1 ⟨g, K, its, st, al, lv, rfl, hst, hP⟩
  obtain ⟨sl, hsl⟩ : ∃ sl : Int, (st.length : Int) = sl := ⟨_, rfl⟩
  have hs0 : 0 ≤ sl := by omega
  have hs4 : sl ≤ 40 := by omega
  have hnow := fun W (h : Trl K W g 8 its st) => now_tr W h
  rw [hsl] at hnow
  have HNow := Lib.hid hnow; have HSl := Lib.hid hsl
  obtain ⟨m, hml⟩ : ∃ m, its.length = m := ⟨_, rfl⟩
  have hm8 := hP.tr.good.len
  have hall := hP.all
  have hlev := hP.lev
  rw [litsOf_len, hml] at hall
  rw [levsOf_len, hml] at hlev
  obtain ⟨Aa, ca, rfl⟩ := own_shape1 hall
  obtain ⟨Al, cl, rfl⟩ := own_shape1 hlev
  rw [hml] at hm8
  have HMl := Lib.hid hml
  have HP := Lib.hid hP
  -- the level
  obtain ⟨k, hk⟩ : ∃ k : Nat, tz % (sl + 1) = (k : Int) := ⟨(tz % (sl + 1)).toNat, (Int.toNat_of_nonneg (Int.emod_nonneg _ (by omega))).symm⟩
  have hkl : (k : Int) < sl + 1 := by rw [← hk]; exact Int.emod_lt_of_pos _ (by omega)
  have hq : tz.tmod (sl + 1) = (k : Int) := by rw [Int.tmod_eq_emod_of_nonneg ht0, hk]
  have hnz : ¬ (sl + 1 = 0) := by omega
  have hks : k ≤ st.length := by omega
  have hback := back_tr k hks w1 hP.tr
  obtain ⟨N, hN⟩ : ∃ N, endOf its st k = N := ⟨_, rfl⟩
  have hNm := hP.tr.good.end_le k
  have helv := fun p x (hx : its[p]? = some x) => end_level hP.tr.good hks hx
  rw [hN] at hback hNm helv
  rw [hml] at hNm
  have hgd := hP.tr.good
  have HBk := Lib.hid hback; have HEl := Lib.hid helv; have HGd := Lib.hid hgd; have HKs := Lib.hid hks
  clear hP hall hnow hsl hml HPut hst hlev hk hback helv hN hgd hks
  have hwt : IntKind.i64.wrap tz = tz := by rw [IntKind.wrap_i64]; omega
  go_wp2_with fail
  refine (HNow.out _ HP.out.tr).mono ?_
  rintro r w' ⟨rfl, rfl⟩
  go_wp2_with fail
  refine (HBk.out).mono ?_
  rintro r w2 ⟨K2, rfl, hA2, hT2⟩
  have HP2 := Lib.hid (HP.out.turn hT2 hA2)
  clear hA2 hT2 HBk HP HNow
  have hnow2 := now_tr w2 HP2.out.tr
  rw [show (st.take k).length = k by rw [List.length_take]; have := HKs.out; omega] at hnow2
  have HNow2 := Lib.hid hnow2
  clear hnow2
  go_wp2_with fail
  refine (HNow2.out).mono ?_
  rintro r w' ⟨rfl, rfl⟩
  go_upto_region 7 with fail
  go_cut [10] (fun s10 wx => s10 = .int .i64 0 ∧ PS w g 8 (its.take N) (st.take k) (.slice Aa m ca) (.slice Al m cl) (litsOf its) (levsOf its) K2 wx)
  case first =>
    go_wp2_with fail
    go_meet
    exact ⟨rfl, HP2.out⟩
  case rest =>
    obtain ⟨rfl, hPc⟩ := hcut
    clear HP2 HNow2
    have HP2 := Lib.hid hPc
    clear hPc
    rename_i hKK
    refine hKK _ _ ?_
    refine wp_seq_k fun K0 hK0 => ?_
    go_cut [10] from 44 (fun s10 wx => s10 = .int .i64 N ∧ PS w g 8 (its.take N) (st.take k) (.slice Aa m ca) (.slice Al m cl) (litsOf its) (levsOf its) K2 wx)
    case first =>
      have hlv : _ := HP2.out.lev
      have hmm := HMl.out
      rw [levsOf_len, hmm] at hlv
      have HLv := Lib.hid hlv
      clear hlv hmm
      go_wp2_with fail
      go_loopw [10] (fun i wr => Rel1 N wc i wr) (fun i _ => N - (intOf i).toNat)
      case atStart => exact ⟨0, Nat.zero_le _, rfl, rfl⟩
      case round =>
        obtain ⟨j, hj, rfl, rfl⟩ := hrel
        by_cases hlt : j < m
        · obtain ⟨x, hx⟩ : ∃ x, its[j]? = some x := ⟨its[j]'(by have := HMl.out; omega), List.getElem?_eq_getElem _⟩
          obtain ⟨bl, rfl, -, hbl, hcy⟩ := own_at HLv.out (levsOf_at hx)
          have hel := HEl.out j x hx
          have hjm : (j : Int) < (m : Int) := by omega
          by_cases hjN : j < N
          · have hle : (x.level : Int) ≤ (k : Int) := by have := hel.1 hjN; omega
            obtain ⟨e, he⟩ : ∃ e : Int, (x.level : Int) = e := ⟨_, rfl⟩
            rw [he] at hle hcy
            clear hel hx he
            go_wp2_with fail
            exact ⟨⟨j + 1, hjN, by go_num, rfl⟩, by simp [intOf]; omega⟩
          · obtain rfl : j = N := by omega
            have hle : ¬ (x.level : Int) ≤ (k : Int) := by have := mt hel.2 hjN; omega
            obtain ⟨e, he⟩ : ∃ e : Int, (x.level : Int) = e := ⟨_, rfl⟩
            rw [he] at hle hcy
            clear hel hx he
            go_wp2_with fail
            go_meet
            exact ⟨rfl, HP2.out⟩
        · obtain rfl : j = N := by omega
          have hjm : ¬ (j : Int) < (m : Int) := by omega
          go_wp2_with fail
          go_meet
          exact ⟨rfl, HP2.out⟩
    case rest =>
      obtain ⟨rfl, hPc⟩ := hcut
      clear HP2
      have HP2 := Lib.hid hPc
      clear hPc
      have hl2 : (its.take N).length = N := by rw [List.length_take]; have := HMl.out; omega
      have hlen2 := fun W (h : Trl K2 W g 8 (its.take N) (st.take k)) => len_tr W h
      rw [hl2] at hlen2
      have hca : m ≤ ca := by
        have := HP2.out.all
        rw [litsOf_len, HMl.out] at this
        rcases this.2 with ⟨he, h0⟩ | ⟨_, c, _, he, -, -, hnc, -⟩
        · omega
        · injection he with _ _ h3; subst h3; exact hnc
      have hNc : (N : Int) ≤ (ca : Int) := by omega
      have hNc' : N ≤ ca := by omega
      have HL2 := Lib.hid hl2; have HLen2 := Lib.hid hlen2
      clear hl2 hlen2
      go_upto_region 10 with fail
      go_cut [70] from 58 (fun s70 wx => s70 = .bool false ∧ Below wc.heap.size wc wx)
      case first =>
        have hlitd := literals_tr _ (HP2.out.tr.on (Below.refl _ _).drew)
        rw [HL2.out] at hlitd
        have HLd := Lib.hid hlitd
        clear hlitd
        go_region_with (first
          | (go_at_call 30; (with_reducible refine (HLd.out).mono ?_); rintro r x4 ⟨lv4, rfl, hr4, hb4⟩; have HP4 := Lib.hid ((HP2.out.on (Below.refl _ _).drew).on hb4); have HR4 := Lib.hid hr4; clear hr4)
          | (go_at_call 29; refine (eq_part HP4.out HR4.out hNm HMl.out HL2.out).mono ?_; rintro r x5 ⟨rfl, qq, rfl⟩; have HP5 := Lib.hid (HP4.out.on (below_drewN (Below.refl _ _) qq)))
          | (go_at_call 18; refine (HLen2.out _ HP5.out.tr).mono ?_; rintro r x6 ⟨rfl, rfl⟩))
        all_goals
          go_wp2_with fail
          go_meet
          exact ⟨rfl, (Below.refl _ _).drew.trans (hb4.trans (below_drewN (Below.refl _ _) _))⟩
      case rest =>
        obtain ⟨rfl, hcut⟩ := hcut
        have HP3 := Lib.hid (HP2.out.on hcut)
        clear hcut HP2 HLen2 hNc hNc'
        go_wp2_with fail
        go_loopw [73] (fun i wx => Rel2 m wc i wx) (fun i _ => m - (intOf i).toNat)
        case atStart => exact ⟨0, Nat.zero_le _, rfl, Below.refl _ _⟩
        case round =>
          obtain ⟨j, hj, rfl, hB⟩ := hrel
          have HP4 := Lib.hid (HP3.out.on hB); have HB := Lib.hid hB
          clear hB
          by_cases hlt : j < m
          · have hal : _ := HP4.out.all
            have hlv : _ := HP4.out.lev
            have hmm := HMl.out
            rw [litsOf_len, hmm] at hal
            rw [levsOf_len, hmm] at hlv
            obtain ⟨x, hx⟩ : ∃ x, its[j]? = some x := ⟨its[j]'(by omega), List.getElem?_eq_getElem _⟩
            obtain ⟨ba, rfl, -, hba, hcx⟩ := own_at hal (litsOf_at hx)
            obtain ⟨bl, rfl, -, hbl, hcy⟩ := own_at hlv (levsOf_at hx)
            have hxl : 1 ≤ x.lit.natAbs ∧ x.lit.natAbs ≤ 8 := HGd.out.lit x (List.mem_of_getElem? hx)
            have hy0 : -8 ≤ x.lit := by omega
            have hy1 : x.lit ≤ 8 := by omega
            have hva := varI_nat (l := x.lit) (litB_yes (by omega) (by omega) (by omega))
            have hgd4 := HP4.out.tr.good
            have hjm : (j : Int) < (m : Int) := by omega
            have hj8 : (j : Int) < 8 := by omega
            have hcase : (j < N ∧ OAt (its.take N) (x.lit.natAbs : Int) (some (j, x)) ∧ valI (its.take N) x.lit = 1 ∧ valI (its.take N) (-x.lit) = -1) ∨ (¬ j < N ∧ OAt (its.take N) (x.lit.natAbs : Int) none ∧ valI (its.take N) x.lit = 0 ∧ valI (its.take N) (-x.lit) = 0) := by
              by_cases hjN : j < N
              · have hx2 : (its.take N)[j]? = some x := by rw [List.getElem?_take_of_lt hjN]; exact hx
                exact .inl ⟨hjN, oat_hit hgd4 hx2, valI_yes (List.mem_of_getElem? hx2), valI_neg hgd4 (List.mem_of_getElem? hx2)⟩
              · have hno : ∀ y ∈ its.take N, y.vr ≠ x.lit.natAbs := fun y hy e => by
                  obtain ⟨p, hp⟩ := List.mem_iff_getElem?.1 hy
                  rw [List.getElem?_take] at hp
                  split at hp
                  · have := HGd.out.pos hp hx e
                    omega
                  · cases hp
                exact .inr ⟨hjN, oat_miss fun y hy e => hno y hy (by omega), valI_no hno, valI_no (by rw [Int.natAbs_neg]; exact hno)⟩
            obtain ⟨vv, hvv⟩ : ∃ vv : Int, (x.lit.natAbs : Int) = vv := ⟨_, rfl⟩
            rw [hvv] at hva hcase
            have hvar := var_is x.lit vv hva
            rcases hcase with ⟨hjN, ho, hv1, hv2⟩ | ⟨hjN, ho, hv1, hv2⟩
            all_goals
              have hpl := fun W (h : Trl K2 W g 8 (its.take N) (st.take k)) => place_tr vv _ ho W h
              have hlv := fun W (h : Trl K2 W g 8 (its.take N) (st.take k)) => level_tr vv _ ho W h
              have hva1 := fun W (h : Trl K2 W g 8 (its.take N) (st.take k)) => val_is h _ _ hv1
              have hva2 := fun W (h : Trl K2 W g 8 (its.take N) (st.take k)) => val_is h _ _ hv2
              simp only [fld, Option.isSome] at hpl hlv
              obtain ⟨y, hy⟩ : ∃ y, x.lit = y := ⟨_, rfl⟩
              obtain ⟨e, he⟩ : ∃ e : Int, (x.level : Int) = e := ⟨_, rfl⟩
              rw [hy] at hcx hy0 hy1 hva1 hva2 hvar
              rw [he] at hcy
              try rw [he] at hlv
              have HPl := Lib.hid hpl; have HLv := Lib.hid hlv; have HV1 := Lib.hid hva1; have HV2 := Lib.hid hva2; have HVar := Lib.hid hvar
              first | (have hjN' : (j : Int) < (N : Int) := by omega) | (have hjN' : ¬ (j : Int) < (N : Int) := by omega)
              clear hpl hlv hva1 hva2 hvar hv1 hv2 ho hal hmm hx hxl hva hgd4 hvv hy he hjN
              go_wp2_with fail
              refine (HVar.out _).mono ?_
              rintro r x1 ⟨rfl, rfl⟩
              go_wp2_with fail
              refine (HPl.out _ HP4.out.tr).mono ?_
              rintro r x2 ⟨rfl, hb⟩
              have HP5 := Lib.hid (HP4.out.on hb); have HB5 := Lib.hid (HB.out.trans (hb.mono HB.out.size))
              have hcx := (hb.cell (p := ⟨ba, j, none⟩) hba).trans hcx
              have hcy := (hb.cell (p := ⟨bl, j, none⟩) hbl).trans hcy
              have hba := Nat.lt_of_lt_of_le hba hb.size
              have hbl := Nat.lt_of_lt_of_le hbl hb.size
              clear hb
              go_wp2_with fail
              refine (HVar.out _).mono ?_
              rintro r x1 ⟨rfl, rfl⟩
              go_wp2_with fail
              refine (HLv.out _ HP5.out.tr).mono ?_
              rintro r x3 ⟨rfl, hb⟩
              have HP6 := Lib.hid (HP5.out.on hb); have HB6 := Lib.hid (HB5.out.trans (hb.mono HB5.out.size))
              have hcy := (hb.cell (p := ⟨bl, j, none⟩) hbl).trans hcy
              have hbl := Nat.lt_of_lt_of_le hbl hb.size
              clear hb
              go_wp2_with fail
              refine (HV1.out _ HP6.out.tr).mono ?_
              rintro r x4 ⟨rfl, hb⟩
              have HP7 := Lib.hid (HP6.out.on hb); have HB7 := Lib.hid (HB6.out.trans (hb.mono HB6.out.size))
              clear hb
              go_wp2_with fail
              refine (HV2.out _ HP7.out.tr).mono ?_
              rintro r x5 ⟨rfl, hb⟩
              have HB8 := Lib.hid (HB7.out.trans (hb.mono HB7.out.size))
              clear hb
              go_wp2_with fail
              exact ⟨⟨j + 1, hlt, by go_num, HB8.out⟩, by simp [intOf]; omega⟩
          · obtain rfl : m = j := by omega
            clear HP3 HB hlt hj
            have hlA := len_tr _ HP4.out.tr
            rw [HL2.out] at hlA
            have HLA := Lib.hid hlA
            clear hlA
            by_cases hcn : ca = N
            · have hNm' : N = m := by omega
              have hz : m - N = 0 := by omega
              obtain rfl : ca = N := hcn
              obtain rfl : ca = m := hNm'
              go_wp2_with fail
              go_loopw [153] (fun i wx => i = .int .i64 0 ∧ wx = wr) (fun _ _ => 0)
              case atStart => exact ⟨rfl, rfl⟩
              case round =>
                obtain ⟨rfl, rfl⟩ := hrel
                go_wp2_with (go_at_call 18; refine (HLA.out).mono ?_; rintro r x6 ⟨rfl, rfl⟩)
                refine (trawake_any _).mono ?_
                rintro r x7 ⟨rfl, hb⟩
                have HB8 := Lib.hid (HP4.out.below.trans (hb.mono HP4.out.below.size))
                clear hb
                go_wp2_with fail
                go_ret
                exact ⟨rfl, HB8.out⟩
            · have hal : _ := HP4.out.all
              rw [litsOf_len, HMl.out] at hal
              obtain ⟨ba, rfl⟩ : ∃ bp, Aa = some ⟨bp, 0, none⟩ := by
                rcases hal.2 with ⟨he, h0⟩ | ⟨gp, _, _, he, -⟩
                · injection he with _ h2 h3; omega
                · injection he with h1 _ _; exact ⟨gp, h1⟩
              have hcg : N < ca := by omega
              have hNmi : (N : Int) ≤ (m : Int) := by omega
              clear hal HLA
              go_wp2_with fail
              go_loopw [153] (fun i wx => Rel3 w g its (st.take k) (.slice (some ⟨ba, 0, none⟩) m ca) (.slice Al m cl) (litsOf its) (levsOf its) N m i wx) (fun i _ => (m - N) - (intOf i).toNat)
              case atStart => exact ⟨0, K2, its.take N, hNm, rfl, HL2.out, (fun y hy => by
                obtain ⟨p, hp⟩ := List.mem_iff_getElem?.1 hy
                rw [List.getElem?_take] at hp
                split at hp
                · exact ⟨p, y, hp, by omega, rfl⟩
                · cases hp), HP4.out⟩
              case round =>
                obtain ⟨i, K3, its3, hi, rfl, hl3, hin, hP5⟩ := hrel
                by_cases hlt : N + i < m
                · have hal : _ := hP5.all
                  rw [litsOf_len, HMl.out] at hal
                  obtain ⟨x, hx⟩ : ∃ x, its[N + i]? = some x := ⟨its[N + i]'(by have := HMl.out; omega), List.getElem?_eq_getElem _⟩
                  obtain ⟨ba2, hba2, -, hba, hcx⟩ := own_at hal (litsOf_at hx)
                  obtain rfl : ba = ba2 := by injection hba2 with h; injection h
                  have hxl : 1 ≤ x.lit.natAbs ∧ x.lit.natAbs ≤ 8 := HGd.out.lit x (List.mem_of_getElem? hx)
                  have hno : ∀ y ∈ its3, y.vr ≠ (-x.lit).natAbs := fun y hy e => by
                    obtain ⟨p, x', hp, hpl, he⟩ := hin y hy
                    have := HGd.out.pos hp hx (by rw [← he, e]; show (-x.lit).natAbs = x.lit.natAbs; omega)
                    omega
                  have hy0 : -8 ≤ x.lit := by omega
                  have hy1 : x.lit ≤ 8 := by omega
                  have hst : Rel3 w g its (st.take k) (.slice (some ⟨ba, 0, none⟩) m ca) (.slice Al m cl) (litsOf its) (levsOf its) N m (.int .i64 ((i + 1 : Nat) : Int)) = fun wx => ∃ (K : Nat → Prop), PS w g 8 (its3 ++ [⟨-x.lit, (st.take k).length, 1⟩]) (st.take k) (.slice (some ⟨ba, 0, none⟩) m ca) (.slice Al m cl) (litsOf its) (levsOf its) K wx ∨ Rel3 w g its (st.take k) (.slice (some ⟨ba, 0, none⟩) m ca) (.slice Al m cl) (litsOf its) (levsOf its) N m (.int .i64 ((i + 1 : Nat) : Int)) wx := by
                    funext wx
                    apply propext
                    constructor
                    · intro h; exact ⟨K3, .inr h⟩
                    · rintro ⟨K, h | h⟩
                      · refine ⟨i + 1, K, _, by omega, rfl, by rw [List.length_append, hl3]; rfl, fun y hy => ?_, h⟩
                        rcases List.mem_append.1 hy with hy | hy
                        · obtain ⟨p, x', h1, h2, h3⟩ := hin y hy
                          exact ⟨p, x', h1, by omega, h3⟩
                        · rw [List.mem_singleton] at hy
                          subst hy
                          exact ⟨N + i, x, hx, by omega, by show (-x.lit).natAbs = x.lit.natAbs; omega⟩
                      · exact h
                  have hass := assign_tr (-x.lit) 1 (by omega) (by omega) hno (by decide) (by decide) wr hP5.tr
                  have HAss := Lib.hid hass; have HSt := Lib.hid hst; have HP5 := Lib.hid hP5
                  obtain ⟨y, hy⟩ : ∃ y, x.lit = y := ⟨_, rfl⟩
                  rw [hy] at hcx hy0 hy1 HAss HSt
                  have him : (i : Int) < ((m - N : Nat) : Int) := by omega
                  have hi8 : (i : Int) < 8 := by omega
                  have him2 : i < m - N := by omega
                  clear hal hx hba2 hxl hno hass hst hin hP5 hl3 hy hi hlt
                  go_wp2_with fail
                  refine (HAss.out).mono ?_
                  rintro r x1 ⟨K4, rfl, hA4, hT4⟩
                  have HP6 := Lib.hid (HP5.out.turn hT4 hA4)
                  clear hA4 hT4
                  go_wp2_with fail
                  go_roundw
                  case rel => rw [show (i : Int) + 1 = ((i + 1 : Nat) : Int) by omega, HSt.out]; exact ⟨K4, .inl HP6.out⟩
                  case measure => simp [intOf]; omega
                · have hlB := len_tr _ hP5.tr
                  rw [hl3, show N + i = m by omega] at hlB
                  have HLB := Lib.hid hlB; have HP5 := Lib.hid hP5
                  have him : ¬ (i : Int) < ((m - N : Nat) : Int) := by omega
                  clear hlB hP5 hin hl3 hi hlt
                  go_wp2_with (go_at_call 18; refine (HLB.out).mono ?_; rintro r x6 ⟨rfl, rfl⟩)
                  refine (trawake_any _).mono ?_
                  rintro r x7 ⟨rfl, hb⟩
                  have HB8 := Lib.hid (HP5.out.below.trans (hb.mono HP5.out.below.size))
                  clear hb
                  go_wp2_with fail
                  go_ret
                  exact ⟨rfl, HB8.out⟩
theorem trailBack_walk (v : Value) (zs : List Int) (hm : zs.length ≤ maxLen) (hw : ∀ x ∈ zs, (Lit.int .u8 x).wf = true) (hF : Fits v) (t : Int) (ht : (Lit.int .u8 t).wf = true) (w : World) (hI : IntsK .u8 w.heap.size w v zs) :
    Calls Try.prog 5 #[v, .int .u8 t] w fun e w' => e = .returned (.bool true) ∧ Below w.heap.size w w' := core v zs t (u8_wf ht).1 (u8_wf ht).2 w hI hF hm hw
end Go.Proofs.Ytdeedmfofjdbjaa.trailBack
