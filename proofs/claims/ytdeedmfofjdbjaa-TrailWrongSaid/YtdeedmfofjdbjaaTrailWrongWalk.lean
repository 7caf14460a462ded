/- The walk of TrailWrong. -/
import Derived.Test.YtdeedmfofjdbjaaTrPut
import Derived.Test.YtdeedmfofjdbjaaTrLiterals
import Derived.Test.YtdeedmfofjdbjaaEqual
namespace Go.Proofs.Ytdeedmfofjdbjaa.trailWrong
open Go.RowKit Go.ChangeAt Go.ChangeShapes Go.WideShapes

def badAt (a b : Int) (k : Nat) : Int := if k = 0 then 0 else if k = 1 then a else b
def Rel (w2 : World) (i : Value) (wr : World) : Prop := ∃ k : Nat, k ≤ 3 ∧ i = .int .i64 k ∧ Below w2.heap.size w2 wr
theorem ass40 {its : List It} {l : Int} (h : l = 0 ∨ l ≤ -9 ∨ 9 ≤ l) (r : Int) : assE 8 its l r = 40 := by unfold assE; rw [if_neg (by omega)]
theorem ass2 {its : List It} {l r : Int} (h1 : 1 ≤ l.natAbs) (h2 : l.natAbs ≤ 8) (h : r < 0 ∨ 1073741824 < r) : assE 8 its l r = 2 := by unfold assE; rw [if_pos ⟨h1, h2⟩, if_neg (by omega)]
theorem val_far {nv : Nat} {its : List It} {st : List Nat} (h : TG nv its st) {l : Int} (hl : l = 0 ∨ (nv : Int) < l ∨ l < -(nv : Int)) : valI its l = 0 := valI_no fun x hx e => by
  have := h.lit x hx
  omega
theorem lit_out {nv : Nat} {its : List It} {st : List Nat} {K : Nat → Prop} {w : World} {g : Nat} (h : Trl K w g nv its st) (l r : Int) (e : Int) (he : e ≠ 0) (hn : assE nv its l r = e) : Calls Try.prog 16 #[.pointer (some ⟨g, 0, none⟩), .int .i64 l, .int .i64 r] w fun r W' => r = .returned (.int .i64 e) ∧ Below w.heap.size w W' := by
  refine (assign_no l r (by rw [hn]; exact he) w h).mono ?_
  rintro r W' ⟨e, hB⟩
  exact ⟨by rw [e, hn], hB⟩
theorem val_is {nv : Nat} {its : List It} {st : List Nat} {K : Nat → Prop} {w : World} {g : Nat} (h : Trl K w g nv its st) (l x : Int) (hx : valI its l = x) : Calls Try.prog 26 #[.pointer (some ⟨g, 0, none⟩), .int .i64 l] w fun r W' => r = .returned (.int .i64 x) ∧ Below w.heap.size w W' := by
  rw [← hx]; exact value_tr l w h
set_option maxRecDepth 100000 in
set_option maxHeartbeats 4000000 in
theorem core (v : Value) (zs : List Int) (n : Int) (hn0 : -9223372036854775808 ≤ n) (hn1 : n ≤ 9223372036854775807) (w : World) (hI : IntsK .u8 w.heap.size w v zs) (hF : Fits v) (hm : zs.length ≤ maxLen) (hw : ∀ x ∈ zs, (Lit.int .u8 x).wf = true) :
    Calls Try.prog 9 #[v, .int .i64 n] w fun e w' => e = .returned (.bool true) ∧ Below w.heap.size w w' := by
  have hput := put_any v zs w hI hF hm hw
  obtain ⟨A0, cap0, rfl, -⟩ := intsK_shape hI
  obtain ⟨a9, ha9⟩ : ∃ x, min n (-9) = x := ⟨_, rfl⟩
  obtain ⟨b9, hb9⟩ : ∃ x, max n 9 = x := ⟨_, rfl⟩
  obtain ⟨a1, ha1⟩ : ∃ x, min n (-1) = x := ⟨_, rfl⟩
  obtain ⟨br, hbr⟩ : ∃ x, max n 1073741825 = x := ⟨_, rfl⟩
  obtain ⟨bv, hbv⟩ : ∃ x, max n 1048577 = x := ⟨_, rfl⟩
  have h1 : a9 ≤ -9 := by omega
  have h2 : 9 ≤ b9 := by omega
  have h3 : a1 ≤ -1 := by omega
  have h4 : 1073741825 ≤ br := by omega
  have h5 : 1048577 ≤ bv := by omega
  have hbad : ∀ k, k < 3 → badAt a9 b9 k = 0 ∨ badAt a9 b9 k ≤ -9 ∨ 9 ≤ badAt a9 b9 k := fun k hk => by
    unfold badAt
    split
    · exact .inl rfl
    · split <;> omega
  have HPut := Lib.hid hput; have HBad := Lib.hid hbad
  clear hput hbad hI hF hm hw
  go_enter Try.func9, Try.ntmps9
  go_wp2_with fail
  refine (HPut.out).mono ?_
  rintro r w1 ⟨g, K, its, st, al, lv, rfl, hst, hP⟩
  obtain ⟨sl, hsl⟩ : ∃ sl : Int, (st.length : Int) = sl := ⟨_, rfl⟩
  have hs0 : 0 ≤ sl := by omega
  have hs4 : sl ≤ 40 := by omega
  have hnow := fun W (h : Trl K W g 8 its st) => now_tr W h
  rw [hsl] at hnow
  have HNow := Lib.hid hnow; have HSl := Lib.hid hsl
  obtain ⟨bn, hbn⟩ : ∃ x, max n (sl + 1) = x := ⟨_, rfl⟩
  have h6 : sl + 1 ≤ bn := by omega
  obtain ⟨m, hml⟩ : ∃ m, its.length = m := ⟨_, rfl⟩
  have hm8 := hP.tr.good.len
  have hall := hP.all
  rw [litsOf_len, hml] at hall
  obtain ⟨Aa, ca, rfl⟩ := own_shape1 hall
  rw [hml] at hm8
  have HMl := Lib.hid hml
  obtain ⟨bl, hbl⟩ : ∃ x, max n (m : Int) = x := ⟨_, rfl⟩
  have h7 : (m : Int) ≤ bl := by omega
  have HP := Lib.hid hP
  clear hP hall hnow hsl hml HPut hst
  go_wp2_with fail
  refine (HNow.out _ HP.out.tr).mono ?_
  rintro r w' ⟨rfl, rfl⟩
  go_wp2_with fail
  have hbB := below1a w1 (.cells #[.int .i64 0, .int .i64 a9, .int .i64 b9] 3)
  have hP2 := HP.out.on hbB
  have hW2 := Whole.made w1 3 #[.int .i64 0, .int .i64 a9, .int .i64 b9]
  obtain ⟨w2, hw2⟩ : ∃ x, w1.alloc (.cells #[.int .i64 0, .int .i64 a9, .int .i64 b9] 3) = x := ⟨_, rfl⟩
  obtain ⟨gb, hgb⟩ : ∃ x, w1.heap.size = x := ⟨_, rfl⟩
  rw [hgb, hw2] at hW2
  rw [hw2] at hP2 ⊢
  rw [hgb]
  have HP2 := Lib.hid hP2; have HW2 := Lib.hid hW2
  clear hP2 hW2 hw2 hgb hbB HP
  go_loopw [41] (fun i wr => Rel w2 i wr) (fun i _ => 3 - (intOf i).toNat)
  case atStart => exact ⟨0, Nat.zero_le _, rfl, Below.refl _ _⟩
  case round =>
    obtain ⟨j, hj, rfl, hB⟩ := hrel
    have HP3 := Lib.hid (HP2.out.on hB)
    by_cases hlt : j < 3
    · have hcell : wr.cell? ⟨gb, j, none⟩ = some (.int .i64 (badAt a9 b9 j)) := by
        refine (hB.cell (p := ⟨gb, j, none⟩) HW2.out.lt).trans ((HW2.out.cell j).trans ?_)
        have hj3 : j = 0 ∨ j = 1 ∨ j = 2 := by omega
        rcases hj3 with rfl | rfl | rfl <;> rfl
      have hid1 := HBad.out j hlt
      obtain ⟨id, hid⟩ : ∃ x, badAt a9 b9 j = x := ⟨_, rfl⟩
      rw [hid] at hcell hid1
      clear hid
      have hj3 : (j : Int) < 3 := by omega
      have hval := val_far HP3.out.tr.good (l := id) (by omega)
      have HV := Lib.hid hval; have HB := Lib.hid hB
      have hass := ass40 (its := its) hid1 0
      have HAs := Lib.hid hass
      clear hval hass hB hid1 HW2 HBad HP2
      go_wp2_with fail
      refine (lit_out HP3.out.tr _ _ 40 (by decide) HAs.out).mono ?_
      rintro r x1 ⟨rfl, hb⟩
      have HP4 := Lib.hid (HP3.out.on hb); have HB4 := Lib.hid (HB.out.trans (hb.mono HB.out.size))
      clear hb
      go_wp2_with fail
      refine (val_is HP4.out.tr _ 0 HV.out).mono ?_
      rintro r x2 ⟨rfl, hb⟩
      have HB5 := Lib.hid (HB4.out.trans (hb.mono HB4.out.size))
      clear hb
      go_wp2_with fail
      refine ⟨⟨j + 1, hlt, by go_num, HB5.out⟩, ?_⟩
      simp [intOf]; omega
    · obtain rfl : j = 3 := by omega
      clear hB HW2 HBad HP2 hlt hj
      go_wp2_with fail
      refine (lit_out HP3.out.tr _ _ 2 (by decide) (ass2 (by decide) (by decide) (by omega))).mono ?_
      rintro r x1 ⟨rfl, hb⟩
      have HP4 := Lib.hid (HP3.out.on hb)
      clear hb
      go_wp2_with fail
      refine (lit_out HP4.out.tr _ _ 2 (by decide) (ass2 (by decide) (by decide) (by omega))).mono ?_
      rintro r x2 ⟨rfl, hb⟩
      have HP5 := Lib.hid (HP4.out.on hb)
      clear hb HP3 HP4
      go_wp2_with fail
      refine (back_no a1 (by omega) _ HP5.out.tr).mono ?_
      rintro r x3 ⟨rfl, rfl⟩
      go_wp2_with fail
      refine (back_no bn (by have := HSl.out; omega) _ HP5.out.tr).mono ?_
      rintro r x3 ⟨rfl, rfl⟩
      go_wp2_with fail
      refine (at_out (v := bl) (by have := HMl.out; omega) _ HP5.out.tr).mono ?_
      rintro r x3 ⟨rfl, rfl⟩
      go_wp2_with fail
      refine (start_no bn (by have := HSl.out; omega) _ HP5.out.tr).mono ?_
      rintro r x3 ⟨rfl, rfl⟩
      go_wp2_with fail
      refine (new_no a1 (by omega) _).mono ?_
      rintro r x3 ⟨rfl, rfl⟩
      go_wp2_with fail
      refine (new_no bv (by omega) _).mono ?_
      rintro r x3 ⟨rfl, rfl⟩
      go_wp2_with fail
      refine (literals_tr _ HP5.out.tr).mono ?_
      rintro r x4 ⟨lv4, rfl, hr4, hb4⟩
      have HP6 := Lib.hid (HP5.out.on hb4)
      have HR4 := Lib.hid hr4
      clear hr4 hb4
      go_wp2_with fail
      have hra : x4.ownsRow w.heap.size 36 1 (.slice Aa m ca) (litsOf its).length ((litsOf its).map (Value.int .i64)) := HP6.out.all
      have hlm : (litsOf its).length ≤ 8 := by rw [litsOf_len, HMl.out]; exact hm8
      refine (equal_cl _ (by omega) (by omega) (ints_own HR4.out) (ints_own hra)).mono ?_
      rintro r x5 ⟨rfl, q, rfl⟩
      rw [beq_self_eq_true]
      have HP7 := Lib.hid (HP6.out.on (below_drewN (Below.refl _ _) q))
      clear hra hlm
      go_wp2_with fail
      refine (HNow.out _ HP7.out.tr).mono ?_
      rintro r x6 ⟨rfl, rfl⟩
      go_wp2_with fail
      refine (trawake_any _).mono ?_
      rintro r x7 ⟨rfl, hb⟩
      have HB8 := Lib.hid (HP7.out.below.trans (hb.mono HP7.out.below.size))
      clear hb
      go_wp2_with fail
      go_ret
      exact ⟨rfl, HB8.out⟩
theorem trailWrong_walk (v : Value) (zs : List Int) (hm : zs.length ≤ maxLen) (hw : ∀ x ∈ zs, (Lit.int .u8 x).wf = true) (hF : Fits v) (n : Int) (hn : (Lit.int .i64 n).wf = true) (w : World) (hI : IntsK .u8 w.heap.size w v zs) :
    Calls Try.prog 9 #[v, .int .i64 n] w fun e w' => e = .returned (.bool true) ∧ Below w.heap.size w w' := by
  have h : IntKind.i64.min ≤ n ∧ n ≤ IntKind.i64.max := by simpa [Lit.wf] using hn
  exact core v zs n h.1 h.2 w hI hF hm hw
end Go.Proofs.Ytdeedmfofjdbjaa.trailWrong
