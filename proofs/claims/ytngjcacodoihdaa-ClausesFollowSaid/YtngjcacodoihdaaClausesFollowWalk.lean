/- The walk of ClausesFollow. -/
import Derived.Test.YtngjcacodoihdaaClausesWithinWalk
namespace Go.Proofs.Ytngjcacodoihdaa
open Go.RowKit Go.ChangeAt Go.ChangeShapes Go.WideShapes

theorem contains_ls {B : Nat} {v : Value} {xs : List Int} (x : Int) (b : Bool) (w : World) (hx : xs.length ≤ 1000000) (hb : hasB xs x = b) (h : Ints B w v xs) :
    Calls Try.prog 22 #[v, .int .i64 x] w fun e w' => e = .returned (.bool b) ∧ w = w' := by
  subst hb
  rcases h with ⟨A, c, rfl, -, rfl⟩ | ⟨b, off, cap, rfl, hb, hc⟩
  · exact (Try.slices_Contains_int_empty_f22 A c x w).mono fun e w' ⟨he, hw⟩ => ⟨he, hw.symm⟩
  · refine (Try.slices_Contains_int_f22 b off xs.length cap xs x w (Nat.le_refl _) (by omega) (fun j hj => by rw [List.getD_eq_getElem?_getD]; exact hc j hj)).mono fun e w' ⟨he, hw⟩ => ⟨?_, hw.symm⟩
    rw [he, List.take_length]
    congr 2
    unfold hasB
    rw [Bool.eq_iff_iff, List.contains_iff_mem, decide_eq_true_iff]

/-- What Made gives of one number. -/
def MadeOne (by_ l : Int) : Prop := ∀ W : World, Calls Try.prog 20 #[.slice (some ⟨W.heap.size, 0, none⟩) 1 1] (W.alloc (.cells #[.int .u8 by_] 5)) (GivesE 34 (W.alloc (.cells #[.int .u8 by_] 5)) [l])
theorem madeOne {by_ : Int} (h : (Lit.int .u8 by_).wf = true) : MadeOne by_ (madeU by_) := fun (W : World) => by
  have hI : IntsK .u8 (W.heap.size + 1) (W.alloc (.cells #[.int .u8 by_] 5)) (.slice (some ⟨W.heap.size, 0, none⟩) 1 1) [by_] := by
    refine .inr ⟨W.heap.size, 0, 1, rfl, by omega, fun j hj => ?_⟩
    obtain rfl : j = 0 := by simp at hj; omega
    exact World.cell?_alloc_new _ _ _ _
  have := made_any (W.heap.size + 1) _ [by_] (by simp) (fun x hx => by rw [List.mem_singleton] at hx; subst hx; exact h) (fun A n c e => by injection e with h1 h2 h3; omega) (W.alloc (.cells #[.int .u8 by_] 5)) (by simp) hI
  exact this
theorem own_one {W : World} {B : Nat} {e : TypeId} {v : Value} {x : Int} (h : W.ownsRow B e 1 v 1 [.int .i64 x]) : ∃ g cap, v = .slice (some ⟨g, 0, none⟩) 1 cap ∧ W.cell? ⟨g, 0, none⟩ = some (.int .i64 x) := by
  rcases h.2 with ⟨-, h0⟩ | ⟨g, cap, cur, rfl, hg, -⟩
  · cases h0
  · exact ⟨g, cap, rfl, by have := h.cellAt 0 (by omega); simpa using this⟩
def FoCut (w : World) (a b rs : List Int) (l : Int) (s7 s8 s9 s10 s96 : Value) (wx : World) : Prop :=
  s7 = .int .i64 l ∧ Lits wx.heap.size wx s8 a ∧ Lits wx.heap.size wx s9 b ∧ Lits wx.heap.size wx s10 rs ∧ s96 = .bool false ∧ Below w.heap.size w wx

set_option maxRecDepth 100000 in
set_option maxHeartbeats 16000000 in
theorem follow_core (kv lv : Value) (k l : List Int) (by_ x : Int) (a b rs ks ps qs : List Int) (r1 r2 : Bool) (w : World) (hIk : IntsK .u8 w.heap.size w kv k) (hIl : IntsK .u8 w.heap.size w lv l) (ka lb : List Int)
    (hmk : MadeAt kv k ka) (hml : MadeAt lv l lb) (hmo : MadeOne by_ x) (hx0 : -8 ≤ x) (hx1 : x ≤ 8) (hlx : litB x = true) (hlnx : litB (-x) = true) (hea : ka ++ [x] = a) (heb : lb ++ [-x] = b) (hlka : ka.length ≤ 20) (hllb : lb.length ≤ 20) (hla : a.length ≤ 21) (hlb : b.length ≤ 21) (hra : rightB a = true) (hrb : rightB b = true)
    (hrl : clResL a b x = rs) (hre : clResE a b x = 0) (hrr : rightB rs = true) (hlr : rs.length ≤ 4096) (hks : normL (a.filter fun x => hasB b (-x)) = ks) (hlk : ks.length ≤ 100) (hlk0 : 0 < ks.length) (hkc : hasB ks x = true)
    (hps : normL (lessL a x) = ps) (hqs : normL (lessL b (-x)) = qs) (hrp : rightB ps = true) (hrq : rightB qs = true) (hlp : ps.length ≤ 4096) (hlq : qs.length ≤ 4096)
    (hr1 : hasB rs x = r1) (hr2 : hasB rs (-x) = r2) (hb1 : r1 = true → hasB b x = true) (ha2 : r2 = true → hasB a (-x) = true) (hal : 1 < ks.length → alwB rs = true)
    (hho : ∀ m, holdsB rs m = (holdsB ps m || holdsB qs m)) (hfo : ∀ n : Int, holdsB a (modelL n) = true → holdsB b (modelL n) = true → holdsB rs (modelL n) = true) :
    Calls Try.prog 6 #[kv, lv, .int .u8 by_] w fun e w' => e = .returned (.bool true) ∧ Below w.heap.size w w' := by
  obtain ⟨i0, hi, hz0, hz1, hz2⟩ := info_parts infoLit
  have hkn : ¬ ks.length = 0 := by omega
  have hkz : ¬ ks = [] := fun e => by rw [e] at hkn; exact hkn rfl
  have hkb : ((ks.length : Int) == 0) = false := by rw [beq_eq_false_iff_ne]; omega
  have hw := awakeAt
  have HIkx := Lib.hid hIk; have HIlx := Lib.hid hIl; have HMkx := Lib.hid hmk; have HMlx := Lib.hid hml; have HMox := Lib.hid hmo; have HLxx := Lib.hid hlx; have HLnxx := Lib.hid hlnx; have HEax := Lib.hid hea; have HEbx := Lib.hid heb; have HRax := Lib.hid hra; have HRbx := Lib.hid hrb; have HRlx := Lib.hid hrl; have HRex := Lib.hid hre; have HRrx := Lib.hid hrr; have HKsx := Lib.hid hks; have HKcx := Lib.hid hkc; have HPsx := Lib.hid hps; have HQsx := Lib.hid hqs; have HRpx := Lib.hid hrp; have HRqx := Lib.hid hrq; have HR1x := Lib.hid hr1; have HR2x := Lib.hid hr2; have HB1x := Lib.hid hb1; have HA2x := Lib.hid ha2; have HAlx := Lib.hid hal; have HHox := Lib.hid hho; have HFox := Lib.hid hfo; have HAw := Lib.hid hw
  clear hIk hIl hmk hml hmo hlx hlnx hea heb hra hrb hrl hre hrr hks hkc hps hqs hrp hrq hr1 hr2 hb1 ha2 hal hho hfo hw
  have Hk0 := HIkx; have Hl0 := HIlx; clear HIkx HIlx
  go_enter Try.func6, Try.ntmps6
  go_wp2_with fail
  refine (HMox.out _).mono ?_
  rintro e w1 ⟨vx, rfl, hr, hB0⟩
  have hB : Below w.heap.size w w1 := (below1 w _).trans (hB0.mono (by simp))
  obtain ⟨gx, cx, rfl, hcx⟩ := own_one hr
  clear hr hB0
  have hbw1 := hB
  have hk1 := Hk0.out.on hB
  have hl1 := Hl0.out.on hB
  have Hk1 := Lib.hid hk1; clear hk1 Hk0
  have Hl1 := Lib.hid hl1; clear hl1 Hl0
  go_wp2_with fail
  refine (HMkx.out _ Hk1.out).mono ?_
  rintro e wm ⟨vm, rfl, hr, hBm⟩
  clear hcx
  have HR := Lib.hid hr; clear hr
  go_wp2_with (at_builtin; refine wpList_append_own _ rfl _ _ 28 rfl w1.heap.size 34 i0 (.int .i64 0) 1 8 Try.underlying28 hi hz0 hz1 hz2 rfl (by decide) _ _ _ rfl (HR.out.alloc _) ⟨wm.heap.size, 0, none⟩ 1 1 [.int .i64 x] rfl rfl (cell_one_new _ _ _) (by simp [Value.oneCell']) (by unfold maxLen; omega) (by omega) (by have := hBm.size; simp; omega) ?_; intro va w2 hown hgrow _)
  have hB : Below w1.heap.size w1 w2 := (hBm.alloc hBm.size _).grown hgrow (by have := hBm.size; simp; omega) (fun j e => (HR.out.lt j e).1)
  have hown' : w2.ownsRow w1.heap.size 34 1 va a.length (a.map (Value.int .i64)) := by
    rw [← HEax.out, List.map_append, List.length_append]
    exact hown
  have ha2 := lits_own hown'
  have hbw2 := hbw1.trans (hB.mono hbw1.size)
  have hk2 := Hk1.out.on hB
  have hl2 := Hl1.out.on hB
  have Hk2 := Lib.hid hk2; clear hk2 Hk1
  have Hl2 := Lib.hid hl2; clear hl2 Hl1
  have Ha2 := Lib.hid ha2; clear ha2
  clear hown hown' hgrow HR hBm
  clear Hk2
  refine (HMlx.out _ Hl2.out).mono ?_
  rintro e wm ⟨vm, rfl, hr, hBm⟩
  skip
  have HR := Lib.hid hr; clear hr
  go_wp2_with (at_builtin; refine wpList_append_own _ rfl _ _ 28 rfl w2.heap.size 34 i0 (.int .i64 0) 1 8 Try.underlying28 hi hz0 hz1 hz2 rfl (by decide) _ _ _ rfl (HR.out.alloc _) ⟨wm.heap.size, 0, none⟩ 1 1 [.int .i64 (-x)] rfl rfl (cell_one_new _ _ _) (by simp [Value.oneCell']) (by unfold maxLen; omega) (by omega) (by have := hBm.size; simp; omega) ?_; intro vb w3 hown hgrow _)
  have hB : Below w2.heap.size w2 w3 := (hBm.alloc hBm.size _).grown hgrow (by have := hBm.size; simp; omega) (fun j e => (HR.out.lt j e).1)
  have hown' : w3.ownsRow w2.heap.size 34 1 vb b.length (b.map (Value.int .i64)) := by
    rw [← HEbx.out, List.map_append, List.length_append]
    exact hown
  have hb3 := lits_own hown'
  have hbw3 := hbw2.trans (hB.mono hbw2.size)
  have hl3 := Hl2.out.on hB
  have ha3 := Ha2.out.on hB
  have Hl3 := Lib.hid hl3; clear hl3 Hl2
  have Ha3 := Lib.hid ha3; clear ha3 Ha2
  have Hb3 := Lib.hid hb3; clear hb3
  clear hown hown' hgrow HR hBm
  clear Hl3
  refine (resolve_at _ _ _ a b x rs 0 (by omega) (by omega) HRlx.out HRex.out _ (Nat.le_refl _) Ha3.out Hb3.out).mono ?_
  rintro e w4 ⟨vr, rfl, hr, hB⟩
  obtain ⟨Ar, cr, rfl⟩ := own_shape hr
  have hr4 := hr
  have hbw4 := hbw3.trans (hB.mono hbw3.size)
  have ha4 := Ha3.out.on hB
  have hb4 := Hb3.out.on hB
  have Ha4 := Lib.hid ha4; clear ha4 Ha3
  have Hb4 := Lib.hid hb4; clear hb4 Hb3
  have Hr4 := Lib.hid hr4; clear hr4
  clear hr
  go_wp2_with fail
  refine (clash_at _ _ _ a b ks (by omega) (by omega) HRax.out HRbx.out HKsx.out _ (Nat.le_refl _) Ha4.out Hb4.out).mono ?_
  rintro e w5 ⟨vc, rfl, hr, hB⟩
  obtain ⟨Ac, cc, rfl⟩ := own_shape hr
  have hc5 := hr
  have hbw5 := hbw4.trans (hB.mono hbw4.size)
  have ha5 := Ha4.out.on hB
  have hb5 := Hb4.out.on hB
  have hr5 := owns_on Hr4.out hB
  have Ha5 := Lib.hid ha5; clear ha5 Ha4
  have Hb5 := Lib.hid hb5; clear hb5 Hb4
  have Hr5 := Lib.hid hr5; clear hr5 Hr4
  have Hc5 := Lib.hid hc5; clear hc5
  clear hr
  go_upto_region 5 with fail
  go_cut [7, 8, 9, 10, 96] (fun s7 s8 s9 s10 s96 wx => FoCut w a b rs x s7 s8 s9 s10 s96 wx)
  case first =>
    go_upto_region 7 with fail
    refine (contains_ls x _ _ (by omega) HKcx.out (ints_own Hc5.out)).mono ?_
    rintro e w' ⟨rfl, rfl⟩
    go_upto_region 7 with fail
    refine (has_at _ _ rs _ _ (by omega) HRrx.out HR1x.out _ (ints_own Hr5.out)).mono ?_
    rintro e w' ⟨rfl, rfl⟩
    cases r1
    · skip
      go_upto_region 7 with fail
      refine (has_at _ _ rs _ _ (by omega) HRrx.out HR2x.out _ (ints_own Hr5.out)).mono ?_
      rintro e w' ⟨rfl, rfl⟩
      cases r2
      · skip
        by_cases hk1 : 1 < ks.length
        · skip
          go_upto_region 7 with fail
          refine (always_at _ _ rs _ (by omega) HRrx.out (HAlx.out hk1) _ (Nat.le_refl _) (lits_own Hr5.out)).mono ?_
          rintro e w6 ⟨rfl, hB⟩
          have hbw6 := hbw5.trans (hB.mono hbw5.size)
          have ha6 := Ha5.out.on hB
          have hb6 := Hb5.out.on hB
          have hr6 := owns_on Hr5.out hB
          have hc6 := owns_on Hc5.out hB
          have Ha6 := Lib.hid ha6; clear ha6 Ha5
          have Hb6 := Lib.hid hb6; clear hb6 Hb5
          have Hr6 := Lib.hid hr6; clear hr6 Hr5
          have Hc6 := Lib.hid hc6; clear hc6 Hc5
          go_upto_region 7 with fail
          go_meet
          exact ⟨rfl, Ha6.out, Hb6.out, (lits_own Hr6.out), rfl, hbw6⟩
        · skip
          go_upto_region 7 with fail
          go_meet
          exact ⟨rfl, Ha5.out, Hb5.out, (lits_own Hr5.out), rfl, hbw5⟩
      · skip
        go_upto_region 7 with fail
        refine (has_at _ _ a _ _ (by omega) HRax.out (HA2x.out (by trivial)) _ Ha5.out.ints).mono ?_
        rintro e w' ⟨rfl, rfl⟩
        by_cases hk1 : 1 < ks.length
        · skip
          go_upto_region 7 with fail
          refine (always_at _ _ rs _ (by omega) HRrx.out (HAlx.out hk1) _ (Nat.le_refl _) (lits_own Hr5.out)).mono ?_
          rintro e w6 ⟨rfl, hB⟩
          have hbw6 := hbw5.trans (hB.mono hbw5.size)
          have ha6 := Ha5.out.on hB
          have hb6 := Hb5.out.on hB
          have hr6 := owns_on Hr5.out hB
          have hc6 := owns_on Hc5.out hB
          have Ha6 := Lib.hid ha6; clear ha6 Ha5
          have Hb6 := Lib.hid hb6; clear hb6 Hb5
          have Hr6 := Lib.hid hr6; clear hr6 Hr5
          have Hc6 := Lib.hid hc6; clear hc6 Hc5
          go_upto_region 7 with fail
          go_meet
          exact ⟨rfl, Ha6.out, Hb6.out, (lits_own Hr6.out), rfl, hbw6⟩
        · skip
          go_upto_region 7 with fail
          go_meet
          exact ⟨rfl, Ha5.out, Hb5.out, (lits_own Hr5.out), rfl, hbw5⟩
    · skip
      go_upto_region 7 with fail
      refine (has_at _ _ b _ _ (by omega) HRbx.out (HB1x.out (by trivial)) _ Hb5.out.ints).mono ?_
      rintro e w' ⟨rfl, rfl⟩
      go_upto_region 7 with fail
      refine (has_at _ _ rs _ _ (by omega) HRrx.out HR2x.out _ (ints_own Hr5.out)).mono ?_
      rintro e w' ⟨rfl, rfl⟩
      cases r2
      · skip
        by_cases hk1 : 1 < ks.length
        · skip
          go_upto_region 7 with fail
          refine (always_at _ _ rs _ (by omega) HRrx.out (HAlx.out hk1) _ (Nat.le_refl _) (lits_own Hr5.out)).mono ?_
          rintro e w6 ⟨rfl, hB⟩
          have hbw6 := hbw5.trans (hB.mono hbw5.size)
          have ha6 := Ha5.out.on hB
          have hb6 := Hb5.out.on hB
          have hr6 := owns_on Hr5.out hB
          have hc6 := owns_on Hc5.out hB
          have Ha6 := Lib.hid ha6; clear ha6 Ha5
          have Hb6 := Lib.hid hb6; clear hb6 Hb5
          have Hr6 := Lib.hid hr6; clear hr6 Hr5
          have Hc6 := Lib.hid hc6; clear hc6 Hc5
          go_upto_region 7 with fail
          go_meet
          exact ⟨rfl, Ha6.out, Hb6.out, (lits_own Hr6.out), rfl, hbw6⟩
        · skip
          go_upto_region 7 with fail
          go_meet
          exact ⟨rfl, Ha5.out, Hb5.out, (lits_own Hr5.out), rfl, hbw5⟩
      · skip
        go_upto_region 7 with fail
        refine (has_at _ _ a _ _ (by omega) HRax.out (HA2x.out (by trivial)) _ Ha5.out.ints).mono ?_
        rintro e w' ⟨rfl, rfl⟩
        by_cases hk1 : 1 < ks.length
        · skip
          go_upto_region 7 with fail
          refine (always_at _ _ rs _ (by omega) HRrx.out (HAlx.out hk1) _ (Nat.le_refl _) (lits_own Hr5.out)).mono ?_
          rintro e w6 ⟨rfl, hB⟩
          have hbw6 := hbw5.trans (hB.mono hbw5.size)
          have ha6 := Ha5.out.on hB
          have hb6 := Hb5.out.on hB
          have hr6 := owns_on Hr5.out hB
          have hc6 := owns_on Hc5.out hB
          have Ha6 := Lib.hid ha6; clear ha6 Ha5
          have Hb6 := Lib.hid hb6; clear hb6 Hb5
          have Hr6 := Lib.hid hr6; clear hr6 Hr5
          have Hc6 := Lib.hid hc6; clear hc6 Hc5
          go_upto_region 7 with fail
          go_meet
          exact ⟨rfl, Ha6.out, Hb6.out, (lits_own Hr6.out), rfl, hbw6⟩
        · skip
          go_upto_region 7 with fail
          go_meet
          exact ⟨rfl, Ha5.out, Hb5.out, (lits_own Hr5.out), rfl, hbw5⟩

  case rest =>
    obtain ⟨rfl, ha0, hb0, hr0, rfl, hbw0⟩ := hcut
    have Ha0 := Lib.hid ha0; have Hb0 := Lib.hid hb0; have Hr0 := Lib.hid hr0; clear ha0 hb0 hr0
    go_wp2_with fail
    refine (without_at _ _ a x ps (by omega) HRax.out HLxx.out HPsx.out _ (Nat.le_refl _) Ha0.out).mono ?_
    rintro e w1 ⟨vp, rfl, hr, hB⟩
    have hp1 := lits_own hr
    have hbw1 := hB
    have ha1 := Ha0.out.on hB
    have hb1 := Hb0.out.on hB
    have hr1 := Hr0.out.on hB
    have Ha1 := Lib.hid ha1; clear ha1 Ha0
    have Hb1 := Lib.hid hb1; clear hb1 Hb0
    have Hr1 := Lib.hid hr1; clear hr1 Hr0
    have Hp1 := Lib.hid hp1; clear hp1
    clear hr
    go_wp2_with fail
    refine (without_at _ _ b (-x) qs (by omega) HRbx.out HLnxx.out HQsx.out _ (Nat.le_refl _) Hb1.out).mono ?_
    rintro e w2 ⟨vq, rfl, hr, hB⟩
    have hq2 := lits_own hr
    have hbw2 := hbw1.trans (hB.mono hbw1.size)
    have ha2 := Ha1.out.on hB
    have hb2 := Hb1.out.on hB
    have hr2 := Hr1.out.on hB
    have hp2 := Hp1.out.on hB
    have Ha2 := Lib.hid ha2; clear ha2 Ha1
    have Hb2 := Lib.hid hb2; clear hb2 Hb1
    have Hr2 := Lib.hid hr2; clear hr2 Hr1
    have Hp2 := Lib.hid hp2; clear hp2 Hp1
    have Hq2 := Lib.hid hq2; clear hq2
    clear hr
    have hbwt := hbw0.trans (hbw2.mono hbw0.size); clear hbw0 hbw2 hbw1
    go_wp2_with fail
    go_loopw [114] (fun i wr => BitsRel w2 i wr) (fun i _ => 256 - (intOf i).toNat)
    case atStart => exact ⟨0, by omega, rfl, Below.refl _ _⟩
    case round =>
      obtain ⟨k, hk, rfl, hbr⟩ := hrel
      by_cases hlt : k < 256

      · have ha1 := Ha2.out.on hbr; have hb1 := Hb2.out.on hbr; have hr1 := Hr2.out.on hbr; have hp1 := Hp2.out.on hbr; have hq1 := Hq2.out.on hbr
        clear Ha2 Hb2 Hr2 Hp2 Hq2
        have Ha1 := Lib.hid ha1; have Hb1 := Lib.hid hb1; have Hr1 := Lib.hid hr1; have Hp1 := Lib.hid hp1; have Hq1 := Lib.hid hq1; clear ha1 hb1 hr1 hp1 hq1
        have hml := modelL_len k
        have hml1 : (modelL k).length ≤ 8 := by omega
        clear hml
        have hfo := HFox.out k
        obtain ⟨m, hm⟩ : ∃ m, modelL k = m := ⟨_, rfl⟩
        rw [hm] at hml1 hfo
        have HMm := Lib.hid hm; clear hm
        have hho := HHox.out m
        obtain ⟨xa, hxa⟩ : ∃ x, holdsB a m = x := ⟨_, rfl⟩
        obtain ⟨xb, hxb⟩ : ∃ x, holdsB b m = x := ⟨_, rfl⟩
        obtain ⟨xp, hxp⟩ : ∃ x, holdsB ps m = x := ⟨_, rfl⟩
        obtain ⟨xq, hxq⟩ : ∃ x, holdsB qs m = x := ⟨_, rfl⟩
        rw [hxp, hxq] at hho
        rw [hxa, hxb, hho] at hfo
        have HHo := Lib.hid hho; have HFo := Lib.hid hfo; have HXa := Lib.hid hxa; have HXb := Lib.hid hxb; have HXp := Lib.hid hxp; have HXq := Lib.hid hxq; clear hho hfo hxa hxb hxp hxq
        have hbw1 := Below.refl wr.heap.size wr
        go_wp2_with fail
        refine (model_any k _).mono ?_
        rintro e w12 ⟨vm, rfl, hr, hB⟩
        rw [HMm.out] at hr
        have hm2 := ints_own hr
        have hbw2 := hbw1.trans (hB.mono hbw1.size)
        have ha2 := Ha1.out.on hB
        have hb2 := Hb1.out.on hB
        have hr2 := Hr1.out.on hB
        have hp2 := Hp1.out.on hB
        have hq2 := Hq1.out.on hB
        have Ha2 := Lib.hid ha2; clear ha2 Ha1
        have Hb2 := Lib.hid hb2; clear hb2 Hb1
        have Hr2 := Lib.hid hr2; clear hr2 Hr1
        have Hp2 := Lib.hid hp2; clear hp2 Hp1
        have Hq2 := Lib.hid hq2; clear hq2 Hq1
        have Hm2 := Lib.hid hm2; clear hm2
        clear hr
        go_wp2_with fail
        refine (holds_at _ _ _ rs m _ (by omega) (by omega) HRrx.out HHo.out _ (Nat.le_refl _) Hr2.out Hm2.out).mono ?_
        rintro e w13 ⟨rfl, hB⟩
        have hbw3 := hbw2.trans (hB.mono hbw2.size)
        have ha3 := Ha2.out.on hB
        have hb3 := Hb2.out.on hB
        have hr3 := Hr2.out.on hB
        have hp3 := Hp2.out.on hB
        have hq3 := Hq2.out.on hB
        have hm3 := Hm2.out.on hB
        have Ha3 := Lib.hid ha3; clear ha3 Ha2
        have Hb3 := Lib.hid hb3; clear hb3 Hb2
        have Hr3 := Lib.hid hr3; clear hr3 Hr2
        have Hp3 := Lib.hid hp3; clear hp3 Hp2
        have Hq3 := Lib.hid hq3; clear hq3 Hq2
        have Hm3 := Lib.hid hm3; clear hm3 Hm2
        cases xp
        · skip
          cases xq
          · skip
            go_wp2_with fail
            refine (holds_at _ _ _ a m _ (by omega) (by omega) HRax.out HXa.out _ (Nat.le_refl _) Ha3.out Hm3.out).mono ?_
            rintro e w14 ⟨rfl, hB⟩
            have hbw4 := hbw3.trans (hB.mono hbw3.size)
            have ha4 := Ha3.out.on hB
            have hb4 := Hb3.out.on hB
            have hr4 := Hr3.out.on hB
            have hp4 := Hp3.out.on hB
            have hq4 := Hq3.out.on hB
            have hm4 := Hm3.out.on hB
            have Ha4 := Lib.hid ha4; clear ha4 Ha3
            have Hb4 := Lib.hid hb4; clear hb4 Hb3
            have Hr4 := Lib.hid hr4; clear hr4 Hr3
            have Hp4 := Lib.hid hp4; clear hp4 Hp3
            have Hq4 := Lib.hid hq4; clear hq4 Hq3
            have Hm4 := Lib.hid hm4; clear hm4 Hm3
            cases xa
            · skip
              go_wp2_with fail
              refine (holds_at _ _ _ ps m _ (by omega) (by omega) HRpx.out HXp.out _ (Nat.le_refl _) Hp4.out Hm4.out).mono ?_
              rintro e w15 ⟨rfl, hB⟩
              have hbw5 := hbw4.trans (hB.mono hbw4.size)
              have ha5 := Ha4.out.on hB
              have hb5 := Hb4.out.on hB
              have hr5 := Hr4.out.on hB
              have hp5 := Hp4.out.on hB
              have hq5 := Hq4.out.on hB
              have hm5 := Hm4.out.on hB
              have Ha5 := Lib.hid ha5; clear ha5 Ha4
              have Hb5 := Lib.hid hb5; clear hb5 Hb4
              have Hr5 := Lib.hid hr5; clear hr5 Hr4
              have Hp5 := Lib.hid hp5; clear hp5 Hp4
              have Hq5 := Lib.hid hq5; clear hq5 Hq4
              have Hm5 := Lib.hid hm5; clear hm5 Hm4
              go_wp2_with fail
              refine (holds_at _ _ _ qs m _ (by omega) (by omega) HRqx.out HXq.out _ (Nat.le_refl _) Hq5.out Hm5.out).mono ?_
              rintro e w16 ⟨rfl, hB⟩
              have hbw6 := hbw5.trans (hB.mono hbw5.size)
              have ha6 := Ha5.out.on hB
              have hb6 := Hb5.out.on hB
              have hr6 := Hr5.out.on hB
              have hp6 := Hp5.out.on hB
              have hq6 := Hq5.out.on hB
              have hm6 := Hm5.out.on hB
              have Ha6 := Lib.hid ha6; clear ha6 Ha5
              have Hb6 := Lib.hid hb6; clear hb6 Hb5
              have Hr6 := Lib.hid hr6; clear hr6 Hr5
              have Hp6 := Lib.hid hp6; clear hp6 Hp5
              have Hq6 := Lib.hid hq6; clear hq6 Hq5
              have Hm6 := Lib.hid hm6; clear hm6 Hm5
              go_wp2_with fail
              go_roundw
              case rel => exact ⟨k + 1, by omega, by go_num, hbr.trans (hbw6.mono hbr.size)⟩
              case measure => simp [intOf]; omega
            · skip
              go_wp2_with fail
              refine (holds_at _ _ _ b m _ (by omega) (by omega) HRbx.out HXb.out _ (Nat.le_refl _) Hb4.out Hm4.out).mono ?_
              rintro e w15 ⟨rfl, hB⟩
              have hbw5 := hbw4.trans (hB.mono hbw4.size)
              have ha5 := Ha4.out.on hB
              have hb5 := Hb4.out.on hB
              have hr5 := Hr4.out.on hB
              have hp5 := Hp4.out.on hB
              have hq5 := Hq4.out.on hB
              have hm5 := Hm4.out.on hB
              have Ha5 := Lib.hid ha5; clear ha5 Ha4
              have Hb5 := Lib.hid hb5; clear hb5 Hb4
              have Hr5 := Lib.hid hr5; clear hr5 Hr4
              have Hp5 := Lib.hid hp5; clear hp5 Hp4
              have Hq5 := Lib.hid hq5; clear hq5 Hq4
              have Hm5 := Lib.hid hm5; clear hm5 Hm4
              obtain rfl : xb = false := by cases xb; exact rfl; exact absurd (HFo.out (by trivial) (by trivial)) (by decide)
              go_wp2_with fail
              refine (holds_at _ _ _ ps m _ (by omega) (by omega) HRpx.out HXp.out _ (Nat.le_refl _) Hp5.out Hm5.out).mono ?_
              rintro e w16 ⟨rfl, hB⟩
              have hbw6 := hbw5.trans (hB.mono hbw5.size)
              have ha6 := Ha5.out.on hB
              have hb6 := Hb5.out.on hB
              have hr6 := Hr5.out.on hB
              have hp6 := Hp5.out.on hB
              have hq6 := Hq5.out.on hB
              have hm6 := Hm5.out.on hB
              have Ha6 := Lib.hid ha6; clear ha6 Ha5
              have Hb6 := Lib.hid hb6; clear hb6 Hb5
              have Hr6 := Lib.hid hr6; clear hr6 Hr5
              have Hp6 := Lib.hid hp6; clear hp6 Hp5
              have Hq6 := Lib.hid hq6; clear hq6 Hq5
              have Hm6 := Lib.hid hm6; clear hm6 Hm5
              go_wp2_with fail
              refine (holds_at _ _ _ qs m _ (by omega) (by omega) HRqx.out HXq.out _ (Nat.le_refl _) Hq6.out Hm6.out).mono ?_
              rintro e w17 ⟨rfl, hB⟩
              have hbw7 := hbw6.trans (hB.mono hbw6.size)
              have ha7 := Ha6.out.on hB
              have hb7 := Hb6.out.on hB
              have hr7 := Hr6.out.on hB
              have hp7 := Hp6.out.on hB
              have hq7 := Hq6.out.on hB
              have hm7 := Hm6.out.on hB
              have Ha7 := Lib.hid ha7; clear ha7 Ha6
              have Hb7 := Lib.hid hb7; clear hb7 Hb6
              have Hr7 := Lib.hid hr7; clear hr7 Hr6
              have Hp7 := Lib.hid hp7; clear hp7 Hp6
              have Hq7 := Lib.hid hq7; clear hq7 Hq6
              have Hm7 := Lib.hid hm7; clear hm7 Hm6
              go_wp2_with fail
              go_roundw
              case rel => exact ⟨k + 1, by omega, by go_num, hbr.trans (hbw7.mono hbr.size)⟩
              case measure => simp [intOf]; omega
          · skip
            go_wp2_with fail
            refine (holds_at _ _ _ a m _ (by omega) (by omega) HRax.out HXa.out _ (Nat.le_refl _) Ha3.out Hm3.out).mono ?_
            rintro e w14 ⟨rfl, hB⟩
            have hbw4 := hbw3.trans (hB.mono hbw3.size)
            have ha4 := Ha3.out.on hB
            have hb4 := Hb3.out.on hB
            have hr4 := Hr3.out.on hB
            have hp4 := Hp3.out.on hB
            have hq4 := Hq3.out.on hB
            have hm4 := Hm3.out.on hB
            have Ha4 := Lib.hid ha4; clear ha4 Ha3
            have Hb4 := Lib.hid hb4; clear hb4 Hb3
            have Hr4 := Lib.hid hr4; clear hr4 Hr3
            have Hp4 := Lib.hid hp4; clear hp4 Hp3
            have Hq4 := Lib.hid hq4; clear hq4 Hq3
            have Hm4 := Lib.hid hm4; clear hm4 Hm3
            cases xa
            · skip
              go_wp2_with fail
              refine (holds_at _ _ _ ps m _ (by omega) (by omega) HRpx.out HXp.out _ (Nat.le_refl _) Hp4.out Hm4.out).mono ?_
              rintro e w15 ⟨rfl, hB⟩
              have hbw5 := hbw4.trans (hB.mono hbw4.size)
              have ha5 := Ha4.out.on hB
              have hb5 := Hb4.out.on hB
              have hr5 := Hr4.out.on hB
              have hp5 := Hp4.out.on hB
              have hq5 := Hq4.out.on hB
              have hm5 := Hm4.out.on hB
              have Ha5 := Lib.hid ha5; clear ha5 Ha4
              have Hb5 := Lib.hid hb5; clear hb5 Hb4
              have Hr5 := Lib.hid hr5; clear hr5 Hr4
              have Hp5 := Lib.hid hp5; clear hp5 Hp4
              have Hq5 := Lib.hid hq5; clear hq5 Hq4
              have Hm5 := Lib.hid hm5; clear hm5 Hm4
              go_wp2_with fail
              refine (holds_at _ _ _ qs m _ (by omega) (by omega) HRqx.out HXq.out _ (Nat.le_refl _) Hq5.out Hm5.out).mono ?_
              rintro e w16 ⟨rfl, hB⟩
              have hbw6 := hbw5.trans (hB.mono hbw5.size)
              have ha6 := Ha5.out.on hB
              have hb6 := Hb5.out.on hB
              have hr6 := Hr5.out.on hB
              have hp6 := Hp5.out.on hB
              have hq6 := Hq5.out.on hB
              have hm6 := Hm5.out.on hB
              have Ha6 := Lib.hid ha6; clear ha6 Ha5
              have Hb6 := Lib.hid hb6; clear hb6 Hb5
              have Hr6 := Lib.hid hr6; clear hr6 Hr5
              have Hp6 := Lib.hid hp6; clear hp6 Hp5
              have Hq6 := Lib.hid hq6; clear hq6 Hq5
              have Hm6 := Lib.hid hm6; clear hm6 Hm5
              go_wp2_with fail
              go_roundw
              case rel => exact ⟨k + 1, by omega, by go_num, hbr.trans (hbw6.mono hbr.size)⟩
              case measure => simp [intOf]; omega
            · skip
              go_wp2_with fail
              refine (holds_at _ _ _ b m _ (by omega) (by omega) HRbx.out HXb.out _ (Nat.le_refl _) Hb4.out Hm4.out).mono ?_
              rintro e w15 ⟨rfl, hB⟩
              have hbw5 := hbw4.trans (hB.mono hbw4.size)
              have ha5 := Ha4.out.on hB
              have hb5 := Hb4.out.on hB
              have hr5 := Hr4.out.on hB
              have hp5 := Hp4.out.on hB
              have hq5 := Hq4.out.on hB
              have hm5 := Hm4.out.on hB
              have Ha5 := Lib.hid ha5; clear ha5 Ha4
              have Hb5 := Lib.hid hb5; clear hb5 Hb4
              have Hr5 := Lib.hid hr5; clear hr5 Hr4
              have Hp5 := Lib.hid hp5; clear hp5 Hp4
              have Hq5 := Lib.hid hq5; clear hq5 Hq4
              have Hm5 := Lib.hid hm5; clear hm5 Hm4
              cases xb
              · skip
                go_wp2_with fail
                refine (holds_at _ _ _ ps m _ (by omega) (by omega) HRpx.out HXp.out _ (Nat.le_refl _) Hp5.out Hm5.out).mono ?_
                rintro e w16 ⟨rfl, hB⟩
                have hbw6 := hbw5.trans (hB.mono hbw5.size)
                have ha6 := Ha5.out.on hB
                have hb6 := Hb5.out.on hB
                have hr6 := Hr5.out.on hB
                have hp6 := Hp5.out.on hB
                have hq6 := Hq5.out.on hB
                have hm6 := Hm5.out.on hB
                have Ha6 := Lib.hid ha6; clear ha6 Ha5
                have Hb6 := Lib.hid hb6; clear hb6 Hb5
                have Hr6 := Lib.hid hr6; clear hr6 Hr5
                have Hp6 := Lib.hid hp6; clear hp6 Hp5
                have Hq6 := Lib.hid hq6; clear hq6 Hq5
                have Hm6 := Lib.hid hm6; clear hm6 Hm5
                go_wp2_with fail
                refine (holds_at _ _ _ qs m _ (by omega) (by omega) HRqx.out HXq.out _ (Nat.le_refl _) Hq6.out Hm6.out).mono ?_
                rintro e w17 ⟨rfl, hB⟩
                have hbw7 := hbw6.trans (hB.mono hbw6.size)
                have ha7 := Ha6.out.on hB
                have hb7 := Hb6.out.on hB
                have hr7 := Hr6.out.on hB
                have hp7 := Hp6.out.on hB
                have hq7 := Hq6.out.on hB
                have hm7 := Hm6.out.on hB
                have Ha7 := Lib.hid ha7; clear ha7 Ha6
                have Hb7 := Lib.hid hb7; clear hb7 Hb6
                have Hr7 := Lib.hid hr7; clear hr7 Hr6
                have Hp7 := Lib.hid hp7; clear hp7 Hp6
                have Hq7 := Lib.hid hq7; clear hq7 Hq6
                have Hm7 := Lib.hid hm7; clear hm7 Hm6
                go_wp2_with fail
                go_roundw
                case rel => exact ⟨k + 1, by omega, by go_num, hbr.trans (hbw7.mono hbr.size)⟩
                case measure => simp [intOf]; omega
              · skip
                go_wp2_with fail
                refine (holds_at _ _ _ ps m _ (by omega) (by omega) HRpx.out HXp.out _ (Nat.le_refl _) Hp5.out Hm5.out).mono ?_
                rintro e w16 ⟨rfl, hB⟩
                have hbw6 := hbw5.trans (hB.mono hbw5.size)
                have ha6 := Ha5.out.on hB
                have hb6 := Hb5.out.on hB
                have hr6 := Hr5.out.on hB
                have hp6 := Hp5.out.on hB
                have hq6 := Hq5.out.on hB
                have hm6 := Hm5.out.on hB
                have Ha6 := Lib.hid ha6; clear ha6 Ha5
                have Hb6 := Lib.hid hb6; clear hb6 Hb5
                have Hr6 := Lib.hid hr6; clear hr6 Hr5
                have Hp6 := Lib.hid hp6; clear hp6 Hp5
                have Hq6 := Lib.hid hq6; clear hq6 Hq5
                have Hm6 := Lib.hid hm6; clear hm6 Hm5
                go_wp2_with fail
                refine (holds_at _ _ _ qs m _ (by omega) (by omega) HRqx.out HXq.out _ (Nat.le_refl _) Hq6.out Hm6.out).mono ?_
                rintro e w17 ⟨rfl, hB⟩
                have hbw7 := hbw6.trans (hB.mono hbw6.size)
                have ha7 := Ha6.out.on hB
                have hb7 := Hb6.out.on hB
                have hr7 := Hr6.out.on hB
                have hp7 := Hp6.out.on hB
                have hq7 := Hq6.out.on hB
                have hm7 := Hm6.out.on hB
                have Ha7 := Lib.hid ha7; clear ha7 Ha6
                have Hb7 := Lib.hid hb7; clear hb7 Hb6
                have Hr7 := Lib.hid hr7; clear hr7 Hr6
                have Hp7 := Lib.hid hp7; clear hp7 Hp6
                have Hq7 := Lib.hid hq7; clear hq7 Hq6
                have Hm7 := Lib.hid hm7; clear hm7 Hm6
                go_wp2_with fail
                go_roundw
                case rel => exact ⟨k + 1, by omega, by go_num, hbr.trans (hbw7.mono hbr.size)⟩
                case measure => simp [intOf]; omega
        · skip
          go_wp2_with fail
          refine (holds_at _ _ _ a m _ (by omega) (by omega) HRax.out HXa.out _ (Nat.le_refl _) Ha3.out Hm3.out).mono ?_
          rintro e w14 ⟨rfl, hB⟩
          have hbw4 := hbw3.trans (hB.mono hbw3.size)
          have ha4 := Ha3.out.on hB
          have hb4 := Hb3.out.on hB
          have hr4 := Hr3.out.on hB
          have hp4 := Hp3.out.on hB
          have hq4 := Hq3.out.on hB
          have hm4 := Hm3.out.on hB
          have Ha4 := Lib.hid ha4; clear ha4 Ha3
          have Hb4 := Lib.hid hb4; clear hb4 Hb3
          have Hr4 := Lib.hid hr4; clear hr4 Hr3
          have Hp4 := Lib.hid hp4; clear hp4 Hp3
          have Hq4 := Lib.hid hq4; clear hq4 Hq3
          have Hm4 := Lib.hid hm4; clear hm4 Hm3
          cases xa
          · skip
            go_wp2_with fail
            refine (holds_at _ _ _ ps m _ (by omega) (by omega) HRpx.out HXp.out _ (Nat.le_refl _) Hp4.out Hm4.out).mono ?_
            rintro e w15 ⟨rfl, hB⟩
            have hbw5 := hbw4.trans (hB.mono hbw4.size)
            have ha5 := Ha4.out.on hB
            have hb5 := Hb4.out.on hB
            have hr5 := Hr4.out.on hB
            have hp5 := Hp4.out.on hB
            have hq5 := Hq4.out.on hB
            have hm5 := Hm4.out.on hB
            have Ha5 := Lib.hid ha5; clear ha5 Ha4
            have Hb5 := Lib.hid hb5; clear hb5 Hb4
            have Hr5 := Lib.hid hr5; clear hr5 Hr4
            have Hp5 := Lib.hid hp5; clear hp5 Hp4
            have Hq5 := Lib.hid hq5; clear hq5 Hq4
            have Hm5 := Lib.hid hm5; clear hm5 Hm4
            go_wp2_with fail
            go_roundw
            case rel => exact ⟨k + 1, by omega, by go_num, hbr.trans (hbw5.mono hbr.size)⟩
            case measure => simp [intOf]; omega
          · skip
            go_wp2_with fail
            refine (holds_at _ _ _ b m _ (by omega) (by omega) HRbx.out HXb.out _ (Nat.le_refl _) Hb4.out Hm4.out).mono ?_
            rintro e w15 ⟨rfl, hB⟩
            have hbw5 := hbw4.trans (hB.mono hbw4.size)
            have ha5 := Ha4.out.on hB
            have hb5 := Hb4.out.on hB
            have hr5 := Hr4.out.on hB
            have hp5 := Hp4.out.on hB
            have hq5 := Hq4.out.on hB
            have hm5 := Hm4.out.on hB
            have Ha5 := Lib.hid ha5; clear ha5 Ha4
            have Hb5 := Lib.hid hb5; clear hb5 Hb4
            have Hr5 := Lib.hid hr5; clear hr5 Hr4
            have Hp5 := Lib.hid hp5; clear hp5 Hp4
            have Hq5 := Lib.hid hq5; clear hq5 Hq4
            have Hm5 := Lib.hid hm5; clear hm5 Hm4
            cases xb
            · skip
              go_wp2_with fail
              refine (holds_at _ _ _ ps m _ (by omega) (by omega) HRpx.out HXp.out _ (Nat.le_refl _) Hp5.out Hm5.out).mono ?_
              rintro e w16 ⟨rfl, hB⟩
              have hbw6 := hbw5.trans (hB.mono hbw5.size)
              have ha6 := Ha5.out.on hB
              have hb6 := Hb5.out.on hB
              have hr6 := Hr5.out.on hB
              have hp6 := Hp5.out.on hB
              have hq6 := Hq5.out.on hB
              have hm6 := Hm5.out.on hB
              have Ha6 := Lib.hid ha6; clear ha6 Ha5
              have Hb6 := Lib.hid hb6; clear hb6 Hb5
              have Hr6 := Lib.hid hr6; clear hr6 Hr5
              have Hp6 := Lib.hid hp6; clear hp6 Hp5
              have Hq6 := Lib.hid hq6; clear hq6 Hq5
              have Hm6 := Lib.hid hm6; clear hm6 Hm5
              go_wp2_with fail
              go_roundw
              case rel => exact ⟨k + 1, by omega, by go_num, hbr.trans (hbw6.mono hbr.size)⟩
              case measure => simp [intOf]; omega
            · skip
              go_wp2_with fail
              refine (holds_at _ _ _ ps m _ (by omega) (by omega) HRpx.out HXp.out _ (Nat.le_refl _) Hp5.out Hm5.out).mono ?_
              rintro e w16 ⟨rfl, hB⟩
              have hbw6 := hbw5.trans (hB.mono hbw5.size)
              have ha6 := Ha5.out.on hB
              have hb6 := Hb5.out.on hB
              have hr6 := Hr5.out.on hB
              have hp6 := Hp5.out.on hB
              have hq6 := Hq5.out.on hB
              have hm6 := Hm5.out.on hB
              have Ha6 := Lib.hid ha6; clear ha6 Ha5
              have Hb6 := Lib.hid hb6; clear hb6 Hb5
              have Hr6 := Lib.hid hr6; clear hr6 Hr5
              have Hp6 := Lib.hid hp6; clear hp6 Hp5
              have Hq6 := Lib.hid hq6; clear hq6 Hq5
              have Hm6 := Lib.hid hm6; clear hm6 Hm5
              go_wp2_with fail
              go_roundw
              case rel => exact ⟨k + 1, by omega, by go_num, hbr.trans (hbw6.mono hbr.size)⟩
              case measure => simp [intOf]; omega

      · obtain rfl : k = 256 := by omega
        go_wp2_with fail
        refine (HAw.out _).mono ?_
        rintro e w9 ⟨rfl, hb9⟩
        go_wp2_with fail
        go_ret
        exact ⟨rfl, (hbwt.trans (hbr.mono hbwt.size)).trans (hb9.mono (hbwt.trans (hbr.mono hbwt.size)).size)⟩

/-- A model has one of a literal and its negation. -/
theorem model_neg {n x : Int} (h : x ∈ modelL n) : -x ∉ modelL n := by
  unfold modelL at *
  obtain ⟨i, -, hi⟩ := List.mem_map.1 h
  intro h'
  obtain ⟨j, -, hj⟩ := List.mem_map.1 h'
  unfold mlit at hi hj
  by_cases e : mbit n i
  · rw [if_pos e] at hi
    split at hj
    · omega
    · rename_i e'
      obtain rfl : i = j := by omega
      exact e' e
  · rw [if_neg e] at hi
    split at hj
    · rename_i e'
      obtain rfl : i = j := by omega
      exact e e'
    · omega
theorem clausesFollow.clausesFollow_walk (kv : Value) (k : List Int) (hlk : k.length ≤ maxLen) (hwk : ∀ x ∈ k, (Lit.int .u8 x).wf = true) (hfk : Fits kv)
    (lv : Value) (l : List Int) (hll : l.length ≤ maxLen) (hwl : ∀ x ∈ l, (Lit.int .u8 x).wf = true) (hfl : Fits lv) (by_ : Int) (hwb : (Lit.int .u8 by_).wf = true) (w : World) (hIk : IntsK .u8 w.heap.size w kv k) (hIl : IntsK .u8 w.heap.size w lv l) :
    Calls Try.prog 6 #[kv, lv, .int .u8 by_] w fun e w' => e = .returned (.bool true) ∧ Below w.heap.size w w' := by
  have hmk := madeAt hlk hwk hfk rfl
  have hml := madeAt hll hwl hfl rfl
  have hmo := madeOne hwb
  have hx8 := madeU_is by_
  obtain ⟨x, hx⟩ : ∃ x, madeU by_ = x := ⟨_, rfl⟩
  rw [hx] at hmo hx8
  have hlx := lit8 hx8
  have hlnx := neg_lit hlx
  have hx0 := litB_of hlx
  have hrk := madeL_right k
  have hrl := madeL_right l
  have hlka := madeL_len k
  have hllb := madeL_len l
  obtain ⟨ka, hka⟩ : ∃ a, madeL k = a := ⟨_, rfl⟩
  obtain ⟨lb, hlb⟩ : ∃ a, madeL l = a := ⟨_, rfl⟩
  rw [hka] at hmk hrk hlka
  rw [hlb] at hml hrl hllb
  have h1 : ∀ {y : Int}, litB y = true → rightB [y] = true := fun h => rightB_mk (by simp) (fun z hz => by rw [List.mem_singleton] at hz; rw [hz]; exact h)
  have hla : (ka ++ [x]).length ≤ 21 := by rw [List.length_append]; simp; omega
  have hlb' : (lb ++ [-x]).length ≤ 21 := by rw [List.length_append]; simp; omega
  have hra := right_app hrk (h1 hlx) (by simp; omega)
  have hrb := right_app hrl (h1 hlnx) (by simp; omega)
  have hxa : x ∈ ka ++ [x] := by simp
  have hxb : -x ∈ lb ++ [-x] := by simp
  obtain ⟨a, hea⟩ : ∃ a, ka ++ [x] = a := ⟨_, rfl⟩
  obtain ⟨b, heb⟩ : ∃ a, lb ++ [-x] = a := ⟨_, rfl⟩
  rw [hea] at hla hra hxa
  rw [heb] at hlb' hrb hxb
  have hne : x ≠ -x := by have := litB_of hlx; omega
  have hpr : rightB (normL (lessL a x)) = true := norm_right (rightB_mk (by have := lessL_length a x; omega) (lessL_lit (rightB_of hra).2))
  have hqr : rightB (normL (lessL b (-x))) = true := norm_right (rightB_mk (by have := lessL_length b (-x); omega) (lessL_lit (rightB_of hrb).2))
  have hpl : (normL (lessL a x)).length ≤ 21 := by have := norm_length (lessL a x); have := lessL_length a x; omega
  have hql : (normL (lessL b (-x))).length ≤ 21 := by have := norm_length (lessL b (-x)); have := lessL_length b (-x); omega
  have hrs : clResL a b x = normL (normL (lessL a x) ++ normL (lessL b (-x))) := by
    unfold clResL resL
    rw [hra, hrb, Bool.and_self, if_pos rfl, hlx, if_pos rfl, hasB_iff.2 hxa, hasB_iff.2 hxb, Bool.and_self, if_pos rfl, manyL_few (by rw [List.length_append]; omega)]
  have hre : clResE a b x = 0 := by
    unfold clResE resE
    rw [hra, hrb, Bool.and_self, if_pos rfl, hlx, if_pos rfl, hasB_iff.2 hxa, hasB_iff.2 hxb, Bool.and_self, if_pos rfl, manyE_few (by rw [List.length_append]; omega)]
  have hrr : rightB (clResL a b x) = true := by rw [hrs]; exact norm_right (right_app hpr hqr (by omega))
  have hmr : ∀ y, y ∈ clResL a b x ↔ (y ∈ a ∧ y ≠ x) ∨ (y ∈ b ∧ y ≠ -x) := fun y => by rw [hrs, norm_mem, List.mem_append, norm_mem, norm_mem, lessL_mem, lessL_mem]
  have hmk' : ∀ y, y ∈ normL (a.filter fun x => hasB b (-x)) ↔ y ∈ a ∧ -y ∈ b := fun y => by rw [norm_mem, List.mem_filter]; constructor <;> (rintro ⟨h, h'⟩; exact ⟨h, by first | exact hasB_iff.1 h' | exact hasB_iff.2 h'⟩)
  have hxk : x ∈ normL (a.filter fun x => hasB b (-x)) := (hmk' x).2 ⟨hxa, hxb⟩
  have hkl : (normL (a.filter fun x => hasB b (-x))).length ≤ 100 := by
    have := norm_length (a.filter fun x => hasB b (-x))
    have : (a.filter fun x => hasB b (-x)).length ≤ a.length := List.length_filter_le _ _
    omega
  have hho : ∀ m, holdsB (clResL a b x) m = (holdsB (normL (lessL a x)) m || holdsB (normL (lessL b (-x))) m) := fun m => by rw [hrs, holds_app]
  refine follow_core kv lv k l by_ x a b _ _ _ _ _ _ w hIk hIl ka lb hmk hml hmo (by have := litB_of hlx; obtain ⟨v, h1, h2, e⟩ := hx8; omega) (by obtain ⟨v, h1, h2, e⟩ := hx8; omega) hlx hlnx hea heb hlka hllb hla hlb' hra hrb rfl hre hrr (rightB_of hrr).1 rfl hkl (List.length_pos_of_mem hxk) (hasB_iff.2 hxk) rfl rfl hpr hqr (by omega) (by omega) rfl rfl ?_ ?_ ?_ hho ?_
  · intro h
    rcases (hmr x).1 (hasB_iff.1 h) with ⟨-, h'⟩ | ⟨h', -⟩
    · exact absurd rfl h'
    · exact hasB_iff.2 h'
  · intro h
    rcases (hmr (-x)).1 (hasB_iff.1 h) with ⟨h', -⟩ | ⟨-, h'⟩
    · exact hasB_iff.2 h'
    · exact absurd rfl h'
  · intro h
    obtain ⟨y, hy, hyx⟩ : ∃ y ∈ normL (a.filter fun x => hasB b (-x)), y ≠ x := by
      refine Classical.byContradiction fun hn => ?_
      have hall : ∀ y ∈ normL (a.filter fun x => hasB b (-x)), y = x := fun y hy => Classical.byContradiction fun h' => hn ⟨y, hy, h'⟩
      have hnd := inc_nodup (norm_inc (a.filter fun x => hasB b (-x)))
      match hz : normL (a.filter fun x => hasB b (-x)) with
      | [] => rw [hz] at h; simp at h
      | [_] => rw [hz] at h; simp at h
      | p :: q :: t =>
        rw [hz] at hall hnd
        have h1 := hall p (by simp)
        have h2 := hall q (by simp)
        rw [h1, h2] at hnd
        simp at hnd
    obtain ⟨hya, hyb⟩ := (hmk' y).1 hy
    exact alwB_iff.2 ⟨y, (hmr y).2 (.inl ⟨hya, hyx⟩), (hmr (-y)).2 (.inr ⟨hyb, by omega⟩)⟩
  · intro n h1 h2
    obtain ⟨y, hy, hya⟩ := holdsB_iff.1 h1
    obtain ⟨z, hz, hzb⟩ := holdsB_iff.1 h2
    by_cases e : y = x
    · subst e
      have : z ≠ -y := fun e' => model_neg hy (by rw [← e']; exact hz)
      exact holdsB_iff.2 ⟨z, hz, (hmr z).2 (.inr ⟨hzb, this⟩)⟩
    · exact holdsB_iff.2 ⟨y, hy, (hmr y).2 (.inl ⟨hya, e⟩)⟩
end Go.Proofs.Ytngjcacodoihdaa
