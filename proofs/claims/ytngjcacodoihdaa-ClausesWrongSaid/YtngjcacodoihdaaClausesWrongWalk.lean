/- The walk of ClausesWrong. -/
import Derived.Test.YtngjcacodoihdaaAppendKeep
import Derived.Deep.DeepCutAuto
import Derived.Deep.RegionHeld3
namespace Go.Proofs.Ytngjcacodoihdaa
open Go.RowKit Go.ChangeAt Go.ChangeShapes Go.WideShapes Go.Lib

def Err2 (w : World) (f : Int) (e : Ending) (w' : World) : Prop := ∃ v, e = .returned (.tuple #[v, .int .i64 f]) ∧ Below w.heap.size w w'
def Err3 (w : World) (e : Ending) (w' : World) : Prop := ∃ v, e = .returned (.tuple #[v, .bool false, .int .i64 20]) ∧ Below w.heap.size w w'
theorem e_norm (B : Nat) (sv : Value) (zs : List Int) (hz : zs.length ≤ 1000) (hr : rightB zs = false) (w : World) (hB : B ≤ w.heap.size) (hI : Lits B w sv zs) : Calls Try.prog 28 #[sv] w (Err3 w) := by
  have h := clnorm_any B sv zs (by omega) w hB hI
  rw [hr, if_neg (by decide), if_neg (by decide), Bool.false_and] at h
  exact h.mono fun e w' ⟨v, he, _, hb⟩ => ⟨v, he, hb⟩
theorem e_union (B : Nat) (xv yv : Value) (xs ys : List Int) (hx : xs.length ≤ 1000) (hy : ys.length ≤ 1000) (hr : rightB ys = false) (w : World) (hB : B ≤ w.heap.size) (hI : Lits B w xv xs) (hJ : Lits B w yv ys) : Calls Try.prog 16 #[xv, yv] w (Err2 w 20) := by
  have h := clunion_any B xv yv xs ys (by omega) (by omega) w hB hI hJ
  rw [hr, Bool.and_false, if_neg (by decide), if_neg (by decide)] at h
  exact h.mono fun e w' ⟨v, he, _, hb⟩ => ⟨v, he, hb⟩
theorem e_without (B : Nat) (sv : Value) (zs : List Int) (l : Int) (f : Int) (hz : zs.length ≤ 1000) (hf : (if rightB zs then (if litB l then 0 else 10) else 20) = f) (w : World) (hB : B ≤ w.heap.size) (hI : Lits B w sv zs) : Calls Try.prog 25 #[sv, .int .i64 l] w (Err2 w f) := by
  have h := clwithout_any B sv zs l (by omega) w hB hI
  rw [hf] at h
  exact h.mono fun e w' ⟨v, he, _, hb⟩ => ⟨v, he, hb⟩
theorem e_clash (B : Nat) (xv yv : Value) (xs ys : List Int) (hx : xs.length ≤ 1000) (hy : ys.length ≤ 1000) (hr : rightB xs = false) (w : World) (hB : B ≤ w.heap.size) (hI : Lits B w xv xs) (hJ : Lits B w yv ys) : Calls Try.prog 21 #[xv, yv] w (Err2 w 20) := by
  have h := clashes_any B xv yv xs ys (by omega) (by omega) w hB hI hJ
  rw [hr, Bool.false_and, if_neg (by decide), if_neg (by decide)] at h
  exact h.mono fun e w' ⟨v, he, _, hb⟩ => ⟨v, he, hb⟩
theorem e_resolve (B : Nat) (xv yv : Value) (xs ys : List Int) (l f : Int) (hx : xs.length ≤ 1000) (hy : ys.length ≤ 1000) (hf : clResE xs ys l = f) (w : World) (hB : B ≤ w.heap.size) (hI : Lits B w xv xs) (hJ : Lits B w yv ys) : Calls Try.prog 17 #[xv, yv, .int .i64 l] w (Err2 w f) := by
  subst hf
  exact (clresolve_any B xv yv xs ys l (by omega) (by omega) w hB hI hJ).mono fun e w' ⟨v, he, _, hb⟩ => ⟨v, he, hb⟩

theorem ins_a {wr w5 : World} {v5 : Value} {c : List Int} {t : Nat} {bad : Int} (hl : c.length ≤ 1000) (ht : t ≤ c.length) (hB5 : Below wr.heap.size wr w5) (hr5 : w5.ownsRow wr.heap.size 34 1 v5 c.length (c.map (Value.int .i64))) :
    Calls Try.prog 38 #[v5, .int .i64 t, .slice (some ⟨w5.heap.size, 0, none⟩) 1 1] (w5.alloc (.cells #[.int .i64 bad] 34)) fun e w' => ∃ v', e = .returned v' ∧ Lits w'.heap.size w' v' (c.take t ++ bad :: c.drop t) ∧ Below wr.heap.size wr w' :=
  (insert_any (w5.alloc (.cells #[.int .i64 bad] 34)) v5 c t bad w5.heap.size 34 wr.heap.size hl ht (hr5.alloc _) (Nat.le_trans hB5.size (by simp)) (World.alloc_heap_new w5 _) (fun e => by have := (hr5.lt _ e).2; omega)).mono
    fun e w' ⟨v', he, h1, h2⟩ => ⟨v', he, h1, (hB5.alloc hB5.size _).trans h2⟩
theorem ins_b {wr w5 : World} {v5 : Value} {c : List Int} {t : Nat} {bad : Int} (hl : c.length ≤ 1000) (ht : t ≤ c.length) (hB5 : Below wr.heap.size wr w5) (hx : w5.heap[wr.heap.size]? = some (.cells #[.int .i64 bad] 34 (0, 0))) (hr5 : w5.ownsRow (wr.heap.size + 1) 34 1 v5 c.length (c.map (Value.int .i64))) :
    Calls Try.prog 38 #[v5, .int .i64 t, .slice (some ⟨wr.heap.size, 0, none⟩) 1 1] w5 fun e w' => ∃ v', e = .returned v' ∧ Lits w'.heap.size w' v' (c.take t ++ bad :: c.drop t) ∧ Below wr.heap.size wr w' :=
  (insert_any w5 v5 c t bad wr.heap.size 34 wr.heap.size hl ht (owns_mono hr5 (by omega)) hB5.size hx (fun e => by have := (hr5.lt _ e).1; omega)).mono
    fun e w' ⟨v', he, h1, h2⟩ => ⟨v', he, h1, hB5.trans h2⟩
def WrCut (w : World) (s10 : Value) (wx : World) : Prop := ∃ wl, Lits wx.heap.size wx s10 wl ∧ wl.length ≤ 21 ∧ rightB wl = false ∧ Below w.heap.size w wx
def WrRel (w : World) (i : Value) (wr : World) : Prop := ∃ k : Nat, k ≤ 3 ∧ i = .int .i64 k ∧ Below w.heap.size w wr
def badL (b1 b2 : Int) (k : Nat) : Int := if k = 0 then 0 else if k = 1 then b1 else b2

set_option maxRecDepth 100000 in
set_option maxHeartbeats 16000000 in
theorem wrong_core (kv : Value) (k : List Int) (at_ n b1 b2 : Int) (c : List Int) (w : World) (hIk : IntsK .u8 w.heap.size w kv k) (hmk : MadeAt kv k c) (ha0 : 0 ≤ at_) (ha1 : at_ ≤ 255) (hb1 : min n (-1048577) = b1) (hb2 : max n 1048577 = b2)
    (hl1 : litB b1 = false) (hl2 : litB b2 = false) (hlc : c.length ≤ 20) (hrc : rightB c = true) (h9 : clResE c [-9] 9 = 21) (h9' : clResE (c ++ [9]) c 9 = 21) :
    Calls Try.prog 11 #[kv, .int .u8 at_, .int .i64 n] w fun e w' => e = .returned (.bool true) ∧ Below w.heap.size w w' := by
  have hw := awakeAt
  have HIk := Lib.hid hIk; have HMk := Lib.hid hmk; have HL1 := Lib.hid hl1; have HL2 := Lib.hid hl2; have HRc := Lib.hid hrc; have H9 := Lib.hid h9; have H9' := Lib.hid h9'; have HAw := Lib.hid hw
  clear hIk hmk hl1 hl2 hrc h9 h9' hw
  go_enter Try.func11, Try.ntmps11
  go_wp2_with fail
  refine (HMk.out _ HIk.out).mono ?_
  rintro e w1 ⟨vc, rfl, hr, hB1⟩
  obtain ⟨Ac, cc, rfl⟩ := own_shape hr
  have hown := hr
  have HC1 := Lib.hid hr; clear hr hown HIk HMk
  go_wp2_with fail
  have hc2 := owns_on HC1.out (below1 w1 (.cells #[.int .i64 0, .int .i64 b1, .int .i64 b2] 3))
  have hB2 := hB1.trans ((below1 w1 (.cells #[.int .i64 0, .int .i64 b1, .int .i64 b2] 3)).mono hB1.size)
  have hx0 : (w1.alloc (.cells #[.int .i64 0, .int .i64 b1, .int .i64 b2] 3)).cell? ⟨w1.heap.size, 0, none⟩ = some (.int .i64 0) := World.cell?_alloc_new _ _ _ _
  have hx1 : (w1.alloc (.cells #[.int .i64 0, .int .i64 b1, .int .i64 b2] 3)).cell? ⟨w1.heap.size, 1, none⟩ = some (.int .i64 b1) := World.cell?_alloc_new _ _ _ _
  have hx2 : (w1.alloc (.cells #[.int .i64 0, .int .i64 b1, .int .i64 b2] 3)).cell? ⟨w1.heap.size, 2, none⟩ = some (.int .i64 b2) := World.cell?_alloc_new _ _ _ _
  have hsz : w1.heap.size < (w1.alloc (.cells #[.int .i64 0, .int .i64 b1, .int .i64 b2] 3)).heap.size := by simp
  obtain ⟨w2, hw2⟩ : ∃ x, w1.alloc (.cells #[.int .i64 0, .int .i64 b1, .int .i64 b2] 3) = x := ⟨_, rfl⟩
  obtain ⟨gb, hgb⟩ : ∃ x, w1.heap.size = x := ⟨_, rfl⟩
  rw [hw2, hgb] at hx0 hx1 hx2 hsz
  rw [hw2] at hc2 hB2 ⊢
  rw [hgb]
  clear HC1 hB1 hw2
  have HX0 := Lib.hid hx0; have HX1 := Lib.hid hx1; have HX2 := Lib.hid hx2; have HC2 := Lib.hid hc2; clear hx0 hx1 hx2 hc2
  go_loopw [38] (fun i wr => WrRel w2 i wr) (fun i _ => 3 - (intOf i).toNat)
  case atStart => exact ⟨0, by omega, rfl, Below.refl _ _⟩
  case round =>
    obtain ⟨k, hk, rfl, hbr⟩ := hrel
    by_cases hlt : k < 3
    · have hck : wr.cell? ⟨gb, k, none⟩ = some (.int .i64 (badL b1 b2 k)) := by
        have h := fun v (h : w2.cell? ⟨gb, k, none⟩ = some v) => (hbr.cell (p := ⟨gb, k, none⟩) hsz).trans h
        have hk3 : k = 0 ∨ k = 1 ∨ k = 2 := by omega
        rcases hk3 with rfl | rfl | rfl
        · exact h _ HX0.out
        · exact h _ HX1.out
        · exact h _ HX2.out
      have hbad : litB (badL b1 b2 k) = false := by
        unfold badL
        split
        · decide
        · split
          · exact HL1.out
          · exact HL2.out
      obtain ⟨bad, hbd⟩ : ∃ b, badL b1 b2 k = b := ⟨_, rfl⟩
      rw [hbd] at hck hbad
      clear hbd
      have HBad := Lib.hid hbad; clear hbad
      have hc3 := owns_on HC2.out hbr
      have HC3 := Lib.hid hc3; clear hc3
      have hk31 : (k : Int) < 3 := by omega
      go_upto_region 5 with fail
      have ht0 := Nat.mod_lt at_.toNat (show 0 < c.length + 1 by omega)
      have htm : ((at_.toNat % (c.length + 1) : Nat) : Int) = at_ % ((c.length : Int) + 1) := by rw [Int.natCast_emod, Int.toNat_of_nonneg ha0, Int.natCast_add]; rfl
      obtain ⟨t, ht⟩ : ∃ t, at_.toNat % (c.length + 1) = t := ⟨_, rfl⟩
      rw [ht] at htm ht0
      clear ht
      have hwl : (c.take t ++ bad :: c.drop t).length ≤ 21 := by rw [List.length_append, List.length_cons, List.length_take, List.length_drop]; omega
      have hwr : rightB (c.take t ++ bad :: c.drop t) = false := rightB_bad (List.mem_append_right _ List.mem_cons_self) HBad.out
      have HWl := Lib.hid hwl; have HWr := Lib.hid hwr; clear hwl hwr
      have HCl : Hid (∀ W, Below wr.heap.size wr W → Calls Try.prog 39 #[.slice Ac c.length cc] W (GivesE 34 W c)) := fun W hb => clone_cl _ c W (by omega) ((ints_own HC3.out).on hb)
      have hq : at_.tmod ((c.length : Int) + 1) = (t : Int) := by rw [htm, Int.tmod_eq_emod_of_nonneg ha0]
      have hw1 : IntKind.i64.wrap ((c.length : Int) + 1) = (c.length : Int) + 1 := by rw [IntKind.wrap_i64]; omega
      have hwt : IntKind.i64.wrap (t : Int) = (t : Int) := by rw [IntKind.wrap_i64]; omega
      have hwa : IntKind.i64.wrap at_ = at_ := by rw [IntKind.wrap_i64]; omega
      have hnz : ¬ ((c.length : Int) + 1 = 0) := by omega
      clear htm
      go_cut [10] (fun s10 wx => WrCut wr s10 wx)
      case first =>
        have HClA := Lib.hid (HCl.out wr.drew (Below.refl _ _).drew)
        have HClB := Lib.hid (HCl.out ((wr.alloc (.cells #[.int .i64 bad] 34)).drew) ((Below.refl _ _).alloc (Nat.le_refl _) _).drew)
        have htl : t ≤ c.length := by omega
        have hcl1 : c.length ≤ 1000 := by omega
        clear HCl
        go_region_with (first
          | (go_at_call 39; (with_reducible refine (HClA.out).mono ?_); rintro e w5 ⟨v5, rfl, hr5, hB5⟩; have HIns := Lib.hid (ins_a (wr := wr) (bad := bad) (t := t) hcl1 htl (((Below.refl _ _).drew).trans hB5) hr5); clear hr5 hB5)
          | (go_at_call 39; (with_reducible refine (HClB.out).mono ?_); rintro e w5 ⟨v5, rfl, hr5, hB5⟩; have HIns := Lib.hid (ins_b (wr := wr) (bad := bad) (t := t) hcl1 htl ((((Below.refl _ _).alloc (Nat.le_refl _) _).drew).trans (hB5.mono (by simp))) ((hB5.block wr.heap.size (by simp)).trans (World.alloc_heap_new wr _)) (owns_mono hr5 (by simp))); clear hr5 hB5)
          | (go_at_call 38; (with_reducible refine (HIns.out).mono ?_); rintro e w6 ⟨v6, rfl, hl6, hB6⟩; have HL6 := Lib.hid hl6; clear hl6))
        all_goals (go_simp; go_wp2_with fail; go_meet; exact ⟨_, HL6.out, HWl.out, HWr.out, hB6⟩)
      case rest =>
        obtain ⟨wl, hl0, hlw, hrw, hbc⟩ := hcut
        have hc0 := (lits_own HC3.out).on hbc
        have Hl0 := Lib.hid hl0; have Hc0 := Lib.hid hc0; have HRw := Lib.hid hrw; clear hl0 hc0 hrw HC3 HCl HWl HWr
        have hbw0 := hbr.trans (hbc.mono hbr.size)
        have he1 : (if rightB wl then (if litB 0 then (0 : Int) else 10) else 20) = 20 := by rw [HRw.out]; rfl
        have he2 : (if rightB c then (if litB bad then (0 : Int) else 10) else 20) = 10 := by rw [HRc.out, HBad.out]; rfl
        have he3 : clResE wl c 0 = 20 := by unfold clResE; rw [HRw.out]; rfl
        have he4 : clResE c c bad = 10 := by unfold clResE resE; rw [HRc.out, HBad.out]; rfl
        have HE1 := Lib.hid he1; have HE2 := Lib.hid he2; have HE3 := Lib.hid he3; have HE4 := Lib.hid he4; clear he1 he2 he3 he4
        have hwi : withinB wl wl = false := by unfold withinB; rw [HRw.out, Bool.false_and]
        have hsa : sameB wl wl = false := by unfold sameB; rw [hwi, Bool.false_and]
        have HWi := Lib.hid hwi; have HSa := Lib.hid hsa; clear hwi hsa
        go_wp2_with fail
        refine (e_norm _ _ wl (by omega) HRw.out _ (Nat.le_refl _) Hl0.out).mono ?_
        rintro e x1 ⟨v1, rfl, hB⟩
        have hbw1 := hB
        have hl1 := Hl0.out.on hB
        have hc1 := Hc0.out.on hB
        have Hl1 := Lib.hid hl1; clear hl1 Hl0
        have Hc1 := Lib.hid hc1; clear hc1 Hc0
        go_wp2_with fail
        refine (e_union _ _ _ c wl (by omega) (by omega) HRw.out _ (Nat.le_refl _) Hc1.out Hl1.out).mono ?_
        rintro e x2 ⟨v2, rfl, hB⟩
        have hbw2 := hbw1.trans (hB.mono hbw1.size)
        have hl2 := Hl1.out.on hB
        have hc2 := Hc1.out.on hB
        have Hl2 := Lib.hid hl2; clear hl2 Hl1
        have Hc2 := Lib.hid hc2; clear hc2 Hc1
        go_wp2_with fail
        refine (e_without _ _ wl 0 20 (by omega) HE1.out _ (Nat.le_refl _) Hl2.out).mono ?_
        rintro e x3 ⟨v3, rfl, hB⟩
        have hbw3 := hbw2.trans (hB.mono hbw2.size)
        have hl3 := Hl2.out.on hB
        have hc3 := Hc2.out.on hB
        have Hl3 := Lib.hid hl3; clear hl3 Hl2
        have Hc3 := Lib.hid hc3; clear hc3 Hc2
        go_wp2_with fail
        refine (e_clash _ _ _ wl c (by omega) (by omega) HRw.out _ (Nat.le_refl _) Hl3.out Hc3.out).mono ?_
        rintro e x4 ⟨v4, rfl, hB⟩
        have hbw4 := hbw3.trans (hB.mono hbw3.size)
        have hl4 := Hl3.out.on hB
        have hc4 := Hc3.out.on hB
        have Hl4 := Lib.hid hl4; clear hl4 Hl3
        have Hc4 := Lib.hid hc4; clear hc4 Hc3
        go_wp2_with fail
        refine (e_resolve _ _ _ wl c 0 20 (by omega) (by omega) HE3.out _ (Nat.le_refl _) Hl4.out Hc4.out).mono ?_
        rintro e x5 ⟨v5, rfl, hB⟩
        have hbw5 := hbw4.trans (hB.mono hbw4.size)
        have hl5 := Hl4.out.on hB
        have hc5 := Hc4.out.on hB
        have Hl5 := Lib.hid hl5; clear hl5 Hl4
        have Hc5 := Lib.hid hc5; clear hc5 Hc4
        go_wp2_with fail
        refine (e_without _ _ c bad 10 (by omega) HE2.out _ (Nat.le_refl _) Hc5.out).mono ?_
        rintro e x6 ⟨v6, rfl, hB⟩
        have hbw6 := hbw5.trans (hB.mono hbw5.size)
        have hl6 := Hl5.out.on hB
        have hc6 := Hc5.out.on hB
        have Hl6 := Lib.hid hl6; clear hl6 Hl5
        have Hc6 := Lib.hid hc6; clear hc6 Hc5
        go_wp2_with fail
        refine (e_resolve _ _ _ c c bad 10 (by omega) (by omega) HE4.out _ (Nat.le_refl _) Hc6.out Hc6.out).mono ?_
        rintro e x7 ⟨v7, rfl, hB⟩
        have hbw7 := hbw6.trans (hB.mono hbw6.size)
        have hl7 := Hl6.out.on hB
        have hc7 := Hc6.out.on hB
        have Hl7 := Lib.hid hl7; clear hl7 Hl6
        have Hc7 := Lib.hid hc7; clear hc7 Hc6
        go_wp2_with fail
        refine (clright_any _ _ wl (by omega) _ Hl7.out.ints).mono ?_
        rintro e w' ⟨rfl, rfl⟩
        rw [HRw.out]
        go_wp2_with fail
        refine (clnormal_any _ _ wl (by omega) _ Hl7.out.ints).mono ?_
        rintro e w' ⟨rfl, q, rfl⟩
        rw [HRw.out, Bool.false_and]
        have hB := below_drewN (Below.refl x7.heap.size x7) q
        obtain ⟨x8, hw⟩ : ∃ x, x7.drewN q = x := ⟨_, rfl⟩
        rw [hw] at hB ⊢
        clear hw
        have hbw8 := hbw7.trans (hB.mono hbw7.size)
        have hl8 := Hl7.out.on hB
        have hc8 := Hc7.out.on hB
        have Hl8 := Lib.hid hl8; clear hl8 Hl7
        have Hc8 := Lib.hid hc8; clear hc8 Hc7
        go_wp2_with fail
        refine (clhas_any _ _ wl bad (by omega) _ Hl8.out.ints).mono ?_
        rintro e w' ⟨rfl, rfl⟩
        rw [HRw.out, Bool.false_and]
        go_wp2_with fail
        refine (within_at _ _ _ wl wl _ (by omega) (by omega) HWi.out _ (Nat.le_refl _) Hl8.out Hl8.out).mono ?_
        rintro e x9 ⟨rfl, hB⟩
        have hbw9 := hbw8.trans (hB.mono hbw8.size)
        have hl9 := Hl8.out.on hB
        have hc9 := Hc8.out.on hB
        have Hl9 := Lib.hid hl9; clear hl9 Hl8
        have Hc9 := Lib.hid hc9; clear hc9 Hc8
        go_wp2_with fail
        refine (same_at _ _ _ wl wl _ (by omega) (by omega) HSa.out _ (Nat.le_refl _) Hl9.out Hl9.out).mono ?_
        rintro e x10 ⟨rfl, hB⟩
        have hbw10 := hbw9.trans (hB.mono hbw9.size)
        have hl10 := Hl9.out.on hB
        have hc10 := Hc9.out.on hB
        have Hl10 := Lib.hid hl10; clear hl10 Hl9
        have Hc10 := Lib.hid hc10; clear hc10 Hc9
        go_wp2_with fail
        refine (always_any _ _ wl (by omega) _ (Nat.le_refl _) Hl10.out).mono ?_
        rintro e x11 ⟨rfl, hB⟩
        rw [HRw.out, Bool.false_and]
        have hbw11 := hbw10.trans (hB.mono hbw10.size)
        have hl11 := Hl10.out.on hB
        have hc11 := Hc10.out.on hB
        have Hl11 := Lib.hid hl11; clear hl11 Hl10
        have Hc11 := Lib.hid hc11; clear hc11 Hc10
        go_wp2_with fail
        go_roundw
        case rel => exact ⟨k + 1, by omega, by go_num, hbw0.trans (hbw11.mono hbw0.size)⟩
        case measure => simp [intOf]; omega

    · obtain rfl : k = 3 := by omega
      clear hlt hk
      have hc3 := owns_on HC2.out hbr
      have hbt := hB2.trans (hbr.mono hB2.size)
      clear HX0 HX1 HX2 HC2 hbr hB2
      have HC3 := Lib.hid hc3; clear hc3
      have hcl := lits_own HC3.out
      have HK := Lib.hid ((lits_own HC3.out).on (below1 wr (.cells #[.int .i64 (-9)] 34))); clear hcl
      go_wp2_with fail
      refine (e_resolve _ _ _ c [-9] 9 21 (by omega) (by simp) H9.out (wr.alloc _) (Nat.le_refl _) HK.out (lits_laid wr [-9] 34)).mono ?_
      rintro e y1 ⟨u1, rfl, hB0⟩
      have hb1 : Below wr.heap.size wr y1 := (below1 wr _).trans (hB0.mono (by simp))
      clear hB0 HK
      have hc4 := owns_on HC3.out hb1
      have hbu := hbt.trans (hb1.mono hbt.size)
      obtain ⟨v2, W2, hrun, hl2, hl3, hb2⟩ := append_keep (y1.alloc (.cells #[.int .i64 9] 34)) _ c 9 y1.heap.size 34 w.heap.size (by omega) (hc4.alloc (.cells #[.int .i64 9] 34)) (by have := hbu.size; simp; omega) (World.alloc_heap_new y1 _)
      have hbz : Below w.heap.size w W2 := (hbu.alloc hbu.size _).trans hb2
      have HRun := Lib.hid hrun; have HL2 := Lib.hid hl2; have HL3 := Lib.hid hl3; clear hrun hl2 hl3 hb2 hc4 HC3 hb1 hbt hbu
      go_wp2_with (at_builtin; refine Lib.wpList_append_run _ rfl _ _ _ _ rfl _ _ rfl rfl _ _ (HRun.out _) ?_)
      refine (e_resolve _ _ _ (c ++ [9]) c 9 21 (by rw [List.length_append]; simp; omega) (by omega) H9'.out W2 (Nat.le_refl _) HL2.out HL3.out).mono ?_
      rintro e y2 ⟨u2, rfl, hB3⟩
      have hby := hbz.trans (hB3.mono hbz.size)
      clear HL2 HL3 hB3 hbz HRun
      go_wp2_with fail
      refine (HAw.out _).mono ?_
      rintro e y3 ⟨rfl, hb9⟩
      go_wp2_with fail
      go_ret
      exact ⟨rfl, hby.trans (hb9.mono hby.size)⟩

theorem clausesWrong.clausesWrong_walk (kv : Value) (k : List Int) (hlk : k.length ≤ maxLen) (hwk : ∀ x ∈ k, (Lit.int .u8 x).wf = true) (hfk : Fits kv) (at_ : Int) (hwa : (Lit.int .u8 at_).wf = true) (n : Int) (_ : (Lit.int .i64 n).wf = true) (w : World) (hIk : IntsK .u8 w.heap.size w kv k) :
    Calls Try.prog 11 #[kv, .int .u8 at_, .int .i64 n] w fun e w' => e = .returned (.bool true) ∧ Below w.heap.size w w' := by
  have hmk := madeAt hlk hwk hfk rfl
  have ha := u8_wf hwa
  have hrc := madeL_right k
  have hlc := madeL_len k
  have hc8 : ∀ x ∈ madeL k, ∃ v : Int, 1 ≤ v ∧ v ≤ 8 ∧ (x = v ∨ x = -v) := fun x h => madeL_lit h
  obtain ⟨c, hc⟩ : ∃ a, madeL k = a := ⟨_, rfl⟩
  rw [hc] at hmk hrc hlc hc8
  have h9 : hasB c 9 = false := hasB_no fun h => by obtain ⟨v, h1, h2, e⟩ := hc8 9 h; omega
  have h9n : hasB c (-9) = false := hasB_no fun h => by obtain ⟨v, h1, h2, e⟩ := hc8 (-9) h; omega
  have hr9 : rightB [(-9 : Int)] = true := by decide
  have hr9' : rightB (c ++ [9]) = true := right_app hrc (by decide) (by simp; omega)
  have hl9 : litB 9 = true := by decide
  refine wrong_core kv k at_ n _ _ c w hIk hmk ha.1 ha.2 rfl rfl ?_ ?_ hlc hrc ?_ ?_
  · exact litB_not (by omega)
  · exact litB_not (by omega)
  · unfold clResE resE
    rw [hrc, hr9, Bool.and_self, if_pos rfl, hl9, if_pos rfl, h9, Bool.false_and, if_neg (by decide)]
  · unfold clResE resE
    rw [hr9', hrc, Bool.and_self, if_pos rfl, hl9, if_pos rfl, h9n, Bool.and_false, if_neg (by decide)]
end Go.Proofs.Ytngjcacodoihdaa
