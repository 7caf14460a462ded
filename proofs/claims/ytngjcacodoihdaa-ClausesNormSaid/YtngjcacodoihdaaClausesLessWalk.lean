/- The walk of ClausesLess. -/
import Derived.Test.YtngjcacodoihdaaClausesWithinWalk
import Derived.Deep.RegionHeld3
namespace Go.Proofs.Ytngjcacodoihdaa
open Go.RowKit Go.ChangeAt Go.ChangeShapes Go.WideShapes

theorem own_one' {W : World} {B : Nat} {e : TypeId} {v : Value} {x : Int} (h : W.ownsRow B e 1 v 1 [.int .i64 x]) : ∃ g cap, v = .slice (some ⟨g, 0, none⟩) 1 cap ∧ W.cell? ⟨g, 0, none⟩ = some (.int .i64 x) := by
  rcases h.2 with ⟨-, h0⟩ | ⟨g, cap, cur, rfl, hg, -⟩
  · cases h0
  · exact ⟨g, cap, rfl, by have := h.cellAt 0 (by omega); simpa using this⟩
def LeCut (w : World) (c : List Int) (l : Int) (s5 s6 : Value) (wx : World) : Prop := Lits wx.heap.size wx s5 c ∧ s6 = .int .i64 l ∧ Below w.heap.size w wx
def LeRel (w : World) (c : List Int) (i : Value) (wr : World) : Prop := ∃ k : Nat, k ≤ c.length ∧ i = .int .i64 k ∧ Below w.heap.size w wr
def OneAt (by_ l : Int) : Prop := ∀ W g, W.cell? ⟨g, 0, none⟩ = some (.int .u8 by_) → Calls Try.prog 20 #[.slice (some ⟨g, 0, none⟩) 1 1] W (GivesE 34 W [l])
theorem oneAt {by_ : Int} (h : (Lit.int .u8 by_).wf = true) : OneAt by_ (madeU by_) := fun W g hg => by
  have hI : IntsK .u8 W.heap.size W (.slice (some ⟨g, 0, none⟩) 1 1) [by_] := by
    refine .inr ⟨g, 0, 1, rfl, World.block_lt_of_cell? W _ hg, fun j hj => ?_⟩
    obtain rfl : j = 0 := by simp at hj; omega
    exact hg
  have := made_any W.heap.size _ [by_] (by simp) (fun x hx => by rw [List.mem_singleton] at hx; subst hx; exact h) (fun A n c e => by injection e with h1 h2 h3; omega) W (Nat.le_refl _) hI
  exact this

set_option maxRecDepth 100000 in
set_option maxHeartbeats 16000000 in
theorem less_core (kv : Value) (k : List Int) (by_ l : Int) (c ws us : List Int) (hs : Bool) (w : World) (hIk : IntsK .u8 w.heap.size w kv k)
    (hmk : MadeAt kv k c) (hmo : OneAt by_ l) (hll : litB l = true) (hlc : c.length ≤ 20) (hrc : rightB c = true) (hws : normL (lessL c l) = ws) (hlw : ws.length ≤ 20) (hrw : rightB ws = true)
    (hwl : hasB ws l = false) (hwc : withinB ws c = true) (hub : normL (ws ++ [l]) = us) (huc : normL (c ++ [l]) = us) (hlu : us.length ≤ 100) (hcl : hasB c l = hs) (hsm : sameB ws c = !hs) (hin : ∀ x ∈ c, x ≠ l → hasB ws x = true) :
    Calls Try.prog 10 #[kv, .int .u8 by_] w fun e w' => e = .returned (.bool true) ∧ Below w.heap.size w w' := by
  have hw := awakeAt
  have hr1 : rightB [l] = true := rightB_mk (by simp) (fun z hz => by rw [List.mem_singleton] at hz; rw [hz]; exact hll)
  have HIkx := Lib.hid hIk; have HMkx := Lib.hid hmk; have HMox := Lib.hid hmo; have HLlx := Lib.hid hll; have HRcx := Lib.hid hrc; have HWsx := Lib.hid hws; have HRwx := Lib.hid hrw; have HWlx := Lib.hid hwl; have HWcx := Lib.hid hwc; have HUbx := Lib.hid hub; have HUcx := Lib.hid huc; have HClx := Lib.hid hcl; have HSmx := Lib.hid hsm; have HInx := Lib.hid hin; have HR1x := Lib.hid hr1; have HAw := Lib.hid hw
  clear hIk hmk hmo hll hrc hws hrw hwl hwc hub huc hcl hsm hin hr1 hw
  have HC : Hid (∀ W, Below w.heap.size w W → Calls Try.prog 20 #[kv] W (GivesE 34 W c)) := fun W hb => HMkx.out W (HIkx.out.on hb)
  go_enter Try.func10, Try.ntmps10
  go_upto_region 1 with fail
  go_cut [5, 6] (fun s5 s6 wx => LeCut w c l s5 s6 wx)
  case first =>
    go_region_with (first
      | (go_at_call_of 20 kv; refine (HC.out _ (by first | exact Below.refl _ _ | exact below1 w _ | exact (Below.refl _ _).drew | exact (below1 w _).drew | exact ((Below.refl _ _).drew).alloc (Nat.le_refl _) _)).mono ?_; rintro e w1 ⟨v1, rfl, hr1, hB1⟩)
      | (refine (HMox.out _ _ (by first | exact World.cell?_alloc_new _ _ _ _ | exact (hB1.cell (p := ⟨w.heap.size, 0, none⟩) (by simp)).trans (World.cell?_alloc_new _ _ _ _))).mono ?_; rintro e w2 ⟨v2, rfl, hr2, hB2⟩; obtain ⟨g2, c2, rfl, hcx⟩ := own_one' hr2))
    all_goals
      go_wp2_with fail
      go_meet
      have hb1 : Below w.heap.size w w1 := by first | exact ((Below.refl _ _).drew).trans hB1 | exact (((Below.refl _ _).drew).alloc (Nat.le_refl _) _).trans (hB1.mono (by simp))
      have hl1 := lits_own hr1
      first
        | exact ⟨hl1.on hB2, rfl, hb1.trans (hB2.mono hb1.size)⟩
        | exact ⟨(hl1.on (below1 w1 _)).on hB2, rfl, (hb1.trans ((below1 w1 _).mono hb1.size)).trans (hB2.mono (by have := hb1.size; simp; omega))⟩
  case rest =>
    obtain ⟨hc0, rfl, hbw0⟩ := hcut
    obtain ⟨Ac, cc, rfl, -⟩ := ints_shape hc0.ints
    have Hc0 := Lib.hid hc0; clear hc0
    go_wp2_with fail
    refine (without_at _ _ c l ws (by omega) HRcx.out HLlx.out HWsx.out _ (Nat.le_refl _) Hc0.out).mono ?_
    rintro e w1 ⟨vw, rfl, hr, hB⟩
    have hw1 := lits_own hr
    have hbw1 := hB
    have hc1 := Hc0.out.on hB
    have Hc1 := Lib.hid hc1; clear hc1 Hc0
    have Hw1 := Lib.hid hw1; clear hw1
    clear hr
    go_wp2_with fail
    refine (union_at _ _ _ ws [l] us (by omega) (by simp) HRwx.out HR1x.out HUbx.out _ (Nat.le_refl _) (Hw1.out.on (below1 w1 (.cells #[.int .i64 l] 34))) (lits_laid w1 [l] 34)).mono ?_
    rintro e w2 ⟨vb, rfl, hr, hB0⟩
    have hB : Below w1.heap.size w1 w2 := (below1 w1 _).trans (hB0.mono (by simp))
    clear hB0
    have hb2 := lits_own hr
    have hbw2 := hbw1.trans (hB.mono hbw1.size)
    have hc2 := Hc1.out.on hB
    have hw2 := Hw1.out.on hB
    have Hc2 := Lib.hid hc2; clear hc2 Hc1
    have Hw2 := Lib.hid hw2; clear hw2 Hw1
    have Hb2 := Lib.hid hb2; clear hb2
    clear hr
    go_wp2_with fail
    refine (union_at _ _ _ c [l] us (by omega) (by simp) HRcx.out HR1x.out HUcx.out _ (Nat.le_refl _) (Hc2.out.on (below1 w2 (.cells #[.int .i64 l] 34))) (lits_laid w2 [l] 34)).mono ?_
    rintro e w3 ⟨vd, rfl, hr, hB0⟩
    have hB : Below w2.heap.size w2 w3 := (below1 w2 _).trans (hB0.mono (by simp))
    clear hB0
    have hd3 := lits_own hr
    have hbw3 := hbw2.trans (hB.mono hbw2.size)
    have hc3 := Hc2.out.on hB
    have hw3 := Hw2.out.on hB
    have hb3 := Hb2.out.on hB
    have Hc3 := Lib.hid hc3; clear hc3 Hc2
    have Hw3 := Lib.hid hw3; clear hw3 Hw2
    have Hb3 := Lib.hid hb3; clear hb3 Hb2
    have Hd3 := Lib.hid hd3; clear hd3
    clear hr
    go_wp2_with fail
    refine (has_at _ _ ws l _ (by omega) HRwx.out HWlx.out _ Hw3.out.ints).mono ?_
    rintro e w' ⟨rfl, rfl⟩
    go_wp2_with fail
    refine (within_at _ _ _ ws c _ (by omega) (by omega) HWcx.out _ (Nat.le_refl _) Hw3.out Hc3.out).mono ?_
    rintro e w4 ⟨rfl, hB⟩
    have hbw4 := hbw3.trans (hB.mono hbw3.size)
    have hc4 := Hc3.out.on hB
    have hw4 := Hw3.out.on hB
    have hb4 := Hb3.out.on hB
    have hd4 := Hd3.out.on hB
    have Hc4 := Lib.hid hc4; clear hc4 Hc3
    have Hw4 := Lib.hid hw4; clear hw4 Hw3
    have Hb4 := Lib.hid hb4; clear hb4 Hb3
    have Hd4 := Lib.hid hd4; clear hd4 Hd3
    go_wp2_with fail
    refine (equal_cl _ (by omega) (by omega) Hb4.out.ints Hd4.out.ints).mono ?_
    rintro e w' ⟨rfl, q, rfl⟩
    rw [beq_self_eq_true]
    have hB := below_drewN (Below.refl w4.heap.size w4) q
    obtain ⟨w5, hw⟩ : ∃ x, w4.drewN q = x := ⟨_, rfl⟩
    rw [hw] at hB ⊢
    clear hw
    have hbw5 := hbw4.trans (hB.mono hbw4.size)
    have hc5 := Hc4.out.on hB
    have hw5 := Hw4.out.on hB
    have hb5 := Hb4.out.on hB
    have hd5 := Hd4.out.on hB
    have Hc5 := Lib.hid hc5; clear hc5 Hc4
    have Hw5 := Lib.hid hw5; clear hw5 Hw4
    have Hb5 := Lib.hid hb5; clear hb5 Hb4
    have Hd5 := Lib.hid hd5; clear hd5 Hd4
    clear Hb5
    clear Hd5
    go_wp2_with fail
    refine (same_at _ _ _ ws c _ (by omega) (by omega) HSmx.out _ (Nat.le_refl _) Hw5.out Hc5.out).mono ?_
    rintro e w6 ⟨rfl, hB⟩
    have hbw6 := hbw5.trans (hB.mono hbw5.size)
    have hc6 := Hc5.out.on hB
    have hw6 := Hw5.out.on hB
    have Hc6 := Lib.hid hc6; clear hc6 Hc5
    have Hw6 := Lib.hid hw6; clear hw6 Hw5
    go_wp2_with fail
    refine (has_at _ _ c l _ (by omega) HRcx.out HClx.out _ Hc6.out.ints).mono ?_
    rintro e w' ⟨rfl, rfl⟩
    go_wp2_with fail

    have hbt := hbw0.trans (hbw6.mono hbw0.size)
    obtain ⟨_, _, he, hcell⟩ := ints_shape Hc6.out.ints
    injection he with he0 he1 he2
    subst he0; clear he1 he2
    have HC2 := Lib.hid hcell; clear hcell hbw1 hbw2 hbw3 hbw4 hbw5 hbw6
    go_loopw [76] (fun i wr => LeRel w6 c i wr) (fun i _ => c.length - (intOf i).toNat)
    case atStart => exact ⟨0, by omega, rfl, Below.refl _ _⟩
    case round =>
      obtain ⟨k, hk, rfl, hbr⟩ := hrel
      by_cases hlt : k < c.length
      · obtain ⟨b, off, rfl, hb, hck⟩ := HC2.out k hlt
        have hck : wr.cell? ⟨b, off + k, none⟩ = some (.int .i64 (c[k]?.getD 0)) := (hbr.cell (p := ⟨b, off + k, none⟩) hb).trans hck
        have hmem := get_mem hlt
        obtain ⟨x, hx⟩ : ∃ x, c[k]?.getD 0 = x := ⟨_, rfl⟩
        rw [hx] at hck hmem
        clear hx
        have hin := HInx.out x hmem
        have hIw := (Hw6.out.on hbr).ints
        have HIw := Lib.hid hIw; clear hIw hmem
        by_cases hq : x = l
        · have h1 : (x == l) = true := by rw [beq_iff_eq]; exact hq
          have h2 : (x != l) = false := by rw [bne_eq_false_iff_eq]; exact hq
          clear hq hin
          go_wp2_with fail
          go_roundw
          case rel => exact ⟨k + 1, by omega, by go_num, hbr⟩
          case measure => simp [intOf]; omega
        · have h1 : (x == l) = false := by rw [beq_eq_false_iff_ne]; exact hq
          have h2 : (x != l) = true := by rw [bne_iff_ne]; exact hq
          have Hin := Lib.hid (hin hq); clear hq hin
          go_wp2_with fail
          refine (has_at _ _ ws x _ (by omega) HRwx.out Hin.out _ HIw.out).mono ?_
          rintro e w' ⟨rfl, rfl⟩
          go_wp2_with fail
          go_roundw
          case rel => exact ⟨k + 1, by omega, by go_num, hbr⟩
          case measure => simp [intOf]; omega
      · obtain rfl : k = c.length := by omega
        go_wp2_with fail
        refine (HAw.out _).mono ?_
        rintro e w99 ⟨rfl, hb9⟩
        go_wp2_with fail
        go_ret
        exact ⟨rfl, (hbt.trans (hbr.mono hbt.size)).trans (hb9.mono (hbt.trans (hbr.mono hbt.size)).size)⟩

theorem clausesLess.clausesLess_walk (kv : Value) (k : List Int) (hlk : k.length ≤ maxLen) (hwk : ∀ x ∈ k, (Lit.int .u8 x).wf = true) (hfk : Fits kv)
    (by_ : Int) (hwb : (Lit.int .u8 by_).wf = true) (w : World) (hIk : IntsK .u8 w.heap.size w kv k) :
    Calls Try.prog 10 #[kv, .int .u8 by_] w fun e w' => e = .returned (.bool true) ∧ Below w.heap.size w w' := by
  have hmk := madeAt hlk hwk hfk rfl
  have hmo := oneAt hwb
  have hx8 := madeU_is by_
  obtain ⟨l, hx⟩ : ∃ x, madeU by_ = x := ⟨_, rfl⟩
  rw [hx] at hmo hx8
  have hll := lit8 hx8
  have hrc := madeL_right k
  have hlc := madeL_len k
  obtain ⟨c, hc⟩ : ∃ a, madeL k = a := ⟨_, rfl⟩
  rw [hc] at hmk hrc hlc
  have hlw : (normL (lessL c l)).length ≤ 20 := by have := norm_length (lessL c l); have := lessL_length c l; omega
  have hrw : rightB (normL (lessL c l)) = true := norm_right (rightB_mk (by have := lessL_length c l; omega) (lessL_lit (rightB_of hrc).2))
  have hlu : (normL (c ++ [l])).length ≤ 100 := by have := norm_length (c ++ [l]); rw [List.length_append] at this; simp at this; omega
  refine less_core kv k by_ l c _ _ _ w hIk hmk hmo hll hlc hrc rfl hlw hrw (less_has c l) ?_ (less_back c l) rfl hlu rfl ?_ (fun x hx hne => less_in hx hne)
  · rw [within_of hrw hrc]; exact less_with c l
  · unfold sameB
    rw [within_of hrw hrc, within_of hrc hrw, less_with, Bool.true_and, less_same]
end Go.Proofs.Ytngjcacodoihdaa
