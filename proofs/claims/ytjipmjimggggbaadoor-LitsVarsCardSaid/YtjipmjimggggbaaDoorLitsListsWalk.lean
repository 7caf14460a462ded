/- The walk of LitsLists. -/
import Derived.Test.YtjipmjimggggbaaDoorAwake
import Derived.Test.YtjipmjimggggbaaDoorEq
namespace Go.Proofs.YtjipmjimggggbaaDoor.litsLists
open Go.RowKit Go.ChangeAt Go.ChangeShapes Go.WideShapes

theorem infoLit : (Tryd.prog.info? 27).map (fun i => (i.zero, i.size, i.bytes)) = some (some (.int .i64 0), 1, 8) := by kernel_rfl

theorem ints_shape {B : Nat} {w : World} {sv : Value} {zs : List Int} (h : Ints B w sv zs) : ∃ A cap, sv = .slice A zs.length cap ∧ ∀ k, k < zs.length → ∃ b off, A = some ⟨b, off, none⟩ ∧ b < B ∧ w.cell? ⟨b, off + k, none⟩ = some (.int .i64 (zs[k]?.getD 0)) := by
  rcases h with ⟨A, c, rfl, rfl⟩ | ⟨b, off, cap, rfl, hb, hc⟩
  · exact ⟨A, c, rfl, fun k hk => absurd hk (Nat.not_lt_zero _)⟩
  · exact ⟨_, cap, rfl, fun k hk => ⟨b, off, rfl, hb, hc k hk⟩⟩

theorem varsL_length (zs : List Int) : (varsL zs).length ≤ zs.length := by
  have hp : (varsL zs).Perm (ded (vl zs)) := List.mergeSort_perm _ _
  have h1 : (ded (vl zs)).length ≤ (vl zs).length := by
    suffices hs : ∀ r : List Int, (ded r.reverse).length ≤ r.reverse.length by have := hs (vl zs).reverse; rwa [List.reverse_reverse] at this
    intro r
    induction r with
    | nil => simp [ded]
    | cons x r ih =>
      rw [List.reverse_cons, ded_snoc]
      split
      · simp at ih ⊢; omega
      · simp at ih ⊢; omega
  have h2 : (vl zs).length ≤ zs.length := by
    unfold vl
    rw [List.length_map]
    exact List.length_filter_le _ _
  have := hp.length_eq
  omega

def LRel (w : World) (zs : List Int) (own i : Value) (wr : World) : Prop :=
  ∃ (k : Nat) (o : Value), o = own ∧ k ≤ zs.length ∧ i = .int .i64 k ∧ wr.ownsRow w.heap.size 27 1 o k ((zs.take k).map (Value.int .i64)) ∧ Below w.heap.size w wr

set_option maxRecDepth 100000 in
set_option maxHeartbeats 4000000 in
theorem lists_any (sv : Value) (zs : List Int) (hm : zs.length ≤ 9223372036854775807) (w : World) (hI : Ints w.heap.size w sv zs) (ht : Tab w) :
    Calls Tryd.prog 5 #[sv] w fun e w' => e = .returned (.bool true) ∧ Below w.heap.size w w' := by
  obtain ⟨i0, hi, hz0, hz1, hz2⟩ := info_parts infoLit
  obtain ⟨A, cap, rfl, hc⟩ := ints_shape hI
  have HC := Lib.hid hc; clear hc
  have HI := Lib.hid hI; clear hI
  have hT : Hid (∀ w', Below w.heap.size w w' → Tab w') := fun w' hb => ht.below hb
  clear ht
  by_cases h200 : 200 < zs.length
  · have HA := Lib.hid (awake_any w (hT.out w (Below.refl _ _)))
    go_enter Tryd.func5, Tryd.ntmps5
    go_wp2_with (go_at_call 13; refine HA.out.mono ?_; rintro e w6 ⟨rfl, hb6⟩)
    go_ret
    exact ⟨rfl, hb6⟩
  · have hz : zs.length ≤ 17592186044415 := by omega
    go_enter Tryd.func5, Tryd.ntmps5
    go_wp2_with fail
    go_loopw [3, 15] (fun own i wr => LRel w zs own i wr) (fun _ i _ => zs.length - (intOf i).toNat)
    case atStart => exact ⟨0, _, rfl, by omega, rfl, World.ownsRow_nil _ _ _ _, Below.refl _ _⟩
    case round =>
      obtain ⟨k, own, rfl, hk, rfl, hrow, hbw⟩ := hrel
      by_cases hlt : k < zs.length
      · obtain ⟨b, off, rfl, hb, hck⟩ := HC.out k hlt
        have hck : wr.cell? ⟨b, off + k, none⟩ = some (.int .i64 (zs[k]?.getD 0)) := (hbw.cell (p := ⟨b, off + k, none⟩) hb).trans hck
        have htk := take_one zs hlt
        obtain ⟨x, hx⟩ : ∃ x, zs[k]?.getD 0 = x := ⟨_, rfl⟩
        rw [hx] at hck htk
        clear hx
        have HR := Lib.hid hrow; have HT := Lib.hid htk; clear hrow htk
        go_wp2_with (at_builtin; refine wpList_append_own _ rfl _ _ 26 rfl w.heap.size 27 i0 (.int .i64 0) 1 8 Tryd.underlying26 hi hz0 hz1 hz2 rfl (by decide) _ _ _ rfl (HR.out.alloc _) ⟨wr.heap.size, 0, none⟩ 1 1 [.int .i64 x] rfl rfl (cell_one_new _ _ _) (by simp [Value.oneCell']) (by unfold maxLen; omega) (by omega) (by have := hbw.size; simp; omega) ?_; intro v' w2 hown' hgrow _)
        have hbn : Below w.heap.size w w2 := by
          refine (hbw.alloc hbw.size _).grown hgrow (by have := hbw.size; simp; omega) (fun k e => ?_)
          exact (HR.out.lt k e).1
        refine ⟨⟨k + 1, _, rfl, by omega, by go_num, ?_, hbn⟩, ?_⟩
        · rw [HT.out, List.map_append]; exact hown'
        · simp [intOf]; omega
      · obtain rfl : k = zs.length := by omega
        rw [List.take_length] at hrow
        have hin := ints_own hrow
        have HN := Lib.hid hin; clear hin hrow
        go_wp2_with fail
        refine (clone_lits _ (by omega) HN.out).mono ?_
        rintro e w1 ⟨given, rfl, hg1, -, hb1⟩
        have hbw1 : Below w.heap.size w w1 := hbw.trans (hb1.mono hbw.size)
        have ho1 : Ints w1.heap.size w1 own zs := (HN.out.below hb1).more hb1.size
        have HG1 := Lib.hid hg1; have HO1 := Lib.hid ho1; clear hg1 ho1
        go_wp2_with fail
        refine (vars_any own zs hz _ HO1.out).mono ?_
        rintro e w2 ⟨sv2, rfl, hrow2, -, hb2⟩
        have hbw2 : Below w.heap.size w w2 := hbw1.trans (hb2.mono hbw1.size)
        have ho2 : Ints w2.heap.size w2 own zs := (HO1.out.below hb2).more hb2.size
        have hg2 : Ints w2.heap.size w2 given zs := (HG1.out.below hb2).more hb2.size
        have hs2 := ints_own hrow2
        have HG2 := Lib.hid hg2; have HO2 := Lib.hid ho2; have HS2 := Lib.hid hs2; clear hg2 ho2 hs2 hrow2 HG1 HO1
        go_wp2_with fail
        refine (greatest_any own zs hz _ HO2.out).mono ?_
        rintro e w3 ⟨rfl, hb3⟩
        have hbw3 : Below w.heap.size w w3 := hbw2.trans (hb3.mono hbw2.size)
        have ho3 : Ints w3.heap.size w3 own zs := (HO2.out.below hb3).more hb3.size
        have hg3 : Ints w3.heap.size w3 given zs := (HG2.out.below hb3).more hb3.size
        have hs3 : Ints w3.heap.size w3 sv2 (varsL zs) := (HS2.out.below hb3).more hb3.size
        have HG3 := Lib.hid hg3; have HO3 := Lib.hid ho3; have HS3 := Lib.hid hs3; clear hg3 ho3 hs3 HG2 HO2 HS2
        go_wp2_with fail
        refine (equal_lits _ (by omega) HO3.out HG3.out).mono ?_
        rintro e w' ⟨rfl, q, rfl⟩
        have hbw4 := below_drewN hbw3 q
        have hq : Below w3.heap.size w3 (w3.drewN q) := below_drewN (Below.refl _ _) q
        have hs4 : Ints (w3.drewN q).heap.size (w3.drewN q) sv2 (varsL zs) := (HS3.out.below hq).more hq.size
        obtain ⟨w4, hw4⟩ : ∃ w4, w3.drewN q = w4 := ⟨_, rfl⟩
        rw [hw4] at hbw4 hs4 ⊢
        have HS4 := Lib.hid hs4; clear hs4 HS3 HG3 HO3 hq hw4
        have hi4 : Ints w4.heap.size w4 (.slice A zs.length cap) zs := (HI.out.below hbw4).more hbw4.size
        go_wp2_with fail
        refine (ref_vars _ zs (by omega) w4 hi4).mono ?_
        rintro e w5 ⟨sv5, rfl, hrow5, -, hb5⟩
        have hbw5 : Below w.heap.size w w5 := hbw4.trans (hb5.mono hbw4.size)
        have hs5 : Ints w5.heap.size w5 sv2 (varsL zs) := (HS4.out.below hb5).more hb5.size
        have hr5 := ints_own hrow5
        have hlv := varsL_length zs
        have HS5 := Lib.hid hs5; have HR5 := Lib.hid hr5; clear hs5 hr5 hrow5 HS4 hi4
        go_wp2_with fail
        refine (equal_ints _ (by omega) (by omega) HS5.out HR5.out).mono ?_
        rintro e w' ⟨rfl, q, rfl⟩
        rw [beq_self_eq_true]
        have hbw6 := below_drewN hbw5 q
        obtain ⟨w6, hw6⟩ : ∃ w6, w5.drewN q = w6 := ⟨_, rfl⟩
        rw [hw6] at hbw6 ⊢
        clear hw6 HS5 HR5
        have hi6 : Ints w6.heap.size w6 (.slice A zs.length cap) zs := (HI.out.below hbw6).more hbw6.size
        have HI6 := Lib.hid hi6; clear hi6
        have HA := Lib.hid (awake_any w6 (hT.out w6 hbw6))
        go_wp2_with (first
          | (go_at_call 21; refine (ref_greatest _ zs (by omega) _ w6 HI6.out).mono ?_; rintro e w' ⟨rfl, rfl⟩)
          | (go_at_call 13; refine HA.out.mono ?_; rintro e w7 ⟨rfl, hb7⟩))
        go_ret
        exact ⟨rfl, hbw6.trans (hb7.mono hbw6.size)⟩
theorem litsLists_walk (sv : Value) (zs : List Int) (hl : zs.length ≤ maxLen) (_ : ∀ x ∈ zs, (Lit.int .i64 x).wf = true) (w : World) (hI : IntsK .i64 w.heap.size w sv zs) (ht : Tab w) :
    Calls Tryd.prog 5 #[sv] w fun e w' => e = .returned (.bool true) ∧ Below w.heap.size w w' := lists_any sv zs hl w hI.ints ht
end Go.Proofs.YtjipmjimggggbaaDoor.litsLists
