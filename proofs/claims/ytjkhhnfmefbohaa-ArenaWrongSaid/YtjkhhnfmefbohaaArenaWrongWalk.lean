/- The walk of ArenaWrong. -/
import Derived.Test.YtjkhhnfmefbohaaLawUse
namespace Go.Proofs.Ytjkhhnfmefbohaa.arenaWrong
open Go.RowKit Go.ChangeAt Go.ChangeShapes Go.WideShapes

def Rel (w : World) (i : Value) (wr : World) : Prop := ∃ j : Nat, j ≤ 3 ∧ i = .int .i64 j ∧ Below w.heap.size w wr
def idAt (m2 m1 : Int) (k : Nat) : Int := if k = 0 then 0 else if k = 1 then m2 else m1
theorem i64_wf {x : Int} (h : (Lit.int .i64 x).wf = true) : -9223372036854775808 ≤ x ∧ x ≤ 9223372036854775807 := by
  have : IntKind.i64.min ≤ x ∧ x ≤ IntKind.i64.max := by simpa [Lit.wf] using h
  exact this
theorem add30 {L : List (Int × List Int)} {last id : Int} (h0 : 0 ≤ last) (h : id < 1 ∨ 1073741824 < id) : addE L last id [] = 30 := by
  unfold addE
  rw [if_pos (by decide), if_neg (by omega)]
theorem add20 {L : List (Int × List Int)} {last id : Int} : addE L last id [1, 0] = 20 := by
  unfold addE
  rw [if_neg (by decide)]
set_option maxRecDepth 100000 in
set_option maxHeartbeats 4000000 in
theorem core (v : Value) (zss : List (List Int)) (m : Int) (hwf : (Lit.int .i64 m).wf = true) (w : World) (hR : Rows2 .u8 w.heap.size w v zss) (hm : zss.length ≤ maxLen) (hw : ∀ zs ∈ zss, zs.length ≤ maxLen ∧ ∀ x ∈ zs, (Lit.int .u8 x).wf = true) :
    Calls Try.prog 9 #[v, .int .i64 m] w fun e w' => e = .returned (.bool true) ∧ Below w.heap.size w w' := by
  obtain ⟨A, cap, rfl, -, -, -⟩ := hR.shape
  have hput := put_any _ zss w hR hm hw
  obtain ⟨n, hn⟩ : ∃ n, min zss.length 60 = n := ⟨_, rfl⟩
  have hn2 : n ≤ 60 := by omega
  rw [hn] at hput
  have hpast := fun (k : Int) h => putL_past zss n (k := k) h
  have hlen := putL_len zss n
  obtain ⟨hl0, hl1⟩ := lastN_le n
  obtain ⟨last, hla⟩ : ∃ x, lastN n = x := ⟨_, rfl⟩
  obtain ⟨L, hL⟩ : ∃ x, putL zss n = x := ⟨_, rfl⟩
  rw [hla, hL] at hput
  rw [hla] at hl0 hl1
  rw [hL] at hpast hlen
  obtain ⟨u, hu⟩ : ∃ x, (sumL L : Int) = x := ⟨_, rfl⟩
  have hmw := i64_wf hwf
  obtain ⟨m1, hm1⟩ : ∃ x, max m 1073741825 = x := ⟨_, rfl⟩
  obtain ⟨m2, hm2⟩ : ∃ x, min m (-1) = x := ⟨_, rfl⟩
  have hm1' : 1073741824 < m1 ∧ m1 ≤ 9223372036854775807 := by omega
  have hm2' : m2 < 0 ∧ -9223372036854775808 ≤ m2 := by omega
  have hids : ∀ k, k < 3 → (idAt m2 m1 k < 1 ∨ 1073741824 < idAt m2 m1 k) ∧ -9223372036854775808 ≤ idAt m2 m1 k ∧ idAt m2 m1 k ≤ 9223372036854775807 := fun k hk => by
    unfold idAt
    split
    · omega
    · split <;> omega
  have HP := Lib.hid hput; have HPa := Lib.hid hpast; have HLn := Lib.hid hlen; have HU := Lib.hid hu; have HId := Lib.hid hids
  clear hR hm hw hn hput hla hL hpast hlen hu hids hmw hwf
  go_enter Try.func9, Try.ntmps9
  go_wp2_with fail
  refine (HP.out).mono ?_
  rintro r w1 ⟨g, K1, rfl, hA1, hK1, hB1⟩
  have HA1 := Lib.hid hA1; have HB1 := Lib.hid hB1
  clear hA1 hK1 hB1 HP
  go_wp2_with fail
  refine (count_is (n := (n : Int)) HA1.out (by rw [HLn.out])).mono ?_
  rintro r w' ⟨rfl, rfl⟩
  go_wp2_with fail
  refine (used_is (n := u) HA1.out HU.out).mono ?_
  rintro r w' ⟨rfl, rfl⟩
  go_wp2_with fail
  refine (last_ar HA1.out).mono ?_
  rintro r w' ⟨rfl, rfl⟩
  go_wp2_with fail
  have hI2 := intsF_laid HA1.out.kok [1, 0] 30
  have hbA := below1a w1 (.cells #[.int .i64 1, .int .i64 0] 30)
  have hbB := below1a (w1.alloc (.cells #[.int .i64 1, .int .i64 0] 30)) (.cells #[.int .i64 0, .int .i64 m2, .int .i64 m1] 3)
  have hA2 := (HA1.out.on hbA).on hbB
  have hI3 := hI2.on hbB
  have hB2 := HB1.out.trans ((hbA.trans (hbB.mono hbA.size)).mono HB1.out.size)
  have hW2 := Whole.made (w1.alloc (.cells #[.int .i64 1, .int .i64 0] 30)) 3 #[.int .i64 0, .int .i64 m2, .int .i64 m1]
  rw [World.size_alloc] at hW2
  obtain ⟨w2, hw2⟩ : ∃ x, (w1.alloc (.cells #[.int .i64 1, .int .i64 0] 30)).alloc (.cells #[.int .i64 0, .int .i64 m2, .int .i64 m1] 3) = x := ⟨_, rfl⟩
  obtain ⟨gb, hgb⟩ : ∃ x, w1.heap.size + 1 = x := ⟨_, rfl⟩
  obtain ⟨gc, hgc⟩ : ∃ x, w1.heap.size = x := ⟨_, rfl⟩
  rw [hgb, hw2] at hW2
  rw [hw2] at hA2 hB2 ⊢
  rw [hgb, hgc]
  have hI4 : IntsF .i64 K1 w2 (.slice (some ⟨gc, 0, none⟩) 2 2) [1, 0] := by rw [← hw2, ← hgc]; exact hI3
  have HA2 := Lib.hid hA2; have HB2 := Lib.hid hB2; have HI := Lib.hid hI4; have HW2 := Lib.hid hW2
  clear hA2 hB2 hI2 hI3 hI4 hW2 hw2 hgb hgc hbA hbB HA1 HB1
  go_loopw [37] (fun i wr => Rel w2 i wr) (fun i _ => 3 - (intOf i).toNat)
  case atStart => exact ⟨0, Nat.zero_le _, rfl, Below.refl _ _⟩
  case round =>
    obtain ⟨j, hj, rfl, hB⟩ := hrel
    by_cases hlt : j < 3
    · have hcell : wr.cell? ⟨gb, j, none⟩ = some (.int .i64 (idAt m2 m1 j)) := by
        refine (hB.cell (p := ⟨gb, j, none⟩) HW2.out.lt).trans ((HW2.out.cell j).trans ?_)
        have hj3 : j = 0 ∨ j = 1 ∨ j = 2 := by omega
        rcases hj3 with rfl | rfl | rfl <;> rfl
      obtain ⟨hid1, hid2⟩ := HId.out j hlt
      obtain ⟨id, hid⟩ : ∃ x, idAt m2 m1 j = x := ⟨_, rfl⟩
      rw [hid] at hcell hid1 hid2
      clear hid
      have hj3 : (j : Int) < 3 := by omega
      have hout := HPa.out id (by omega)
      have HW := Lib.hid (int_wf hid2); have HO := Lib.hid hout; have HB := Lib.hid hB
      have HA3 := Lib.hid (HA2.out.on hB); have HI3 := Lib.hid (HI.out.on hB)
      clear hout hB HA2 HI HPa HB2 HW2 HId
      go_wp2_with fail
      refine (get_out HA3.out HW.out HO.out).mono ?_
      rintro r x1 ⟨rfl, hb⟩
      have HA4 := Lib.hid (HA3.out.on hb); have HI4 := Lib.hid (HI3.out.on hb); have HB4 := Lib.hid (HB.out.trans (hb.mono HB.out.size))
      clear hb HA3 HI3 HB
      go_wp2_with fail
      refine (len_out HA4.out HW.out HO.out).mono ?_
      rintro r x2 ⟨rfl, hb⟩
      have HA5 := Lib.hid (HA4.out.on hb); have HI5 := Lib.hid (HI4.out.on hb); have HB5 := Lib.hid (HB4.out.trans (hb.mono HB4.out.size))
      clear hb HA4 HI4 HB4
      go_wp2_with fail
      refine (add_bad (e := 30) (c := []) HA5.out (intsF_nil _) (by decide) (add30 hl0 hid1) (by decide)).mono ?_
      rintro r x3 ⟨rfl, hb⟩
      have HA6 := Lib.hid (HA5.out.on hb); have HI6 := Lib.hid (HI5.out.on hb); have HB6 := Lib.hid (HB5.out.trans (hb.mono HB5.out.size))
      clear hb HA5 HI5 HB5
      go_wp2_with fail
      refine (add_bad (e := 20) (c := [1, 0]) HA6.out HI6.out (by decide) add20 (by decide)).mono ?_
      rintro r x4 ⟨rfl, hb⟩
      have HA7 := Lib.hid (HA6.out.on hb); have HB7 := Lib.hid (HB6.out.trans (hb.mono HB6.out.size))
      clear hb HA6 HI6 HB6
      go_wp2_with fail
      refine (del_bad HA7.out HW.out HO.out).mono ?_
      rintro r x5 ⟨rfl, hb⟩
      have HA8 := Lib.hid (HA7.out.on hb); have HB8 := Lib.hid (HB7.out.trans (hb.mono HB7.out.size))
      clear hb HA7 HB7
      go_wp2_with fail
      refine (has_out HA8.out HW.out HO.out).mono ?_
      rintro r x6 ⟨rfl, hb⟩
      have HB9 := Lib.hid (HB8.out.trans (hb.mono HB8.out.size))
      clear hb HA8 HB8
      go_wp2_with fail
      refine ⟨⟨j + 1, hlt, by go_num, HB9.out⟩, ?_⟩
      simp [intOf]; omega
    · obtain rfl : j = 3 := by omega
      have HA3 := Lib.hid (HA2.out.on hB); have HI3 := Lib.hid (HI.out.on hB); have HB3 := Lib.hid (HB2.out.trans (hB.mono HB2.out.size))
      clear hB HA2 HI HB2 HPa HW2 HId
      go_wp2_with fail
      refine (add_bad (e := 20) (c := [1, 0]) HA3.out HI3.out (by decide) add20 (by decide)).mono ?_
      rintro r x4 ⟨rfl, hb⟩
      have HA4 := Lib.hid (HA3.out.on hb); have HB4 := Lib.hid (HB3.out.trans (hb.mono HB3.out.size))
      clear hb HA3 HI3 HB3
      go_wp2_with fail
      refine (count_is (n := (n : Int)) HA4.out (by rw [HLn.out])).mono ?_
      rintro r w' ⟨rfl, rfl⟩
      go_wp2_with fail
      refine (used_is (n := u) HA4.out HU.out).mono ?_
      rintro r w' ⟨rfl, rfl⟩
      go_wp2_with fail
      refine (last_ar HA4.out).mono ?_
      rintro r w' ⟨rfl, rfl⟩
      go_wp2_with fail
      refine (arawake_any _).mono ?_
      rintro r x5 ⟨rfl, hb⟩
      have HB5 := Lib.hid (HB4.out.trans (hb.mono HB4.out.size))
      clear hb HA4 HB4
      go_wp2_with fail
      go_ret
      exact ⟨rfl, HB5.out⟩
theorem arenaWrong_walk (v : Value) (zss : List (List Int)) (hm : zss.length ≤ maxLen) (hw : ∀ zs ∈ zss, zs.length ≤ maxLen ∧ ∀ x ∈ zs, (Lit.int .u8 x).wf = true) (m : Int) (hb : (Lit.int .i64 m).wf = true) (w : World) (hR : Rows2 .u8 w.heap.size w v zss) :
    Calls Try.prog 9 #[v, .int .i64 m] w fun e w' => e = .returned (.bool true) ∧ Below w.heap.size w w' :=
  core v zss m hb w hR hm hw
end Go.Proofs.Ytjkhhnfmefbohaa.arenaWrong
