/- The walk of ArenaOnce. -/
import Derived.Test.YtjkhhnfmefbohaaLawUse
namespace Go.Proofs.Ytjkhhnfmefbohaa.arenaOnce
open Go.RowKit Go.ChangeAt Go.ChangeShapes Go.WideShapes

def Rel (zss : List (List Int)) (n b : Nat) (w : World) (g : Nat) (i : Value) (wr : World) : Prop :=
  ∃ (k : Nat) (K : Nat → Prop), k ≤ n ∧ i = .int .i64 k ∧ Ar K wr g (onceL zss n b k) (lastN n) ∧ (∀ i, K i → w.heap.size ≤ i) ∧ Below w.heap.size w wr
theorem held_0 {K : Nat → Prop} {g : Nat} {last : Int} {w : World} (h : Ar K w g [] last) : Calls Try.prog 23 #[.pointer (some ⟨g, 0, none⟩)] w fun e w' => ∃ n : Nat, e = .returned (.int .i64 (n : Nat)) ∧ (n : Int) ≤ 64 ∧ w = w' :=
  (held_ar h).mono fun e w' ⟨n, he, _, h2, hw⟩ => ⟨n, he, by have : sumL [] = 0 := rfl; omega, hw⟩
set_option maxRecDepth 100000 in
set_option maxHeartbeats 4000000 in
theorem core (v : Value) (zss : List (List Int)) (by_ m : Int) (hb0 : 0 ≤ by_) (hb1 : by_ ≤ 255) (w : World) (hR : Rows2 .u8 w.heap.size w v zss) (hm : zss.length ≤ maxLen) (hw : ∀ zs ∈ zss, zs.length ≤ maxLen ∧ ∀ x ∈ zs, (Lit.int .u8 x).wf = true) :
    Calls Try.prog 7 #[v, .int .u8 by_, .int .i64 m] w fun e w' => e = .returned (.bool true) ∧ Below w.heap.size w w' := by
  obtain ⟨A, cap, rfl, -, -, -⟩ := hR.shape
  have hput := put_any _ zss w hR hm hw
  obtain ⟨n, hn⟩ : ∃ n, min zss.length 60 = n := ⟨_, rfl⟩
  have hn2 : n ≤ 60 := by omega
  have hmin : min (zss.length : Int) 60 = (n : Int) := by omega
  rw [hn] at hput
  have hmx := lastN_max n
  obtain ⟨hl0, hl1⟩ := lastN_le n
  obtain ⟨last, hla⟩ : ∃ x, lastN n = x := ⟨_, rfl⟩
  obtain ⟨m2, hm2⟩ : ∃ x, min m last = x := ⟨_, rfl⟩
  have hm3 : m2 ≤ last := by omega
  have hwb : IntKind.i64.wrap by_ = by_ := by rw [IntKind.wrap_i64]; omega
  have HP := Lib.hid hput; have HLa := Lib.hid hla
  rw [hla] at hmx hl0 hl1
  clear hR hm hw hn hput hla
  go_enter Try.func7, Try.ntmps7
  go_wp2_with (go_at_call 25; refine (HP.out).mono ?_; rintro r w1 ⟨g, K1, rfl, hA1, hK1, hB1⟩; have HA1 := Lib.hid hA1; have HK1 := Lib.hid hK1; have HB1 := Lib.hid hB1; clear hA1 hK1 hB1)
  go_loopw [27] (fun i wr => Rel zss n by_.toNat w g i wr) (fun i _ => n - (intOf i).toNat)
  case atStart => exact ⟨0, K1, Nat.zero_le _, rfl, by rw [onceL_0]; exact HA1.out, HK1.out, HB1.out⟩
  case round =>
    obtain ⟨k, K, hk, rfl, hAr, hK, hB⟩ := hrel
    by_cases hlt : k < n
    · have hdel := del_ok hAr (onceL_mem zss n by_.toNat k hlt)
      rw [onceL_succ] at hdel
      have htn := Nat.mod_lt (k + by_.toNat) (show 0 < n by omega)
      have htm : (((k + by_.toNat) % n : Nat) : Int) = ((k : Int) + by_) % (n : Int) := by rw [Int.natCast_emod, Int.natCast_add, Int.toNat_of_nonneg hb0]
      obtain ⟨t, ht⟩ : ∃ t, (k + by_.toNat) % n = t := ⟨_, rfl⟩
      rw [ht] at htm htn hdel
      have hq : ((k : Int) + by_).tmod (n : Int) = (t : Int) := by rw [htm, Int.tmod_eq_emod_of_nonneg (by omega)]
      have hnz : ¬ ((n : Int) = 0) := by omega
      have HD := Lib.hid hdel; have HK := Lib.hid hK; have HB := Lib.hid hB
      clear hAr hdel hK hB ht htm HP
      go_wp2_with (go_at_call 15; refine (HD.out).mono ?_; rintro r w2 ⟨rfl, K2, hA2, hT2⟩; have HA2 := Lib.hid hA2; have HT2 := Lib.hid hT2; clear hA2 hT2)
      refine ⟨⟨k + 1, K2, hlt, by go_num, HA2.out, HT2.out.from_ HB.out.size HK.out, HB.out.trans (HT2.out.below HB.out.size HK.out)⟩, ?_⟩
      simp [intOf]; omega
    · obtain rfl : k = n := by omega
      rw [onceL_all, HLa.out] at hAr
      have HAr := Lib.hid hAr; have HK := Lib.hid hK; have HB := Lib.hid hB
      clear hAr hK hB HP
      go_wp2_with fail
      refine (count_is (n := 0) HAr.out (by decide)).mono ?_
      rintro r w' ⟨rfl, rfl⟩
      go_wp2_with fail
      refine (used_is (n := 0) HAr.out (by decide)).mono ?_
      rintro r w' ⟨rfl, rfl⟩
      go_wp2_with fail
      refine (held_0 HAr.out).mono ?_
      rintro r w' ⟨h, rfl, hh, rfl⟩
      go_wp2_with fail
      refine (last_ar HAr.out).mono ?_
      rintro r w' ⟨rfl, rfl⟩
      go_wp2_with fail
      refine (add_bad (e := 30) (c := []) (id := m2) HAr.out (intsF_nil _) (by decide) (by unfold addE; rw [if_pos (by decide), if_neg (by omega)]) (by decide)).mono ?_
      rintro r w2 ⟨rfl, hB2⟩
      have hA2 := HAr.out.on hB2
      have hB2' := HB.out.trans (hB2.mono HB.out.size)
      have HA2 := Lib.hid hA2; have HB2 := Lib.hid hB2'
      clear hA2 hB2 hB2' HAr HB
      go_wp2_with fail
      refine (add_ok (c := []) (id := last + 1) HA2.out (intsF_nil _) (by decide) (by omega) (by omega) (by decide)).mono ?_
      rintro r w3 ⟨K3, rfl, hA3, hT3⟩
      have hB3 := HB2.out.trans (hT3.below HB2.out.size HK.out)
      have HA3 := Lib.hid hA3; have HB3 := Lib.hid hB3
      clear hA3 hB3 hT3 HA2 HB2
      go_wp2_with fail
      refine (last_ar HA3.out).mono ?_
      rintro r w' ⟨rfl, rfl⟩
      go_wp2_with fail
      refine (arawake_any _).mono ?_
      rintro r w4 ⟨rfl, hB4⟩
      have hB4' := HB3.out.trans (hB4.mono HB3.out.size)
      have HB4 := Lib.hid hB4'
      clear hB4 hB4' HA3 HB3
      go_wp2_with fail
      go_ret
      exact ⟨rfl, HB4.out⟩
theorem arenaOnce_walk (v : Value) (zss : List (List Int)) (hm : zss.length ≤ maxLen) (hw : ∀ zs ∈ zss, zs.length ≤ maxLen ∧ ∀ x ∈ zs, (Lit.int .u8 x).wf = true) (by_ : Int) (hb : (Lit.int .u8 by_).wf = true) (m : Int) (_ : (Lit.int .i64 m).wf = true) (w : World) (hR : Rows2 .u8 w.heap.size w v zss) :
    Calls Try.prog 7 #[v, .int .u8 by_, .int .i64 m] w fun e w' => e = .returned (.bool true) ∧ Below w.heap.size w w' :=
  core v zss by_ m (u8_wf hb).1 (u8_wf hb).2 w hR hm hw
end Go.Proofs.Ytjkhhnfmefbohaa.arenaOnce
