/- The walk of ArenaLits. -/
import Derived.Test.YtjkhhnfmefbohaaLawUse
namespace Go.Proofs.Ytjkhhnfmefbohaa.arenaLits
open Go.RowKit Go.ChangeAt Go.ChangeShapes Go.WideShapes

def Rel (n : Nat) (w : World) (i : Value) (wr : World) : Prop := ∃ j : Nat, j ≤ n ∧ i = .int .i64 j ∧ Below w.heap.size w wr
set_option maxRecDepth 100000 in
set_option maxHeartbeats 4000000 in
theorem core (v : Value) (zss : List (List Int)) (wh m : Int) (hb0 : 0 ≤ wh) (hb1 : wh ≤ 255) (w : World) (hR : Rows2 .u8 w.heap.size w v zss) (hm : zss.length ≤ maxLen) (hw : ∀ zs ∈ zss, zs.length ≤ maxLen ∧ ∀ x ∈ zs, (Lit.int .u8 x).wf = true) :
    Calls Try.prog 8 #[v, .int .u8 wh, .int .i64 m] w fun e w' => e = .returned (.bool true) ∧ Below w.heap.size w w' := by
  obtain ⟨A, cap, rfl, -, -, hc⟩ := hR.shape
  have hput := put_any _ zss w hR hm hw
  obtain ⟨n, hn⟩ : ∃ n, min zss.length 60 = n := ⟨_, rfl⟩
  have hn1 : n ≤ zss.length := by omega
  have hn2 : n ≤ 60 := by omega
  have hmin : min (zss.length : Int) 60 = (n : Int) := by omega
  rw [hn] at hput
  have HP := Lib.hid hput; have HC := Lib.hid hc; have HW := Lib.hid hw
  clear hR hw hn hput hc
  unfold maxLen at hm
  by_cases h0 : n = 0
  · subst h0
    clear HC HW
    go_enter Try.func8, Try.ntmps8
    go_wp2_with fail
    refine (HP.out).mono ?_
    rintro r w1 ⟨g, K1, rfl, hA1, hK1, hB1⟩
    have HA1 := Lib.hid hA1; have HB1 := Lib.hid hB1
    clear hA1 hK1 hB1 HP
    go_wp2_with fail
    refine (count_is (n := 0) HA1.out rfl).mono ?_
    rintro r w' ⟨rfl, rfl⟩
    go_wp2_with fail
    refine (has_out (id := 1) HA1.out (by decide) (fun p hp => by cases hp)).mono ?_
    rintro r w2 ⟨rfl, hB2⟩
    have hB2' := HB1.out.trans (hB2.mono HB1.out.size)
    have HB2 := Lib.hid hB2'
    clear hB2 hB2' HA1 HB1
    go_wp2_with fail
    refine (arawake_any _).mono ?_
    rintro r w3 ⟨rfl, hB3⟩
    have HB3 := Lib.hid (HB2.out.trans (hB3.mono HB2.out.size))
    clear hB3 HB2
    go_wp2_with fail
    go_ret
    exact ⟨rfl, HB3.out⟩
  · have hkn := Nat.mod_lt wh.toNat (show 0 < n by omega)
    have htm : ((wh.toNat % n : Nat) : Int) = wh % (n : Int) := by rw [Int.natCast_emod, Int.toNat_of_nonneg hb0]
    obtain ⟨k, hk⟩ : ∃ k, wh.toNat % n = k := ⟨_, rfl⟩
    rw [hk] at htm hkn
    have hq : wh.tmod (n : Int) = (k : Int) := by rw [htm, Int.tmod_eq_emod_of_nonneg hb0]
    have hnz : ¬ ((n : Int) = 0) := by omega
    have hwb : IntKind.i64.wrap wh = wh := by rw [IntKind.wrap_i64]; omega
    clear hk htm
    obtain ⟨b, off, sv, rfl, hb, hcx, hI, hF⟩ := HC.out k (by omega)
    have hz := HW.out (zss[k]?.getD []) (by rw [List.getElem?_eq_getElem (by omega)]; exact List.getElem_mem _)
    have hmem := putL_mem zss hkn
    have hmade := fun (W : World) (hB : Below w.heap.size w W) => made_any w.heap.size sv (zss[k]?.getD []) (by have := hz.1; unfold maxLen at this; omega) hz.2 hF W hB.size (hI.below hB)
    have hcl := madeL_len (zss[k]?.getD [])
    obtain ⟨c, hcn⟩ : ∃ c, madeL (zss[k]?.getD []) = c := ⟨_, rfl⟩
    rw [hcn] at hmem hcl
    simp only [hcn] at hmade
    obtain ⟨m1, hm1⟩ : ∃ x, max m (c.length : Int) = x := ⟨_, rfl⟩
    obtain ⟨m2, hm2⟩ : ∃ x, min m (-1) = x := ⟨_, rfl⟩
    have hm1' : (c.length : Int) ≤ m1 := by omega
    have hm2' : m2 < 0 := by omega
    have HMem := Lib.hid hmem; have HMd := Lib.hid hmade; have HCx := Lib.hid hcx
    have HEv := Lib.hid (putL_even zss n (k : Int))
    clear hz hI hF hcn hmem hmade HC HW hcx
    go_enter Try.func8, Try.ntmps8
    go_wp2_with fail
    refine (HP.out).mono ?_
    rintro r w1 ⟨g, K1, rfl, hA1, hK1, hB1⟩
    have hcx1 := (hB1.cell (p := ⟨b, off + k, none⟩) hb).trans HCx.out
    have HMd1 := Lib.hid (HMd.out w1 hB1)
    have HA1 := Lib.hid hA1; have HB1 := Lib.hid hB1
    clear hA1 hK1 hB1 HP HMd HCx
    go_wp2_with fail
    refine (HMd1.out).mono ?_
    rintro r w2 ⟨v2, rfl, hr2, hB2⟩
    obtain ⟨Ac, cc, rfl, hcc⟩ := ints_shape (ints_own hr2)
    have hA2 := HA1.out.on hB2
    have hB2' := HB1.out.trans (hB2.mono HB1.out.size)
    have HA2 := Lib.hid hA2; have HB2 := Lib.hid hB2'; have HCc := Lib.hid hcc
    clear hA2 hB2 hB2' hr2 hcc HMd1 HA1 HB1 hcx1
    go_wp2_with fail
    refine (len_is (n := (c.length : Int)) HA2.out HMem.out rfl).mono ?_
    rintro r w3 ⟨rfl, hB3⟩
    have hA3 := HA2.out.on hB3
    have hB3' := HB2.out.trans (hB3.mono HB2.out.size)
    have hC3 := hB3
    have HA3 := Lib.hid hA3; have HB3 := Lib.hid hB3'; have HC3 := Lib.hid hC3
    clear hA3 hB3 hB3' hC3 HA2 HB2
    go_wp2_with fail
    refine (has_in HA3.out HMem.out).mono ?_
    rintro r w4 ⟨rfl, hB4⟩
    have hA4 := HA3.out.on hB4
    have hB4' := HB3.out.trans (hB4.mono HB3.out.size)
    have hC4 := HC3.out.trans (hB4.mono HC3.out.size)
    have HA4 := Lib.hid hA4; have HB4 := Lib.hid hB4'; have HC4 := Lib.hid hC4
    clear hA4 hB4 hB4' hC4 HA3 HB3 HC3
    go_wp2_with fail
    refine (has_out (id := 2 * (k : Int) + 2) HA4.out (int_wf (by omega)) HEv.out).mono ?_
    rintro r w5 ⟨rfl, hB5⟩
    have hA5 := HA4.out.on hB5
    have hB5' := HB4.out.trans (hB5.mono HB4.out.size)
    have hC5 := HC4.out.trans (hB5.mono HC4.out.size)
    have HA5 := Lib.hid hA5; have HB5 := Lib.hid hB5'; have HC5 := Lib.hid hC5
    clear hA5 hB5 hB5' hC5 HA4 HB4 HC4
    go_wp2_with fail
    go_loopw [89] (fun i wr => Rel c.length w5 i wr) (fun i _ => c.length - (intOf i).toNat)
    case atStart => exact ⟨0, Nat.zero_le _, rfl, Below.refl _ _⟩
    case round =>
      obtain ⟨j, hj, rfl, hB⟩ := hrel
      by_cases hlt : j < c.length
      · obtain ⟨bc, oc, rfl, hbc, hcell⟩ := HCc.out j hlt
        have hcell := ((HC5.out.trans (hB.mono HC5.out.size)).cell (p := ⟨bc, oc + j, none⟩) hbc).trans hcell
        have HL := Lib.hid (lit_in (HA5.out.on hB) HMem.out j hlt)
        have HB := Lib.hid hB
        clear hB HCc HMem HA5 HB5 HC5 HEv
        go_wp2_with fail
        refine (HL.out).mono ?_
        rintro r w6 ⟨rfl, hB6⟩
        have HB6 := Lib.hid (HB.out.trans (hB6.mono HB.out.size))
        clear hB6 HB HL
        go_wp2_with fail
        refine ⟨⟨j + 1, hlt, by go_num, HB6.out⟩, ?_⟩
        simp [intOf]; omega
      · obtain rfl : j = c.length := by omega
        have HA6 := Lib.hid (HA5.out.on hB); have HB6 := Lib.hid (HB5.out.trans (hB.mono HB5.out.size))
        clear hB HCc HA5 HB5 HC5
        go_wp2_with fail
        refine (lit_off HA6.out HMem.out m1 (.inr hm1')).mono ?_
        rintro r w7 ⟨rfl, hB7⟩
        have HA7 := Lib.hid (HA6.out.on hB7); have HB7 := Lib.hid (HB6.out.trans (hB7.mono HB6.out.size))
        clear hB7 HA6 HB6
        go_wp2_with fail
        refine (lit_off HA7.out HMem.out m2 (.inl hm2')).mono ?_
        rintro r w8 ⟨rfl, hB8⟩
        have HA8 := Lib.hid (HA7.out.on hB8); have HB8 := Lib.hid (HB7.out.trans (hB8.mono HB7.out.size))
        clear hB8 HA7 HB7
        go_wp2_with fail
        refine (lit_gone (id := 2 * (k : Int) + 2) HA8.out (int_wf (by omega)) HEv.out 0).mono ?_
        rintro r w9 ⟨rfl, hB9⟩
        have HB9 := Lib.hid (HB8.out.trans (hB9.mono HB8.out.size))
        clear hB9 HA8 HB8
        go_wp2_with fail
        refine (arawake_any _).mono ?_
        rintro r w10 ⟨rfl, hB10⟩
        have HB10 := Lib.hid (HB9.out.trans (hB10.mono HB9.out.size))
        clear hB10 HB9
        go_wp2_with fail
        go_ret
        exact ⟨rfl, HB10.out⟩
theorem arenaLits_walk (v : Value) (zss : List (List Int)) (hm : zss.length ≤ maxLen) (hw : ∀ zs ∈ zss, zs.length ≤ maxLen ∧ ∀ x ∈ zs, (Lit.int .u8 x).wf = true) (wh : Int) (hb : (Lit.int .u8 wh).wf = true) (m : Int) (_ : (Lit.int .i64 m).wf = true) (w : World) (hR : Rows2 .u8 w.heap.size w v zss) :
    Calls Try.prog 8 #[v, .int .u8 wh, .int .i64 m] w fun e w' => e = .returned (.bool true) ∧ Below w.heap.size w w' :=
  core v zss wh m (u8_wf hb).1 (u8_wf hb).2 w hR hm hw
end Go.Proofs.Ytjkhhnfmefbohaa.arenaLits
