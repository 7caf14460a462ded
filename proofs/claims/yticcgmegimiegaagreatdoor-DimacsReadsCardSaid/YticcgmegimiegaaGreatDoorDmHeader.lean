/- dimacs.Header. -/
import Derived.Test.YticcgmegimiegaaGreatDoorDmText
import Derived.Lib.ItoaLen
namespace Go.Proofs.YticcgmegimiegaaGreatDoor
open Go.RowKit Go.Shelf Go.Sort

/-- The text of a header; what Header answers else. -/
def hdrL (v n : Int) : List UInt8 := [112, 32, 99, 110, 102, 32] ++ (Lib.itoa v ++ (32 :: Lib.itoa n))
def hdrE (v n : Int) : Int := if v < 0 ∨ 1048576 < v then 50 else if n < 0 ∨ 262144 < n then 5 else 0
set_option maxRecDepth 100000 in
set_option maxHeartbeats 1000000 in
theorem header_ok (v n : Int) (hv0 : 0 ≤ v) (hv1 : v ≤ 1048576) (hn0 : 0 ≤ n) (hn1 : n ≤ 262144) (w : World) (ht : Tab w) :
    Calls Tryz.prog 27 #[.int .i64 v, .int .i64 n] w fun e w' => e = .returned (.tuple #[.string ⟨(hdrL v n).toArray⟩, .int .i64 0]) ∧ Below w.heap.size w w' := by
  have HT := Lib.hid ht; clear ht
  have hl1 := Lib.itoa_length_le v (by omega) (by omega)
  have hl2 := Lib.itoa_length_le n (by omega) (by omega)
  have hi1 := Tryz.strconv_Itoa_f33 v (by omega) (by omega) w HT.out
  have hi2 := fun W (h : Tab W) => Tryz.strconv_Itoa_f33 n (by omega) (by omega) W h
  unfold hdrL
  obtain ⟨A, hA⟩ : ∃ x, Lib.itoa v = x := ⟨_, rfl⟩
  obtain ⟨B, hB⟩ : ∃ x, Lib.itoa n = x := ⟨_, rfl⟩
  rw [hA] at hl1 hi1 ⊢
  rw [hB] at hl2 ⊢
  simp only [hB] at hi2
  have HI1 := Lib.hid hi1; have HI2 := Lib.hid hi2
  clear hi1 hi2 hA hB
  have h1 : ¬ v < 0 := by omega
  have h2 : ¬ 1048576 < v := by omega
  have h3 : ¬ n < 0 := by omega
  have h4 : ¬ 262144 < n := by omega
  go_enter Tryz.func27, Tryz.ntmps27
  go_wp2_with fail
  refine HI1.out.mono ?_
  rintro e w1 ⟨rfl, k, os, rfl⟩
  have hb1 := below_grow w k os
  have HT1 := Lib.hid (HT.out.below hb1)
  have HB1 := Lib.hid hb1
  obtain ⟨w1, hw1⟩ : ∃ x, grow (w.drewN k) os = x := ⟨_, rfl⟩
  rw [hw1] at HT1 HB1 ⊢
  clear hb1 hw1
  go_wp2_with fail
  refine (HI2.out _ HT1.out).mono ?_
  rintro e w2 ⟨rfl, k2, os2, rfl⟩
  have hb2 := below_grow w1 k2 os2
  have HB2 := Lib.hid (HB1.out.trans (hb2.mono HB1.out.size))
  obtain ⟨w2, hw2⟩ : ∃ x, grow (w1.drewN k2) os2 = x := ⟨_, rfl⟩
  rw [hw2] at HB2 ⊢
  clear hb2 hw2
  go_wp2_with fail
  go_ret2
  refine ⟨?_, HB2.out⟩
  have hs : (({ data := #[112, 32, 99, 110, 102, 32] } : ByteArray) ++ { data := A.toArray } ++ { data := #[32] } ++ { data := B.toArray }) = { data := ([112, 32, 99, 110, 102, 32] ++ (A ++ (32 :: B))).toArray } := by
    apply ByteArray.ext
    simp [ByteArray.data_append]
  rw [hs]
  rfl
set_option maxRecDepth 100000 in
set_option maxHeartbeats 1000000 in
theorem header_vars (v n : Int) (h : v < 0 ∨ 1048576 < v) (w : World) :
    Calls Tryz.prog 27 #[.int .i64 v, .int .i64 n] w fun e w' => e = .returned (.tuple #[.string ⟨#[]⟩, .int .i64 50]) ∧ w' = w := by
  rcases h with h | h
  · go_enter Tryz.func27, Tryz.ntmps27
    go_wp2_with fail
    go_ret2
    exact ⟨rfl, rfl⟩
  · have h1 : ¬ v < 0 := by omega
    go_enter Tryz.func27, Tryz.ntmps27
    go_wp2_with fail
    go_ret2
    exact ⟨rfl, rfl⟩
set_option maxRecDepth 100000 in
set_option maxHeartbeats 1000000 in
theorem header_many (v n : Int) (h0 : 0 ≤ v) (h1 : v ≤ 1048576) (h : n < 0 ∨ 262144 < n) (w : World) :
    Calls Tryz.prog 27 #[.int .i64 v, .int .i64 n] w fun e w' => e = .returned (.tuple #[.string ⟨#[]⟩, .int .i64 5]) ∧ w' = w := by
  have h2 : ¬ v < 0 := by omega
  have h3 : ¬ 1048576 < v := by omega
  rcases h with h | h
  · go_enter Tryz.func27, Tryz.ntmps27
    go_wp2_with fail
    go_ret2
    exact ⟨rfl, rfl⟩
  · have h4 : ¬ n < 0 := by omega
    go_enter Tryz.func27, Tryz.ntmps27
    go_wp2_with fail
    go_ret2
    exact ⟨rfl, rfl⟩
end Go.Proofs.YticcgmegimiegaaGreatDoor
