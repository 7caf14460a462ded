/- An arena with clauses that small numbers make: the laws' put. -/
import Derived.Test.YtjkhhnfmefbohaaArUse
import Derived.Test.YtjkhhnfmefbohaaRows2
import Derived.Test.YtjkhhnfmefbohaaMade02
namespace Go.Proofs.Ytjkhhnfmefbohaa
open Go.RowKit Go.ChangeAt Go.ChangeShapes Go.WideShapes

/-- The first k clauses, with the numbers 1, 3, 5 and so on. -/
def putL (zss : List (List Int)) (k : Nat) : List (Int × List Int) := (List.range k).map fun (i : Nat) => (2 * (i : Int) + 1, madeL (zss[i]?.getD []))
theorem putL_len (zss : List (List Int)) (k : Nat) : (putL zss k).length = k := by simp [putL]
theorem putL_succ (zss : List (List Int)) (k : Nat) : putL zss (k + 1) = putL zss k ++ [(2 * (k : Int) + 1, madeL (zss[k]?.getD []))] := by simp [putL, List.range_succ]
theorem madeL_len (zs : List Int) : (madeL zs).length ≤ 20 := by unfold madeL; rw [List.length_map, List.length_take]; omega
theorem madeL_right (zs : List Int) : rightB (madeL zs) = true := by
  refine rightB_mk (Nat.le_trans (madeL_len zs) (by decide)) fun x hx => ?_
  obtain ⟨n, -, rfl⟩ := List.mem_map.1 hx
  obtain ⟨v, h1, h2, h3⟩ := madeU_is n
  exact litB_yes (by omega) (by omega) (by omega)
theorem putL_sum (zss : List (List Int)) (k : Nat) : sumL (putL zss k) ≤ 20 * k := by
  induction k with
  | zero => simp [putL, sumL]
  | succ k ih =>
    rw [putL_succ, sumL_app]
    have := madeL_len (zss[k]?.getD [])
    simp only [sumL, List.map_cons, List.map_nil, List.sum_cons, List.sum_nil] at *
    omega
def lastN (k : Nat) : Int := if k = 0 then 0 else 2 * (k : Int) - 1
theorem putL_mem (zss : List (List Int)) {k i : Nat} (h : i < k) : (2 * (i : Int) + 1, madeL (zss[i]?.getD [])) ∈ putL zss k := List.mem_map.2 ⟨i, List.mem_range.2 h, rfl⟩
theorem putL_id {zss : List (List Int)} {k : Nat} {p : Int × List Int} (h : p ∈ putL zss k) : ∃ i : Nat, i < k ∧ p.1 = 2 * (i : Int) + 1 ∧ p.2 = madeL (zss[i]?.getD []) := by
  obtain ⟨i, hi, rfl⟩ := List.mem_map.1 h
  exact ⟨i, List.mem_range.1 hi, rfl, rfl⟩

def PutRel (zss : List (List Int)) (n : Nat) (w : World) (g : Nat) (i : Value) (wr : World) : Prop :=
  ∃ (k : Nat) (K : Nat → Prop), k ≤ n ∧ i = .int .i64 k ∧ Ar K wr g (putL zss k) (lastN k) ∧ (∀ i, K i → w.heap.size ≤ i) ∧ Below w.heap.size w wr
set_option maxRecDepth 100000 in
set_option maxHeartbeats 2000000 in
theorem put_any (v : Value) (zss : List (List Int)) (w : World) (hR : Rows2 .u8 w.heap.size w v zss) (hm : zss.length ≤ maxLen) (hw : ∀ zs ∈ zss, zs.length ≤ maxLen ∧ ∀ x ∈ zs, (Lit.int .u8 x).wf = true) :
    Calls Try.prog 25 #[v] w fun r w' => ∃ g K, r = .returned (.tuple #[.pointer (some ⟨g, 0, none⟩), .bool true]) ∧ Ar K w' g (putL zss (min zss.length 60)) (lastN (min zss.length 60)) ∧ (∀ i, K i → w.heap.size ≤ i) ∧ Below w.heap.size w w' := by
  obtain ⟨A, cap, rfl, hA, hcap, hc⟩ := hR.shape
  have HR := Lib.hid hR; have HC := Lib.hid hc; have HW := Lib.hid hw
  clear hR hc hw
  unfold maxLen at hm
  obtain ⟨n, hn⟩ : ∃ n, min zss.length 60 = n := ⟨_, rfl⟩
  have hn1 : n ≤ zss.length := by omega
  have hn2 : n ≤ 60 := by omega
  have hmin : min (zss.length : Int) 60 = (n : Int) := by omega
  rw [hn]
  clear hn
  go_enter Try.func25, Try.ntmps25
  go_wp2_with (go_at_call 13; refine (new_ar _).mono ?_; rintro r w1 ⟨g, K1, rfl, hA1, hK1, hB1⟩; have HA1 := Lib.hid hA1; have HK1 := Lib.hid hK1; have HB1 := Lib.hid hB1; clear hA1 hK1 hB1)
  go_loopw [16] (fun i wr => PutRel zss n w g i wr) (fun i _ => n - (intOf i).toNat)
  case atStart => exact ⟨0, K1, Nat.zero_le _, rfl, HA1.out, HK1.out, HB1.out⟩
  case round =>
    obtain ⟨k, K, hk, rfl, hAr, hK, hB⟩ := hrel
    by_cases hlt : k < n
    · obtain ⟨b, off, sv, rfl, hb, hcx, hI, hF⟩ := HC.out k (by omega)
      have hcx := (hB.cell (p := ⟨b, off + k, none⟩) hb).trans hcx
      have hz := HW.out (zss[k]?.getD []) (by rw [List.getElem?_eq_getElem (by omega)]; exact List.getElem_mem _)
      have hmd := made_any w.heap.size sv (zss[k]?.getD []) (by have := hz.1; unfold maxLen at this; omega) hz.2 hF wr hB.size (hI.below hB)
      have hkok := hAr.kok
      have hadd := fun (W : World) (cv : Value) (hA : Ar K W g (putL zss k) (lastN k)) (hc : IntsF .i64 K W cv (madeL (zss[k]?.getD []))) => add_ok (id := 2 * (k : Int) + 1) hA hc (madeL_right _) (by unfold lastN; split <;> omega) (by omega) (by have h1 := putL_sum zss k; have h2 := madeL_len (zss[k]?.getD []); omega)
      have HMd := Lib.hid hmd; have HAdd := Lib.hid hadd; have HAr := Lib.hid hAr; have HK := Lib.hid hK; have HB := Lib.hid hB; have HKo := Lib.hid hkok
      clear hI hF hz hmd hadd hAr hK hkok HC HR HW
      go_wp2_with (first
        | (go_at_call 27; refine (HMd.out).mono ?_; rintro r w2 ⟨v2, rfl, hr2, hB2⟩; have hc2 : IntsF .i64 K w2 v2 (madeL (zss[k]?.getD [])) := row_intsF hr2 (fun b e x => by have h1 := (hr2.lt b e).1; have h2 := HKo.out.lt x; omega); have HAd2 := Lib.hid (HAdd.out w2 v2 (HAr.out.on hB2) hc2); have HB2 := Lib.hid hB2; clear hr2 hc2 hB2)
        | (go_at_call 14; refine (HAd2.out).mono ?_; rintro r w3 ⟨K3, rfl, hA3, hT3⟩; have HA3 := Lib.hid hA3; have HT3 := Lib.hid hT3; clear hA3 hT3))
      refine ⟨⟨k + 1, K3, hlt, by go_num, ?_, ?_, ?_⟩, ?_⟩
      · rw [putL_succ]
        have : lastN (k + 1) = 2 * (k : Int) + 1 := by unfold lastN; rw [if_neg (by omega)]; omega
        rw [this]
        exact HA3.out
      · exact HT3.out.from_ (by have := HB.out.size; have := HB2.out.size; omega) HK.out
      · exact (HB.out.trans (HB2.out.mono HB.out.size)).trans (HT3.out.below (Nat.le_trans HB.out.size HB2.out.size) HK.out)
      · simp [intOf]; omega
    · obtain rfl : k = n := by omega
      have HAr := Lib.hid hAr
      clear hAr HC HR HW
      go_wp2_with fail
      go_ret2
      exact ⟨g, K, rfl, HAr.out, hK, hB⟩
end Go.Proofs.Ytjkhhnfmefbohaa
