/- A long function in several texts: what follows k statements. -/
/- salvorlaw06.writes from its header on. -/
import Derived.Test.YticcgmegimiegaaGreatDoorLits
import Derived.Test.YticcgmegimiegaaGreatDoorDmRefW
import Derived.Test.YticcgmegimiegaaGreatDoorDmFew
namespace Go.Proofs.YticcgmegimiegaaGreatDoor
open Go.RowKit

/-- What follows k statements. -/
def sndsT : Nat → Code → Code
  | 0, c => c
  | k + 1, .seq _ b => sndsT k b
  | _ + 1, _ => .skip
theorem tl_part {P : Program} {f : Func} {c d : Code} {Q : Exit → Act → World → Prop} {a : Act} {w : World} (k : Nat) (hb : f.body = some c) (hd : sndsT k c = d) (h : d.wp P Q a w) : (sndsT k (f.body.getD .skip)).wp P Q a w := by rw [hb]; rw [Option.getD_some, hd]; exact h
theorem tl_whole {P : Program} {f : Func} {c d : Code} {Q : Exit → Act → World → Prop} {a : Act} {w : World} (k : Nat) (hb : f.body = some c) (hd : sndsT k c = d) (h : (sndsT k (f.body.getD .skip)).wp P Q a w) : d.wp P Q a w := by rw [hb, Option.getD_some, hd] at h; exact h
end Go.Proofs.YticcgmegimiegaaGreatDoor
namespace Go.Proofs.YticcgmegimiegaaGreatDoor
open Go.RowKit Go.ChangeAt Go.ChangeShapes Go.WideShapes Go.Shelf Go.Sort

/-- A frame, slot by slot. -/
theorem frame138 (t : Array Value) (h : t.size = 138) : ∃ z : Nat → Value, (∀ (i : Nat) (x : Value), t[i]? = some x → z i = x) ∧ t = #[z 0, z 1, z 2, z 3, z 4, z 5, z 6, z 7, z 8, z 9, z 10, z 11, z 12, z 13, z 14, z 15, z 16, z 17, z 18, z 19, z 20, z 21, z 22, z 23, z 24, z 25, z 26, z 27, z 28, z 29, z 30, z 31, z 32, z 33, z 34, z 35, z 36, z 37, z 38, z 39, z 40, z 41, z 42, z 43, z 44, z 45, z 46, z 47, z 48, z 49, z 50, z 51, z 52, z 53, z 54, z 55, z 56, z 57, z 58, z 59, z 60, z 61, z 62, z 63, z 64, z 65, z 66, z 67, z 68, z 69, z 70, z 71, z 72, z 73, z 74, z 75, z 76, z 77, z 78, z 79, z 80, z 81, z 82, z 83, z 84, z 85, z 86, z 87, z 88, z 89, z 90, z 91, z 92, z 93, z 94, z 95, z 96, z 97, z 98, z 99, z 100, z 101, z 102, z 103, z 104, z 105, z 106, z 107, z 108, z 109, z 110, z 111, z 112, z 113, z 114, z 115, z 116, z 117, z 118, z 119, z 120, z 121, z 122, z 123, z 124, z 125, z 126, z 127, z 128, z 129, z 130, z 131, z 132, z 133, z 134, z 135, z 136, z 137] := by
  refine ⟨fun i => t[i]?.getD undef, fun i x hx => by dsimp only; rw [hx]; rfl, ?_⟩
  have e : ∀ z : Nat → Value, #[z 0, z 1, z 2, z 3, z 4, z 5, z 6, z 7, z 8, z 9, z 10, z 11, z 12, z 13, z 14, z 15, z 16, z 17, z 18, z 19, z 20, z 21, z 22, z 23, z 24, z 25, z 26, z 27, z 28, z 29, z 30, z 31, z 32, z 33, z 34, z 35, z 36, z 37, z 38, z 39, z 40, z 41, z 42, z 43, z 44, z 45, z 46, z 47, z 48, z 49, z 50, z 51, z 52, z 53, z 54, z 55, z 56, z 57, z 58, z 59, z 60, z 61, z 62, z 63, z 64, z 65, z 66, z 67, z 68, z 69, z 70, z 71, z 72, z 73, z 74, z 75, z 76, z 77, z 78, z 79, z 80, z 81, z 82, z 83, z 84, z 85, z 86, z 87, z 88, z 89, z 90, z 91, z 92, z 93, z 94, z 95, z 96, z 97, z 98, z 99, z 100, z 101, z 102, z 103, z 104, z 105, z 106, z 107, z 108, z 109, z 110, z 111, z 112, z 113, z 114, z 115, z 116, z 117, z 118, z 119, z 120, z 121, z 122, z 123, z 124, z 125, z 126, z 127, z 128, z 129, z 130, z 131, z 132, z 133, z 134, z 135, z 136, z 137] = ((List.range 138).map z).toArray := fun z => rfl
  refine Eq.trans ?_ (e fun i => t[i]?.getD undef).symm
  refine Array.ext (by simp [h]) fun i h1 h2 => ?_
  simp [h1]
set_option maxRecDepth 100000 in
set_option maxHeartbeats 2000000 in
theorem wr_head (t : Array Value) (ht : t.size = 138) (vars count : Int) (h1 : t[1]? = some (.int .i64 vars)) (h2 : t[2]? = some (.int .i64 count)) (w W : World) (hB : Below w.heap.size w W) (hT : Tab W) :
    (sndsT 7 (Tryz.f12.body.getD .skip)).wp Tryz.prog (bodyPost Tryz.prog Tryz.f12 fun e w' => e = .returned (.bool true) ∧ Below w.heap.size w w') { tmps := t, defers := [] } W := by
  obtain ⟨z, hz, rfl⟩ := frame138 t ht
  have z1 := hz 1 _ h1
  have z2 := hz 2 _ h2
  clear ht h1 h2 hz
  refine tl_part 7 rfl (by dsimp only [sndsT]) ?_
  dsimp only
  rw [z1, z2]
  clear z1 z2
  have HB := Lib.hid hB; have HT := Lib.hid hT
  clear hB hT
  by_cases hv : vars < 0 ∨ 1048576 < vars
  · have hh := header_vars vars count hv W
    have HH := Lib.hid hh
    clear hh
    rcases Int.lt_or_le vars 0 with h0 | h0
    · clear hv
      go_wp2_with fail
      refine HH.out.mono ?_
      rintro e w1 ⟨rfl, rfl⟩
      go_wp2_with fail
      go_ret
      exact ⟨rfl, HB.out⟩
    · have h3 : 1048576 < vars := by omega
      have h4 : ¬ vars < 0 := by omega
      clear hv
      go_wp2_with fail
      refine HH.out.mono ?_
      rintro e w1 ⟨rfl, rfl⟩
      go_wp2_with fail
      go_ret
      exact ⟨rfl, HB.out⟩
  · have h3 : ¬ 1048576 < vars := by omega
    have h4 : ¬ vars < 0 := by omega
    by_cases hc : count < 0 ∨ 262144 < count
    · have hh := header_many vars count (by omega) (by omega) hc W
      have HH := Lib.hid hh
      clear hh hv
      rcases Int.lt_or_le count 0 with h0 | h0
      · clear hc
        go_wp2_with fail
        refine HH.out.mono ?_
        rintro e w1 ⟨rfl, rfl⟩
        go_wp2_with fail
        go_ret
        exact ⟨rfl, HB.out⟩
      · have h5 : 262144 < count := by omega
        have h6 : ¬ count < 0 := by omega
        clear hc
        go_wp2_with fail
        refine HH.out.mono ?_
        rintro e w1 ⟨rfl, rfl⟩
        go_wp2_with fail
        go_ret
        exact ⟨rfl, HB.out⟩
    · have h5 : ¬ 262144 < count := by omega
      have h6 : ¬ count < 0 := by omega
      have hh := header_ok vars count (by omega) (by omega) (by omega) (by omega) W HT.out
      have hr := fun W => hdr06_any vars count (by omega) (by omega) (by omega) (by omega) W
      obtain ⟨H, hH⟩ : ∃ H, hdrL vars count = H := ⟨_, rfl⟩
      rw [hH] at hh
      simp only [hH] at hr
      have HH := Lib.hid hh; have HR := Lib.hid hr
      clear hh hr hH hv hc
      go_wp2_with fail
      refine HH.out.mono ?_
      rintro e w1 ⟨rfl, hb1⟩
      have HB1 := Lib.hid (HB.out.trans (hb1.mono HB.out.size))
      clear hb1
      go_wp2_with fail
      refine (HR.out w1).mono ?_
      rintro e w2 ⟨rfl, hb2⟩
      have HB2 := Lib.hid (HB1.out.trans (hb2.mono HB1.out.size))
      clear hb2
      go_wp2_with fail
      go_ret
      exact ⟨by simp, HB2.out⟩
def WrL (W : World) (n : Nat) (i : Value) (wr : World) : Prop := ∃ k : Nat, k ≤ n ∧ i = .int .i64 k ∧ Below W.heap.size W wr
set_option maxRecDepth 100000 in
set_option maxHeartbeats 2000000 in
theorem wr_loop (t : Array Value) (ht : t.size = 138) (vars count V : Int) (p7 n cap : Nat) (A : Option Addr) (L : List (List Int)) (h1 : t[1]? = some (.int .i64 vars)) (h2 : t[2]? = some (.int .i64 count)) (h7 : t[7]? = some (.pointer (some ⟨p7, 0, none⟩))) (w W : World) (hB : Below w.heap.size w W) (hT : Tab W)
    (hm : Whole W p7 69 #[.int .i64 V, .slice A n cap]) (hL : RowsL W.heap.size W (.slice A n cap) L) (hn : L.length = n) (hn1 : n ≤ 1000) (hz : ∀ zs ∈ L, zs.length ≤ 1000) :
    (sndsT 6 (Tryz.f12.body.getD .skip)).wp Tryz.prog (bodyPost Tryz.prog Tryz.f12 fun e w' => e = .returned (.bool true) ∧ Below w.heap.size w w') { tmps := t, defers := [] } W := by
  obtain ⟨z, hzz, rfl⟩ := frame138 t ht
  have z1 := hzz 1 _ h1
  have z2 := hzz 2 _ h2
  have z7 := hzz 7 _ h7
  clear ht h1 h2 h7 hzz
  refine tl_part 6 rfl (by dsimp only [sndsT]) ?_
  dsimp only
  rw [z1, z2, z7]
  clear z1 z2 z7
  have c1 : W.cell? ⟨p7, 1, none⟩ = some (.slice A n cap) := hm.cell 1
  obtain ⟨A', cap', he, hat⟩ := rowsL_shape hL
  rw [hn] at he
  injection he with ea _ ec
  subst ea ec
  have HAt := Lib.hid hat; have HZ := Lib.hid hz; have HN := Lib.hid hn; have HB := Lib.hid hB; have HT := Lib.hid hT
  clear hm hL hat hz hn hB hT
  go_wp2_with fail
  go_loopw [61] (fun i wr => WrL W n i wr) (fun i _ => n - (intOf i).toNat)
  case atStart => exact ⟨0, Nat.zero_le _, rfl, Below.refl _ _⟩
  case round =>
    clear c1
    obtain ⟨k, hk, rfl, hb⟩ := hrel
    by_cases hlt : k < n
    · obtain ⟨c, hc⟩ : ∃ c, L[k]? = some c := ⟨_, List.getElem?_eq_getElem (by have := HN.out; omega)⟩
      obtain ⟨b, off, As, cs, rfl, hbl, hcell, hLi⟩ := HAt.out k c hc
      have hcr := (hb.cell (p := ⟨b, off + k, none⟩) (by dsimp only; omega)).trans hcell
      have hcl := HZ.out c (List.mem_of_getElem? hc)
      have hI := (hLi.below hb).ints.more hb.size
      have hca := clause_any wr.heap.size (.slice As c.length cs) c (by omega) wr (Nat.le_refl _) hI
      have hki : (k : Int) < (n : Int) := by omega
      have hk3 : (k : Int) ≤ 1000 := by omega
      have HCa := Lib.hid hca; have HI := Lib.hid hI; have HLt := Lib.hid hlt; have HBr := Lib.hid hb; have HCl := Lib.hid hcl
      clear hca hI hlt hb hc hcell hLi hbl hcl hk
      go_wp2_with fail
      refine HCa.out.mono ?_
      rintro e w1 ⟨v1, rfl, ho1, hb1⟩
      obtain ⟨A1, c1, rfl⟩ := own_shape0 ho1
      have hi1 := ints_own ho1
      have HI1 := Lib.hid hi1; have HB1 := Lib.hid hb1; have HW1 := Lib.hid (HBr.out.trans (hb1.mono HBr.out.size))
      clear ho1 hb1 hi1
      cases hr : rightB c with
      | true =>
        have hln := line_ok (.slice A1 c.length c1) c hr w1 HI1.out (HT.out.below HW1.out)
        have hrl := fun B W hI => line06_any B (.slice As c.length cs) c (by have := HCl.out; omega) W hI
        obtain ⟨T, hTe⟩ : ∃ T, lineL c = T := ⟨_, rfl⟩
        rw [hTe] at hln
        simp only [hTe] at hrl
        have HLn := Lib.hid hln; have HRl := Lib.hid hrl; have HR := Lib.hid hr
        clear hln hrl hr hTe
        go_wp2_with fail
        refine HLn.out.mono ?_
        rintro e w2 ⟨rfl, hb2⟩
        have HI2 := Lib.hid (((HI.out.below HB1.out).more HB1.out.size).on hb2); have HW2 := Lib.hid (HW1.out.trans (hb2.mono HW1.out.size))
        clear hb2
        go_wp2_with fail
        refine (ref02_right _ (.slice As c.length cs) c (by have := HCl.out; omega) w2 HI2.out).mono ?_
        rintro e w3 ⟨rfl, rfl⟩
        rw [HR.out]
        go_wp2_with fail
        refine (HRl.out _ _ HI2.out).mono ?_
        rintro e w4 ⟨rfl, rfl⟩
        go_wp2_with fail
        go_roundw
        case rel => exact ⟨k + 1, HLt.out, by go_num, HW2.out⟩
        case measure => simp [intOf]; have := HLt.out; omega
      | false =>
        have hln := line_bad (.slice A1 c.length c1) c (by have := HCl.out; omega) hr w1 HI1.out
        have HLn := Lib.hid hln; have HR := Lib.hid hr
        clear hln hr
        go_wp2_with fail
        refine HLn.out.mono ?_
        rintro e w2 ⟨rfl, rfl⟩
        have HI2 := Lib.hid ((HI.out.below HB1.out).more HB1.out.size)
        go_wp2_with fail
        refine (ref02_right _ (.slice As c.length cs) c (by have := HCl.out; omega) _ HI2.out).mono ?_
        rintro e w3 ⟨rfl, rfl⟩
        rw [HR.out]
        go_wp2_with fail
        go_roundw
        case rel => exact ⟨k + 1, HLt.out, by go_num, HW1.out⟩
        case measure => simp [intOf]; have := HLt.out; omega
    · obtain rfl : k = n := by omega
      have HBr := Lib.hid hb
      clear hb hlt hk
      repeat (first | exact tl_whole (f := Tryz.f12) 7 rfl rfl (wr_head _ rfl vars count rfl rfl w _ (HB.out.trans (HBr.out.mono HB.out.size)) (HT.out.below HBr.out)) | go_step)
end Go.Proofs.YticcgmegimiegaaGreatDoor
