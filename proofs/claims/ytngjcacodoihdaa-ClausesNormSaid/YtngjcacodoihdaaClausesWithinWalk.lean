/- The walk of ClausesWithin. -/
import Derived.Test.YtngjcacodoihdaaClAt
import Derived.Deep.DeepCutAuto
namespace Go.Proofs.Ytngjcacodoihdaa
open Go.RowKit Go.ChangeAt Go.ChangeShapes Go.WideShapes

/-- What stands ahead of the models: two clauses, their union, and whether one is within the other. -/
def WiCut (w : World) (a b us : List Int) (is : Bool) (sa sb su si st : Value) (wx : World) : Prop :=
  Lits wx.heap.size wx sa a ∧ Lits wx.heap.size wx sb b ∧ Lits wx.heap.size wx su us ∧ si = .bool is ∧ st = .bool false ∧ Below w.heap.size w wx
def BitsRel (w : World) (i : Value) (wr : World) : Prop := ∃ k : Nat, k ≤ 256 ∧ i = .int .i64 k ∧ Below w.heap.size w wr
theorem within_of {a b : List Int} (ha : rightB a = true) (hb : rightB b = true) : withinB a b = withB a b := by unfold withinB; rw [ha, hb, Bool.true_and, Bool.true_and]
theorem holds_app (a b m : List Int) : holdsB (normL (a ++ b)) m = (holdsB a m || holdsB b m) := by
  rw [Bool.eq_iff_iff, Bool.or_eq_true, holdsB_iff, holdsB_iff, holdsB_iff]
  constructor
  · rintro ⟨x, hx, h⟩
    rcases List.mem_append.1 (norm_mem.1 h) with h' | h'
    · exact .inl ⟨x, hx, h'⟩
    · exact .inr ⟨x, hx, h'⟩
  · rintro (⟨x, hx, h⟩ | ⟨x, hx, h⟩)
    · exact ⟨x, hx, norm_mem.2 (List.mem_append_left _ h)⟩
    · exact ⟨x, hx, norm_mem.2 (List.mem_append_right _ h)⟩
theorem holds_with {a b m : List Int} (h : withB a b = true) (k : holdsB a m = true) : holdsB b m = true := by
  obtain ⟨x, hx, h'⟩ := holdsB_iff.1 k
  exact holdsB_iff.2 ⟨x, hx, withB_iff.1 h x h'⟩
theorem modelL_len (n : Int) : (modelL n).length = 8 := by unfold modelL; rw [List.length_map, List.length_range]

set_option maxRecDepth 100000 in
set_option maxHeartbeats 16000000 in
theorem within_core (jv kv lv : Value) (j k l a b c us : List Int) (is ba bc ac : Bool) (w : World) (hIj : IntsK .u8 w.heap.size w jv j) (hIk : IntsK .u8 w.heap.size w kv k) (hIl : IntsK .u8 w.heap.size w lv l)
    (hmj : MadeAt jv j a) (hmk : MadeAt kv k b) (hml : MadeAt lv l c) (hla : a.length ≤ 20) (hlb : b.length ≤ 20) (hlc : c.length ≤ 20) (hra : rightB a = true) (hrb : rightB b = true) (hru : rightB us = true) (hu : normL (a ++ b) = us) (hlu : us.length ≤ 4096)
    (hab : withinB a b = is) (haa : withinB a a = true) (hau : withinB a us = true) (hbu : withinB b us = true) (hbc : withinB b c = bc) (hac : withinB a c = ac) (hba : withinB b a = ba) (hsab : sameB a b = (is && ba)) (hsub : sameB us b = is) (hcon : is = true → bc = true → ac = true) (huc : ac = true → bc = true → withinB us c = true)
    (hho : ∀ m, holdsB us m = (holdsB a m || holdsB b m)) (him : is = true → ∀ m, holdsB a m = true → holdsB b m = true) :
    Calls Try.prog 8 #[jv, kv, lv] w fun e w' => e = .returned (.bool true) ∧ Below w.heap.size w w' := by
  have hbb := bne_b ba
  have hi0 := bne_b is
  have hw := awakeAt
  have HIjx := Lib.hid hIj; have HIkx := Lib.hid hIk; have HIlx := Lib.hid hIl; have HMjx := Lib.hid hmj; have HMkx := Lib.hid hmk; have HMlx := Lib.hid hml; have HRax := Lib.hid hra; have HRbx := Lib.hid hrb; have HRux := Lib.hid hru; have HUx := Lib.hid hu; have HAbx := Lib.hid hab; have HAax := Lib.hid haa; have HAux := Lib.hid hau; have HBux := Lib.hid hbu; have HBcx := Lib.hid hbc; have HAcx := Lib.hid hac; have HBax := Lib.hid hba; have HSabx := Lib.hid hsab; have HSubx := Lib.hid hsub; have HConx := Lib.hid hcon; have HUcx := Lib.hid huc; have HHox := Lib.hid hho; have HImx := Lib.hid him; have HAw := Lib.hid hw
  clear hIj hIk hIl hmj hmk hml hra hrb hru hu hab haa hau hbu hbc hac hba hsab hsub hcon huc hho him hw
  have Hj0 := HIjx; have Hk0 := HIkx; have Hl0 := HIlx; clear HIjx HIkx HIlx
  go_enter Try.func8, Try.ntmps8
  go_wp2_with fail
  refine (HMjx.out _ Hj0.out).mono ?_
  rintro e w1 ⟨va, rfl, hr, hB⟩
  have ha1 := lits_own hr
  have hbw1 := hB
  have hj1 := Hj0.out.on hB
  have hk1 := Hk0.out.on hB
  have hl1 := Hl0.out.on hB
  have Hj1 := Lib.hid hj1; clear hj1 Hj0
  have Hk1 := Lib.hid hk1; clear hk1 Hk0
  have Hl1 := Lib.hid hl1; clear hl1 Hl0
  have Ha1 := Lib.hid ha1; clear ha1
  clear hr
  clear Hj1
  go_wp2_with fail
  refine (HMkx.out _ Hk1.out).mono ?_
  rintro e w2 ⟨vb, rfl, hr, hB⟩
  have hb2 := lits_own hr
  have hbw2 := hbw1.trans (hB.mono hbw1.size)
  have hk2 := Hk1.out.on hB
  have hl2 := Hl1.out.on hB
  have ha2 := Ha1.out.on hB
  have Hk2 := Lib.hid hk2; clear hk2 Hk1
  have Hl2 := Lib.hid hl2; clear hl2 Hl1
  have Ha2 := Lib.hid ha2; clear ha2 Ha1
  have Hb2 := Lib.hid hb2; clear hb2
  clear hr
  clear Hk2
  go_wp2_with fail
  refine (HMlx.out _ Hl2.out).mono ?_
  rintro e w3 ⟨vc, rfl, hr, hB⟩
  have hc3 := lits_own hr
  have hbw3 := hbw2.trans (hB.mono hbw2.size)
  have hl3 := Hl2.out.on hB
  have ha3 := Ha2.out.on hB
  have hb3 := Hb2.out.on hB
  have Hl3 := Lib.hid hl3; clear hl3 Hl2
  have Ha3 := Lib.hid ha3; clear ha3 Ha2
  have Hb3 := Lib.hid hb3; clear hb3 Hb2
  have Hc3 := Lib.hid hc3; clear hc3
  clear hr
  clear Hl3
  go_wp2_with fail
  refine (union_at _ _ _ a b us (by omega) (by omega) HRax.out HRbx.out HUx.out _ (Nat.le_refl _) Ha3.out Hb3.out).mono ?_
  rintro e w4 ⟨vu, rfl, hr, hB⟩
  have hu4 := lits_own hr
  have hbw4 := hbw3.trans (hB.mono hbw3.size)
  have ha4 := Ha3.out.on hB
  have hb4 := Hb3.out.on hB
  have hc4 := Hc3.out.on hB
  have Ha4 := Lib.hid ha4; clear ha4 Ha3
  have Hb4 := Lib.hid hb4; clear hb4 Hb3
  have Hc4 := Lib.hid hc4; clear hc4 Hc3
  have Hu4 := Lib.hid hu4; clear hu4
  clear hr
  go_wp2_with fail
  refine (within_at _ _ _ a b _ (by omega) (by omega) HAbx.out _ (Nat.le_refl _) Ha4.out Hb4.out).mono ?_
  rintro e w5 ⟨rfl, hB⟩
  have hbw5 := hbw4.trans (hB.mono hbw4.size)
  have ha5 := Ha4.out.on hB
  have hb5 := Hb4.out.on hB
  have hc5 := Hc4.out.on hB
  have hu5 := Hu4.out.on hB
  have Ha5 := Lib.hid ha5; clear ha5 Ha4
  have Hb5 := Lib.hid hb5; clear hb5 Hb4
  have Hc5 := Lib.hid hc5; clear hc5 Hc4
  have Hu5 := Lib.hid hu5; clear hu5 Hu4
  go_upto_region 4 with fail
  go_cut [7, 8, 10, 12, 100] (fun s7 s8 s10 s12 s100 wx => WiCut w a b us is s7 s8 s10 s12 s100 wx)
  case first =>
    go_upto_region 6 with fail
    refine (within_at _ _ _ a a _ (by omega) (by omega) HAax.out _ (Nat.le_refl _) Ha5.out Ha5.out).mono ?_
    rintro e w6 ⟨rfl, hB⟩
    have hbw6 := hbw5.trans (hB.mono hbw5.size)
    have ha6 := Ha5.out.on hB
    have hb6 := Hb5.out.on hB
    have hc6 := Hc5.out.on hB
    have hu6 := Hu5.out.on hB
    have Ha6 := Lib.hid ha6; clear ha6 Ha5
    have Hb6 := Lib.hid hb6; clear hb6 Hb5
    have Hc6 := Lib.hid hc6; clear hc6 Hc5
    have Hu6 := Lib.hid hu6; clear hu6 Hu5
    go_upto_region 6 with fail
    refine (within_at _ _ _ a us _ (by omega) (by omega) HAux.out _ (Nat.le_refl _) Ha6.out Hu6.out).mono ?_
    rintro e w7 ⟨rfl, hB⟩
    have hbw7 := hbw6.trans (hB.mono hbw6.size)
    have ha7 := Ha6.out.on hB
    have hb7 := Hb6.out.on hB
    have hc7 := Hc6.out.on hB
    have hu7 := Hu6.out.on hB
    have Ha7 := Lib.hid ha7; clear ha7 Ha6
    have Hb7 := Lib.hid hb7; clear hb7 Hb6
    have Hc7 := Lib.hid hc7; clear hc7 Hc6
    have Hu7 := Lib.hid hu7; clear hu7 Hu6
    go_upto_region 6 with fail
    refine (within_at _ _ _ b us _ (by omega) (by omega) HBux.out _ (Nat.le_refl _) Hb7.out Hu7.out).mono ?_
    rintro e w8 ⟨rfl, hB⟩
    have hbw8 := hbw7.trans (hB.mono hbw7.size)
    have ha8 := Ha7.out.on hB
    have hb8 := Hb7.out.on hB
    have hc8 := Hc7.out.on hB
    have hu8 := Hu7.out.on hB
    have Ha8 := Lib.hid ha8; clear ha8 Ha7
    have Hb8 := Lib.hid hb8; clear hb8 Hb7
    have Hc8 := Lib.hid hc8; clear hc8 Hc7
    have Hu8 := Lib.hid hu8; clear hu8 Hu7
    cases is
    · skip
      go_upto_region 6 with fail
      refine (same_at _ _ _ a b _ (by omega) (by omega) HSabx.out _ (Nat.le_refl _) Ha8.out Hb8.out).mono ?_
      rintro e w9 ⟨rfl, hB⟩
      have hbw9 := hbw8.trans (hB.mono hbw8.size)
      have ha9 := Ha8.out.on hB
      have hb9 := Hb8.out.on hB
      have hc9 := Hc8.out.on hB
      have hu9 := Hu8.out.on hB
      have Ha9 := Lib.hid ha9; clear ha9 Ha8
      have Hb9 := Lib.hid hb9; clear hb9 Hb8
      have Hc9 := Lib.hid hc9; clear hc9 Hc8
      have Hu9 := Lib.hid hu9; clear hu9 Hu8
      go_upto_region 6 with fail
      refine (same_at _ _ _ us b _ (by omega) (by omega) HSubx.out _ (Nat.le_refl _) Hu9.out Hb9.out).mono ?_
      rintro e w10 ⟨rfl, hB⟩
      have hbw10 := hbw9.trans (hB.mono hbw9.size)
      have ha10 := Ha9.out.on hB
      have hb10 := Hb9.out.on hB
      have hc10 := Hc9.out.on hB
      have hu10 := Hu9.out.on hB
      have Ha10 := Lib.hid ha10; clear ha10 Ha9
      have Hb10 := Lib.hid hb10; clear hb10 Hb9
      have Hc10 := Lib.hid hc10; clear hc10 Hc9
      have Hu10 := Lib.hid hu10; clear hu10 Hu9
      go_upto_region 6 with fail
      refine (within_at _ _ _ a c _ (by omega) (by omega) HAcx.out _ (Nat.le_refl _) Ha10.out Hc10.out).mono ?_
      rintro e w11 ⟨rfl, hB⟩
      have hbw11 := hbw10.trans (hB.mono hbw10.size)
      have ha11 := Ha10.out.on hB
      have hb11 := Hb10.out.on hB
      have hc11 := Hc10.out.on hB
      have hu11 := Hu10.out.on hB
      have Ha11 := Lib.hid ha11; clear ha11 Ha10
      have Hb11 := Lib.hid hb11; clear hb11 Hb10
      have Hc11 := Lib.hid hc11; clear hc11 Hc10
      have Hu11 := Lib.hid hu11; clear hu11 Hu10
      cases ac
      · skip
        go_upto_region 6 with fail
        go_meet
        exact ⟨Ha11.out, Hb11.out, Hu11.out, rfl, rfl, hbw11⟩
      · skip
        go_upto_region 6 with fail
        refine (within_at _ _ _ b c _ (by omega) (by omega) HBcx.out _ (Nat.le_refl _) Hb11.out Hc11.out).mono ?_
        rintro e w12 ⟨rfl, hB⟩
        have hbw12 := hbw11.trans (hB.mono hbw11.size)
        have ha12 := Ha11.out.on hB
        have hb12 := Hb11.out.on hB
        have hc12 := Hc11.out.on hB
        have hu12 := Hu11.out.on hB
        have Ha12 := Lib.hid ha12; clear ha12 Ha11
        have Hb12 := Lib.hid hb12; clear hb12 Hb11
        have Hc12 := Lib.hid hc12; clear hc12 Hc11
        have Hu12 := Lib.hid hu12; clear hu12 Hu11
        cases bc
        · skip
          go_upto_region 6 with fail
          go_meet
          exact ⟨Ha12.out, Hb12.out, Hu12.out, rfl, rfl, hbw12⟩
        · skip
          go_upto_region 6 with fail
          refine (within_at _ _ _ us c _ (by omega) (by omega) (HUcx.out (by trivial) (by trivial)) _ (Nat.le_refl _) Hu12.out Hc12.out).mono ?_
          rintro e w13 ⟨rfl, hB⟩
          have hbw13 := hbw12.trans (hB.mono hbw12.size)
          have ha13 := Ha12.out.on hB
          have hb13 := Hb12.out.on hB
          have hc13 := Hc12.out.on hB
          have hu13 := Hu12.out.on hB
          have Ha13 := Lib.hid ha13; clear ha13 Ha12
          have Hb13 := Lib.hid hb13; clear hb13 Hb12
          have Hc13 := Lib.hid hc13; clear hc13 Hc12
          have Hu13 := Lib.hid hu13; clear hu13 Hu12
          go_upto_region 6 with fail
          go_meet
          exact ⟨Ha13.out, Hb13.out, Hu13.out, rfl, rfl, hbw13⟩
    · skip
      go_upto_region 6 with fail
      refine (within_at _ _ _ b c _ (by omega) (by omega) HBcx.out _ (Nat.le_refl _) Hb8.out Hc8.out).mono ?_
      rintro e w9 ⟨rfl, hB⟩
      have hbw9 := hbw8.trans (hB.mono hbw8.size)
      have ha9 := Ha8.out.on hB
      have hb9 := Hb8.out.on hB
      have hc9 := Hc8.out.on hB
      have hu9 := Hu8.out.on hB
      have Ha9 := Lib.hid ha9; clear ha9 Ha8
      have Hb9 := Lib.hid hb9; clear hb9 Hb8
      have Hc9 := Lib.hid hc9; clear hc9 Hc8
      have Hu9 := Lib.hid hu9; clear hu9 Hu8
      cases bc
      · skip
        go_upto_region 6 with fail
        refine (within_at _ _ _ b a _ (by omega) (by omega) HBax.out _ (Nat.le_refl _) Hb9.out Ha9.out).mono ?_
        rintro e w10 ⟨rfl, hB⟩
        have hbw10 := hbw9.trans (hB.mono hbw9.size)
        have ha10 := Ha9.out.on hB
        have hb10 := Hb9.out.on hB
        have hc10 := Hc9.out.on hB
        have hu10 := Hu9.out.on hB
        have Ha10 := Lib.hid ha10; clear ha10 Ha9
        have Hb10 := Lib.hid hb10; clear hb10 Hb9
        have Hc10 := Lib.hid hc10; clear hc10 Hc9
        have Hu10 := Lib.hid hu10; clear hu10 Hu9
        go_upto_region 6 with fail
        refine (same_at _ _ _ a b _ (by omega) (by omega) HSabx.out _ (Nat.le_refl _) Ha10.out Hb10.out).mono ?_
        rintro e w11 ⟨rfl, hB⟩
        have hbw11 := hbw10.trans (hB.mono hbw10.size)
        have ha11 := Ha10.out.on hB
        have hb11 := Hb10.out.on hB
        have hc11 := Hc10.out.on hB
        have hu11 := Hu10.out.on hB
        have Ha11 := Lib.hid ha11; clear ha11 Ha10
        have Hb11 := Lib.hid hb11; clear hb11 Hb10
        have Hc11 := Lib.hid hc11; clear hc11 Hc10
        have Hu11 := Lib.hid hu11; clear hu11 Hu10
        go_upto_region 6 with fail
        refine (same_at _ _ _ us b _ (by omega) (by omega) HSubx.out _ (Nat.le_refl _) Hu11.out Hb11.out).mono ?_
        rintro e w12 ⟨rfl, hB⟩
        have hbw12 := hbw11.trans (hB.mono hbw11.size)
        have ha12 := Ha11.out.on hB
        have hb12 := Hb11.out.on hB
        have hc12 := Hc11.out.on hB
        have hu12 := Hu11.out.on hB
        have Ha12 := Lib.hid ha12; clear ha12 Ha11
        have Hb12 := Lib.hid hb12; clear hb12 Hb11
        have Hc12 := Lib.hid hc12; clear hc12 Hc11
        have Hu12 := Lib.hid hu12; clear hu12 Hu11
        go_upto_region 6 with fail
        refine (within_at _ _ _ a c _ (by omega) (by omega) HAcx.out _ (Nat.le_refl _) Ha12.out Hc12.out).mono ?_
        rintro e w13 ⟨rfl, hB⟩
        have hbw13 := hbw12.trans (hB.mono hbw12.size)
        have ha13 := Ha12.out.on hB
        have hb13 := Hb12.out.on hB
        have hc13 := Hc12.out.on hB
        have hu13 := Hu12.out.on hB
        have Ha13 := Lib.hid ha13; clear ha13 Ha12
        have Hb13 := Lib.hid hb13; clear hb13 Hb12
        have Hc13 := Lib.hid hc13; clear hc13 Hc12
        have Hu13 := Lib.hid hu13; clear hu13 Hu12
        cases ac
        · skip
          go_upto_region 6 with fail
          go_meet
          exact ⟨Ha13.out, Hb13.out, Hu13.out, rfl, rfl, hbw13⟩
        · skip
          go_upto_region 6 with fail
          refine (within_at _ _ _ b c _ (by omega) (by omega) HBcx.out _ (Nat.le_refl _) Hb13.out Hc13.out).mono ?_
          rintro e w14 ⟨rfl, hB⟩
          have hbw14 := hbw13.trans (hB.mono hbw13.size)
          have ha14 := Ha13.out.on hB
          have hb14 := Hb13.out.on hB
          have hc14 := Hc13.out.on hB
          have hu14 := Hu13.out.on hB
          have Ha14 := Lib.hid ha14; clear ha14 Ha13
          have Hb14 := Lib.hid hb14; clear hb14 Hb13
          have Hc14 := Lib.hid hc14; clear hc14 Hc13
          have Hu14 := Lib.hid hu14; clear hu14 Hu13
          go_upto_region 6 with fail
          go_meet
          exact ⟨Ha14.out, Hb14.out, Hu14.out, rfl, rfl, hbw14⟩
      · skip
        obtain rfl : ac = true := HConx.out (by trivial) (by trivial)
        go_upto_region 6 with fail
        refine (within_at _ _ _ a c _ (by omega) (by omega) HAcx.out _ (Nat.le_refl _) Ha9.out Hc9.out).mono ?_
        rintro e w10 ⟨rfl, hB⟩
        have hbw10 := hbw9.trans (hB.mono hbw9.size)
        have ha10 := Ha9.out.on hB
        have hb10 := Hb9.out.on hB
        have hc10 := Hc9.out.on hB
        have hu10 := Hu9.out.on hB
        have Ha10 := Lib.hid ha10; clear ha10 Ha9
        have Hb10 := Lib.hid hb10; clear hb10 Hb9
        have Hc10 := Lib.hid hc10; clear hc10 Hc9
        have Hu10 := Lib.hid hu10; clear hu10 Hu9
        go_upto_region 6 with fail
        refine (within_at _ _ _ b a _ (by omega) (by omega) HBax.out _ (Nat.le_refl _) Hb10.out Ha10.out).mono ?_
        rintro e w11 ⟨rfl, hB⟩
        have hbw11 := hbw10.trans (hB.mono hbw10.size)
        have ha11 := Ha10.out.on hB
        have hb11 := Hb10.out.on hB
        have hc11 := Hc10.out.on hB
        have hu11 := Hu10.out.on hB
        have Ha11 := Lib.hid ha11; clear ha11 Ha10
        have Hb11 := Lib.hid hb11; clear hb11 Hb10
        have Hc11 := Lib.hid hc11; clear hc11 Hc10
        have Hu11 := Lib.hid hu11; clear hu11 Hu10
        go_upto_region 6 with fail
        refine (same_at _ _ _ a b _ (by omega) (by omega) HSabx.out _ (Nat.le_refl _) Ha11.out Hb11.out).mono ?_
        rintro e w12 ⟨rfl, hB⟩
        have hbw12 := hbw11.trans (hB.mono hbw11.size)
        have ha12 := Ha11.out.on hB
        have hb12 := Hb11.out.on hB
        have hc12 := Hc11.out.on hB
        have hu12 := Hu11.out.on hB
        have Ha12 := Lib.hid ha12; clear ha12 Ha11
        have Hb12 := Lib.hid hb12; clear hb12 Hb11
        have Hc12 := Lib.hid hc12; clear hc12 Hc11
        have Hu12 := Lib.hid hu12; clear hu12 Hu11
        go_upto_region 6 with fail
        refine (same_at _ _ _ us b _ (by omega) (by omega) HSubx.out _ (Nat.le_refl _) Hu12.out Hb12.out).mono ?_
        rintro e w13 ⟨rfl, hB⟩
        have hbw13 := hbw12.trans (hB.mono hbw12.size)
        have ha13 := Ha12.out.on hB
        have hb13 := Hb12.out.on hB
        have hc13 := Hc12.out.on hB
        have hu13 := Hu12.out.on hB
        have Ha13 := Lib.hid ha13; clear ha13 Ha12
        have Hb13 := Lib.hid hb13; clear hb13 Hb12
        have Hc13 := Lib.hid hc13; clear hc13 Hc12
        have Hu13 := Lib.hid hu13; clear hu13 Hu12
        go_upto_region 6 with fail
        refine (within_at _ _ _ a c _ (by omega) (by omega) HAcx.out _ (Nat.le_refl _) Ha13.out Hc13.out).mono ?_
        rintro e w14 ⟨rfl, hB⟩
        have hbw14 := hbw13.trans (hB.mono hbw13.size)
        have ha14 := Ha13.out.on hB
        have hb14 := Hb13.out.on hB
        have hc14 := Hc13.out.on hB
        have hu14 := Hu13.out.on hB
        have Ha14 := Lib.hid ha14; clear ha14 Ha13
        have Hb14 := Lib.hid hb14; clear hb14 Hb13
        have Hc14 := Lib.hid hc14; clear hc14 Hc13
        have Hu14 := Lib.hid hu14; clear hu14 Hu13
        go_upto_region 6 with fail
        refine (within_at _ _ _ b c _ (by omega) (by omega) HBcx.out _ (Nat.le_refl _) Hb14.out Hc14.out).mono ?_
        rintro e w15 ⟨rfl, hB⟩
        have hbw15 := hbw14.trans (hB.mono hbw14.size)
        have ha15 := Ha14.out.on hB
        have hb15 := Hb14.out.on hB
        have hc15 := Hc14.out.on hB
        have hu15 := Hu14.out.on hB
        have Ha15 := Lib.hid ha15; clear ha15 Ha14
        have Hb15 := Lib.hid hb15; clear hb15 Hb14
        have Hc15 := Lib.hid hc15; clear hc15 Hc14
        have Hu15 := Lib.hid hu15; clear hu15 Hu14
        go_upto_region 6 with fail
        refine (within_at _ _ _ us c _ (by omega) (by omega) (HUcx.out (by trivial) (by trivial)) _ (Nat.le_refl _) Hu15.out Hc15.out).mono ?_
        rintro e w16 ⟨rfl, hB⟩
        have hbw16 := hbw15.trans (hB.mono hbw15.size)
        have ha16 := Ha15.out.on hB
        have hb16 := Hb15.out.on hB
        have hc16 := Hc15.out.on hB
        have hu16 := Hu15.out.on hB
        have Ha16 := Lib.hid ha16; clear ha16 Ha15
        have Hb16 := Lib.hid hb16; clear hb16 Hb15
        have Hc16 := Lib.hid hc16; clear hc16 Hc15
        have Hu16 := Lib.hid hu16; clear hu16 Hu15
        go_upto_region 6 with fail
        go_meet
        exact ⟨Ha16.out, Hb16.out, Hu16.out, rfl, rfl, hbw16⟩

  case rest =>
    obtain ⟨ha0, hb0, hu0, rfl, rfl, hbw0⟩ := hcut
    have Ha0 := Lib.hid ha0; have Hb0 := Lib.hid hb0; have Hu0 := Lib.hid hu0; clear ha0 hb0 hu0
    go_wp2_with fail
    go_loopw [101] (fun i wr => BitsRel wc i wr) (fun i _ => 256 - (intOf i).toNat)
    case atStart => exact ⟨0, by omega, rfl, Below.refl _ _⟩
    case round =>
      obtain ⟨k, hk, rfl, hbr⟩ := hrel
      by_cases hlt : k < 256
      · have ha1 := Ha0.out.on hbr; have hb1 := Hb0.out.on hbr; have hu1 := Hu0.out.on hbr
        have Ha1 := Lib.hid ha1; have Hb1 := Lib.hid hb1; have Hu1 := Lib.hid hu1; clear ha1 hb1 hu1
        have hml := modelL_len k
        have hml1 : (modelL k).length ≤ 8 := by omega
        clear hml
        obtain ⟨m, hm⟩ : ∃ m, modelL k = m := ⟨_, rfl⟩
        rw [hm] at hml1
        have HMm := Lib.hid hm; clear hm
        have hho := HHox.out m
        obtain ⟨x, hx⟩ : ∃ x, holdsB a m = x := ⟨_, rfl⟩
        obtain ⟨y, hy⟩ : ∃ y, holdsB b m = y := ⟨_, rfl⟩
        rw [hx, hy] at hho
        have him : is = true → x = true → y = true := fun h h' => by
          have := HImx.out h m (by rw [hx]; exact h')
          rw [hy] at this
          exact this
        have HHo := Lib.hid hho; have HIm := Lib.hid him; have HX := Lib.hid hx; have HY := Lib.hid hy; clear hho him hx hy
        have hrest : True := trivial
        have hbw1 := Below.refl wr.heap.size wr
        go_wp2_with fail
        refine (model_any k _).mono ?_
        rintro e w2 ⟨vm, rfl, hr, hB⟩
        rw [HMm.out] at hr
        have hm2 := ints_own hr
        have hbw2 := hbw1.trans (hB.mono hbw1.size)
        have ha2 := Ha1.out.on hB
        have hb2 := Hb1.out.on hB
        have hu2 := Hu1.out.on hB
        have Ha2 := Lib.hid ha2; clear ha2 Ha1
        have Hb2 := Lib.hid hb2; clear hb2 Hb1
        have Hu2 := Lib.hid hu2; clear hu2 Hu1
        have Hm2 := Lib.hid hm2; clear hm2
        clear hr
        go_wp2_with fail
        refine (holds_at _ _ _ a m _ (by omega) (by omega) HRax.out HX.out _ (Nat.le_refl _) Ha2.out Hm2.out).mono ?_
        rintro e w3 ⟨rfl, hB⟩
        have hbw3 := hbw2.trans (hB.mono hbw2.size)
        have ha3 := Ha2.out.on hB
        have hb3 := Hb2.out.on hB
        have hu3 := Hu2.out.on hB
        have hm3 := Hm2.out.on hB
        have Ha3 := Lib.hid ha3; clear ha3 Ha2
        have Hb3 := Lib.hid hb3; clear hb3 Hb2
        have Hu3 := Lib.hid hu3; clear hu3 Hu2
        have Hm3 := Lib.hid hm3; clear hm3 Hm2
        go_wp2_with fail
        refine (holds_at _ _ _ b m _ (by omega) (by omega) HRbx.out HY.out _ (Nat.le_refl _) Hb3.out Hm3.out).mono ?_
        rintro e w4 ⟨rfl, hB⟩
        have hbw4 := hbw3.trans (hB.mono hbw3.size)
        have ha4 := Ha3.out.on hB
        have hb4 := Hb3.out.on hB
        have hu4 := Hu3.out.on hB
        have hm4 := Hm3.out.on hB
        have Ha4 := Lib.hid ha4; clear ha4 Ha3
        have Hb4 := Lib.hid hb4; clear hb4 Hb3
        have Hu4 := Lib.hid hu4; clear hu4 Hu3
        have Hm4 := Lib.hid hm4; clear hm4 Hm3
        cases y
        · skip
          cases x
          · skip
            cases is
            · skip
              go_wp2_with fail
              refine (holds_at _ _ _ us m _ (by omega) (by omega) HRux.out HHo.out _ (Nat.le_refl _) Hu4.out Hm4.out).mono ?_
              rintro e w5 ⟨rfl, hB⟩
              have hbw5 := hbw4.trans (hB.mono hbw4.size)
              have ha5 := Ha4.out.on hB
              have hb5 := Hb4.out.on hB
              have hu5 := Hu4.out.on hB
              have hm5 := Hm4.out.on hB
              have Ha5 := Lib.hid ha5; clear ha5 Ha4
              have Hb5 := Lib.hid hb5; clear hb5 Hb4
              have Hu5 := Lib.hid hu5; clear hu5 Hu4
              have Hm5 := Lib.hid hm5; clear hm5 Hm4
              go_wp2_with fail
              go_roundw
              case rel => exact ⟨k + 1, by omega, by go_num, hbr.trans (hbw5.mono hbr.size)⟩
              case measure => simp [intOf]; omega
            · skip
              go_wp2_with fail
              refine (holds_at _ _ _ us m _ (by omega) (by omega) HRux.out HHo.out _ (Nat.le_refl _) Hu4.out Hm4.out).mono ?_
              rintro e w5 ⟨rfl, hB⟩
              have hbw5 := hbw4.trans (hB.mono hbw4.size)
              have ha5 := Ha4.out.on hB
              have hb5 := Hb4.out.on hB
              have hu5 := Hu4.out.on hB
              have hm5 := Hm4.out.on hB
              have Ha5 := Lib.hid ha5; clear ha5 Ha4
              have Hb5 := Lib.hid hb5; clear hb5 Hb4
              have Hu5 := Lib.hid hu5; clear hu5 Hu4
              have Hm5 := Lib.hid hm5; clear hm5 Hm4
              go_wp2_with fail
              go_roundw
              case rel => exact ⟨k + 1, by omega, by go_num, hbr.trans (hbw5.mono hbr.size)⟩
              case measure => simp [intOf]; omega
          · skip
            obtain rfl : is = false := by cases is; exact rfl; exact absurd (HIm.out (by trivial) (by trivial)) (by decide)
            go_wp2_with fail
            refine (holds_at _ _ _ us m _ (by omega) (by omega) HRux.out HHo.out _ (Nat.le_refl _) Hu4.out Hm4.out).mono ?_
            rintro e w5 ⟨rfl, hB⟩
            have hbw5 := hbw4.trans (hB.mono hbw4.size)
            have ha5 := Ha4.out.on hB
            have hb5 := Hb4.out.on hB
            have hu5 := Hu4.out.on hB
            have hm5 := Hm4.out.on hB
            have Ha5 := Lib.hid ha5; clear ha5 Ha4
            have Hb5 := Lib.hid hb5; clear hb5 Hb4
            have Hu5 := Lib.hid hu5; clear hu5 Hu4
            have Hm5 := Lib.hid hm5; clear hm5 Hm4
            go_wp2_with fail
            go_roundw
            case rel => exact ⟨k + 1, by omega, by go_num, hbr.trans (hbw5.mono hbr.size)⟩
            case measure => simp [intOf]; omega
        · skip
          cases x
          · skip
            cases is
            · skip
              go_wp2_with fail
              refine (holds_at _ _ _ us m _ (by omega) (by omega) HRux.out HHo.out _ (Nat.le_refl _) Hu4.out Hm4.out).mono ?_
              rintro e w5 ⟨rfl, hB⟩
              have hbw5 := hbw4.trans (hB.mono hbw4.size)
              have ha5 := Ha4.out.on hB
              have hb5 := Hb4.out.on hB
              have hu5 := Hu4.out.on hB
              have hm5 := Hm4.out.on hB
              have Ha5 := Lib.hid ha5; clear ha5 Ha4
              have Hb5 := Lib.hid hb5; clear hb5 Hb4
              have Hu5 := Lib.hid hu5; clear hu5 Hu4
              have Hm5 := Lib.hid hm5; clear hm5 Hm4
              go_wp2_with fail
              go_roundw
              case rel => exact ⟨k + 1, by omega, by go_num, hbr.trans (hbw5.mono hbr.size)⟩
              case measure => simp [intOf]; omega
            · skip
              go_wp2_with fail
              refine (holds_at _ _ _ us m _ (by omega) (by omega) HRux.out HHo.out _ (Nat.le_refl _) Hu4.out Hm4.out).mono ?_
              rintro e w5 ⟨rfl, hB⟩
              have hbw5 := hbw4.trans (hB.mono hbw4.size)
              have ha5 := Ha4.out.on hB
              have hb5 := Hb4.out.on hB
              have hu5 := Hu4.out.on hB
              have hm5 := Hm4.out.on hB
              have Ha5 := Lib.hid ha5; clear ha5 Ha4
              have Hb5 := Lib.hid hb5; clear hb5 Hb4
              have Hu5 := Lib.hid hu5; clear hu5 Hu4
              have Hm5 := Lib.hid hm5; clear hm5 Hm4
              go_wp2_with fail
              go_roundw
              case rel => exact ⟨k + 1, by omega, by go_num, hbr.trans (hbw5.mono hbr.size)⟩
              case measure => simp [intOf]; omega
          · skip
            cases is
            · skip
              go_wp2_with fail
              refine (holds_at _ _ _ us m _ (by omega) (by omega) HRux.out HHo.out _ (Nat.le_refl _) Hu4.out Hm4.out).mono ?_
              rintro e w5 ⟨rfl, hB⟩
              have hbw5 := hbw4.trans (hB.mono hbw4.size)
              have ha5 := Ha4.out.on hB
              have hb5 := Hb4.out.on hB
              have hu5 := Hu4.out.on hB
              have hm5 := Hm4.out.on hB
              have Ha5 := Lib.hid ha5; clear ha5 Ha4
              have Hb5 := Lib.hid hb5; clear hb5 Hb4
              have Hu5 := Lib.hid hu5; clear hu5 Hu4
              have Hm5 := Lib.hid hm5; clear hm5 Hm4
              go_wp2_with fail
              go_roundw
              case rel => exact ⟨k + 1, by omega, by go_num, hbr.trans (hbw5.mono hbr.size)⟩
              case measure => simp [intOf]; omega
            · skip
              go_wp2_with fail
              refine (holds_at _ _ _ us m _ (by omega) (by omega) HRux.out HHo.out _ (Nat.le_refl _) Hu4.out Hm4.out).mono ?_
              rintro e w5 ⟨rfl, hB⟩
              have hbw5 := hbw4.trans (hB.mono hbw4.size)
              have ha5 := Ha4.out.on hB
              have hb5 := Hb4.out.on hB
              have hu5 := Hu4.out.on hB
              have hm5 := Hm4.out.on hB
              have Ha5 := Lib.hid ha5; clear ha5 Ha4
              have Hb5 := Lib.hid hb5; clear hb5 Hb4
              have Hu5 := Lib.hid hu5; clear hu5 Hu4
              have Hm5 := Lib.hid hm5; clear hm5 Hm4
              go_wp2_with fail
              go_roundw
              case rel => exact ⟨k + 1, by omega, by go_num, hbr.trans (hbw5.mono hbr.size)⟩
              case measure => simp [intOf]; omega

      · obtain rfl : k = 256 := by omega
        go_wp2_with fail
        refine (HAw.out _).mono ?_
        rintro e w9 ⟨rfl, hb9⟩
        go_wp2_with fail
        go_ret
        exact ⟨rfl, (hbw0.trans (hbr.mono hbw0.size)).trans (hb9.mono (hbw0.trans (hbr.mono hbw0.size)).size)⟩

theorem clausesWithin.clausesWithin_walk (jv : Value) (j : List Int) (hlj : j.length ≤ maxLen) (hwj : ∀ x ∈ j, (Lit.int .u8 x).wf = true) (hfj : Fits jv) (kv : Value) (k : List Int) (hlk : k.length ≤ maxLen) (hwk : ∀ x ∈ k, (Lit.int .u8 x).wf = true) (hfk : Fits kv)
    (lv : Value) (l : List Int) (hll : l.length ≤ maxLen) (hwl : ∀ x ∈ l, (Lit.int .u8 x).wf = true) (hfl : Fits lv) (w : World) (hIj : IntsK .u8 w.heap.size w jv j) (hIk : IntsK .u8 w.heap.size w kv k) (hIl : IntsK .u8 w.heap.size w lv l) :
    Calls Try.prog 8 #[jv, kv, lv] w fun e w' => e = .returned (.bool true) ∧ Below w.heap.size w w' := by
  have hmj := madeAt hlj hwj hfj rfl
  have hmk := madeAt hlk hwk hfk rfl
  have hml := madeAt hll hwl hfl rfl
  have hra := madeL_right j
  have hrb := madeL_right k
  have hrc := madeL_right l
  have hla := madeL_len j
  have hlb := madeL_len k
  have hlc := madeL_len l
  obtain ⟨a, ha⟩ : ∃ a, madeL j = a := ⟨_, rfl⟩
  obtain ⟨b, hb⟩ : ∃ b, madeL k = b := ⟨_, rfl⟩
  obtain ⟨c, hc⟩ : ∃ c, madeL l = c := ⟨_, rfl⟩
  rw [ha] at hmj hra hla
  rw [hb] at hmk hrb hlb
  rw [hc] at hml hrc hlc
  have hru : rightB (normL (a ++ b)) = true := norm_right (right_app hra hrb (by omega))
  have hlu := (rightB_of hru).1
  have hmu : ∀ x, x ∈ normL (a ++ b) ↔ x ∈ a ∨ x ∈ b := fun x => by rw [norm_mem, List.mem_append]
  have hW : ∀ {x y : List Int}, rightB x = true → rightB y = true → (withinB x y = true ↔ ∀ z ∈ x, z ∈ y) := fun h h' => by rw [within_of h h', withB_iff]
  refine within_core jv kv lv j k l a b c _ (withinB a b) (withinB b a) (withinB b c) (withinB a c) w hIj hIk hIl hmj hmk hml hla hlb hlc hra hrb hru rfl hlu rfl ?_ ?_ ?_ rfl rfl rfl rfl ?_ ?_ ?_ (holds_app a b) ?_
  · exact (hW hra hra).2 fun z h => h
  · exact (hW hra hru).2 fun z h => (hmu z).2 (.inl h)
  · exact (hW hrb hru).2 fun z h => (hmu z).2 (.inr h)
  · have h1 : withinB b (normL (a ++ b)) = true := (hW hrb hru).2 fun z h => (hmu z).2 (.inr h)
    unfold sameB
    rw [h1, Bool.and_true, Bool.eq_iff_iff, hW hru hrb, hW hra hrb]
    exact ⟨fun h z hz => h z ((hmu z).2 (.inl hz)), fun h z hz => ((hmu z).1 hz).elim (h z) id⟩
  · intro h1 h2
    exact (hW hra hrc).2 fun z hz => (hW hrb hrc).1 h2 z ((hW hra hrb).1 h1 z hz)
  · intro h1 h2
    exact (hW hru hrc).2 fun z hz => ((hmu z).1 hz).elim ((hW hra hrc).1 h1 z) ((hW hrb hrc).1 h2 z)
  · intro h m
    rw [within_of hra hrb] at h
    exact holds_with h
end Go.Proofs.Ytngjcacodoihdaa
