/- The law's plays: calls, one after the other. -/
import Derived.Test.YtjkhhnfmefbohaaPlayUse
import Derived.Deep.DeepCutAuto
import Derived.Deep.RegionHeld3
namespace Go.Proofs.Ytjkhhnfmefbohaa
open Go.RowKit Go.ChangeAt Go.ChangeShapes Go.WideShapes Go.Sort

def PlayRel (n : Nat) (rb g : Nat) (w : World) (i : Value) (wr : World) : Prop :=
  ∃ (j : Nat) (K : Nat → Prop) (L : List (Int × List Int)) (last : Int) (av : Value), j ≤ n ∧ i = .int .i64 j ∧ PS rb K g L last av L last w wr ∧ L.length ≤ j ∧ ∀ p ∈ L, p.2.length ≤ 3000
/-- Behind a call: both answer alike. -/
def PlayMid (rb g xb j B n : Nat) (xc : Array Value) (own : Value) (xs : List Int) (w : World) (s7 s8 : Value) (wx : World) : Prop :=
  ∃ (e : Int) (K : Nat → Prop) (L : List (Int × List Int)) (last : Int) (av : Value), s7 = .int .i64 e ∧ s8 = .int .i64 e ∧ PS rb K g L last av L last w wx ∧ L.length ≤ j + 1 ∧ (∀ p ∈ L, p.2.length ≤ 3000) ∧
    Whole wx xb 27 xc ∧ ¬ K xb ∧ wx.ownsRow B 30 1 own n (xs.map (Value.int .i64)) ∧ ∀ b, own.ownBlock = some b → ¬ K b
def ZRel (I : World → Prop) (B n : Nat) (v : Value) (i : Value) (wr : World) : Prop :=
  ∃ (j : Nat) (xs : List Int), j ≤ n ∧ i = .int .i64 j ∧ I wr ∧ wr.ownsRow B 30 1 v n (xs.map (Value.int .i64))
theorem wf_w64 (x : Int) : (Lit.int .i64 (wrap64 x)).wf = true := int_wf (by unfold wrap64; omega)
theorem u8_rem {k : Int} (h : (Lit.int .u8 k).wf = true) : 0 ≤ k ∧ k ≤ 255 := u8_wf h

set_option maxRecDepth 100000 in
set_option maxHeartbeats 2000000 in
theorem plays_any (v : Value) (l : List Act3) (w : World) (hA : Acts w.heap.size w v l) (ho : ∀ x ∈ l, ActOk x) (hn : l.length ≤ 1000) (hs : ∀ x ∈ l, x.2.2.length ≤ 3000) :
    Calls Try.prog 11 #[v] w fun r w' => r = .returned (.bool true) ∧ Below w.heap.size w w' := by
  obtain ⟨A, cap, rfl, -, -, hat⟩ := hA.shape
  have HAt := Lib.hid hat; have HOk := Lib.hid ho; have HSz := Lib.hid hs
  clear hA hat ho hs
  go_enter Try.func11, Try.ntmps11
  go_wp2_with fail
  refine (new_ar _).mono ?_
  rintro r w1 ⟨g, K1, rfl, hA1, hK1, hB1⟩
  have hz1 := hB1.size
  have hbl := below1a w1 (.cells #[.slice none 0 0, .int .i64 0] 65)
  have hP1 : PS w1.heap.size K1 g [] 0 (.slice none 0 0) [] 0 w (w1.alloc (.cells #[.slice none 0 0, .int .i64 0] 65)) :=
    ⟨hA1.on hbl, Whole.made w1 _ _, refRow_nil _ _ _, (fun b e => by cases e), (fun x => Nat.lt_irrefl _ (hA1.kok.lt x)), hK1, hB1.trans (hbl.mono hz1), hz1⟩
  obtain ⟨rb, hrb⟩ : ∃ y, w1.heap.size = y := ⟨_, rfl⟩
  rw [hrb] at hP1
  have HP1 := Lib.hid hP1
  clear hA1 hK1 hB1 hbl hP1
  go_wp2_with fail
  go_loopw [16] (fun i wr => PlayRel l.length rb g w i wr) (fun i _ => l.length - (intOf i).toNat)
  case atStart => exact ⟨0, K1, [], 0, .slice none 0 0, Nat.zero_le _, rfl, HP1.out, Nat.zero_le _, fun p hp => by cases hp⟩
  case round =>
    obtain ⟨j, K, L, last, av, hj, rfl, hP, hLl, hLm⟩ := hrel
    clear HP1 hrb hz1
    by_cases hlt : j < l.length
    · obtain ⟨⟨k, id, ls⟩, hx⟩ : ∃ x, l[j]? = some x := ⟨_, List.getElem?_eq_getElem hlt⟩
      obtain ⟨b, off, sv, rfl, hb, c0, c1, c2, hI⟩ := HAt.out j _ hx
      have hok := HOk.out _ (List.mem_of_getElem? hx)
      have hsz := HSz.out _ (List.mem_of_getElem? hx)
      obtain ⟨hwk, hwi, -⟩ := hok
      obtain ⟨hk0, hk1⟩ := u8_rem hwk
      dsimp only at c0 c1 c2 hI hsz hwi hk0 hk1
      obtain ⟨As, cs, rfl, -⟩ := ints_shape hI
      have c0 := (hP.below.cell (p := ⟨b, off + j * 3, none⟩) hb).trans c0
      have c1 := (hP.below.cell (p := ⟨b, off + j * 3 + 1, none⟩) hb).trans c1
      have c2 := (hP.below.cell (p := ⟨b, off + j * 3 + 2, none⟩) hb).trans c2
      have hbl := below1a wr (.cells #[.int .u8 k, .int .i64 id, .slice As ls.length cs] 27)
      have hP2 := hP.on hbl
      have hX2 := Whole.made wr 27 #[.int .u8 k, .int .i64 id, .slice As ls.length cs]
      have hkx : ¬ K wr.heap.size := fun x => Nat.lt_irrefl _ (hP.ar.kok.lt x)
      obtain ⟨w2, hw2⟩ : ∃ y, wr.alloc (.cells #[.int .u8 k, .int .i64 id, .slice As ls.length cs] 27) = y := ⟨_, rfl⟩
      obtain ⟨xb, hxb⟩ : ∃ y, wr.heap.size = y := ⟨_, rfl⟩
      have hcl := clause_any w.heap.size _ ls (by omega) w2 (by rw [← hw2]; exact hP2.below.size) (by rw [← hw2]; exact hI.below hP2.below)
      rw [hw2] at hP2 hX2
      rw [hxb] at hX2 hkx
      have x20 : w2.cell? ⟨xb, 2, none⟩ = some (.slice As ls.length cs) := hX2.cell 2
      have HP2 := Lib.hid hP2; have HX2 := Lib.hid hX2; have HCl := Lib.hid hcl; have HLm := Lib.hid hLm; have HI := Lib.hid hI; have HWi := Lib.hid hwi
      clear hP hP2 hX2 hcl hx hI hLm hbl HAt HOk HSz hwk hwi
      go_wp2_with fail
      refine (HCl.out).mono ?_
      rintro r w3 ⟨own, rfl, hr3, hb3⟩
      obtain ⟨Ao, co, rfl⟩ := own_shape0 hr3
      have hP3 := HP2.out.on hb3
      have hX3 := HX2.out.same (hb3.block _ HX2.out.lt)
      have hko : ∀ b, Value.ownBlock (.slice Ao ls.length co) = some b → ¬ K b := fun b e x => by
        have h1 := (hr3.lt b e).1
        have h2 := HP2.out.ar.kok.lt x
        omega
      have HP3 := Lib.hid hP3; have HX3 := Lib.hid hX3; have HR3 := Lib.hid hr3; have HKo := Lib.hid hko; have HKx := Lib.hid hkx
      obtain ⟨B3, hB3⟩ : ∃ y, w2.heap.size = y := ⟨_, rfl⟩
      have hI3 := HI.out.below hP3.below
      have hB3w : w.heap.size ≤ B3 := by rw [← hB3]; exact HP2.out.below.size
      rw [hB3] at hr3 HR3
      have HR3 := Lib.hid hr3; have HI3 := Lib.hid hI3
      have x0 : w3.cell? ⟨xb, 0, none⟩ = some (.int .u8 k) := hX3.cell 0
      have x1 : w3.cell? ⟨xb, 1, none⟩ = some (.int .i64 id) := hX3.cell 1
      have x2 : w3.cell? ⟨xb, 2, none⟩ = some (.slice As ls.length cs) := hX3.cell 2
      clear hP3 hX3 hko hkx hb3 hr3 hI3 HP2 HX2 HCl hw2 hxb c0 c1 c2 x20 hB3
      go_upto_if 27 with fail
      go_cut [7, 8] (fun s7 s8 wx => PlayMid rb g xb j B3 ls.length #[.int .u8 k, .int .i64 id, .slice As ls.length cs] (.slice Ao ls.length co) ls w s7 s8 wx)
      case first =>
        by_cases hk : k % 4 < 2
        · skip
          go_wp2_with fail
          refine (add_ar id _ ls HP3.out.ar (row_intsF HR3.out HKo.out) (by omega)).mono ?_
          rintro r w4 ⟨K4, rfl, hA4, hT4⟩
          have hP4 := HP3.out.turn hT4 hA4
          have hX4 := HX3.out.same (hT4.1.block _ HX3.out.lt HKx.out)
          have hkx4 := hT4.off HX3.out.lt HKx.out
          have hr4 := row_turn HR3.out hT4.1 HKo.out
          have hko4 : ∀ b, Value.ownBlock (.slice Ao ls.length co) = some b → ¬ K4 b := fun b e => hT4.off (HR3.out.lt b e).2 (HKo.out b e)
          have hI4 := HI3.out.below (hT4.below HP3.out.below.size HP3.out.base)
          obtain ⟨Av, cv, rfl, -⟩ := hP4.row.at_
          have d0 : w4.cell? ⟨rb, 0, none⟩ = some (.slice Av L.length cv) := hP4.cell.cell 0
          have d1 : w4.cell? ⟨rb, 1, none⟩ = some (.int .i64 last) := hP4.cell.cell 1
          have y1 : w4.cell? ⟨xb, 1, none⟩ = some (.int .i64 id) := hX4.cell 1
          have y2 : w4.cell? ⟨xb, 2, none⟩ = some (.slice As ls.length cs) := hX4.cell 2
          have hg := HP3.out.ar.good
          have g0 := hg.last0
          have g1 := hg.last1
          have g2 := hg.used
          have href := add_ref (c := ls) id w4 hP4.below.size hP4.below.size hP4.row hI4 (by omega) g0 g1 (by omega) g2
          have HP4 := Lib.hid hP4; have HX4 := Lib.hid hX4; have HKx4 := Lib.hid hkx4; have HR4 := Lib.hid hr4; have HKo4 := Lib.hid hko4; have HRef := Lib.hid href
          clear hA4 hT4 hP4 hX4 hkx4 hr4 hko4 hI4 hg g0 g1 g2 href HP3 HX3 HKx HR3 HKo HI3 x0 x1 x2
          go_wp2_with fail
          refine (HRef.out).mono ?_
          rintro r w5 ⟨av5, rfl, hR5, ho5, hb5⟩
          have hP5 := HP4.out.on hb5
          have hX5 := HX4.out.same (hb5.block _ HX4.out.lt)
          have hk5 : ∀ b, av5.ownBlock = some b → ¬ K4 b := fun b e x => by
            rcases ho5 b e with h | h
            · exact HP4.out.offr b h x
            · have := HP4.out.ar.kok.lt x
              omega
          have hP6 := hP5.put hR5 hk5 (addN L last id ls)
          have hne : xb ≠ rb := hX5.type_ne hP5.cell (by decide)
          have hX6 := (hX5.at_other hne 0 av5).at_other hne 1 (.int .i64 (addN L last id ls))
          have hr6 := ((owns_on0 HR4.out hb5).kept (grownBy_set w5 rb 0 av5) (.inr (hP5.cell.row_ne (owns_on0 HR4.out hb5) (by decide))))
          have hr6 := hr6.kept (grownBy_set _ rb 1 (.int .i64 (addN L last id ls))) (.inr (hP5.cell.row_ne (owns_on0 HR4.out hb5) (by decide)))
          obtain ⟨A5, c5, rfl, -⟩ := hR5.at_
          obtain ⟨z0, z1, z2, z3, z4, z5, -, -, -⟩ := hP5.cell.store2 (.slice A5 (addL L last id ls).length c5) (.int .i64 (addN L last id ls))
          have HF := Lib.hid (show PlayMid rb g xb j B3 ls.length #[.int .u8 k, .int .i64 id, .slice As ls.length cs] (.slice Ao ls.length co) ls w (.int .i64 (addE L last id ls)) (.int .i64 (addE L last id ls)) _ from ⟨_, K4, _, _, _, rfl, rfl, hP6, Nat.le_trans (addL_len _ _ _ _) (by omega), addL_mem HLm.out hsz, hX6, HKx4.out, hr6, HKo4.out⟩)
          obtain ⟨M5, hM5⟩ : ∃ y, addL L last id ls = y := ⟨_, rfl⟩
          clear hP5 hX5 hk5 hP6 hX6 hr6 ho5 hb5 hR5 hne HP4 HX4 HKx4 HR4 HKo4 HRef d0 d1 y1 y2 hM5
          go_wp2_with fail
          go_meet
          exact HF.out
        · skip
          go_wp2_with fail
          refine (del_ar HP3.out.ar HWi.out).mono ?_
          rintro r w4 ⟨K4, rfl, hA4, hT4⟩
          have hP4 := HP3.out.turn hT4 hA4
          have hX4 := HX3.out.same (hT4.1.block _ HX3.out.lt HKx.out)
          have hkx4 := hT4.off HX3.out.lt HKx.out
          have hr4 := row_turn HR3.out hT4.1 HKo.out
          have hko4 : ∀ b, Value.ownBlock (.slice Ao ls.length co) = some b → ¬ K4 b := fun b e => hT4.off (HR3.out.lt b e).2 (HKo.out b e)
          have hI4 := HI3.out.below (hT4.below HP3.out.below.size HP3.out.base)
          obtain ⟨Av, cv, rfl, -⟩ := hP4.row.at_
          have d0 : w4.cell? ⟨rb, 0, none⟩ = some (.slice Av L.length cv) := hP4.cell.cell 0
          have d1 : w4.cell? ⟨rb, 1, none⟩ = some (.int .i64 last) := hP4.cell.cell 1
          have y1 : w4.cell? ⟨xb, 1, none⟩ = some (.int .i64 id) := hX4.cell 1
          have y2 : w4.cell? ⟨xb, 2, none⟩ = some (.slice As ls.length cs) := hX4.cell 2
          have hg := HP3.out.ar.good
          have g0 := hg.last0
          have g1 := hg.last1
          have g2 := hg.used
          have href := del_ref (last := last) id w4 hP4.below.size hP4.below.size hP4.row (by omega) hg.inc
          have HP4 := Lib.hid hP4; have HX4 := Lib.hid hX4; have HKx4 := Lib.hid hkx4; have HR4 := Lib.hid hr4; have HKo4 := Lib.hid hko4; have HRef := Lib.hid href
          clear hA4 hT4 hP4 hX4 hkx4 hr4 hko4 hI4 hg g0 g1 g2 href HP3 HX3 HKx HR3 HKo HI3 x0 x1 x2
          go_wp2_with fail
          refine (HRef.out).mono ?_
          rintro r w5 ⟨av5, rfl, hR5, ho5, hb5⟩
          have hP5 := HP4.out.on hb5
          have hX5 := HX4.out.same (hb5.block _ HX4.out.lt)
          have hk5 : ∀ b, av5.ownBlock = some b → ¬ K4 b := fun b e x => by
            rcases ho5 b e with h | h
            · exact HP4.out.offr b h x
            · have := HP4.out.ar.kok.lt x
              omega
          have hP6 := hP5.put hR5 hk5 last
          have hne : xb ≠ rb := hX5.type_ne hP5.cell (by decide)
          have hX6 := (hX5.at_other hne 0 av5).at_other hne 1 (.int .i64 last)
          have hr6 := ((owns_on0 HR4.out hb5).kept (grownBy_set w5 rb 0 av5) (.inr (hP5.cell.row_ne (owns_on0 HR4.out hb5) (by decide))))
          have hr6 := hr6.kept (grownBy_set _ rb 1 (.int .i64 last)) (.inr (hP5.cell.row_ne (owns_on0 HR4.out hb5) (by decide)))
          obtain ⟨A5, c5, rfl, -⟩ := hR5.at_
          obtain ⟨z0, z1, z2, z3, z4, z5, -, -, -⟩ := hP5.cell.store2 (.slice A5 (delL L id).length c5) (.int .i64 last)
          have HF := Lib.hid (show PlayMid rb g xb j B3 ls.length #[.int .u8 k, .int .i64 id, .slice As ls.length cs] (.slice Ao ls.length co) ls w (.int .i64 (delE L id)) (.int .i64 (delE L id)) _ from ⟨_, K4, _, _, _, rfl, rfl, hP6, Nat.le_trans (delL_len _ _) (by omega), delL_mem HLm.out, hX6, HKx4.out, hr6, HKo4.out⟩)
          obtain ⟨M5, hM5⟩ : ∃ y, delL L id = y := ⟨_, rfl⟩
          clear hP5 hX5 hk5 hP6 hX6 hr6 ho5 hb5 hR5 hne HP4 HX4 HKx4 HR4 HKo4 HRef d0 d1 y1 y2 hM5
          go_wp2_with fail
          go_meet
          exact HF.out
      case rest =>
        obtain ⟨e, K5, L5, last5, av5, rfl, rfl, hP5, hl5, hm5, hX5, hkx5, hr5, hko5⟩ := hcut
        obtain ⟨w5, rfl⟩ : ∃ y : World, y = wc := ⟨_, rfl⟩
        have hx2 : w5.cell? ⟨xb, 2, none⟩ = some (.slice As ls.length cs) := hX5.cell 2
        have hxl := hX5.lt
        have hint : ∀ W, Below w5.heap.size w5 W → Calls Try.prog 32 #[.slice Ao ls.length co] W (GivesE 3 W ls) := fun W hb =>
          intsOf_any W.heap.size _ ls (by omega) W (Nat.le_refl _) ((ints_own hr5).on hb)
        have heq : ∀ W W' vi, Below w5.heap.size w5 W → W'.ownsRow W.heap.size 3 1 vi ls.length (ls.map (Value.int .i64)) → Below W.heap.size W W' → Calls Try.prog 28 #[vi, .slice As ls.length cs] W' fun e w' => e = .returned (.bool true) ∧ ∃ q, w' = W'.drewN q := fun W W' vi hb hr hb' => by
          have h0 : w.heap.size ≤ w5.heap.size := hP5.below.size
          have hb2 := (hb.mono h0).trans (hb'.mono (Nat.le_trans h0 hb.size))
          have := equal_int W' (by omega) (by omega) (ints_own hr) (((HI.out.below hP5.below).below hb2).more (Nat.le_trans h0 (Nat.le_trans hb.size hb'.size)))
          rw [beq_self_eq_true] at this
          exact this
        have HP5 := Lib.hid hP5; have HX5 := Lib.hid hX5; have HKx5 := Lib.hid hkx5; have HR5 := Lib.hid hr5; have HKo5 := Lib.hid hko5; have HM5 := Lib.hid hm5; have HInt := Lib.hid hint; have HEq := Lib.hid heq
        clear hP5 hX5 hkx5 hr5 hko5 hm5 hint heq HP3 HX3 HKx HR3 HKo HI3 x0 x1 x2
        go_upto_region 16 with fail
        go_cut [63] (fun s63 wx => s63 = .bool false ∧ Below w5.heap.size w5 wx)
        case first =>
          go_region_held3 (fun W' => W'.cell? ⟨xb, 2, none⟩ = some (.slice As ls.length cs)) (first | go_keep | exact hy6 | exact hy7) (first
            | (go_at_call 32; (with_reducible refine (HInt.out _ (Below.refl _ _).drew).mono ?_); rintro r w6 ⟨vi, rfl, hr6, hb6⟩; have hy6 : w6.cell? ⟨xb, 2, none⟩ = some (.slice As ls.length cs) := (hb6.cell (p := ⟨xb, 2, none⟩) hxl).trans hx2; have hq6 := HEq.out _ _ _ (Below.refl _ _).drew hr6 hb6; have hw6 : Below w5.heap.size w5 w6 := (Below.refl _ _).drew.trans hb6; have HQ6 := Lib.hid hq6; have HW6 := Lib.hid hw6; clear hr6 hb6 hq6 hw6)
            | (go_at_call 28; (with_reducible refine (HQ6.out).mono ?_); rintro r w7 ⟨rfl, q, hq⟩; have hw7 : Below w5.heap.size w5 w7 := (by rw [hq]; exact below_drewN HW6.out q); have hy7 : w7.cell? ⟨xb, 2, none⟩ = some (.slice As ls.length cs) := (by rw [hq]; exact hy6); have HW7 := Lib.hid hw7; clear hq hw7))
          go_simp
          go_wp2_with fail
          go_meet
          exact ⟨rfl, HW7.out⟩
        case rest =>
          obtain ⟨rfl, hbc⟩ := hcut
          have hP6 := HP5.out.on hbc
          have hX6 := HX5.out.same (hbc.block _ HX5.out.lt)
          have hr6 := owns_on0 HR5.out hbc
          have HP6 := Lib.hid hP6; have HX6 := Lib.hid hX6; have HR6 := Lib.hid hr6
          clear hP6 hX6 hr6 hbc HP5 HX5 HR5 HInt HEq hx2 hxl
          obtain ⟨w0, rfl⟩ : ∃ y : World, y = wr := ⟨_, rfl⟩
          go_wp2_with fail
          go_loopw [66] (fun i wr => ZRel (fun W => PS rb K5 g L5 last5 av5 L5 last5 w W ∧ Whole W xb 27 #[.int .u8 k, .int .i64 id, .slice As ls.length cs]) B3 ls.length (.slice Ao ls.length co) i wr) (fun i _ => ls.length - (intOf i).toNat)
          case atStart => exact ⟨0, ls, Nat.zero_le _, rfl, ⟨HP6.out, HX6.out⟩, HR6.out⟩
          case round =>
            obtain ⟨m, xs, hm, rfl, ⟨hP, hX⟩, hR⟩ := hrel
            clear HP6 HX6 HR6
            by_cases hml : m < ls.length
            · obtain ⟨bo, rfl⟩ : ∃ bo, Ao = some ⟨bo, 0, none⟩ := by
                rcases hR.2 with ⟨e, -⟩ | ⟨bo, cap', cur, e, -⟩
                · injection e with _ e1 _
                  omega
                · cases e
                  exact ⟨bo, rfl⟩
              have hxl : xs.length = ls.length := by simpa using hR.1
              have hcell : wr.cell? ⟨bo, m, none⟩ = some (.int .i64 (xs[m]?.getD 0)) := by
                rw [hR.cellAt m (by omega), List.getElem?_map, List.getElem?_eq_getElem (by omega)]
                rfl
              have hfz := hR.frozenAt m
              obtain ⟨hR2, hg2⟩ := hR.stored m (.int .i64 0)
              have hbo := hR.lt bo rfl
              have hn1 : bo ≠ rb := fun e => by
                subst e
                exact hP.cell.row_ne hR (by decide) rfl
              have hn2 : av5.ownBlock ≠ some bo := fun e => by
                obtain ⟨vs, -, hr, -⟩ := hP.row
                rcases rows_ne hr hR (by decide) with h | h
                · rw [h] at e; cases e
                · exact h e
              have hn3 : xb ≠ bo := fun e => by
                subst e
                exact hX.row_ne hR (by decide) rfl
              have hP2 := hP.grown hg2 (Nat.le_trans hB3w hbo.1) (HKo5.out bo rfl) hn1 hn2
              have hX2 := hX.at_other hn3 m (.int .i64 0)
              have HP2 := Lib.hid hP2; have HX2 := Lib.hid hX2; have HR2 := Lib.hid hR2
              clear hP hX hR hP2 hX2 hR2 hg2 hbo hn1 hn2 hn3 hxl
              go_wp2_with fail
              refine ⟨⟨m + 1, xs.set m 0, hml, by go_num, ⟨HP2.out, HX2.out⟩, by rw [List.map_set]; exact HR2.out⟩, ?_⟩
              simp [intOf]; omega
            · obtain rfl : m = ls.length := by omega
              obtain ⟨A5, c5, rfl, -⟩ := hP.row.at_
              have hmm : ∀ p ∈ L5, p.2.length ≤ 1000000 := fun p hp => Nat.le_trans (HM5.out p hp) (by decide)
              have HMm := Lib.hid hmm
              have d0 : wr.cell? ⟨rb, 0, none⟩ = some (.slice A5 L5.length c5) := hP.cell.cell 0
              have d1 : wr.cell? ⟨rb, 1, none⟩ = some (.int .i64 last5) := hP.cell.cell 1
              have y1 : wr.cell? ⟨xb, 1, none⟩ = some (.int .i64 id) := hX.cell 1
              have HP := Lib.hid hP; have HX := Lib.hid hX
              clear hP hX hR hmm
              go_wp2_with fail
              refine (asks_any id wr HWi.out HP.out.below.size HP.out.ar HP.out.row HMm.out).mono ?_
              rintro r w6 ⟨rfl, hb6⟩
              have hP6 := HP.out.on hb6
              have hX6 := HX.out.same (hb6.block _ HX.out.lt)
              have d0 : w6.cell? ⟨rb, 0, none⟩ = some (.slice A5 L5.length c5) := hP6.cell.cell 0
              have d1 : w6.cell? ⟨rb, 1, none⟩ = some (.int .i64 last5) := hP6.cell.cell 1
              have y1 : w6.cell? ⟨xb, 1, none⟩ = some (.int .i64 id) := hX6.cell 1
              have HP6 := Lib.hid hP6; have HX6 := Lib.hid hX6
              clear hP6 hX6 hb6 HP HX
              by_cases h5 : j % 5 = 4
              · have hq : ((j : Int) % 5 == 4) = true := by rw [beq_iff_eq]; omega
                go_wp2_with fail
                refine (asks_any _ w6 (wf_w64 _) HP6.out.below.size HP6.out.ar HP6.out.row HMm.out).mono ?_
                rintro r w7 ⟨rfl, hb7⟩
                have hP7 := HP6.out.on hb7
                have d0 : w7.cell? ⟨rb, 0, none⟩ = some (.slice A5 L5.length c5) := hP7.cell.cell 0
                have d1 : w7.cell? ⟨rb, 1, none⟩ = some (.int .i64 last5) := hP7.cell.cell 1
                have HP7 := Lib.hid hP7
                clear hP7 hb7 HP6 HX6
                go_wp2_with fail
                refine (same_any w7 HP7.out.below.size HP7.out.ar HP7.out.row HMm.out).mono ?_
                rintro r w8 ⟨rfl, hb8⟩
                have HP8 := Lib.hid (HP7.out.on hb8)
                clear hb8 HP7 d0 d1
                go_wp2_with fail
                refine ⟨⟨j + 1, K5, L5, last5, _, hlt, by go_num, HP8.out, hl5, HM5.out⟩, ?_⟩
                simp [intOf]; omega
              · have hq : ((j : Int) % 5 == 4) = false := by rw [beq_eq_false_iff_ne]; omega
                go_wp2_with fail
                refine (asks_any _ w6 (wf_w64 _) HP6.out.below.size HP6.out.ar HP6.out.row HMm.out).mono ?_
                rintro r w7 ⟨rfl, hb7⟩
                have hP7 := HP6.out.on hb7
                have d0 : w7.cell? ⟨rb, 0, none⟩ = some (.slice A5 L5.length c5) := hP7.cell.cell 0
                have d1 : w7.cell? ⟨rb, 1, none⟩ = some (.int .i64 last5) := hP7.cell.cell 1
                have HP7 := Lib.hid hP7
                clear hP7 hb7 HP6 HX6
                go_wp2_with fail
                refine ⟨⟨j + 1, K5, L5, last5, _, hlt, by go_num, HP7.out, hl5, HM5.out⟩, ?_⟩
                simp [intOf]; omega
    · obtain rfl : j = l.length := by omega
      obtain ⟨A5, c5, rfl, -⟩ := hP.row.at_
      have hmm : ∀ p ∈ L, p.2.length ≤ 1000000 := fun p hp => Nat.le_trans (hLm p hp) (by decide)
      have HMm := Lib.hid hmm
      have d0 : wr.cell? ⟨rb, 0, none⟩ = some (.slice A5 L.length c5) := hP.cell.cell 0
      have d1 : wr.cell? ⟨rb, 1, none⟩ = some (.int .i64 last) := hP.cell.cell 1
      have HP := Lib.hid hP
      clear hP hmm hLm
      go_wp2_with fail
      refine (same_any wr HP.out.below.size HP.out.ar HP.out.row HMm.out).mono ?_
      rintro r w7 ⟨rfl, hb7⟩
      have hP7 := HP.out.on hb7
      have d0 : w7.cell? ⟨rb, 0, none⟩ = some (.slice A5 L.length c5) := hP7.cell.cell 0
      have d1 : w7.cell? ⟨rb, 1, none⟩ = some (.int .i64 last) := hP7.cell.cell 1
      have HP7 := Lib.hid hP7
      clear hP7 hb7 HP
      go_wp2_with fail
      refine (same_any w7 HP7.out.below.size HP7.out.ar HP7.out.row HMm.out).mono ?_
      rintro r w8 ⟨rfl, hb8⟩
      have HB8 := Lib.hid (HP7.out.on hb8).below
      clear hb8 HP7 d0 d1
      go_wp2_with fail
      go_ret
      exact ⟨rfl, HB8.out⟩
end Go.Proofs.Ytjkhhnfmefbohaa
