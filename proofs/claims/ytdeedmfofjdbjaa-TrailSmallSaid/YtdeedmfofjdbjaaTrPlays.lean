/- The law's plays: calls, one after the other. -/
import Derived.Test.YtdeedmfofjdbjaaTrPlayUse
import Derived.Test.YtdeedmfofjdbjaaTrSame
import Derived.Deep.DeepCutAuto
import Derived.Deep.CutBlock
import Derived.Deep.RegionHeld3
namespace Go.Proofs.Ytdeedmfofjdbjaa
open Go.RowKit Go.ChangeAt Go.ChangeShapes Go.WideShapes Go.Sort

set_option maxRecDepth 100000 in
set_option maxHeartbeats 1000000 in
theorem plays_no (vars : Int) (v : Value) (w : World) (hv : vars < 0 ∨ 1048576 < vars) : Calls Try.prog 10 #[.int .i64 vars, v] w fun r w' => r = .returned (.bool true) ∧ Below w.heap.size w w' := by
  have hnn := new_no vars hv w
  have HN := Lib.hid hnn
  clear hnn
  rcases hv with hv | hv
  all_goals
    go_enter Try.func10, Try.ntmps10
    go_wp2_with fail
    refine (HN.out).mono ?_
    rintro r w1 ⟨rfl, rfl⟩
    go_wp2_with fail
    go_ret
    exact ⟨rfl, Below.refl _ _⟩
def PlayRel (n : Nat) (rb g nv : Nat) (w : World) (i : Value) (wr : World) : Prop :=
  ∃ (j : Nat) (K : Nat → Prop) (its : List It) (st : List Nat) (iv sv : Value), j ≤ n ∧ i = .int .i64 j ∧ PT rb K g nv its st iv sv its st w wr ∧ st.length ≤ j
/-- Behind a call: both answer alike. -/
def PlayMid (rb g nv j : Nat) (w : World) (s5 s9 : Value) (wx : World) : Prop :=
  ∃ (e : Int) (K : Nat → Prop) (its : List It) (st : List Nat) (iv sv : Value), s5 = .int .i64 e ∧ s9 = .int .i64 e ∧ PT rb K g nv its st iv sv its st w wx ∧ st.length ≤ j + 1
set_option maxRecDepth 100000 in
set_option maxHeartbeats 2000000 in
theorem plays_yes (nv : Nat) (hnv : nv ≤ 1048576) (v : Value) (l : List Act4) (w : World) (hA : Acts w.heap.size w v l) (ho : ∀ x ∈ l, ActOk x) (hn : l.length ≤ 1000) :
    Calls Try.prog 10 #[.int .i64 (nv : Nat), v] w fun r w' => r = .returned (.bool true) ∧ Below w.heap.size w w' := by
  obtain ⟨A, cap, rfl, -, -, hat⟩ := hA.shape
  have HAt := Lib.hid hat; have HOk := Lib.hid ho
  have hnw := new_tr nv hnv w
  have HNw := Lib.hid hnw
  have hnv0 : ¬ (nv : Int) < 0 := by omega
  have hnv1 : ¬ (1048576 : Int) < (nv : Int) := by omega
  clear hA hat ho hnw
  go_enter Try.func10, Try.ntmps10
  go_wp2_with fail
  refine (HNw.out).mono ?_
  rintro r w1 ⟨g, K1, rfl, hA1, hK1, hB1⟩
  have HA1 := Lib.hid hA1; have HK1 := Lib.hid hK1; have HB1 := Lib.hid hB1
  clear hA1 hK1 hB1 HNw
  go_wp2_with fail
  refine (new_ref _ w1).mono ?_
  rintro r w2 ⟨sv, rfl, hr2, hb2⟩
  obtain ⟨As, cs, rfl⟩ := own_shape0 hr2
  unfold refT
  have hz1 := HB1.out.size
  have hbl := below1a w2 (.cells #[.int .i64 (nv : Nat), .int .i64 0, .slice none 0 0, .slice As 1 cs] 69)
  have hP1 : PT w2.heap.size K1 g nv [] [] (.slice none 0 0) (.slice As 1 cs) [] [] w (w2.alloc (.cells #[.int .i64 (nv : Nat), .int .i64 0, .slice none 0 0, .slice As 1 cs] 69)) :=
    ⟨(HA1.out.on hb2).on hbl, Whole.made w2 _ _, rrow_nil _ _, owns_mono (owns_on0 hr2 hbl) hz1, (fun b e => by cases e), (fun b e x => by have h1 := (hr2.lt b e).1; have h2 := HA1.out.kok.lt x; omega), (fun x => by have h2 := HA1.out.kok.lt x; have := hb2.size; omega), HK1.out, HB1.out.trans ((hb2.mono hz1).trans (hbl.mono (Nat.le_trans hz1 hb2.size))), Nat.le_trans hz1 hb2.size⟩
  have HP1 := Lib.hid hP1
  clear hP1 hbl hr2 hb2 hz1 HA1 HK1 HB1
  obtain ⟨rb, hrb⟩ : ∃ y, w2.heap.size = y := ⟨_, rfl⟩
  rw [hrb] at HP1
  go_wp2_with fail
  go_loopw [39] (fun i wr => PlayRel l.length rb g nv w i wr) (fun i _ => l.length - (intOf i).toNat)
  case atStart => exact ⟨0, K1, [], [], _, _, Nat.zero_le _, rfl, HP1.out, Nat.zero_le _⟩
  case round =>
    obtain ⟨j, K, its, st, iv, sv, hj, rfl, hP, hsl⟩ := hrel
    clear HP1 hrb
    obtain ⟨Ai, ci, rfl, -, -⟩ := hP.row.at_
    obtain ⟨As, cs, rfl⟩ := own_shape1 hP.sts
    by_cases hlt : j < l.length
    · obtain ⟨⟨k, id, rs⟩, hx⟩ : ∃ x, l[j]? = some x := ⟨_, List.getElem?_eq_getElem hlt⟩
      obtain ⟨b, off, rfl, hb, c0, c1, c2⟩ := HAt.out j _ hx
      obtain ⟨hwk, -, -⟩ := HOk.out _ (List.mem_of_getElem? hx)
      obtain ⟨hk0, hk1⟩ := u8_wf hwk
      dsimp only at c0 c1 c2 hk0 hk1
      have c0 := (hP.below.cell (p := ⟨b, off + j * 3, none⟩) hb).trans c0
      have c1 := (hP.below.cell (p := ⟨b, off + j * 3 + 1, none⟩) hb).trans c1
      have c2 := (hP.below.cell (p := ⟨b, off + j * 3 + 2, none⟩) hb).trans c2
      have hbl := below1a wr (.cells #[.int .u8 k, .int .i64 id, .int .i64 rs] 26)
      have hP2 := hP.on hbl
      have hX2 := Whole.made wr 26 #[.int .u8 k, .int .i64 id, .int .i64 rs]
      have hkx : ¬ K wr.heap.size := fun x => Nat.lt_irrefl _ (hP.tr.kok.lt x)
      have HP2 := Lib.hid hP2; have HX2 := Lib.hid hX2; have HKx := Lib.hid hkx; have HNext := Lib.hid hlt; have HSl := Lib.hid hsl
      clear hP hP2 hX2 hkx hx hbl HAt HOk hwk
      have hji : (j : Int) < (l.length : Int) := by omega
      go_upto_block 2 with fail
      go_cut [6, 10] (fun s6 s10 wx => PlayMid rb g nv j w s6 s10 wx)
      case first =>
        have x0 : (wr.alloc (.cells #[.int .u8 k, .int .i64 id, .int .i64 rs] 26)).cell? ⟨wr.heap.size, 0, none⟩ = some (.int .u8 k) := HX2.out.cell 0
        have x1 : (wr.alloc (.cells #[.int .u8 k, .int .i64 id, .int .i64 rs] 26)).cell? ⟨wr.heap.size, 1, none⟩ = some (.int .i64 id) := HX2.out.cell 1
        have x2 : (wr.alloc (.cells #[.int .u8 k, .int .i64 id, .int .i64 rs] 26)).cell? ⟨wr.heap.size, 2, none⟩ = some (.int .i64 rs) := HX2.out.cell 2
        by_cases h5 : k % 8 < 5
        · skip
          go_wp2_with fail
          refine (assign_ar id rs _ HP2.out.tr).mono ?_
          rintro r w4 ⟨K4, rfl, hA4, hT4⟩
          have hP4 := HP2.out.turn hT4 hA4
          have hX4 := HX2.out.same (hT4.1.block _ HX2.out.lt HKx.out)
          have d0 : w4.cell? ⟨rb, 0, none⟩ = some (.int .i64 (nv : Nat)) := hP4.cell.cell 0
          have d1 : w4.cell? ⟨rb, 1, none⟩ = some (.int .i64 (st.length : Nat)) := hP4.cell.cell 1
          have d2 : w4.cell? ⟨rb, 2, none⟩ = some (.slice Ai its.length ci) := hP4.cell.cell 2
          have d3 : w4.cell? ⟨rb, 3, none⟩ = some (.slice As (st.length + 1) cs) := hP4.cell.cell 3
          have y1 : w4.cell? ⟨wr.heap.size, 1, none⟩ = some (.int .i64 id) := hX4.cell 1
          have y2 : w4.cell? ⟨wr.heap.size, 2, none⟩ = some (.int .i64 rs) := hX4.cell 2
          have href := assign_ref (sv := .slice As (st.length + 1) cs) id rs w4 hP4.below.size HP2.out.tr.good hP4.row ⟨_, _, _, rfl⟩
          unfold refT at href
          have HP4 := Lib.hid hP4; have HRef := Lib.hid href
          clear hP4 hX4 hA4 hT4 href HP2 HX2 HKx x0 x1 x2
          go_wp2_with fail
          refine (HRef.out).mono ?_
          rintro r w5 ⟨iv5, rfl, hR5, ho5, hb5⟩
          have hS5 := owns_on0 HP4.out.sts hb5
          have ho6 : ∀ b, (Value.slice As (st.length + 1) cs).ownBlock = some b → (Value.slice As (st.length + 1) cs).ownBlock = some b ∨ w4.heap.size ≤ b := fun b eb => .inl eb
          have hP5 := HP4.out.on hb5
          have hki : ∀ b, iv5.ownBlock = some b → ¬ K4 b := fun b eb x => by
            rcases ho5 b eb with h | h
            · exact HP4.out.offi b h x
            · have := HP4.out.tr.kok.lt x
              omega
          have hks : ∀ b, (Value.slice As (st.length + 1) cs).ownBlock = some b → ¬ K4 b := fun b eb x => by
            rcases ho6 b eb with h | h
            · exact HP4.out.offs b h x
            · have := HP4.out.tr.kok.lt x
              omega
          have hlen : (st).length ≤ j + 1 := by have := HSl.out; omega
          have hP6 := hP5.put (st3 := st) hR5 hS5 hki hks
          obtain ⟨its5, hits5⟩ : ∃ y, assL nv its st.length id rs = y := ⟨_, rfl⟩
          obtain ⟨e5, he5⟩ : ∃ y : Int, assE nv its id rs = y := ⟨_, rfl⟩
          rw [hits5] at hP6 hR5
          rw [he5]
          obtain ⟨A5, c5, eiv, -, -⟩ := hR5.at_
          obtain ⟨B5, d5, esv⟩ := own_shape1 hS5
          rw [eiv, esv] at hP6
          obtain ⟨⟨z0, f0⟩, ⟨z1, f1⟩, ⟨z2, f2⟩, ⟨z3, f3⟩, -⟩ := hP5.cell.store4 (.int .i64 (nv : Nat)) (.int .i64 (st.length : Nat)) (.slice A5 its5.length c5) (.slice B5 (st.length + 1) d5)
          have HF := Lib.hid (show PlayMid rb g nv j w (.int .i64 e5) (.int .i64 e5) _ from ⟨_, K4, _, _, _, _, rfl, rfl, hP6, hlen⟩)
          rw [eiv]
          cases esv
          clear hP5 hki hks hP6 hb5 hR5 hS5 HP4 HRef d0 d1 d2 d3 y1 y2 eiv hits5 he5 ho5 ho6 hlen
          go_wp2_with fail
          go_meet
          exact HF.out
        · by_cases h7 : k % 8 < 7
          · skip
            go_wp2_with fail
            refine (push_tr _ HP2.out.tr (by have := HSl.out; omega)).mono ?_
            rintro r w4 ⟨K4, rfl, hA4, hT4⟩
            have hP4 := HP2.out.turn hT4 hA4
            have hX4 := HX2.out.same (hT4.1.block _ HX2.out.lt HKx.out)
            have d0 : w4.cell? ⟨rb, 0, none⟩ = some (.int .i64 (nv : Nat)) := hP4.cell.cell 0
            have d1 : w4.cell? ⟨rb, 1, none⟩ = some (.int .i64 (st.length : Nat)) := hP4.cell.cell 1
            have d2 : w4.cell? ⟨rb, 2, none⟩ = some (.slice Ai its.length ci) := hP4.cell.cell 2
            have d3 : w4.cell? ⟨rb, 3, none⟩ = some (.slice As (st.length + 1) cs) := hP4.cell.cell 3
            have y1 : w4.cell? ⟨wr.heap.size, 1, none⟩ = some (.int .i64 id) := hX4.cell 1
            have y2 : w4.cell? ⟨wr.heap.size, 2, none⟩ = some (.int .i64 rs) := hX4.cell 2
            have href := push_ref2 (nv := nv) w4 hP4.below.size (by have := HSl.out; omega) hP4.row hP4.sts
            unfold refT at href
            have HP4 := Lib.hid hP4; have HRef := Lib.hid href
            clear hP4 hX4 hA4 hT4 href HP2 HX2 HKx x0 x1 x2
            go_wp2_with fail
            refine (HRef.out).mono ?_
            rintro r w5 ⟨sv5, rfl, hS5, ho6, hb5⟩
            have hR5 := HP4.out.row.on hb5
            have ho5 : ∀ b, (Value.slice Ai its.length ci).ownBlock = some b → (Value.slice Ai its.length ci).ownBlock = some b ∨ w4.heap.size ≤ b := fun b eb => .inl eb
            have hP5 := HP4.out.on hb5
            have hki : ∀ b, (Value.slice Ai its.length ci).ownBlock = some b → ¬ K4 b := fun b eb x => by
              rcases ho5 b eb with h | h
              · exact HP4.out.offi b h x
              · have := HP4.out.tr.kok.lt x
                omega
            have hks : ∀ b, sv5.ownBlock = some b → ¬ K4 b := fun b eb x => by
              rcases ho6 b eb with h | h
              · exact HP4.out.offs b h x
              · have := HP4.out.tr.kok.lt x
                omega
            have hlen : (st ++ [its.length]).length ≤ j + 1 := by have := HSl.out; rw [List.length_append, List.length_singleton]; omega
            have hP6 := hP5.put (st3 := st ++ [its.length]) hR5 hS5 hki hks
            obtain ⟨st5, hst5⟩ : ∃ y, st ++ [its.length] = y := ⟨_, rfl⟩
            rw [hst5] at hP6 hS5 hlen
            obtain ⟨A5, c5, eiv, -, -⟩ := hR5.at_
            obtain ⟨B5, d5, esv⟩ := own_shape1 hS5
            rw [eiv, esv] at hP6
            obtain ⟨⟨z0, f0⟩, ⟨z1, f1⟩, ⟨z2, f2⟩, ⟨z3, f3⟩, -⟩ := hP5.cell.store4 (.int .i64 (nv : Nat)) (.int .i64 (st5.length : Nat)) (.slice A5 its.length c5) (.slice B5 (st5.length + 1) d5)
            have HF := Lib.hid (show PlayMid rb g nv j w (.int .i64 0) (.int .i64 0) _ from ⟨_, K4, _, _, _, _, rfl, rfl, hP6, hlen⟩)
            rw [hst5, esv]
            cases eiv
            clear hP5 hki hks hP6 hb5 hR5 hS5 HP4 HRef d0 d1 d2 d3 y1 y2 esv hst5 ho5 ho6 hlen
            go_wp2_with fail
            go_meet
            exact HF.out
          · skip
            go_wp2_with fail
            refine (back_ar id _ HP2.out.tr).mono ?_
            rintro r w4 ⟨K4, rfl, hA4, hT4⟩
            have hP4 := HP2.out.turn hT4 hA4
            have hX4 := HX2.out.same (hT4.1.block _ HX2.out.lt HKx.out)
            have d0 : w4.cell? ⟨rb, 0, none⟩ = some (.int .i64 (nv : Nat)) := hP4.cell.cell 0
            have d1 : w4.cell? ⟨rb, 1, none⟩ = some (.int .i64 (st.length : Nat)) := hP4.cell.cell 1
            have d2 : w4.cell? ⟨rb, 2, none⟩ = some (.slice Ai its.length ci) := hP4.cell.cell 2
            have d3 : w4.cell? ⟨rb, 3, none⟩ = some (.slice As (st.length + 1) cs) := hP4.cell.cell 3
            have y1 : w4.cell? ⟨wr.heap.size, 1, none⟩ = some (.int .i64 id) := hX4.cell 1
            have y2 : w4.cell? ⟨wr.heap.size, 2, none⟩ = some (.int .i64 rs) := hX4.cell 2
            have href := back_ref id w4 hP4.below.size HP2.out.tr.good hP4.row hP4.sts
            unfold refT at href
            have HP4 := Lib.hid hP4; have HRef := Lib.hid href
            clear hP4 hX4 hA4 hT4 href HP2 HX2 HKx x0 x1 x2
            go_wp2_with fail
            refine (HRef.out).mono ?_
            rintro r w5 ⟨iv5, sv5, rfl, hR5, hS5, ho5, ho6, hb5⟩
            have hP5 := HP4.out.on hb5
            have hki : ∀ b, iv5.ownBlock = some b → ¬ K4 b := fun b eb x => by
              rcases ho5 b eb with h | h
              · exact HP4.out.offi b h x
              · have := HP4.out.tr.kok.lt x
                omega
            have hks : ∀ b, sv5.ownBlock = some b → ¬ K4 b := fun b eb x => by
              rcases ho6 b eb with h | h
              · exact HP4.out.offs b h x
              · have := HP4.out.tr.kok.lt x
                omega
            have hlen : (bacS st id).length ≤ j + 1 := Nat.le_trans (bac_len _ _) (by have := HSl.out; omega)
            have hP6 := hP5.put (st3 := bacS st id) hR5 hS5 hki hks
            obtain ⟨its5, hits5⟩ : ∃ y, bacI its st id = y := ⟨_, rfl⟩
            obtain ⟨st5, hst5⟩ : ∃ y, bacS st id = y := ⟨_, rfl⟩
            obtain ⟨e5, he5⟩ : ∃ y : Int, bacE st id = y := ⟨_, rfl⟩
            rw [hits5] at hP6 hR5
            rw [hst5] at hP6 hS5 hlen
            rw [he5]
            obtain ⟨A5, c5, eiv, -, -⟩ := hR5.at_
            obtain ⟨B5, d5, esv⟩ := own_shape1 hS5
            rw [eiv, esv] at hP6
            obtain ⟨⟨z0, f0⟩, ⟨z1, f1⟩, ⟨z2, f2⟩, ⟨z3, f3⟩, -⟩ := hP5.cell.store4 (.int .i64 (nv : Nat)) (.int .i64 (st5.length : Nat)) (.slice A5 its5.length c5) (.slice B5 (st5.length + 1) d5)
            have HF := Lib.hid (show PlayMid rb g nv j w (.int .i64 e5) (.int .i64 e5) _ from ⟨_, K4, _, _, _, _, rfl, rfl, hP6, hlen⟩)
            rw [hst5, eiv, esv]
            clear hP5 hki hks hP6 hb5 hR5 hS5 HP4 HRef d0 d1 d2 d3 y1 y2 eiv esv hits5 hst5 he5 ho5 ho6 hlen
            go_wp2_with fail
            go_meet
            exact HF.out
      case rest =>
        obtain ⟨e, K5, its5, st5, iv5, sv5, rfl, rfl, hP5, hl5⟩ := hcut
        clear HP2 HX2 HKx
        obtain ⟨A5, c5, rfl, -, -⟩ := hP5.row.at_
        obtain ⟨B5, d5, rfl⟩ := own_shape1 hP5.sts
        have HP5 := Lib.hid hP5; have HL5 := Lib.hid hl5
        have hsm := same_any wc hP5.tr hP5.row hP5.sts
        unfold refT at hsm
        have HSm := Lib.hid hsm
        clear hP5 hl5 hsm
        have d0 : wc.cell? ⟨rb, 0, none⟩ = some (.int .i64 (nv : Nat)) := HP5.out.cell.cell 0
        have d1 : wc.cell? ⟨rb, 1, none⟩ = some (.int .i64 (st5.length : Nat)) := HP5.out.cell.cell 1
        have d2 : wc.cell? ⟨rb, 2, none⟩ = some (.slice A5 its5.length c5) := HP5.out.cell.cell 2
        have d3 : wc.cell? ⟨rb, 3, none⟩ = some (.slice B5 (st5.length + 1) d5) := HP5.out.cell.cell 3
        by_cases h3 : j % 4 = 3
        · have hq : ((j : Int) % 4 == 3) = true := by rw [beq_iff_eq]; omega
          go_wp2_with fail
          refine (HSm.out).mono ?_
          rintro r w6 ⟨rfl, hb6⟩
          have HP6 := Lib.hid (HP5.out.on hb6)
          clear hb6 HP5 HSm d0 d1 d2 d3
          go_wp2_with fail
          refine ⟨⟨j + 1, K5, its5, st5, _, _, HNext.out, by go_num, HP6.out, HL5.out⟩, ?_⟩
          simp [intOf]
          omega
        · have hq : ((j : Int) % 4 == 3) = false := by rw [beq_eq_false_iff_ne]; omega
          go_wp2_with fail
          refine ⟨⟨j + 1, K5, its5, st5, _, _, HNext.out, by go_num, HP5.out, HL5.out⟩, ?_⟩
          simp [intOf]
          omega
    · obtain rfl : j = l.length := by omega
      have HP5 := Lib.hid hP
      have hsm := same_any wr hP.tr hP.row hP.sts
      unfold refT at hsm
      have HSm := Lib.hid hsm
      clear hP hsm
      have d0 : wr.cell? ⟨rb, 0, none⟩ = some (.int .i64 (nv : Nat)) := HP5.out.cell.cell 0
      have d1 : wr.cell? ⟨rb, 1, none⟩ = some (.int .i64 (st.length : Nat)) := HP5.out.cell.cell 1
      have d2 : wr.cell? ⟨rb, 2, none⟩ = some (.slice Ai its.length ci) := HP5.out.cell.cell 2
      have d3 : wr.cell? ⟨rb, 3, none⟩ = some (.slice As (st.length + 1) cs) := HP5.out.cell.cell 3
      go_wp2_with fail
      refine (HSm.out).mono ?_
      rintro r w6 ⟨rfl, hb6⟩
      have HBf := Lib.hid (HP5.out.on hb6).below
      clear hb6 HP5 HSm d0 d1 d2 d3
      go_wp2_with fail
      go_ret
      exact ⟨rfl, HBf.out⟩
theorem plays_any (vars : Int) (v : Value) (l : List Act4) (w : World) (hA : Acts w.heap.size w v l) (ho : ∀ x ∈ l, ActOk x) (hn : l.length ≤ 1000) :
    Calls Try.prog 10 #[.int .i64 vars, v] w fun r w' => r = .returned (.bool true) ∧ Below w.heap.size w w' := by
  by_cases h : vars < 0 ∨ 1048576 < vars
  · exact plays_no vars v w h
  · obtain ⟨nv, rfl⟩ := Int.eq_ofNat_of_zero_le (by omega : 0 ≤ vars)
    exact plays_yes nv (by omega) v l w hA ho hn
end Go.Proofs.Ytdeedmfofjdbjaa
