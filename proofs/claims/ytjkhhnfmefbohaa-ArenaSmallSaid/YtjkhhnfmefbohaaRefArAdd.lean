/- The reference's Add. -/
import Derived.Test.YtjkhhnfmefbohaaRefArDel
namespace Go.Proofs.Ytjkhhnfmefbohaa
open Go.RowKit Go.ChangeAt Go.ChangeShapes Go.WideShapes Go.Sort

theorem addE_r {L : List (Int × List Int)} {last id : Int} {c : List Int} (h : rightB c = false) : addE L last id c = 20 := by unfold addE; rw [h]; rfl
theorem addE_i {L : List (Int × List Int)} {last id : Int} {c : List Int} (h : rightB c = true) (h1 : ¬ (last < id ∧ id ≤ 1073741824)) : addE L last id c = 30 := by unfold addE; rw [h, if_pos rfl, if_neg h1]
theorem addE_s {L : List (Int × List Int)} {last id : Int} {c : List Int} (h : rightB c = true) (h1 : last < id ∧ id ≤ 1073741824) (h2 : ¬ sumL L + c.length ≤ 1048576) : addE L last id c = 4 := by unfold addE; rw [h, if_pos rfl, if_pos h1, if_neg h2]

set_option maxRecDepth 100000 in
set_option maxHeartbeats 4000000 in
theorem add_ref_no {B C : Nat} {av cv : Value} {L : List (Int × List Int)} {last : Int} {c : List Int} (id : Int) (w : World) (hCw : C ≤ w.heap.size) (h : RefRow B C w av L) (hc : Ints C w cv c) (hcl : c.length ≤ 1000000000) (h0 : 0 ≤ last) (h1 : last ≤ 1073741824) (hL : L.length ≤ 1000000) (hS : sumL L ≤ 1048576) (hn : addE L last id c ≠ 0) :
    Calls Try.prog 30 #[.agg #[av, .int .i64 last], .int .i64 id, cv] w fun r w' => r = .returned (.tuple #[.agg #[av, .int .i64 last], .int .i64 (addE L last id c)]) ∧ Below w.heap.size w w' := by
  obtain ⟨A, cap, rfl, -, -⟩ := h.at_
  obtain ⟨Ac, cc, rfl, -⟩ := ints_shape hc
  have b1 := below1a w (.cells #[.slice A L.length cap, .int .i64 last] 65)
  have b2 := below1a (w.alloc (.cells #[.slice A L.length cap, .int .i64 last] 65)) (.cells #[.slice none 0 0, .int .i64 0] 65)
  have bb := b1.trans (b2.mono b1.size)
  have m1 := (Whole.made w 65 #[.slice A L.length cap, .int .i64 last]).same (b2.block _ (by simp))
  have m2 := Whole.made (w.alloc (.cells #[.slice A L.length cap, .int .i64 last] 65)) 65 #[.slice none 0 0, .int .i64 0]
  rw [World.size_alloc] at m2
  have hcw := hc.below (bb.mono hCw)
  have hh := h.on hCw bb
  obtain ⟨w1, hw1⟩ : ∃ y, (w.alloc (.cells #[.slice A L.length cap, .int .i64 last] 65)).alloc (.cells #[.slice none 0 0, .int .i64 0] 65) = y := ⟨_, rfl⟩
  rw [hw1] at m1 m2 bb hcw hh
  have c0 : w1.cell? ⟨w.heap.size, 0, none⟩ = some (.slice A L.length cap) := m1.cell 0
  have c1 : w1.cell? ⟨w.heap.size, 1, none⟩ = some (.int .i64 last) := m1.cell 1
  have M1 := Lib.hid m1; have M2 := Lib.hid m2; have BB := Lib.hid bb; have HC := Lib.hid hcw; have HH := Lib.hid hh; have H1 := Lib.hid hw1
  clear b1 b2 bb m1 m2 hcw hc h hh
  cases hr : rightB c
  · have HQ := Lib.hid (addE_r (L := L) (last := last) (id := id) hr); have HR := Lib.hid hr
    clear hr hn hw1
    go_enter Try.func30, Try.ntmps30
    go_wp2_with fail
    rw [H1.out]
    refine (ref02_right _ _ c (by omega) _ HC.out).mono ?_
    rintro r w' ⟨rfl, rfl⟩
    rw [HR.out]
    obtain ⟨d10, d11, f10, f11, g1, k1, e0, e1, -⟩ := M2.out.store2 (.slice A L.length cap) (.int .i64 last)
    have HBf := Lib.hid ((BB.out.setCell (p := ⟨w.heap.size + 1, 0, none⟩) (by show w.heap.size ≤ w.heap.size + 1; omega) (.slice A L.length cap)).setCell (p := ⟨w.heap.size + 1, 1, none⟩) (by show w.heap.size ≤ w.heap.size + 1; omega) (.int .i64 last))
    clear M1 M2 BB HC HH
    go_wp2_with fail
    exact bodyPost_ret (v := .tuple #[.agg #[.slice A L.length cap, .int .i64 last], .int .i64 20]) (by simp [results, Try.results30, go_sem, e0, e1]) rfl ⟨by rw [HQ.out], HBf.out⟩
  · have HR := Lib.hid hr
    by_cases hi : last < id ∧ id ≤ 1073741824
    · have hs : ¬ sumL L + c.length ≤ 1048576 := fun x => hn (addE_mk hr hi.1 hi.2 x)
      have HQ := Lib.hid (addE_s (L := L) hr hi hs)
      obtain ⟨hi1, hi2⟩ := hi
      have hi3 : ¬ id < 1 := by omega
      have hi4 : ¬ id ≤ last := by omega
      have hu := used_ref (last := last) w1 HH.out (by omega) (by omega)
      obtain ⟨u, hun⟩ : ∃ u, sumL L = u := ⟨_, rfl⟩
      rw [hun] at hu hs hS
      have hs' : (1048576 : Int) < (u : Int) + (c.length : Int) := by omega
      have HU := Lib.hid hu
      clear hr hn hw1 hu hun hs
      go_enter Try.func30, Try.ntmps30
      go_wp2_with fail
      rw [H1.out]
      refine (ref02_right _ _ c (by omega) _ HC.out).mono ?_
      rintro r w' ⟨rfl, rfl⟩
      rw [HR.out]
      go_wp2_with fail
      refine (HU.out).mono ?_
      rintro r w2 ⟨rfl, hB⟩
      have x1 := M1.out.same (hB.block _ M1.out.lt)
      have x2 := M2.out.same (hB.block _ M2.out.lt)
      have hb2 := BB.out.trans (hB.mono BB.out.size)
      have c20 : w2.cell? ⟨w.heap.size, 0, none⟩ = some (.slice A L.length cap) := x1.cell 0
      have c21 : w2.cell? ⟨w.heap.size, 1, none⟩ = some (.int .i64 last) := x1.cell 1
      obtain ⟨d10, d11, f10, f11, g1, k1, e0, e1, -⟩ := x2.store2 (.slice A L.length cap) (.int .i64 last)
      have HBf := Lib.hid ((hb2.setCell (p := ⟨w.heap.size + 1, 0, none⟩) (by show w.heap.size ≤ w.heap.size + 1; omega) (.slice A L.length cap)).setCell (p := ⟨w.heap.size + 1, 1, none⟩) (by show w.heap.size ≤ w.heap.size + 1; omega) (.int .i64 last))
      clear M1 M2 BB HC HH hB x1 x2 hb2 HU c0 c1
      go_wp2_with fail
      exact bodyPost_ret (v := .tuple #[.agg #[.slice A L.length cap, .int .i64 last], .int .i64 4]) (by simp [results, Try.results30, go_sem, e0, e1]) rfl ⟨by rw [HQ.out], HBf.out⟩
    · have HQ := Lib.hid (addE_i (L := L) hr hi)
      by_cases hh0 : id < 1
      · clear hr hn hw1 hi
        go_enter Try.func30, Try.ntmps30
        go_wp2_with fail
        rw [H1.out]
        refine (ref02_right _ _ c (by omega) _ HC.out).mono ?_
        rintro r w' ⟨rfl, rfl⟩
        rw [HR.out]
        obtain ⟨d10, d11, f10, f11, g1, k1, e0, e1, -⟩ := M2.out.store2 (.slice A L.length cap) (.int .i64 last)
        have HBf := Lib.hid ((BB.out.setCell (p := ⟨w.heap.size + 1, 0, none⟩) (by show w.heap.size ≤ w.heap.size + 1; omega) (.slice A L.length cap)).setCell (p := ⟨w.heap.size + 1, 1, none⟩) (by show w.heap.size ≤ w.heap.size + 1; omega) (.int .i64 last))
        clear M1 M2 BB HC HH
        go_wp2_with fail
        exact bodyPost_ret (v := .tuple #[.agg #[.slice A L.length cap, .int .i64 last], .int .i64 30]) (by simp [results, Try.results30, go_sem, e0, e1]) rfl ⟨by rw [HQ.out], HBf.out⟩
      · skip
        by_cases hh1 : 1073741824 < id
        · have hq1 : ¬ id < 1 := by omega
          clear hr hn hw1 hi
          go_enter Try.func30, Try.ntmps30
          go_wp2_with fail
          rw [H1.out]
          refine (ref02_right _ _ c (by omega) _ HC.out).mono ?_
          rintro r w' ⟨rfl, rfl⟩
          rw [HR.out]
          obtain ⟨d10, d11, f10, f11, g1, k1, e0, e1, -⟩ := M2.out.store2 (.slice A L.length cap) (.int .i64 last)
          have HBf := Lib.hid ((BB.out.setCell (p := ⟨w.heap.size + 1, 0, none⟩) (by show w.heap.size ≤ w.heap.size + 1; omega) (.slice A L.length cap)).setCell (p := ⟨w.heap.size + 1, 1, none⟩) (by show w.heap.size ≤ w.heap.size + 1; omega) (.int .i64 last))
          clear M1 M2 BB HC HH
          go_wp2_with fail
          exact bodyPost_ret (v := .tuple #[.agg #[.slice A L.length cap, .int .i64 last], .int .i64 30]) (by simp [results, Try.results30, go_sem, e0, e1]) rfl ⟨by rw [HQ.out], HBf.out⟩
        · skip
          have hq1 : ¬ id < 1 := by omega
          have hq2 : ¬ 1073741824 < id := by omega
          have hq3 : id ≤ last := by omega
          clear hr hn hw1 hi
          go_enter Try.func30, Try.ntmps30
          go_wp2_with fail
          rw [H1.out]
          refine (ref02_right _ _ c (by omega) _ HC.out).mono ?_
          rintro r w' ⟨rfl, rfl⟩
          rw [HR.out]
          obtain ⟨d10, d11, f10, f11, g1, k1, e0, e1, -⟩ := M2.out.store2 (.slice A L.length cap) (.int .i64 last)
          have HBf := Lib.hid ((BB.out.setCell (p := ⟨w.heap.size + 1, 0, none⟩) (by show w.heap.size ≤ w.heap.size + 1; omega) (.slice A L.length cap)).setCell (p := ⟨w.heap.size + 1, 1, none⟩) (by show w.heap.size ≤ w.heap.size + 1; omega) (.int .i64 last))
          clear M1 M2 BB HC HH
          go_wp2_with fail
          exact bodyPost_ret (v := .tuple #[.agg #[.slice A L.length cap, .int .i64 last], .int .i64 30]) (by simp [results, Try.results30, go_sem, e0, e1]) rfl ⟨by rw [HQ.out], HBf.out⟩

set_option maxRecDepth 100000 in
set_option maxHeartbeats 4000000 in
theorem add_ref_yes {B C : Nat} {av cv : Value} {L : List (Int × List Int)} {last : Int} {c : List Int} (id : Int) (w : World) (hCw : C ≤ w.heap.size) (h : RefRow B C w av L) (hc : Ints C w cv c) (hcl : c.length ≤ 1000000000) (h0 : 0 ≤ last) (h1 : last ≤ 1073741824) (hL : L.length ≤ 1000000) (hS : sumL L ≤ 1048576) (hy : addE L last id c = 0) :
    Calls Try.prog 30 #[.agg #[av, .int .i64 last], .int .i64 id, cv] w fun r w' => ∃ av', r = .returned (.tuple #[.agg #[av', .int .i64 id], .int .i64 0]) ∧ RefRow w.heap.size C w' av' (L ++ [(id, c)]) ∧ Below w.heap.size w w' := by
  obtain ⟨A, cap, rfl, -, -⟩ := h.at_
  obtain ⟨Ac, cc, rfl, -⟩ := ints_shape hc
  have b1 := below1a w (.cells #[.slice A L.length cap, .int .i64 last] 65)
  have b2 := below1a (w.alloc (.cells #[.slice A L.length cap, .int .i64 last] 65)) (.cells #[.slice none 0 0, .int .i64 0] 65)
  have bb := b1.trans (b2.mono b1.size)
  have m1 := (Whole.made w 65 #[.slice A L.length cap, .int .i64 last]).same (b2.block _ (by simp))
  have m2 := Whole.made (w.alloc (.cells #[.slice A L.length cap, .int .i64 last] 65)) 65 #[.slice none 0 0, .int .i64 0]
  rw [World.size_alloc] at m2
  have hcw := hc.below (bb.mono hCw)
  have hh := h.on hCw bb
  obtain ⟨w1, hw1⟩ : ∃ y, (w.alloc (.cells #[.slice A L.length cap, .int .i64 last] 65)).alloc (.cells #[.slice none 0 0, .int .i64 0] 65) = y := ⟨_, rfl⟩
  rw [hw1] at m1 m2 bb hcw hh
  have c0 : w1.cell? ⟨w.heap.size, 0, none⟩ = some (.slice A L.length cap) := m1.cell 0
  have c1 : w1.cell? ⟨w.heap.size, 1, none⟩ = some (.int .i64 last) := m1.cell 1
  have M1 := Lib.hid m1; have M2 := Lib.hid m2; have BB := Lib.hid bb; have HC := Lib.hid hcw; have HH := Lib.hid hh; have H1 := Lib.hid hw1
  clear b1 b2 bb m1 m2 hcw hc h hh
  obtain ⟨hr, hi1, hi2, hs⟩ := addE_0 hy
  obtain ⟨i0, hi0, hz0, hz1, hz2⟩ := info_parts infoEntry
  have HR := Lib.hid hr
  have hi3 : ¬ id < 1 := by omega
  have hi4 : ¬ id ≤ last := by omega
  have hu := used_ref (last := last) w1 HH.out (by omega) (by omega)
  obtain ⟨u, hun⟩ : ∃ u, sumL L = u := ⟨_, rfl⟩
  rw [hun] at hu hs hS
  have hs' : ¬ (1048576 : Int) < (u : Int) + (c.length : Int) := by omega
  have HU := Lib.hid hu
  clear hr hy hw1 hu hun hs
  go_enter Try.func30, Try.ntmps30
  go_wp2_with fail
  rw [H1.out]
  refine (ref02_right _ _ c (by omega) _ HC.out).mono ?_
  rintro r w' ⟨rfl, rfl⟩
  rw [HR.out]
  go_wp2_with fail
  refine (HU.out).mono ?_
  rintro r w2 ⟨rfl, hB⟩
  have x1 := M1.out.same (hB.block _ M1.out.lt)
  have x2 := M2.out.same (hB.block _ M2.out.lt)
  have hb2 := BB.out.trans (hB.mono BB.out.size)
  have hc2 := HC.out.below (hB.mono (Nat.le_trans hCw BB.out.size))
  have hh2 := HH.out.on (Nat.le_trans hCw BB.out.size) hB
  -- the empty row
  have b3 := below1a w2 (.cells #[] 88)
  have x13 := x1.same (b3.block _ x1.lt)
  have x23 := x2.same (b3.block _ x2.lt)
  have hb3 := hb2.trans (b3.mono hb2.size)
  have hc3 := hc2.below (b3.mono (Nat.le_trans hCw hb2.size))
  have hh3 := hh2.on (Nat.le_trans hCw hb2.size) b3
  have r3 := World.ownsRow_lit (base := w2.heap.size) (size := 2) (e := 88) w2 #[] 0 (Nat.le_refl _) (Nat.zero_le _) rfl
  have hw2 : w.heap.size ≤ w2.heap.size := hb2.size
  have x1l := x1.lt
  have x2l := x2.lt
  obtain ⟨vs, hvl, hvr, hvv⟩ := hh3
  have hv1 := refV_one L vs (RefRow.one hvl hvv)
  have hvll := refV_len L vs hvl
  obtain ⟨w3, hw3⟩ : ∃ y, w2.alloc (.cells #[] 88) = y := ⟨_, rfl⟩
  have hs3 : w3.heap.size = w2.heap.size + 1 := by rw [← hw3, World.size_alloc]
  rw [hw3] at x13 x23 hb3 hc3 r3 hvr hvv
  have c30 : w3.cell? ⟨w.heap.size, 0, none⟩ = some (.slice A L.length cap) := x13.cell 0
  have X13 := Lib.hid x13; have X23 := Lib.hid x23; have HB3 := Lib.hid hb3; have HC3 := Lib.hid hc3; have R3 := Lib.hid r3; have HVr := Lib.hid hvr; have HVv := Lib.hid hvv; have HV1 := Lib.hid hv1; have HVl := Lib.hid hvl; have H3 := Lib.hid hw3; have HVll := Lib.hid hvll
  clear M1 M2 BB HC HH hB x1 x2 hb2 hc2 hh2 b3 x13 x23 hb3 hc3 r3 hvr hvv hv1 hvl hvll HU c0 c1
  have k1 : 0 + L.length ≤ maxLen := by unfold maxLen; omega
  have k2 : (0 + L.length) * 32 ≤ 140737488355328 := by omega
  have k3 : w2.heap.size ≤ w3.heap.size := by omega
  have k4 : ∀ (W : World), w3.grownBy W (Value.slice (some ⟨w2.heap.size, 0, none⟩) 0 0).ownBlock → Whole W w.heap.size 65 #[.slice A L.length cap, .int .i64 last] ∧ Whole W (w.heap.size + 1) 65 #[.slice none 0 0, .int .i64 0] ∧ Below w2.heap.size w3 W := fun W hg =>
    ⟨X13.out.same (hg.block _ X13.out.lt (fun e => by
      have : w.heap.size = w2.heap.size := by simpa [Value.ownBlock] using e
      omega)), X23.out.same (hg.block _ X23.out.lt (fun e => by
      have : w.heap.size + 1 = w2.heap.size := by simpa [Value.ownBlock] using e
      omega)), (Below.refl w2.heap.size w3).grown hg k3 (fun k e => by
      have : w2.heap.size = k := by simpa [Value.ownBlock] using e
      omega)⟩
  have K4 := Lib.hid k4
  clear k4
  go_wp2_with (first
    | (at_builtin; (refine wpList_append3 rfl _ _ 63 rfl 88 i0 _ 2 32 Try.underlying63 hi0 hz0 hz1 hz2 rfl (by decide) w2.heap.size _ _ _ rfl R3.out _ _ _ _ rfl HVr.out HV1.out k1 k2 k3 ?_; intro v4 w4 hown4 hg4 hwhere; rw [Nat.zero_add] at hown4; obtain ⟨A4, c4, rfl⟩ := own_shape0 hown4; have hk4 := K4.out _ hg4; have HB4 := Lib.hid hk4.2.2; have HR4 := Lib.hid (show w4.ownsRow w2.heap.size 88 2 (.slice A4 L.length c4) L.length (refV L vs) from by simpa using hown4); clear hown4 hg4 hwhere hk4))
    | (at_builtin; (refine wpList_append_own _ rfl _ _ 63 rfl w2.heap.size 88 i0 _ 2 32 Try.underlying63 hi0 hz0 hz1 hz2 rfl (by decide) _ _ _ rfl (HR4.out.alloc _) ⟨w4.heap.size, 0, none⟩ 1 1 [.int .i64 id, .slice Ac c.length cc] rfl rfl (World.news_of_block (cs := #[.int .i64 id, .slice Ac c.length cc]) (t := 88) (fr := (0, 0)) (heap_alloc_new w4 _)) (by simp [Value.oneCell']) (by unfold maxLen; omega) (by omega) (Nat.le_trans (Nat.le_trans (Nat.le_trans (Nat.le_succ _) (Nat.le_of_eq hs3.symm)) HB4.out.size) (by rw [World.size_alloc]; exact Nat.le_succ _)) ?_; intro v5 w5 hown5 hg5 _; obtain ⟨A5, c5, rfl⟩ := own_shape0 hown5; have hb45 := (HB4.out.alloc (Nat.le_trans (Nat.le_trans (Nat.le_succ _) (Nat.le_of_eq hs3.symm)) HB4.out.size) (.cells #[.int .i64 id, .slice Ac c.length cc] 88)).grown hg5 (Nat.le_trans (Nat.le_trans (Nat.le_trans (Nat.le_succ _) (Nat.le_of_eq hs3.symm)) HB4.out.size) (by rw [World.size_alloc]; exact Nat.le_succ _)) (fun k e => (HR4.out.lt k e).1); have X15 := X13.out.same (hb45.block _ (show w.heap.size < w2.heap.size by omega)); have X25 := X23.out.same (hb45.block _ (show w.heap.size + 1 < w2.heap.size by omega)); obtain ⟨d0, d1, f0, f1, g1, k1, e0, e1, y1⟩ := X15.store2 (.slice A5 (L.length + 1) c5) (.int .i64 id); obtain ⟨p0, p1, q0, q1, s1, t1, z0, z1, -⟩ := ((X25.at_other (c := w.heap.size) (by omega) 0 (.slice A5 (L.length + 1) c5)).at_other (c := w.heap.size) (by omega) 1 (.int .i64 id)).store2 (.slice A5 (L.length + 1) c5) (.int .i64 id); have HO5 := Lib.hid hown5; have HB5 := Lib.hid hb45; clear hown5 hg5 hb45 X15 X25 y1)))
  have hbl := (HB3.out.trans (HB5.out.mono hw2))
  have hCw2 : C ≤ w2.heap.size := Nat.le_trans hCw hw2
  have hr5 := RefRow.push HVl.out HVv.out (HB5.out.mono hCw2) (p := (id, c)) (HC3.out.below (HB5.out.mono hCw2)) HO5.out
  have hbf := (((hbl.setCell (p := ⟨w.heap.size, 0, none⟩) (Nat.le_refl _) (.slice A5 (L.length + 1) c5)).setCell (p := ⟨w.heap.size, 1, none⟩) (Nat.le_refl _) (.int .i64 id)).setCell (p := ⟨w.heap.size + 1, 0, none⟩) (by show w.heap.size ≤ w.heap.size + 1; omega) (.slice A5 (L.length + 1) c5)).setCell (p := ⟨w.heap.size + 1, 1, none⟩) (by show w.heap.size ≤ w.heap.size + 1; omega) (.int .i64 id)
  refine bodyPost_ret (v := .tuple #[.agg #[.slice A5 (L.length + 1) c5, .int .i64 id], .int .i64 0]) (by simp [results, Try.results30, go_sem, z0, z1]) rfl ⟨_, rfl, ?_, hbf⟩
  refine (hr5.keeps (K := fun b => b = w.heap.size ∨ b = w.heap.size + 1) ?_ (fun b e => by
    have := (HO5.out.lt b e).1
    omega) ?_).base hw2
  · exact ((((Keeps.refl _ w5).setCell (p := ⟨w.heap.size, 0, none⟩) (.inl (.inl rfl)) _).setCell (p := ⟨w.heap.size, 1, none⟩) (.inl (.inl rfl)) _).setCell (p := ⟨w.heap.size + 1, 0, none⟩) (.inl (.inr rfl)) _).setCell (p := ⟨w.heap.size + 1, 1, none⟩) (.inl (.inr rfl)) _
  · exact ((((Below.refl C w5).setCell (p := ⟨w.heap.size, 0, none⟩) hCw _).setCell (p := ⟨w.heap.size, 1, none⟩) hCw _).setCell (p := ⟨w.heap.size + 1, 0, none⟩) (by show C ≤ w.heap.size + 1; omega) _).setCell (p := ⟨w.heap.size + 1, 1, none⟩) (by show C ≤ w.heap.size + 1; omega) _
end Go.Proofs.Ytjkhhnfmefbohaa
