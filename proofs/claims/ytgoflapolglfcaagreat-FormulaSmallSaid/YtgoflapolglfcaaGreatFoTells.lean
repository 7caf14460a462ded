/- salvorlaw05.tells. -/
import Derived.Test.YtgoflapolglfcaaGreatFoTells14
import Derived.Deep.RegionHeld3
namespace Go.Proofs.YtgoflapolglfcaaGreat
open Go.RowKit Go.ChangeAt Go.ChangeShapes Go.WideShapes Go.Shelf Go.Sort

set_option maxRecDepth 100000 in
set_option maxHeartbeats 40000000 in
theorem tells_any {C : Nat} {fv mv : Value} {L : List (List Int)} {x : List Bool} (vars l : Int) (w : World) (hC : C ≤ w.heap.size) (hk : OkT L) (hx : x.length ≤ 1000000) (hL : RowsL C w fv L) (hm : Bools C w mv x) :
    Calls Tryz.prog 4 #[.agg #[.int .i64 vars, fv], mv, .int .i64 l] w fun e w' => e = .returned (.bool true) ∧ Below w.heap.size w w' := by
  obtain ⟨A, cap, rfl, -⟩ := rowsL_shape hL
  obtain ⟨Am, cm, rfl, -⟩ := bools_shape hm
  obtain ⟨m, hml⟩ : ∃ m, x.length = m := ⟨_, rfl⟩
  obtain ⟨n, hnl⟩ : ∃ n, L.length = n := ⟨_, rfl⟩
  have hb1 := below1a w (.cells #[.int .i64 vars, .slice A L.length cap] 27)
  have m1 := Whole.made w 27 #[.int .i64 vars, .slice A L.length cap]
  have hL1 := (hL.below (hb1.mono hC))
  have hm1 := (RowV.below (hb1.mono hC) hm)
  obtain ⟨w1, hw1⟩ : ∃ y, w.alloc (.cells #[.int .i64 vars, .slice A L.length cap] 27) = y := ⟨_, rfl⟩
  rw [hw1] at hb1 m1 hL1 hm1
  have hcp : ∀ W, Below w1.heap.size w1 W → Calls Tryz.prog 10 #[.agg #[.int .i64 vars, .slice A L.length cap]] W fun e W' => ∃ A1 c1, e = .returned (.agg #[.int .i64 vars, .slice A1 n c1]) ∧ OwnL W.heap.size W' (.slice A1 n c1) L ∧ Below W.heap.size W W' := fun W hb =>
    (copy_any vars W (Nat.le_trans hC (Nat.le_trans hb1.size hb.size)) hk.len hk.cl (hL1.below (hb.mono (Nat.le_trans hC hb1.size)))).mono fun e W' ⟨v', he, ho, hB⟩ => by
      obtain ⟨A1, c1, rfl⟩ := ho.len
      rw [cellsL_len, hnl] at he ho
      exact ⟨A1, c1, he, ho, hB⟩
  have hth : ∀ W, Below w1.heap.size w1 W → Calls Tryz.prog 11 #[.agg #[.int .i64 vars, .slice A L.length cap]] W fun e W' => ∃ A1 c1, e = .returned (.agg #[.int .i64 vars, .slice A1 n c1]) ∧ OwnI W.heap.size W' (.slice A1 n c1) L ∧ Below W.heap.size W W' := fun W hb =>
    (theirs_any vars W (Nat.le_trans hC (Nat.le_trans hb1.size hb.size)) hk.len hk.cl (hL1.below (hb.mono (Nat.le_trans hC hb1.size)))).mono fun e W' ⟨v', he, ho, hB⟩ => by
      obtain ⟨A1, c1, rfl⟩ := ho.len
      rw [cellsL_len, hnl] at he ho
      exact ⟨A1, c1, he, ho, hB⟩
  have hbt : ∀ W, Below w1.heap.size w1 W → Calls Tryz.prog 12 #[.slice Am x.length cm] W fun e W' => ∃ A1 c1, e = .returned (.slice A1 m c1) ∧ W'.ownsRow W.heap.size 3 1 (.slice A1 m c1) m ((x.map b2i).map (Value.int .i64)) ∧ Below W.heap.size W W' := fun W hb =>
    (bits_any hx W (Nat.le_trans hC (Nat.le_trans hb1.size hb.size)) (RowV.below (hb.mono (Nat.le_trans hC hb1.size)) hm1)).mono fun e W' ⟨v', he, ho, hB⟩ => by
      rw [List.length_map, hml] at ho
      obtain ⟨A1, c1, rfl⟩ := own_shape0 ho
      exact ⟨A1, c1, he, ho, hB⟩
  rw [hnl] at m1 hcp hth hL hL1 ⊢
  rw [hnl] at hw1
  rw [hml] at hbt hm hm1 ⊢
  have c0 : w1.cell? ⟨w.heap.size, 0, none⟩ = some (.int .i64 vars) := m1.cell 0
  have c1 : w1.cell? ⟨w.heap.size, 1, none⟩ = some (.slice A n cap) := m1.cell 1
  have HCp := Lib.hid hcp; have HTh := Lib.hid hth; have HBt := Lib.hid hbt; have HW1 := Lib.hid hw1; have HB1 := Lib.hid hb1; have HM1 := Lib.hid m1; have HL1 := Lib.hid hL1; have HMm := Lib.hid hm1; have HOk := Lib.hid hk; have HX := Lib.hid hml; have HNl := Lib.hid hnl
  clear hcp hth hbt hw1 hb1 m1 hL1 hm1 hk hL hm hml hnl
  go_enter Tryz.func4, Tryz.ntmps4
  go_upto_region 1 with fail
  rw [HW1.out]
  have hS0 : ∀ W, Below w1.heap.size w1 W → W.cell? ⟨w.heap.size, 0, none⟩ = some (.int .i64 vars) ∧ W.cell? ⟨w.heap.size, 1, none⟩ = some (.slice A n cap) := fun W hb => ⟨(hb.cell (p := ⟨w.heap.size, 0, none⟩) HM1.out.lt).trans c0, (hb.cell (p := ⟨w.heap.size, 1, none⟩) HM1.out.lt).trans c1⟩
  have HSS := Lib.hid hS0
  have hS := fun W hb => HSS.out W hb
  have H0' : Hid (R1 w1 w1.drew L x n m none none none none none) := Lib.hid (R1.start w1)
  have HBW := HB1
  go_cut [7, 8, 9] (fun s7 s8 s9 wx => TCut w1 L x vars n m s7 s8 s9 wx)
  case first =>
    have HS := Lib.hid (hS _ H0'.out.bl)
    refine wp_region_noPanic ?_
    refine wp_region_held_drew (S := fun W' => W'.cell? ⟨w.heap.size, 0, none⟩ = some (.int .i64 vars) ∧ W'.cell? ⟨w.heap.size, 1, none⟩ = some (.slice A n cap)) (by kernel_rfl) HS.out (fun _ => ?_)
    refine wpAnyH_take (i := 0) (v := .agg #[.int .i64 vars, .slice A n cap]) rfl (by kernel_rfl) (by kernel_rfl) (by kernel_rfl) (fun _ _ _ h => h) (Or.inl ⟨by kernel_rfl, fun w ⟨s0, s1⟩ => by go_simp⟩) HS.out ?_
    refine wpAnyH_take (i := 2) (v := .agg #[.int .i64 vars, .slice A n cap]) rfl (by kernel_rfl) (by kernel_rfl) (by kernel_rfl) (fun _ _ _ h => h) (Or.inl ⟨by kernel_rfl, fun w ⟨s0, s1⟩ => by go_simp⟩) HS.out ?_
    refine wpAnyH_take (i := 4) (v := .slice Am m cm) rfl (by kernel_rfl) (by kernel_rfl) (by kernel_rfl) (fun _ _ _ h => h) (Or.inl ⟨by kernel_rfl, fun w hS => by go_simp⟩) HS.out ?_
    obtain ⟨V0, hV0⟩ : ∃ y, w1.drew = y := ⟨_, rfl⟩
    rw [hV0] at H0' ⊢
    have H0 := H0'
    clear hV0 H0' HS c0 c1
  --R
    refine tl_dag (fun G HG => ?_)
    have k_3_1_1 : ∀ (V : World) (b7 b8 : Nat) (A1 A2 A3 : Option Addr) (c1 c2 c3 : Nat), Hid (R1 w1 V L x n m (some b7) (some b8) (some (A1, c1)) (some (A2, c2)) (some (A3, c3))) → G 3 #[true, true, true, true, true, true, true, true, false, false, false] (frT (.agg #[.int .i64 vars, .slice A n cap]) (.slice Am m cm) (.int .i64 l) (.pointer (some ⟨w.heap.size, 0, none⟩)) (.pointer (some ⟨b7, 0, none⟩)) (.pointer (some ⟨b8, 0, none⟩)) undef (.agg #[.int .i64 vars, .slice A1 n c1]) (.agg #[.int .i64 vars, .slice A2 n c2]) (.slice A3 m c3)) V := by
      as_aux_lemma =>
      intro V b7 b8 A1 A2 A3 c1 c2 c3 H
      refine HG.out.1 _ _ _ _ ?_
      unfold frT
      have Hl := Lib.hid (leaf_of H.out (vars := vars))
      obtain ⟨x0, x1, x2, x3, y0, y1, y2, y3, z7, z8⟩ := Hl.out.1
      refine wpAnyH_ready (rs := [8]) (by kernel_rfl) (by simp) (AllReadyH.cons rfl (fun K hK => ?_) AllReadyH.nil)
      go_simp
      have o : Whole ((V.setCell ⟨b7, 0, none⟩ (.int .i64 vars)).setCell ⟨b7, 1, none⟩ (.slice A1 n c1)) b8 40 #[.int .i64 0, .slice none 0 0] := (Hl.out.2.2.2.1.beside Hl.out.2.1.symm _).beside Hl.out.2.1.symm _
      have bl : Below w1.heap.size w1 ((V.setCell ⟨b7, 0, none⟩ (.int .i64 vars)).setCell ⟨b7, 1, none⟩ (.slice A1 n c1)) := (H.out.bl.setCell (p := ⟨b7, 0, none⟩) z7 _).setCell (p := ⟨b7, 1, none⟩) z7 _
      have o0 := o.cell 0; have o1 := o.cell 1; have o2 := o.frozen 0; have o3 := o.frozen 1
      refine hK.out _ _ (hS _ bl) (fun _ => ?_)
      clear hK K
      refine wpAnyH_ready (rs := [9]) (by kernel_rfl) (by simp) (AllReadyH.cons rfl (fun K hK => ?_) AllReadyH.nil)
      go_simp
      refine hK.out _ _ (hS _ ((bl.setCell (p := ⟨b8, 0, none⟩) z8 _).setCell (p := ⟨b8, 1, none⟩) z8 _)) (fun _ => ?_)
      clear hK K
      refine wpAnyH_take (i := 10) (v := .slice A3 m c3) rfl (by kernel_rfl) (by kernel_rfl) (by kernel_rfl) (fun _ _ _ h => h) (Or.inl ⟨by kernel_rfl, fun w hS => by go_simp⟩) (hS _ ((bl.setCell (p := ⟨b8, 0, none⟩) z8 _).setCell (p := ⟨b8, 1, none⟩) z8 _)) ?_
      refine wpAnyH_done (by kernel_rfl) ?_ _
      refine NoPanic.normal ?_
      go_simp
      go_wp2_with fail
      go_meet
      exact Hl.out.2.2.2.2.1
    have k_3_1_0 : ∀ (V : World) (b7 b8 : Nat) (A1 A2 A3 : Option Addr) (c1 c2 c3 : Nat), Hid (R1 w1 V L x n m (some b7) none (some (A1, c1)) (some (A2, c2)) (some (A3, c3))) → G 4 #[true, true, true, true, true, true, true, false, false, false, false] (frT (.agg #[.int .i64 vars, .slice A n cap]) (.slice Am m cm) (.int .i64 l) (.pointer (some ⟨w.heap.size, 0, none⟩)) (.pointer (some ⟨b7, 0, none⟩)) undef undef (.agg #[.int .i64 vars, .slice A1 n c1]) (.agg #[.int .i64 vars, .slice A2 n c2]) (.slice A3 m c3)) V := by
      as_aux_lemma =>
      intro V b7 b8 A1 A2 A3 c1 c2 c3 H
      refine HG.out.1 _ _ _ _ ?_
      unfold frT
      refine wpAnyH_ready (rs := [7]) (by kernel_rfl) (by simp) (AllReadyH.cons rfl (fun K hK => ?_) AllReadyH.nil)
      · go_simp
        have H1 := Lib.hid (H.out.alloc8)
        refine hK.out _ _ (hS _ H1.out.bl) (fun _ => ?_)
        exact HG.out.2 _ _ #[true, true, true, true, true, true, true, true, false, false, false] _ _ (by kernel_rfl) (k_3_1_1 _ b7 V.heap.size A1 A2 A3 c1 c2 c3 H1)
    have k_3_0_1 : ∀ (V : World) (b7 b8 : Nat) (A1 A2 A3 : Option Addr) (c1 c2 c3 : Nat), Hid (R1 w1 V L x n m none (some b8) (some (A1, c1)) (some (A2, c2)) (some (A3, c3))) → G 4 #[true, true, true, true, true, true, false, true, false, false, false] (frT (.agg #[.int .i64 vars, .slice A n cap]) (.slice Am m cm) (.int .i64 l) (.pointer (some ⟨w.heap.size, 0, none⟩)) undef (.pointer (some ⟨b8, 0, none⟩)) undef (.agg #[.int .i64 vars, .slice A1 n c1]) (.agg #[.int .i64 vars, .slice A2 n c2]) (.slice A3 m c3)) V := by
      as_aux_lemma =>
      intro V b7 b8 A1 A2 A3 c1 c2 c3 H
      refine HG.out.1 _ _ _ _ ?_
      unfold frT
      refine wpAnyH_ready (rs := [6]) (by kernel_rfl) (by simp) (AllReadyH.cons rfl (fun K hK => ?_) AllReadyH.nil)
      · go_simp
        have H1 := Lib.hid (H.out.alloc7)
        refine hK.out _ _ (hS _ H1.out.bl) (fun _ => ?_)
        exact HG.out.2 _ _ #[true, true, true, true, true, true, true, true, false, false, false] _ _ (by kernel_rfl) (k_3_1_1 _ V.heap.size b8 A1 A2 A3 c1 c2 c3 H1)
    have k_3_0_0 : ∀ (V : World) (b7 b8 : Nat) (A1 A2 A3 : Option Addr) (c1 c2 c3 : Nat), Hid (R1 w1 V L x n m none none (some (A1, c1)) (some (A2, c2)) (some (A3, c3))) → G 5 #[true, true, true, true, true, true, false, false, false, false, false] (frT (.agg #[.int .i64 vars, .slice A n cap]) (.slice Am m cm) (.int .i64 l) (.pointer (some ⟨w.heap.size, 0, none⟩)) undef undef undef (.agg #[.int .i64 vars, .slice A1 n c1]) (.agg #[.int .i64 vars, .slice A2 n c2]) (.slice A3 m c3)) V := by
      as_aux_lemma =>
      intro V b7 b8 A1 A2 A3 c1 c2 c3 H
      refine HG.out.1 _ _ _ _ ?_
      unfold frT
      refine wpAnyH_ready (rs := [6, 7]) (by kernel_rfl) (by simp) (AllReadyH.cons rfl (fun K hK => ?_) (AllReadyH.cons rfl (fun K hK => ?_) AllReadyH.nil))
      · go_simp
        have H1 := Lib.hid (H.out.alloc7)
        refine hK.out _ _ (hS _ H1.out.bl) (fun _ => ?_)
        exact HG.out.2 _ _ #[true, true, true, true, true, true, true, false, false, false, false] _ _ (by kernel_rfl) (k_3_1_0 _ V.heap.size b8 A1 A2 A3 c1 c2 c3 H1)
      · go_simp
        have H1 := Lib.hid (H.out.alloc8)
        refine hK.out _ _ (hS _ H1.out.bl) (fun _ => ?_)
        exact HG.out.2 _ _ #[true, true, true, true, true, true, false, true, false, false, false] _ _ (by kernel_rfl) (k_3_0_1 _ b7 V.heap.size A1 A2 A3 c1 c2 c3 H1)
    have k_2_1_1 : ∀ (V : World) (b7 b8 : Nat) (A1 A2 A3 : Option Addr) (c1 c2 c3 : Nat), Hid (R1 w1 V L x n m (some b7) (some b8) (some (A1, c1)) (some (A2, c2)) none) → G 4 #[true, true, true, true, true, false, true, true, false, false, false] (frT (.agg #[.int .i64 vars, .slice A n cap]) (.slice Am m cm) (.int .i64 l) (.pointer (some ⟨w.heap.size, 0, none⟩)) (.pointer (some ⟨b7, 0, none⟩)) (.pointer (some ⟨b8, 0, none⟩)) undef (.agg #[.int .i64 vars, .slice A1 n c1]) (.agg #[.int .i64 vars, .slice A2 n c2]) undef) V := by
      as_aux_lemma =>
      intro V b7 b8 A1 A2 A3 c1 c2 c3 H
      refine HG.out.1 _ _ _ _ ?_
      unfold frT
      refine wpAnyH_ready (rs := [5]) (by kernel_rfl) (by simp) (AllReadyH.cons rfl (fun K hK => ?_) AllReadyH.nil)
      · go_simp
        refine (HBt.out _ H.out.bl).mono ?_
        rintro r V1 ⟨A3, c3, rfl, hr, hb⟩
        have H1 := Lib.hid (H.out.bits hb hr)
        clear hr hb
        go_simp
        refine hK.out _ _ (hS _ H1.out.bl) (fun _ => ?_)
        exact HG.out.2 _ _ #[true, true, true, true, true, true, true, true, false, false, false] _ _ (by kernel_rfl) (k_3_1_1 V1 b7 b8 A1 A2 A3 c1 c2 c3 H1)
    have k_2_1_0 : ∀ (V : World) (b7 b8 : Nat) (A1 A2 A3 : Option Addr) (c1 c2 c3 : Nat), Hid (R1 w1 V L x n m (some b7) none (some (A1, c1)) (some (A2, c2)) none) → G 5 #[true, true, true, true, true, false, true, false, false, false, false] (frT (.agg #[.int .i64 vars, .slice A n cap]) (.slice Am m cm) (.int .i64 l) (.pointer (some ⟨w.heap.size, 0, none⟩)) (.pointer (some ⟨b7, 0, none⟩)) undef undef (.agg #[.int .i64 vars, .slice A1 n c1]) (.agg #[.int .i64 vars, .slice A2 n c2]) undef) V := by
      as_aux_lemma =>
      intro V b7 b8 A1 A2 A3 c1 c2 c3 H
      refine HG.out.1 _ _ _ _ ?_
      unfold frT
      refine wpAnyH_ready (rs := [5, 7]) (by kernel_rfl) (by simp) (AllReadyH.cons rfl (fun K hK => ?_) (AllReadyH.cons rfl (fun K hK => ?_) AllReadyH.nil))
      · go_simp
        refine (HBt.out _ H.out.bl).mono ?_
        rintro r V1 ⟨A3, c3, rfl, hr, hb⟩
        have H1 := Lib.hid (H.out.bits hb hr)
        clear hr hb
        go_simp
        refine hK.out _ _ (hS _ H1.out.bl) (fun _ => ?_)
        exact HG.out.2 _ _ #[true, true, true, true, true, true, true, false, false, false, false] _ _ (by kernel_rfl) (k_3_1_0 V1 b7 b8 A1 A2 A3 c1 c2 c3 H1)
      · go_simp
        have H1 := Lib.hid (H.out.alloc8)
        refine hK.out _ _ (hS _ H1.out.bl) (fun _ => ?_)
        exact HG.out.2 _ _ #[true, true, true, true, true, false, true, true, false, false, false] _ _ (by kernel_rfl) (k_2_1_1 _ b7 V.heap.size A1 A2 A3 c1 c2 c3 H1)
    have k_2_0_1 : ∀ (V : World) (b7 b8 : Nat) (A1 A2 A3 : Option Addr) (c1 c2 c3 : Nat), Hid (R1 w1 V L x n m none (some b8) (some (A1, c1)) (some (A2, c2)) none) → G 5 #[true, true, true, true, true, false, false, true, false, false, false] (frT (.agg #[.int .i64 vars, .slice A n cap]) (.slice Am m cm) (.int .i64 l) (.pointer (some ⟨w.heap.size, 0, none⟩)) undef (.pointer (some ⟨b8, 0, none⟩)) undef (.agg #[.int .i64 vars, .slice A1 n c1]) (.agg #[.int .i64 vars, .slice A2 n c2]) undef) V := by
      as_aux_lemma =>
      intro V b7 b8 A1 A2 A3 c1 c2 c3 H
      refine HG.out.1 _ _ _ _ ?_
      unfold frT
      refine wpAnyH_ready (rs := [5, 6]) (by kernel_rfl) (by simp) (AllReadyH.cons rfl (fun K hK => ?_) (AllReadyH.cons rfl (fun K hK => ?_) AllReadyH.nil))
      · go_simp
        refine (HBt.out _ H.out.bl).mono ?_
        rintro r V1 ⟨A3, c3, rfl, hr, hb⟩
        have H1 := Lib.hid (H.out.bits hb hr)
        clear hr hb
        go_simp
        refine hK.out _ _ (hS _ H1.out.bl) (fun _ => ?_)
        exact HG.out.2 _ _ #[true, true, true, true, true, true, false, true, false, false, false] _ _ (by kernel_rfl) (k_3_0_1 V1 b7 b8 A1 A2 A3 c1 c2 c3 H1)
      · go_simp
        have H1 := Lib.hid (H.out.alloc7)
        refine hK.out _ _ (hS _ H1.out.bl) (fun _ => ?_)
        exact HG.out.2 _ _ #[true, true, true, true, true, false, true, true, false, false, false] _ _ (by kernel_rfl) (k_2_1_1 _ V.heap.size b8 A1 A2 A3 c1 c2 c3 H1)
    have k_2_0_0 : ∀ (V : World) (b7 b8 : Nat) (A1 A2 A3 : Option Addr) (c1 c2 c3 : Nat), Hid (R1 w1 V L x n m none none (some (A1, c1)) (some (A2, c2)) none) → G 6 #[true, true, true, true, true, false, false, false, false, false, false] (frT (.agg #[.int .i64 vars, .slice A n cap]) (.slice Am m cm) (.int .i64 l) (.pointer (some ⟨w.heap.size, 0, none⟩)) undef undef undef (.agg #[.int .i64 vars, .slice A1 n c1]) (.agg #[.int .i64 vars, .slice A2 n c2]) undef) V := by
      as_aux_lemma =>
      intro V b7 b8 A1 A2 A3 c1 c2 c3 H
      refine HG.out.1 _ _ _ _ ?_
      unfold frT
      refine wpAnyH_ready (rs := [5, 6, 7]) (by kernel_rfl) (by simp) (AllReadyH.cons rfl (fun K hK => ?_) (AllReadyH.cons rfl (fun K hK => ?_) (AllReadyH.cons rfl (fun K hK => ?_) AllReadyH.nil)))
      · go_simp
        refine (HBt.out _ H.out.bl).mono ?_
        rintro r V1 ⟨A3, c3, rfl, hr, hb⟩
        have H1 := Lib.hid (H.out.bits hb hr)
        clear hr hb
        go_simp
        refine hK.out _ _ (hS _ H1.out.bl) (fun _ => ?_)
        exact HG.out.2 _ _ #[true, true, true, true, true, true, false, false, false, false, false] _ _ (by kernel_rfl) (k_3_0_0 V1 b7 b8 A1 A2 A3 c1 c2 c3 H1)
      · go_simp
        have H1 := Lib.hid (H.out.alloc7)
        refine hK.out _ _ (hS _ H1.out.bl) (fun _ => ?_)
        exact HG.out.2 _ _ #[true, true, true, true, true, false, true, false, false, false, false] _ _ (by kernel_rfl) (k_2_1_0 _ V.heap.size b8 A1 A2 A3 c1 c2 c3 H1)
      · go_simp
        have H1 := Lib.hid (H.out.alloc8)
        refine hK.out _ _ (hS _ H1.out.bl) (fun _ => ?_)
        exact HG.out.2 _ _ #[true, true, true, true, true, false, false, true, false, false, false] _ _ (by kernel_rfl) (k_2_0_1 _ b7 V.heap.size A1 A2 A3 c1 c2 c3 H1)
    have k_1_1_1 : ∀ (V : World) (b7 b8 : Nat) (A1 A2 A3 : Option Addr) (c1 c2 c3 : Nat), Hid (R1 w1 V L x n m (some b7) (some b8) (some (A1, c1)) none none) → G 5 #[true, true, true, false, true, false, true, true, false, false, false] (frT (.agg #[.int .i64 vars, .slice A n cap]) (.slice Am m cm) (.int .i64 l) (.pointer (some ⟨w.heap.size, 0, none⟩)) (.pointer (some ⟨b7, 0, none⟩)) (.pointer (some ⟨b8, 0, none⟩)) undef (.agg #[.int .i64 vars, .slice A1 n c1]) undef undef) V := by
      as_aux_lemma =>
      intro V b7 b8 A1 A2 A3 c1 c2 c3 H
      refine HG.out.1 _ _ _ _ ?_
      unfold frT
      refine wpAnyH_ready (rs := [3]) (by kernel_rfl) (by simp) (AllReadyH.cons rfl (fun K hK => ?_) AllReadyH.nil)
      · go_simp
        refine (HTh.out _ H.out.bl).mono ?_
        rintro r V1 ⟨A2, c2, rfl, hr, hb⟩
        have H1 := Lib.hid (H.out.theirs hb hr)
        clear hr hb
        go_simp
        refine hK.out _ _ (hS _ H1.out.bl) (fun _ => ?_)
        exact HG.out.2 _ _ #[true, true, true, true, true, false, true, true, false, false, false] _ _ (by kernel_rfl) (k_2_1_1 V1 b7 b8 A1 A2 A3 c1 c2 c3 H1)
    have k_1_1_0 : ∀ (V : World) (b7 b8 : Nat) (A1 A2 A3 : Option Addr) (c1 c2 c3 : Nat), Hid (R1 w1 V L x n m (some b7) none (some (A1, c1)) none none) → G 6 #[true, true, true, false, true, false, true, false, false, false, false] (frT (.agg #[.int .i64 vars, .slice A n cap]) (.slice Am m cm) (.int .i64 l) (.pointer (some ⟨w.heap.size, 0, none⟩)) (.pointer (some ⟨b7, 0, none⟩)) undef undef (.agg #[.int .i64 vars, .slice A1 n c1]) undef undef) V := by
      as_aux_lemma =>
      intro V b7 b8 A1 A2 A3 c1 c2 c3 H
      refine HG.out.1 _ _ _ _ ?_
      unfold frT
      refine wpAnyH_ready (rs := [3, 7]) (by kernel_rfl) (by simp) (AllReadyH.cons rfl (fun K hK => ?_) (AllReadyH.cons rfl (fun K hK => ?_) AllReadyH.nil))
      · go_simp
        refine (HTh.out _ H.out.bl).mono ?_
        rintro r V1 ⟨A2, c2, rfl, hr, hb⟩
        have H1 := Lib.hid (H.out.theirs hb hr)
        clear hr hb
        go_simp
        refine hK.out _ _ (hS _ H1.out.bl) (fun _ => ?_)
        exact HG.out.2 _ _ #[true, true, true, true, true, false, true, false, false, false, false] _ _ (by kernel_rfl) (k_2_1_0 V1 b7 b8 A1 A2 A3 c1 c2 c3 H1)
      · go_simp
        have H1 := Lib.hid (H.out.alloc8)
        refine hK.out _ _ (hS _ H1.out.bl) (fun _ => ?_)
        exact HG.out.2 _ _ #[true, true, true, false, true, false, true, true, false, false, false] _ _ (by kernel_rfl) (k_1_1_1 _ b7 V.heap.size A1 A2 A3 c1 c2 c3 H1)
    have k_1_0_1 : ∀ (V : World) (b7 b8 : Nat) (A1 A2 A3 : Option Addr) (c1 c2 c3 : Nat), Hid (R1 w1 V L x n m none (some b8) (some (A1, c1)) none none) → G 6 #[true, true, true, false, true, false, false, true, false, false, false] (frT (.agg #[.int .i64 vars, .slice A n cap]) (.slice Am m cm) (.int .i64 l) (.pointer (some ⟨w.heap.size, 0, none⟩)) undef (.pointer (some ⟨b8, 0, none⟩)) undef (.agg #[.int .i64 vars, .slice A1 n c1]) undef undef) V := by
      as_aux_lemma =>
      intro V b7 b8 A1 A2 A3 c1 c2 c3 H
      refine HG.out.1 _ _ _ _ ?_
      unfold frT
      refine wpAnyH_ready (rs := [3, 6]) (by kernel_rfl) (by simp) (AllReadyH.cons rfl (fun K hK => ?_) (AllReadyH.cons rfl (fun K hK => ?_) AllReadyH.nil))
      · go_simp
        refine (HTh.out _ H.out.bl).mono ?_
        rintro r V1 ⟨A2, c2, rfl, hr, hb⟩
        have H1 := Lib.hid (H.out.theirs hb hr)
        clear hr hb
        go_simp
        refine hK.out _ _ (hS _ H1.out.bl) (fun _ => ?_)
        exact HG.out.2 _ _ #[true, true, true, true, true, false, false, true, false, false, false] _ _ (by kernel_rfl) (k_2_0_1 V1 b7 b8 A1 A2 A3 c1 c2 c3 H1)
      · go_simp
        have H1 := Lib.hid (H.out.alloc7)
        refine hK.out _ _ (hS _ H1.out.bl) (fun _ => ?_)
        exact HG.out.2 _ _ #[true, true, true, false, true, false, true, true, false, false, false] _ _ (by kernel_rfl) (k_1_1_1 _ V.heap.size b8 A1 A2 A3 c1 c2 c3 H1)
    have k_1_0_0 : ∀ (V : World) (b7 b8 : Nat) (A1 A2 A3 : Option Addr) (c1 c2 c3 : Nat), Hid (R1 w1 V L x n m none none (some (A1, c1)) none none) → G 7 #[true, true, true, false, true, false, false, false, false, false, false] (frT (.agg #[.int .i64 vars, .slice A n cap]) (.slice Am m cm) (.int .i64 l) (.pointer (some ⟨w.heap.size, 0, none⟩)) undef undef undef (.agg #[.int .i64 vars, .slice A1 n c1]) undef undef) V := by
      as_aux_lemma =>
      intro V b7 b8 A1 A2 A3 c1 c2 c3 H
      refine HG.out.1 _ _ _ _ ?_
      unfold frT
      refine wpAnyH_ready (rs := [3, 6, 7]) (by kernel_rfl) (by simp) (AllReadyH.cons rfl (fun K hK => ?_) (AllReadyH.cons rfl (fun K hK => ?_) (AllReadyH.cons rfl (fun K hK => ?_) AllReadyH.nil)))
      · go_simp
        refine (HTh.out _ H.out.bl).mono ?_
        rintro r V1 ⟨A2, c2, rfl, hr, hb⟩
        have H1 := Lib.hid (H.out.theirs hb hr)
        clear hr hb
        go_simp
        refine hK.out _ _ (hS _ H1.out.bl) (fun _ => ?_)
        exact HG.out.2 _ _ #[true, true, true, true, true, false, false, false, false, false, false] _ _ (by kernel_rfl) (k_2_0_0 V1 b7 b8 A1 A2 A3 c1 c2 c3 H1)
      · go_simp
        have H1 := Lib.hid (H.out.alloc7)
        refine hK.out _ _ (hS _ H1.out.bl) (fun _ => ?_)
        exact HG.out.2 _ _ #[true, true, true, false, true, false, true, false, false, false, false] _ _ (by kernel_rfl) (k_1_1_0 _ V.heap.size b8 A1 A2 A3 c1 c2 c3 H1)
      · go_simp
        have H1 := Lib.hid (H.out.alloc8)
        refine hK.out _ _ (hS _ H1.out.bl) (fun _ => ?_)
        exact HG.out.2 _ _ #[true, true, true, false, true, false, false, true, false, false, false] _ _ (by kernel_rfl) (k_1_0_1 _ b7 V.heap.size A1 A2 A3 c1 c2 c3 H1)
    have k_0_1_1 : ∀ (V : World) (b7 b8 : Nat) (A1 A2 A3 : Option Addr) (c1 c2 c3 : Nat), Hid (R1 w1 V L x n m (some b7) (some b8) none none none) → G 6 #[true, false, true, false, true, false, true, true, false, false, false] (frT (.agg #[.int .i64 vars, .slice A n cap]) (.slice Am m cm) (.int .i64 l) (.pointer (some ⟨w.heap.size, 0, none⟩)) (.pointer (some ⟨b7, 0, none⟩)) (.pointer (some ⟨b8, 0, none⟩)) undef undef undef undef) V := by
      as_aux_lemma =>
      intro V b7 b8 A1 A2 A3 c1 c2 c3 H
      refine HG.out.1 _ _ _ _ ?_
      unfold frT
      refine wpAnyH_ready (rs := [1]) (by kernel_rfl) (by simp) (AllReadyH.cons rfl (fun K hK => ?_) AllReadyH.nil)
      · go_simp
        refine (HCp.out _ H.out.bl).mono ?_
        rintro r V1 ⟨A1, c1, rfl, hr, hb⟩
        have H1 := Lib.hid (H.out.copy hb hr)
        clear hr hb
        go_simp
        refine hK.out _ _ (hS _ H1.out.bl) (fun _ => ?_)
        exact HG.out.2 _ _ #[true, true, true, false, true, false, true, true, false, false, false] _ _ (by kernel_rfl) (k_1_1_1 V1 b7 b8 A1 A2 A3 c1 c2 c3 H1)
    have k_0_1_0 : ∀ (V : World) (b7 b8 : Nat) (A1 A2 A3 : Option Addr) (c1 c2 c3 : Nat), Hid (R1 w1 V L x n m (some b7) none none none none) → G 7 #[true, false, true, false, true, false, true, false, false, false, false] (frT (.agg #[.int .i64 vars, .slice A n cap]) (.slice Am m cm) (.int .i64 l) (.pointer (some ⟨w.heap.size, 0, none⟩)) (.pointer (some ⟨b7, 0, none⟩)) undef undef undef undef undef) V := by
      as_aux_lemma =>
      intro V b7 b8 A1 A2 A3 c1 c2 c3 H
      refine HG.out.1 _ _ _ _ ?_
      unfold frT
      refine wpAnyH_ready (rs := [1, 7]) (by kernel_rfl) (by simp) (AllReadyH.cons rfl (fun K hK => ?_) (AllReadyH.cons rfl (fun K hK => ?_) AllReadyH.nil))
      · go_simp
        refine (HCp.out _ H.out.bl).mono ?_
        rintro r V1 ⟨A1, c1, rfl, hr, hb⟩
        have H1 := Lib.hid (H.out.copy hb hr)
        clear hr hb
        go_simp
        refine hK.out _ _ (hS _ H1.out.bl) (fun _ => ?_)
        exact HG.out.2 _ _ #[true, true, true, false, true, false, true, false, false, false, false] _ _ (by kernel_rfl) (k_1_1_0 V1 b7 b8 A1 A2 A3 c1 c2 c3 H1)
      · go_simp
        have H1 := Lib.hid (H.out.alloc8)
        refine hK.out _ _ (hS _ H1.out.bl) (fun _ => ?_)
        exact HG.out.2 _ _ #[true, false, true, false, true, false, true, true, false, false, false] _ _ (by kernel_rfl) (k_0_1_1 _ b7 V.heap.size A1 A2 A3 c1 c2 c3 H1)
    have k_0_0_1 : ∀ (V : World) (b7 b8 : Nat) (A1 A2 A3 : Option Addr) (c1 c2 c3 : Nat), Hid (R1 w1 V L x n m none (some b8) none none none) → G 7 #[true, false, true, false, true, false, false, true, false, false, false] (frT (.agg #[.int .i64 vars, .slice A n cap]) (.slice Am m cm) (.int .i64 l) (.pointer (some ⟨w.heap.size, 0, none⟩)) undef (.pointer (some ⟨b8, 0, none⟩)) undef undef undef undef) V := by
      as_aux_lemma =>
      intro V b7 b8 A1 A2 A3 c1 c2 c3 H
      refine HG.out.1 _ _ _ _ ?_
      unfold frT
      refine wpAnyH_ready (rs := [1, 6]) (by kernel_rfl) (by simp) (AllReadyH.cons rfl (fun K hK => ?_) (AllReadyH.cons rfl (fun K hK => ?_) AllReadyH.nil))
      · go_simp
        refine (HCp.out _ H.out.bl).mono ?_
        rintro r V1 ⟨A1, c1, rfl, hr, hb⟩
        have H1 := Lib.hid (H.out.copy hb hr)
        clear hr hb
        go_simp
        refine hK.out _ _ (hS _ H1.out.bl) (fun _ => ?_)
        exact HG.out.2 _ _ #[true, true, true, false, true, false, false, true, false, false, false] _ _ (by kernel_rfl) (k_1_0_1 V1 b7 b8 A1 A2 A3 c1 c2 c3 H1)
      · go_simp
        have H1 := Lib.hid (H.out.alloc7)
        refine hK.out _ _ (hS _ H1.out.bl) (fun _ => ?_)
        exact HG.out.2 _ _ #[true, false, true, false, true, false, true, true, false, false, false] _ _ (by kernel_rfl) (k_0_1_1 _ V.heap.size b8 A1 A2 A3 c1 c2 c3 H1)
    have k_0_0_0 : ∀ (V : World) (b7 b8 : Nat) (A1 A2 A3 : Option Addr) (c1 c2 c3 : Nat), Hid (R1 w1 V L x n m none none none none none) → G 8 #[true, false, true, false, true, false, false, false, false, false, false] (frT (.agg #[.int .i64 vars, .slice A n cap]) (.slice Am m cm) (.int .i64 l) (.pointer (some ⟨w.heap.size, 0, none⟩)) undef undef undef undef undef undef) V := by
      as_aux_lemma =>
      intro V b7 b8 A1 A2 A3 c1 c2 c3 H
      refine HG.out.1 _ _ _ _ ?_
      unfold frT
      refine wpAnyH_ready (rs := [1, 6, 7]) (by kernel_rfl) (by simp) (AllReadyH.cons rfl (fun K hK => ?_) (AllReadyH.cons rfl (fun K hK => ?_) (AllReadyH.cons rfl (fun K hK => ?_) AllReadyH.nil)))
      · go_simp
        refine (HCp.out _ H.out.bl).mono ?_
        rintro r V1 ⟨A1, c1, rfl, hr, hb⟩
        have H1 := Lib.hid (H.out.copy hb hr)
        clear hr hb
        go_simp
        refine hK.out _ _ (hS _ H1.out.bl) (fun _ => ?_)
        exact HG.out.2 _ _ #[true, true, true, false, true, false, false, false, false, false, false] _ _ (by kernel_rfl) (k_1_0_0 V1 b7 b8 A1 A2 A3 c1 c2 c3 H1)
      · go_simp
        have H1 := Lib.hid (H.out.alloc7)
        refine hK.out _ _ (hS _ H1.out.bl) (fun _ => ?_)
        exact HG.out.2 _ _ #[true, false, true, false, true, false, true, false, false, false, false] _ _ (by kernel_rfl) (k_0_1_0 _ V.heap.size b8 A1 A2 A3 c1 c2 c3 H1)
      · go_simp
        have H1 := Lib.hid (H.out.alloc8)
        refine hK.out _ _ (hS _ H1.out.bl) (fun _ => ?_)
        exact HG.out.2 _ _ #[true, false, true, false, true, false, false, true, false, false, false] _ _ (by kernel_rfl) (k_0_0_1 _ b7 V.heap.size A1 A2 A3 c1 c2 c3 H1)
    exact HG.out.2 _ _ #[true, false, true, false, true, false, false, false, false, false, false] _ _ (by kernel_rfl) (k_0_0_0 V0 0 0 none none none 0 0 0 H0)
  --r
  case rest =>
    clear c0 c1 hS HSS hS0 H0' HBW
    obtain ⟨p7, p8, A1, c1, A2, c2, A3, c3, rfl, rfl, rfl, W0, rfl, h0⟩ := hcut
    have hB : Below w1.heap.size w1 W0 := h0.below
    have h0 := ((h0.addF (v := .slice A n cap) (L := L) ((HL1.out.below (hB.mono (Nat.le_trans hC HB1.out.size))).more (Nat.le_trans hC (Nat.le_trans HB1.out.size hB.size)))).addM (v := .slice Am m cm) (x := x) ((RowV.below (hB.mono (Nat.le_trans hC HB1.out.size)) HMm.out).more (Nat.le_trans hC (Nat.le_trans HB1.out.size hB.size)))).addS (HM1.out.same (hB.block _ HM1.out.lt))
    have H0 := Lib.hid h0
    clear h0 hB
    obtain ⟨ci, cE, hck⟩ : ∃ i E, chkI vars L = (i, E) := ⟨_, _, rfl⟩
    obtain ⟨vq, hvq⟩ : ∃ q, valueR vars L x = q := ⟨_, rfl⟩
    obtain ⟨fi, fq, fE, hfl⟩ : ∃ i q E, failsR vars L x = (i, q, E) := ⟨_, _, _, rfl⟩
    obtain ⟨aV, aN, aE, has⟩ : ∃ V N E, asgR vars l L = (V, N, E) := ⟨_, _, _, rfl⟩
    obtain ⟨nV, nN, nE, hnr⟩ : ∃ V N E, nrmR vars L = (V, N, E) := ⟨_, _, _, rfl⟩
    obtain ⟨T, hT⟩ : ∃ T, triedE vars L = T := ⟨_, rfl⟩
    obtain ⟨K, hK⟩ : ∃ K, (mdlR vars L).length = K := ⟨_, rfl⟩
    obtain ⟨fx, hfx⟩ : ∃ y, (mdlR vars L)[0]?.getD [] = y := ⟨_, rfl⟩
    have HCk := Lib.hid hck; have HVq := Lib.hid hvq; have HFl := Lib.hid hfl; have HAs := Lib.hid has; have HNr := Lib.hid hnr; have HT := Lib.hid hT; have HK := Lib.hid hK; have HFx := Lib.hid hfx
    have HfE : Hid ((failsR vars L x).2.2 = fE) := Lib.hid (by rw [hfl])
    clear hck hvq hfl has hnr hT hK hfx
    obtain ⟨a7, d7⟩ := tl_box H0.out (g := p7) (t := 27) (u := .int .i64 vars) (v := .slice A1 n c1) (by simp)
    obtain ⟨a8, d8⟩ := tl_box H0.out (g := p8) (t := 40) (u := .int .i64 vars) (v := .slice A2 n c2) (by simp)
    go_wp2_with fail
    refine (tl_equal (q := true) vars vars H0.out (by simp) (by simp) HOk.out HOk.out (by simp)).mono ?_
    rintro e W1 ⟨rfl, h1⟩
    have H1 := Lib.hid (h1)
    clear h1 a7 d7 a8 d8
    obtain ⟨a3, d3⟩ := tl_box H1.out (g := w.heap.size) (t := 27) (u := .int .i64 vars) (v := .slice A n cap) (by simp)
    obtain ⟨a7, d7⟩ := tl_box H1.out (g := p7) (t := 27) (u := .int .i64 vars) (v := .slice A1 n c1) (by simp)
    go_wp2_with fail
    refine (tl_same (q := true) vars vars H1.out (by simp) (by simp) HOk.out HOk.out (by simp)).mono ?_
    rintro e W2 ⟨rfl, h2⟩
    have H2 := Lib.hid (h2)
    clear h2 a7 d7 a3 d3
    obtain ⟨a7, d7⟩ := tl_box H2.out (g := p7) (t := 27) (u := .int .i64 vars) (v := .slice A1 n c1) (by simp)
    go_wp2_with fail
    refine (tl_check vars H2.out (by simp) HOk.out HCk.out).mono ?_
    rintro e W3 ⟨rfl, h3⟩
    have H3 := Lib.hid (h3)
    clear h3 a7 d7
    obtain ⟨a8, d8⟩ := tl_box H3.out (g := p8) (t := 40) (u := .int .i64 vars) (v := .slice A2 n c2) (by simp)
    go_wp2_with fail
    refine (tl_refcheck vars H3.out (by simp) HOk.out HCk.out).mono ?_
    rintro e W4 ⟨rfl, h4⟩
    have H4 := Lib.hid (h4)
    clear h4 a8 d8
    obtain ⟨a7, d7⟩ := tl_box H4.out (g := p7) (t := 27) (u := .int .i64 vars) (v := .slice A1 n c1) (by simp)
    go_wp2_with fail
    refine (tl_value vars H4.out (by simp) (by simp) HOk.out HVq.out HfE.out).mono ?_
    rintro e W5 ⟨rfl, h5⟩
    have H5 := Lib.hid (h5)
    clear h5 a7 d7
    obtain ⟨a7, d7⟩ := tl_box H5.out (g := p7) (t := 27) (u := .int .i64 vars) (v := .slice A1 n c1) (by simp)
    go_wp2_with fail
    refine (tl_fails vars H5.out (by simp) (by simp) HOk.out HFl.out).mono ?_
    rintro e W6 ⟨rfl, h6⟩
    have H6 := Lib.hid (h6)
    clear h6 a7 d7
    obtain ⟨a7, d7⟩ := tl_box H6.out (g := p7) (t := 27) (u := .int .i64 vars) (v := .slice A1 n c1) (by simp)
    go_wp2_with fail
    refine (tl_assign vars l H6.out (by simp) HOk.out HAs.out).mono ?_
    rintro e W7 ⟨A4, c4, rfl, h7⟩
    have H7 := Lib.hid (h7.box 27 #[.int .i64 aV, .slice A4 aN.length c4])
    clear h7 a7 d7
    obtain ⟨a7, d7⟩ := tl_box H7.out (g := p7) (t := 27) (u := .int .i64 vars) (v := .slice A1 n c1) (by simp)
    go_wp2_with fail
    refine (tl_norm vars H7.out (by simp) HOk.out HNr.out).mono ?_
    rintro e W8 ⟨A5, c5, rfl, h8⟩
    have H8 := Lib.hid (h8.box 27 #[.int .i64 nV, .slice A5 nN.length c5])
    clear h8 a7 d7
    obtain ⟨a7, d7⟩ := tl_box H8.out (g := p7) (t := 27) (u := .int .i64 vars) (v := .slice A1 n c1) (by simp)
    go_wp2_with fail
    refine (tl_count vars H8.out (by simp) HOk.out HT.out HK.out).mono ?_
    rintro e W9 ⟨rfl, h9⟩
    have H9 := Lib.hid (h9)
    clear h9 a7 d7
    obtain ⟨a7, d7⟩ := tl_box H9.out (g := p7) (t := 27) (u := .int .i64 vars) (v := .slice A1 n c1) (by simp)
    go_wp2_with fail
    refine (tl_first vars H9.out (by simp) HOk.out HT.out HK.out HFx.out).mono ?_
    rintro e W10 ⟨A6, c6, rfl, h10⟩
    have H10 := Lib.hid (h10)
    clear h10 a7 d7
    obtain ⟨a7, d7⟩ := tl_box H10.out (g := p7) (t := 27) (u := .int .i64 vars) (v := .slice A1 n c1) (by simp)
    go_wp2_with fail
    refine (tl_models vars H10.out (by simp) HOk.out HT.out).mono ?_
    rintro e W11 ⟨mv, rfl, hmv, h11⟩
    have HMv := Lib.hid hmv; have HB11 := Lib.hid (HB1.out.trans (h11.below.mono HB1.out.size))
    have H11 := Lib.hid (h11.restart)
    clear h11 hmv a7 d7
    obtain ⟨a7, d7⟩ := tl_box H11.out (g := p7) (t := 27) (u := .int .i64 vars) (v := .slice A1 n c1) (by simp)
    obtain ⟨a8, d8⟩ := tl_box H11.out (g := p8) (t := 40) (u := .int .i64 vars) (v := .slice A2 n c2) (by simp)
    go_wp2_with fail
    refine (tl_equal (q := true) vars vars H11.out (by simp) (by simp) HOk.out HOk.out (by simp)).mono ?_
    rintro e W12 ⟨rfl, h12⟩
    have H12 := Lib.hid (h12)
    clear h12 a7 d7 a8 d8
    go_wp2_with fail
    refine (tl_bits H12.out (by simp) hx HX.out).mono ?_
    rintro e W13 ⟨A7, c7, rfl, h13⟩
    have H13 := Lib.hid (h13)
    clear h13 
    go_wp2_with fail
    refine (tl_eqints (zs := x.map b2i) H13.out (by simp) (by simp) (by rw [List.length_map]; exact hx)).mono ?_
    rintro e W14 ⟨rfl, h14⟩
    have H14 := Lib.hid ((h14.box 27 #[.int .i64 0, .slice none 0 0]).addF (v := .slice none 0 0) (L := []) (.inl ⟨none, 0, rfl, (fun _ => rfl), rfl⟩))
    clear h14 
    go_upto_region 15 with fail
    go_cut [30] (fun s30 wx => s30 = .pointer (some ⟨W14.heap.size, 0, none⟩) ∧ ∃ W, W = wx ∧ W = W14.alloc (.cells #[.int .i64 0, .slice none 0 0] 27))
    case first =>
      go_wp2_with fail
      go_meet
      exact ⟨rfl, _, rfl, rfl⟩
    case rest =>
      obtain ⟨rfl, W, rfl, hW⟩ := hcut
      subst hW
      go_step
      refine tl_whole (f := Tryz.f4) 14 rfl rfl ?_
      exact tells_14 HX HAs HVq HFl HOk HCk HNr HT HK HFx HMv HB11 H14
end Go.Proofs.YtgoflapolglfcaaGreat
