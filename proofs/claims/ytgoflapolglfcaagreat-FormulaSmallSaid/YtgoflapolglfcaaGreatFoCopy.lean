/- formula.Copy. -/
import Derived.Test.YtgoflapolglfcaaGreatFoAwake
namespace Go.Proofs.YtgoflapolglfcaaGreat
open Go.RowKit Go.ChangeAt Go.ChangeShapes Go.WideShapes Go.Shelf Go.Sort

/-- append of numbers to a row, at a step of a region that draws. -/
theorem step_append2 {P : Program} {w : World} {ops : Array Oper} {o : Oper} {a : Act} {K : Act → World → Prop} {Q : Exit → Act → World → Prop} {E : Prop} (hgd : o.guard = none) (s x : Operand) (t tx : TypeId)
    (ho : o.op = .call { callee := .builtin .append, args := #[s, x], argTypes := #[t, tx] }) (e : TypeId) (i : TypeInfo) (z : Value) (bytes : Nat) (ht : P.underlying t = some (.slice e)) (htx : P.underlying tx = some (.slice e)) (hi : P.info? e = some i) (hz : i.zero = some z)
    (hsize : i.size = 1) (hby : i.bytes = bytes) (hzs : z.cells.size = 1) (base : Nat) (v : Value) (n : Nat) (l : List Value) (hs : a.eval s = v) (hown : w.ownsRow base e 1 v n l)
    (k : IntKind) (B : Nat) (xv : Value) (xs : List Int) (hx : a.eval x = xv) (hI : IntsK k B w xv xs) (h63 : n + xs.length ≤ maxLen) (hbytes : (n + xs.length) * bytes ≤ 140737488355328) (hbase : base ≤ w.heap.size)
    (h : ∀ v' w', w'.ownsRow base e 1 v' (n + xs.length) (l ++ xs.map (Value.int k)) → w.grownBy w' v.ownBlock → (v'.ownBlock = v.ownBlock ∨ v'.ownBlock = some w.heap.size) → K (a.put o.dst v') w') :
    if Region.wanted o (yielded ops a.tmps) = true then Oper.wp P o a w K Q else E := by
  have hw : Region.wanted o (yielded ops a.tmps) = true := by simp [Region.wanted, hgd]
  rw [if_pos hw]
  exact wp_append2 s x t tx ho e i z bytes ht htx hi hz hsize hby hzs base v n l hs hown k B xv xs hx hI h63 hbytes hbase h
set_option maxRecDepth 100000 in
set_option maxHeartbeats 2000000 in

theorem copy_any {C : Nat} {v : Value} {L : List (List Int)} (vars : Int) (w : World) (hC : C ≤ w.heap.size) (hn : L.length ≤ 262144) (hz : ∀ zs ∈ L, zs.length ≤ 1000000) (hL : RowsL C w v L) :
    Calls Tryz.prog 10 #[.agg #[.int .i64 vars, v]] w fun e w' => ∃ v', e = .returned (.agg #[.int .i64 vars, v']) ∧ OwnL w.heap.size w' v' L ∧ Below w.heap.size w w' := by
  obtain ⟨A, cap, rfl, hat⟩ := rowsL_shape hL
  have h0 := (fo_new w vars (.slice A L.length cap) 27)
  have c0 := h0.1
  have c1 := h0.2.1
  have c2 : ((w.alloc (.cells #[.int .i64 vars, .slice A L.length cap] 27)).alloc (.cells #[.int .i64 0, .slice none 0 0] 27)).cell? ⟨w.heap.size, 0, none⟩ = some (.int .i64 vars) := (h0.on (below1a _ _)).1
  have c3 : ((w.alloc (.cells #[.int .i64 vars, .slice A L.length cap] 27)).alloc (.cells #[.int .i64 0, .slice none 0 0] 27)).cell? ⟨w.heap.size, 1, none⟩ = some (.slice A L.length cap) := (h0.on (below1a _ _)).2.1
  have c4 : (((w.alloc (.cells #[.int .i64 vars, .slice A L.length cap] 27)).alloc (.cells #[.int .i64 0, .slice none 0 0] 27)).alloc (.cells #[.int .i64 vars, .slice none 0 0] 27)).cell? ⟨w.heap.size, 1, none⟩ = some (.slice A L.length cap) := ((h0.on (below1a _ _)).on (below1a _ _)).2.1
  obtain ⟨i0, hi, hz0, hz1, hz2⟩ := info_parts infoClause
  obtain ⟨i1, hi1, hy0, hy1, hy2⟩ := info_parts infoLit
  have hr := whole_alloc (Whole.made (w.alloc (.cells #[.int .i64 vars, .slice A L.length cap] 27)) 27 #[.int .i64 0, .slice none 0 0]) (.cells #[.int .i64 vars, .slice none 0 0] 27)
  have hg := Whole.made ((w.alloc (.cells #[.int .i64 vars, .slice A L.length cap] 27)).alloc (.cells #[.int .i64 0, .slice none 0 0] 27)) 27 #[.int .i64 vars, .slice none 0 0]
  have hbw := below3 w (.cells #[.int .i64 vars, .slice A L.length cap] 27) (.cells #[.int .i64 0, .slice none 0 0] 27) (.cells #[.int .i64 vars, .slice none 0 0] 27)
  have hsz : (((w.alloc (.cells #[.int .i64 vars, .slice A L.length cap] 27)).alloc (.cells #[.int .i64 0, .slice none 0 0] 27)).alloc (.cells #[.int .i64 vars, .slice none 0 0] 27)).heap.size = w.heap.size + 3 := by simp
  simp only [World.size_alloc] at hr hg
  have HR0 := Lib.hid hr; have HG0 := Lib.hid hg; have HBw0 := Lib.hid hbw; have HS0 := Lib.hid hsz; have HAt := Lib.hid hat; have HZ := Lib.hid hz
  clear hr hg hbw hsz h0 hat hz hL
  go_enter Tryz.func10, Tryz.ntmps10
  go_wp2_with fail
  clear c0 c1 c2 c3 c4
  obtain ⟨w4, hw4⟩ : ∃ W, ((w.alloc (.cells #[.int .i64 vars, .slice A L.length cap] 27)).alloc (.cells #[.int .i64 0, .slice none 0 0] 27)).alloc (.cells #[.int .i64 vars, .slice none 0 0] 27) = W := ⟨_, rfl⟩
  rw [hw4] at HR0 HG0 HBw0 HS0 ⊢
  have HR4 := HR0; have HL4 := HG0; have HB4 := HBw0; have HS4 := HS0
  clear hw4 HR0 HG0 HBw0 HS0
  obtain ⟨g, hg⟩ : ∃ g, w.heap.size + 1 + 1 = g := ⟨_, rfl⟩
  rw [hg] at HL4 ⊢
  go_loopw [12] (fun i wr => OfRel vars L w4 g i wr) (fun i _ => L.length - (intOf i).toNat)
  case atStart => exact ⟨0, .slice none 0 0, Nat.zero_le _, rfl, HL4.out, ownL_nil _ _, Keeps.refl _ _⟩
  case round =>
    obtain ⟨k, v, hk, rfl, hwh, hown, hkp⟩ := hrel
    have hBr : Below w.heap.size w wr := HB4.out.trans (hkp.below (by have := HS4.out; omega) (fun i e => by omega))
    have hlw : g < wr.heap.size := hwh.lt
    have hr4 : wr.heap[w.heap.size + 1]? = w4.heap[w.heap.size + 1]? := hkp.block (w.heap.size + 1) HR4.out.lt (fun e => by omega)
    by_cases hlt : k < L.length
    · obtain ⟨zs, hx⟩ : ∃ zs, L[k]? = some zs := ⟨_, List.getElem?_eq_getElem hlt⟩
      obtain ⟨b, off, As, cs, rfl, hb, hc, hI⟩ := HAt.out k zs hx
      have hc := (hBr.cell (p := ⟨b, off + k, none⟩) (Nat.lt_of_lt_of_le hb hC)).trans hc
      have hzl := HZ.out zs (List.mem_of_getElem? hx)
      have htk := takeL_one L hx
      have hki : (k : Int) < (L.length : Int) := by omega
      have hIr : Ints C wr (.slice As zs.length cs) zs := (hI.below (hBr.mono hC)).ints
      have hCr : C ≤ wr.heap.size := Nat.le_trans hC hBr.size
      have HIr := Lib.hid hIr
      have hzk : zs.length ≤ 1000000 := hzl
      clear hIr
      obtain ⟨svs, hrow, hinr⟩ := hown
      obtain ⟨Av, cv, rfl⟩ := own_shape0 hrow
      have g1 : wr.cell? ⟨g, 1, none⟩ = some (.slice Av (cellsL (L.take k)).length cv) := hwh.cell 1
      obtain ⟨n, hn'⟩ : ∃ n, (cellsL (L.take k)).length = n := ⟨_, rfl⟩
      have hnn : n ≤ 262144 := by
        rw [← hn', cellsL_len]
        simp; omega
      have HNl := Lib.hid hn'.symm
      rw [hn'] at hrow hinr hwh g1
      have hgo : ∀ b, (Value.slice Av n cv).ownBlock = some b → g + 1 ≤ b ∧ b < wr.heap.size := fun b hb => hrow.lt b hb
      have HNx := Lib.hid hlt; have HTk := Lib.hid htk; have HWh := Lib.hid hwh; have HRow := Lib.hid hrow; have HInr := Lib.hid hinr; have HKp := Lib.hid hkp; have HGo := Lib.hid hgo
      clear hx hb hI hzl htk hwh hrow hinr hkp hr4 hBr hgo HAt HZ hn'
      go_upto_region 5 with fail
      go_region_law (first
          | (refine step_append_lies _ (by rfl) _ _ 25 (by rfl) (g + 1) 65 i0 _ 1 24 Tryz.underlying25 hi hz0 hz1 hz2 (by rfl) (by decide) _ n svs (by rfl) (by repeat (first | exact HS5.out | apply World.ownsRow.drew | apply World.ownsRow.alloc)) _ 1 1 [.slice A5 zs.length c5] (by rfl) (by rfl) (World.news_of_block (cs := #[.slice A5 zs.length c5]) (t := 65) (fr := (0, 0)) (heap_alloc_new _ _)) (by simp [Value.oneCell']) (by decide) (by unfold maxLen; omega) (by omega) (by simp; omega) _ rfl ?_; intro gg cap w7 hown7 hg7 hloc hl7; have hw7 : Whole w7 g 27 #[.int .i64 vars, .slice Av n cv] := whole_grown hg7 (fun e => by have := HGo.out g e.symm; omega) (by repeat (first | exact HW5.out | apply whole_drew | apply whole_alloc)); have g7 : w7.cell? ⟨g, 1, none⟩ = some (.slice Av n cv) := hw7.cell 1; have f7 : w7.frozen? ⟨g, 1, none⟩ = false := hw7.frozen 1; have HO7 := Lib.hid hown7; have HG7 := Lib.hid hg7; have HLoc := Lib.hid hloc; have HW7 := Lib.hid hw7; clear hown7 hg7 hloc hw7)
          | (refine step_append2 (by rfl) _ _ 65 65 (by rfl) 35 i1 _ 8 Tryz.underlying65 Tryz.underlying65 hi1 hy0 hy1 hy2 (by rfl) wr.heap.size (.slice none 0 0) 0 [] (by rfl) (World.ownsRow_nil _ _ _ _) .i64 C (.slice As zs.length cs) zs (by rfl) (HIr.out.below (Below.refl _ _).drew) (by unfold maxLen; omega) (by omega) (Nat.le_refl _) ?_; intro v5 w5 hr5 hg5 hloc5; rw [Nat.zero_add, List.nil_append] at hr5; have hb5 : Below wr.heap.size wr w5 := (Below.refl _ wr).drew.grown hg5 (Nat.le_refl _) (fun k e => by simp [Value.ownBlock] at e); obtain ⟨A5, c5, rfl⟩ := own_shape0 hr5; have hb5' : Below wr.heap.size wr w5 := hb5; have hl5 : wr.heap.size ≤ w5.heap.size := hb5'.size; have g5 : w5.cell? ⟨g, 1, none⟩ = some (.slice Av n cv) := (hb5'.cell (p := ⟨g, 1, none⟩) hlw).trans g1; have HS5 := Lib.hid (owns_on0 HRow.out hb5'); have HR5 := Lib.hid hr5; have HB5 := Lib.hid hb5'; have HW5 := Lib.hid (HWh.out.same (hb5'.block g hlw)); have g6 : (w5.alloc (.cells #[.slice A5 zs.length c5] 65)).cell? ⟨g, 1, none⟩ = some (.slice Av n cv) := (whole_alloc HW5.out _).cell 1; clear hr5 hb5 hb5' hg5 hloc5))
      all_goals
        obtain ⟨p1, p2, p3⟩ := field_push _ HWh.out HRow.out HInr.out HKp.out HB5.out HR5.out (Nat.le_refl _) HG7.out HO7.out HLoc.out HW7.out HNl.out (fun i hv hi => by have := (HGo.out i hv).1; have := HS4.out; omega)
        rw [← cellsL_one] at p2
        have HP := Lib.hid (And.intro p1 (And.intro p2 p3))
        clear p1 p2 p3 HO7 HG7 HLoc HW7 HS5 HR5 HB5 HW5 g5 g6 g7 f7
        go_wp2_with fail
        go_roundw
        case rel => exact ⟨k + 1, _, HNx.out, by go_num, HP.out.1, by rw [HTk.out]; exact HP.out.2.1, HP.out.2.2⟩
        case measure => simp [intOf]; omega
    · obtain rfl : k = L.length := by omega
      rw [List.take_length] at hown
      have y0 : wr.cell? ⟨g, 0, none⟩ = some (.int .i64 vars) := hwh.cell 0
      have y1 : wr.cell? ⟨g, 1, none⟩ = some v := hwh.cell 1
      have hrr := HR4.out.same hr4
      have r0 : wr.cell? ⟨w.heap.size + 1, 0, none⟩ = some (.int .i64 0) := hrr.cell 0
      have r1 : wr.cell? ⟨w.heap.size + 1, 1, none⟩ = some (.slice none 0 0) := hrr.cell 1
      have f0 := hrr.frozen 0
      have f1 := hrr.frozen 1
      obtain ⟨Av, cv, rfl⟩ := hown.len
      have HRR := Lib.hid ((hrr.store 0 (.int .i64 vars)).store 1 (.slice Av (cellsL L).length cv)); have HOwn := Lib.hid hown; have HBr := Lib.hid hBr
      clear hrr hown hBr hwh hkp hr4 HAt HZ
      go_wp2_with fail
      refine bodyPost_ret (results_cell_row rfl _ _ (w.heap.size + 1) 27 _ (0, 0) _ rfl HRR.out Tryz.underlying27 rfl (by kernel_rfl)) rfl ?_
      refine ⟨_, rfl, ?_, (HBr.out.setCell (p := ⟨w.heap.size + 1, 0, none⟩) (by simp) _).setCell (p := ⟨w.heap.size + 1, 1, none⟩) (by simp) _⟩
      exact (HOwn.out.kept (K := fun i => i = w.heap.size + 1) (((Keeps.refl (fun i => i = w.heap.size + 1) wr).setCell (p := ⟨w.heap.size + 1, 0, none⟩) (.inl rfl) _).setCell (p := ⟨w.heap.size + 1, 1, none⟩) (.inl rfl) _) (fun i h => by omega)).less (by omega)
end Go.Proofs.YtgoflapolglfcaaGreat
