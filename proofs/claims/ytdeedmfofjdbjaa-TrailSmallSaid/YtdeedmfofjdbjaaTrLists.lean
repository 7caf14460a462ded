/- The law's lists: what is yielded is what the reference has. -/
import Derived.Test.YtdeedmfofjdbjaaTrRange
import Derived.Test.YtdeedmfofjdbjaaTrBeside
import Derived.Test.YtdeedmfofjdbjaaRefTrNew
namespace Go.Proofs.Ytdeedmfofjdbjaa
open Go.RowKit Go.ChangeAt Go.ChangeShapes Go.WideShapes Go.Sort

attribute [local go_sem] Oper.semAt_some

/-! ### marks -/
def mark (D : Nat) : Deferred := { target := .collected D, args := #[] }
/-- Loops over functions that are done: their marks. -/
def MarksOk (B : Nat) (Ds : List Nat) (W : World) : Prop := Ds.Nodup ∧ ∀ D ∈ Ds, B ≤ D ∧ W.heap[D]? = some (.deferred (some []))
theorem marks_nil (B : Nat) (W : World) : MarksOk B [] W := ⟨List.nodup_nil, fun D h => by cases h⟩
theorem marks_odd {B : Nat} {Ds : List Nat} {W W' : World} (h : MarksOk B Ds W) (ho : Odd W W') : MarksOk B Ds W' := ⟨h.1, fun D hD => ⟨(h.2 D hD).1, ho.same D _ (h.2 D hD).2 rfl⟩⟩
theorem marks_steady {B C : Nat} {Ds : List Nat} (h : ∀ D ∈ Ds, D < C) : Steady C (MarksOk B Ds) := fun W W' row hm hg hr => ⟨hm.1, fun D hD => ⟨(hm.2 D hD).1, by
  have hl := (Array.getElem?_eq_some_iff.1 (hm.2 D hD).2).1
  rw [hg.block D hl (fun e => by have := (hr D e.symm).1; have := h D hD; omega)]
  exact (hm.2 D hD).2⟩⟩
theorem marks_cons {B C D : Nat} {Ds : List Nat} {W : World} (h : MarksOk B Ds W) (hc : ∀ E ∈ Ds, E < C) (hD : C ≤ D) (hB : B ≤ D) (hd : W.heap[D]? = some (.deferred (some []))) : MarksOk B (D :: Ds) W :=
  ⟨List.nodup_cons.2 ⟨fun hm => by have := hc D hm; omega, h.1⟩, fun E hE => by
    rcases List.mem_cons.1 hE with rfl | hE
    · exact ⟨hB, hd⟩
    · exact h.2 E hE⟩
theorem leaves_marks {F : Fence} {n : Nat} {P : Program} {fn : Func} {tmps : Array Value} {R : Ending → World → Prop} {B : Nat} (J : World → Prop)
    (hJ : ∀ W D, B ≤ D → J W → W.heap[D]? = some (.deferred (some [])) → J (W.putObj D (.deferred none))) (hf : ∀ W, J W → LeavesIn F n P fn tmps R [] .returning W) :
    ∀ (Ds : List Nat) (W : World), MarksOk B Ds W → J W → LeavesInM F n P fn tmps R (Ds.map mark) .returning W
  | [], W, _, h => hf W h
  | D :: Ds, W, hm, h => by
    have hd := (hm.2 D (List.mem_cons_self ..))
    refine ⟨by simp, .inl ⟨D, _, rfl, run_takeDeferred hd.2, leaves_marks J hJ hf Ds _ ⟨(List.nodup_cons.1 hm.1).2, fun E hE => ⟨(hm.2 E (List.mem_cons_of_mem _ hE)).1, ?_⟩⟩ (hJ W D hd.1 h hd.2)⟩⟩
    have hne : E ≠ D := fun e => (List.nodup_cons.1 hm.1).1 (by rw [← e]; exact hE)
    rw [World.putObj_heap_other hne]
    exact (hm.2 E (List.mem_cons_of_mem _ hE)).2

/-- What stands beside the walks. -/
def LiI (K : Nat → Prop) (g nv : Nat) (its : List It) (st : List Nat) (hs : Nat) (rc : Array Value) (w1 W : World) : Prop :=
  Trl K W g nv its st ∧ Whole W hs 69 rc ∧ Whole W (hs + 1) 4 #[.bool false] ∧ Below w1.heap.size w1 W
theorem LiI.on {K : Nat → Prop} {g nv : Nat} {its : List It} {st : List Nat} {hs : Nat} {rc : Array Value} {w1 W W' : World} (h : LiI K g nv its st hs rc w1 W) (hb : Below W.heap.size W W') : LiI K g nv its st hs rc w1 W' :=
  ⟨h.1.on hb, h.2.1.same (hb.block _ h.2.1.lt), h.2.2.1.same (hb.block _ h.2.2.1.lt), h.2.2.2.trans (hb.mono h.2.2.2.size)⟩
theorem liI_steady {B : Nat} {K : Nat → Prop} {g nv : Nat} {its : List It} {st : List Nat} {hs : Nat} {rc : Array Value} {w1 : World} (hB : w1.heap.size ≤ B) : Steady B (LiI K g nv its st hs rc w1) :=
  (steady_trl _ _ _ _ _).and ((steady_whole _ _ _).and ((steady_whole _ _ _).and (steady_below' w1 hB)))
theorem LiI.set {K : Nat → Prop} {g nv : Nat} {its : List It} {st : List Nat} {hs : Nat} {rc : Array Value} {w1 W : World} {kb : Nat} {u0 : Value} (h : LiI K g nv its st hs rc w1 W) (hk : ¬ K kb) (h1 : w1.heap.size ≤ kb) (hw : Whole W kb 3 #[u0]) (u : Value) : LiI K g nv its st hs rc w1 (W.setCell ⟨kb, 0, none⟩ u) :=
  ⟨h.1.set hk u, h.2.1.at_other (h.2.1.ne hw (by decide)) 0 u, h.2.2.1.at_other (h.2.2.1.ne hw (by decide)) 0 u, h.2.2.2.setCell (p := ⟨kb, 0, none⟩) h1 u⟩
/-- .. in the walk over Lits. -/
def LsI (K : Nat → Prop) (g nv : Nat) (its : List It) (st : List Nat) (hs : Nat) (rc : Array Value) (w1 : World) (kb : Nat) (from_ : Int) (f : Nat) (Ds : List Nat) (s : TrS) (W : World) : Prop :=
  s.2 = K ∧ (s.1 = 0 ∨ f + s.1 ≤ its.length) ∧ LiI K g nv its st hs rc w1 W ∧ Whole W kb 3 #[.int .i64 ((f + s.1 : Nat) : Int)] ∧ Whole W (kb + 1) 28 #[.pointer (some ⟨g, 0, none⟩)] ∧ Whole W (kb + 1 + 1) 3 #[.int .i64 from_] ∧ MarksOk w1.heap.size Ds W
/-- .. in the walk over Down. -/
def DnI (K : Nat → Prop) (g nv : Nat) (its : List It) (st : List Nat) (hs : Nat) (rc : Array Value) (w1 : World) (kb : Nat) (Ds : List Nat) (s : TrS) (W : World) : Prop :=
  s.2 = K ∧ s.1 ≤ its.length ∧ LiI K g nv its st hs rc w1 W ∧ Whole W kb 3 #[.int .i64 ((its.length : Int) - (s.1 : Int))] ∧ Whole W (kb + 1) 28 #[.pointer (some ⟨g, 0, none⟩)] ∧ MarksOk w1.heap.size Ds W
/-- The frame of the loop, and what is known at its head. -/
def LoI (K : Nat → Prop) (g nv : Nat) (its : List It) (st : List Nat) (hs : Nat) (rc : Array Value) (rv : Value) (w1 : World) (a : Act) (W : World) : Prop :=
  ∃ (j : Nat) (Ds : List Nat) (u6 u7 u8 u9 u10 u11 u12 u13 u14 u15 u16 u17 u18 u19 u20 u21 u22 u23 u24 u25 u26 u27 u28 u29 u30 u31 u32 u33 u34 u35 u36 u37 u38 u39 u40 u41 u42 u43 u44 u45 u46 u47 u48 u49 u50 u51 u52 u53 u54 u55 u56 : Value), a = { tmps := #[.pointer (some ⟨g, 0, none⟩), rv, undef, .pointer (some ⟨hs, 0, none⟩), .pointer (some ⟨hs + 1, 0, none⟩), .int .i64 ((j : Int) - 1), u6, u7, u8, u9, u10, u11, u12, u13, u14, u15, u16, u17, u18, u19, u20, u21, u22, u23, u24, u25, u26, u27, u28, u29, u30, u31, u32, u33, u34, u35, u36, u37, u38, u39, u40, u41, u42, u43, u44, u45, u46, u47, u48, u49, u50, u51, u52, u53, u54, u55, u56, undef, undef, undef, undef, undef, undef, undef, undef, undef, undef, undef, undef, undef, undef, undef, undef, undef, undef, undef, undef, undef, undef, undef, undef, undef, undef, undef, undef], defers := Ds.map mark } ∧ j ≤ min its.length 5 + 3 ∧ MarksOk w1.heap.size Ds W ∧ LiI K g nv its st hs rc w1 W
set_option maxRecDepth 100000 in
set_option maxHeartbeats 1000000 in
theorem lists_any {K : Nat → Prop} {g nv B : Nat} {its : List It} {st : List Nat} {iv sv : Value} (now : Int) (w : World) (h : Trl K w g nv its st) (hR : RRow B w iv its) :
    Calls Try.prog 53 #[.pointer (some ⟨g, 0, none⟩), refT nv now iv sv] w fun r w' => r = .returned (.bool true) ∧ Below w.heap.size w w' := by
  have hnv := h.good.nvmax
  have hln := h.good.len
  obtain ⟨A, cap, rfl, -, hat⟩ := hR.at_
  obtain ⟨n, hn⟩ : ∃ n : Int, (nv : Int) = n := ⟨_, rfl⟩
  unfold refT
  rw [hn]
  have b1 := below1a w (.cells #[.int .i64 n, .int .i64 now, .slice A its.length cap, sv] 69)
  have b2 := below1a (w.alloc (.cells #[.int .i64 n, .int .i64 now, .slice A its.length cap, sv] 69)) (.cells #[.bool false] 4)
  have bb := b1.trans (b2.mono b1.size)
  have m1 := (Whole.made w 69 #[.int .i64 n, .int .i64 now, .slice A its.length cap, sv]).same (b2.block _ (by simp))
  have m2 := Whole.made (w.alloc (.cells #[.int .i64 n, .int .i64 now, .slice A its.length cap, sv] 69)) 4 #[.bool false]
  rw [World.size_alloc] at m2
  have hT1 := h.on bb
  have HT1 := Lib.hid hT1; have M1 := Lib.hid m1; have M2 := Lib.hid m2; have BB := Lib.hid bb; have HAt := Lib.hid hat
  obtain ⟨w1, hw1⟩ : ∃ y, (w.alloc (.cells #[.int .i64 n, .int .i64 now, .slice A its.length cap, sv] 69)).alloc (.cells #[.bool false] 4) = y := ⟨_, rfl⟩
  rw [hw1] at HT1 M1 M2 BB
  have H1 := Lib.hid hw1
  clear h hR hat b1 b2 bb m1 m2 hT1 hw1 hn
  refine (callsIn_wide (n := 5)).1 ?_
  refine callsIn_of_wp_marks Try.func53 rfl trivial ?_ rfl
  simp only [Try.ntmps53, List.size_toArray, List.length_cons, List.length_nil, Nat.reduceAdd, Nat.reduceSub, Array.replicate_succ, Array.replicate_zero, List.push_toArray, List.append_toArray, List.nil_append, List.cons_append]
  gi_wp2_with fail
  refine wpIn_loop (LoI K g nv its st w.heap.size #[.int .i64 n, .int .i64 now, .slice A its.length cap, sv] (.agg #[.int .i64 n, .int .i64 now, .slice A its.length cap, sv]) w1) (fun a _ => (((min its.length 5 + 2 : Nat) : Int) - intOf (a.tmps.getD 5 undef)).toNat) ?_ ?_
  · rw [H1.out]
    exact ⟨0, [], _, _, _, _, _, _, _, _, _, _, _, _, _, _, _, _, _, _, _, _, _, _, _, _, _, _, _, _, _, _, _, _, _, _, _, _, _, _, _, _, _, _, _, _, _, _, _, _, _, _, _, rfl, Nat.zero_le _, marks_nil _ _, HT1.out, M1.out, M2.out, Below.refl _ _⟩
  · rintro a W ⟨j, Ds, u6, u7, u8, u9, u10, u11, u12, u13, u14, u15, u16, u17, u18, u19, u20, u21, u22, u23, u24, u25, u26, u27, u28, u29, u30, u31, u32, u33, u34, u35, u36, u37, u38, u39, u40, u41, u42, u43, u44, u45, u46, u47, u48, u49, u50, u51, u52, u53, u54, u55, u56, rfl, hj, hM, hL⟩
    obtain ⟨m, hm⟩ : ∃ m : Nat, min its.length 5 = m := ⟨_, rfl⟩
    rw [hm] at hj ⊢
    have c2 : W.cell? ⟨w.heap.size, 2, none⟩ = some (.slice A its.length cap) := hL.2.1.cell 2
    have HM := Lib.hid hM; have HL := Lib.hid hL
    clear hM hL HT1 M1 M2
    obtain ⟨fr, hfr⟩ : ∃ fr : Int, (j : Int) - 1 = fr := ⟨_, rfl⟩
    rw [hfr]
    obtain ⟨f, hf⟩ : ∃ f : Nat, max fr 0 = (f : Int) := ⟨(max fr 0).toNat, by omega⟩
    have hm5 : m ≤ 5 := by omega
    have hmin : (5 < its.length ∧ m = 5) ∨ (¬ 5 < its.length ∧ m = its.length) := by omega
    have hcase : (fr < 0 ∧ f = 0) ∨ (0 ≤ fr ∧ fr = (f : Int)) := by omega
    have hfj : fr + 1 = (j : Int) := by omega
    have hj8 : j ≤ m + 3 := hj
    have hlo0 : -1 ≤ fr := by omega
    have HFr := Lib.hid hfr; have HF := Lib.hid hf; have HFj := Lib.hid hfj; have HJ := Lib.hid hj8; have HMm := Lib.hid hm
    clear hfr hf hfj hj hm hj8
    by_cases hlo : fr ≤ (m : Int) + 1
    · have hj2 : j + 1 ≤ m + 3 := by have := HFj.out; omega
      have hkb : ¬ K W.heap.size := fun x => Nat.lt_irrefl _ (HL.out.1.kok.lt x)
      have hmk : ∀ D ∈ Ds, D < W.heap.size := fun D hD => (Array.getElem?_eq_some_iff.1 (HM.out.2 D hD).2).1
      have bW1 := below1a W (.cells #[.int .i64 (f : Int)] 3)
      have bW2 := below1a (W.alloc (.cells #[.int .i64 (f : Int)] 3)) (.cells #[.pointer (some ⟨g, 0, none⟩)] 28)
      have bW3 := below1a ((W.alloc (.cells #[.int .i64 (f : Int)] 3)).alloc (.cells #[.pointer (some ⟨g, 0, none⟩)] 28)) (.cells #[.int .i64 fr] 3)
      have bW := (bW1.trans (bW2.mono bW1.size)).trans (bW3.mono (Nat.le_trans bW1.size bW2.size))
      have k1 := ((Whole.made W 3 #[.int .i64 (f : Int)]).same (bW2.block _ (by simp))).same (bW3.block _ (by simp; omega))
      have k2 := (Whole.made (W.alloc (.cells #[.int .i64 (f : Int)] 3)) 28 #[.pointer (some ⟨g, 0, none⟩)]).same (bW3.block _ (by simp))
      have k3 := Whole.made ((W.alloc (.cells #[.int .i64 (f : Int)] 3)).alloc (.cells #[.pointer (some ⟨g, 0, none⟩)] 28)) 3 #[.int .i64 fr]
      simp only [World.size_alloc] at k2 k3
      have h0 : LsI K g nv its st w.heap.size #[.int .i64 n, .int .i64 now, .slice A its.length cap, sv] w1 W.heap.size fr f Ds (0, K) (((W.alloc (.cells #[.int .i64 (f : Int)] 3)).alloc (.cells #[.pointer (some ⟨g, 0, none⟩)] 28)).alloc (.cells #[.int .i64 fr] 3)) :=
        ⟨rfl, .inl rfl, HL.out.on bW, k1, k2, k3, marks_odd HM.out (Odd.of_below bW)⟩
      have H0 := Lib.hid h0; have HKb := Lib.hid hkb; have HMk := Lib.hid hmk; have HBs := Lib.hid HL.out.2.2.2.size
      clear bW1 bW2 bW3 bW k1 k2 k3 h0 hkb hmk
      have BB' := Lib.hid BB.out
      rcases hcase with ⟨h1, rfl⟩ | ⟨h1, rfl⟩
      · rcases hmin with ⟨h5, rfl⟩ | ⟨h5, rfl⟩
        · skip
          gi_wp2_with fail
          refine ⟨trivial, ?_⟩
          gi_at_call 24
          refine (callsIn_wide.2 (lits_any _ _ _)).mono ?_
          rintro r w' ⟨rfl, rfl⟩
          gi_wp2_with fail
          refine range_lits (n := 5) (by decide) (g := g) (nv := nv) (bf := W.heap.size + 1 + 1) (bt := W.heap.size + 1) _ _ HF.out hnv rfl (enters_of Try.func45 (by kernel_rfl) rfl) rfl (fun _ => its) (fun _ => st) (LsI K g nv its st w.heap.size #[.int .i64 n, .int .i64 now, .slice A its.length cap, sv] w1 W.heap.size _ _ Ds) (fun _ _ => False) (fun s => (steady_true _).and ((steady_true _).and ((liI_steady (by have := HBs.out; simp; omega)).and ((steady_whole _ _ _).and ((steady_whole _ _ _).and ((steady_whole _ _ _).and (marks_steady (fun D hD => by have := HMk.out D hD; simp; omega)))))))) (fun _ => steady_true False) K H0.out ?has1 ?a1 ?assign1 ?body1 ?done1 ?stop1
          case has1 =>
            rintro s W3 ⟨e1, -, i1, -, i3, i4, -⟩
            exact ⟨⟨e1 ▸ i1.1, i3.cell 0⟩, i4.cell 0⟩
          case assign1 =>
            intro l i x W K hK
            gi_wp2
            exact hK
          case stop1 => intro D c W _ h; cases h
          case body1 =>
            rintro l ⟨k, K'⟩ x W3 ⟨e1, e2, i1, i2, i3, i4, i5⟩ hx
            dsimp only at e1 e2 i2 hx ⊢
            subst e1
            obtain ⟨q, hq⟩ : ∃ q, 0 + k = q := ⟨_, rfl⟩
            rw [hq] at hx i2 ⊢
            have hql := (List.getElem?_eq_some_iff.1 hx).1
            obtain ⟨b, rfl, hb, hc0, -, -⟩ := HAt.out q x hx
            have hbw := BB'.out.trans (i1.2.2.2.mono BB'.out.size)
            have hc0 := (hbw.cell (p := ⟨b, q * 3, none⟩) hb).trans hc0
            have hc2 : W3.cell? ⟨w.heap.size, 2, none⟩ = some (.slice (some ⟨b, 0, none⟩) its.length cap) := i1.2.1.cell 2
            have hck : W3.cell? ⟨W.heap.size, 0, none⟩ = some (.int .i64 (q : Nat)) := i2.cell 0
            have hfk := i2.frozen 0
            obtain ⟨y, hy⟩ : ∃ y, x.lit = y := ⟨_, rfl⟩
            rw [hy] at hc0 ⊢
            have hqi : (q : Int) < (its.length : Int) := by omega
            have hO := Odd.set i2 0 (.int .i64 ((q : Int) + 1))
            have hL3 := i1.set HKb.out HBs.out i2 (.int .i64 ((q : Int) + 1))
            have hK3 := i2.store 0 (.int .i64 ((q : Int) + 1))
            have h33 := i3.at_other (c := W.heap.size) (by omega) 0 (.int .i64 ((q : Int) + 1))
            have h44 := i4.at_other (c := W.heap.size) (by omega) 0 (.int .i64 ((q : Int) + 1))
            have h55 := marks_odd i5 hO
            have HO := Lib.hid hO
            have hqk : ((0 + (k + 1) : Nat) : Int) = (q : Int) + 1 := by omega
            have hkl : k + 1 = 0 ∨ 0 + (k + 1) ≤ its.length := .inr (by omega)
            have HN := Lib.hid (show LsI K' g nv its st w.heap.size #[.int .i64 n, .int .i64 now, .slice (some ⟨b, 0, none⟩) its.length cap, sv] w1 W.heap.size _ 0 Ds (k + 1, K') _ from ⟨rfl, hkl, hL3, by dsimp only; rw [hqk]; exact hK3, h33, h44, h55⟩)
            clear i1 i2 i3 i4 i5 hx hbw hO hL3 hK3 h33 h44 h55 hq hqk hkl H0 HL HM HAt hy e2
            gi_wp2_with fail
            exact ⟨HO.out, (k + 1, K'), rfl, HN.out⟩
          case done1 =>
            rintro D ⟨k, K'⟩ W3 hDw hx ⟨e1, e2, i1, i2, i3, i4, i5⟩ hD
            dsimp only at e1 e2 i2 hx
            simp only [World.size_alloc] at hDw
            subst e1
            obtain ⟨q, hq⟩ : ∃ q, 0 + k = q := ⟨_, rfl⟩
            rw [hq] at hx i2
            have hck : W3.cell? ⟨W.heap.size, 0, none⟩ = some (.int .i64 (q : Nat)) := i2.cell 0
            have hc2 : W3.cell? ⟨w.heap.size, 2, none⟩ = some (.slice A its.length cap) := i1.2.1.cell 2
            have hM3 := marks_cons i5 HMk.out (by omega : W.heap.size ≤ D) (by have := HBs.out; omega) hD
            have hstep : fr + 1 = ((j + 1 : Nat) : Int) - 1 := by have := HFj.out; omega
            have HM3 := Lib.hid hM3; have HL3 := Lib.hid i1; have HSt := Lib.hid hstep
            clear i1 i2 i3 i4 i5 hM3 H0 HL HM HAt hstep hD
            obtain rfl : q = its.length := by omega
            by_cases hz : (0 : Int) < (its.length : Int)
            · clear hq hx e2
              gi_wp2_with fail
              rw [show (fr : Int) + 1 = ((j + 1 : Nat) : Int) - 1 from HSt.out]
              refine ⟨⟨j + 1, D :: Ds, _, _, _, _, _, _, _, _, _, _, _, _, _, _, _, _, _, _, _, _, _, _, _, _, _, _, _, _, _, _, _, _, _, _, _, _, _, _, _, _, _, _, _, _, _, _, _, _, _, _, _, rfl, by rw [HMm.out]; exact hj2, HM3.out, HL3.out⟩, ?_⟩
              have := HSt.out
              have := HFj.out
              simp [intOf]
              omega
            · omega
        · skip
          gi_wp2_with fail
          refine ⟨trivial, ?_⟩
          gi_at_call 24
          refine (callsIn_wide.2 (lits_any _ _ _)).mono ?_
          rintro r w' ⟨rfl, rfl⟩
          gi_wp2_with fail
          refine range_lits (n := 5) (by decide) (g := g) (nv := nv) (bf := W.heap.size + 1 + 1) (bt := W.heap.size + 1) _ _ HF.out hnv rfl (enters_of Try.func45 (by kernel_rfl) rfl) rfl (fun _ => its) (fun _ => st) (LsI K g nv its st w.heap.size #[.int .i64 n, .int .i64 now, .slice A its.length cap, sv] w1 W.heap.size _ _ Ds) (fun _ _ => False) (fun s => (steady_true _).and ((steady_true _).and ((liI_steady (by have := HBs.out; simp; omega)).and ((steady_whole _ _ _).and ((steady_whole _ _ _).and ((steady_whole _ _ _).and (marks_steady (fun D hD => by have := HMk.out D hD; simp; omega)))))))) (fun _ => steady_true False) K H0.out ?has2 ?a2 ?assign2 ?body2 ?done2 ?stop2
          case has2 =>
            rintro s W3 ⟨e1, -, i1, -, i3, i4, -⟩
            exact ⟨⟨e1 ▸ i1.1, i3.cell 0⟩, i4.cell 0⟩
          case assign2 =>
            intro l i x W K hK
            gi_wp2
            exact hK
          case stop2 => intro D c W _ h; cases h
          case body2 =>
            rintro l ⟨k, K'⟩ x W3 ⟨e1, e2, i1, i2, i3, i4, i5⟩ hx
            dsimp only at e1 e2 i2 hx ⊢
            subst e1
            obtain ⟨q, hq⟩ : ∃ q, 0 + k = q := ⟨_, rfl⟩
            rw [hq] at hx i2 ⊢
            have hql := (List.getElem?_eq_some_iff.1 hx).1
            obtain ⟨b, rfl, hb, hc0, -, -⟩ := HAt.out q x hx
            have hbw := BB'.out.trans (i1.2.2.2.mono BB'.out.size)
            have hc0 := (hbw.cell (p := ⟨b, q * 3, none⟩) hb).trans hc0
            have hc2 : W3.cell? ⟨w.heap.size, 2, none⟩ = some (.slice (some ⟨b, 0, none⟩) its.length cap) := i1.2.1.cell 2
            have hck : W3.cell? ⟨W.heap.size, 0, none⟩ = some (.int .i64 (q : Nat)) := i2.cell 0
            have hfk := i2.frozen 0
            obtain ⟨y, hy⟩ : ∃ y, x.lit = y := ⟨_, rfl⟩
            rw [hy] at hc0 ⊢
            have hqi : (q : Int) < (its.length : Int) := by omega
            have hO := Odd.set i2 0 (.int .i64 ((q : Int) + 1))
            have hL3 := i1.set HKb.out HBs.out i2 (.int .i64 ((q : Int) + 1))
            have hK3 := i2.store 0 (.int .i64 ((q : Int) + 1))
            have h33 := i3.at_other (c := W.heap.size) (by omega) 0 (.int .i64 ((q : Int) + 1))
            have h44 := i4.at_other (c := W.heap.size) (by omega) 0 (.int .i64 ((q : Int) + 1))
            have h55 := marks_odd i5 hO
            have HO := Lib.hid hO
            have hqk : ((0 + (k + 1) : Nat) : Int) = (q : Int) + 1 := by omega
            have hkl : k + 1 = 0 ∨ 0 + (k + 1) ≤ its.length := .inr (by omega)
            have HN := Lib.hid (show LsI K' g nv its st w.heap.size #[.int .i64 n, .int .i64 now, .slice (some ⟨b, 0, none⟩) its.length cap, sv] w1 W.heap.size _ 0 Ds (k + 1, K') _ from ⟨rfl, hkl, hL3, by dsimp only; rw [hqk]; exact hK3, h33, h44, h55⟩)
            clear i1 i2 i3 i4 i5 hx hbw hO hL3 hK3 h33 h44 h55 hq hqk hkl H0 HL HM HAt hy e2
            gi_wp2_with fail
            exact ⟨HO.out, (k + 1, K'), rfl, HN.out⟩
          case done2 =>
            rintro D ⟨k, K'⟩ W3 hDw hx ⟨e1, e2, i1, i2, i3, i4, i5⟩ hD
            dsimp only at e1 e2 i2 hx
            simp only [World.size_alloc] at hDw
            subst e1
            obtain ⟨q, hq⟩ : ∃ q, 0 + k = q := ⟨_, rfl⟩
            rw [hq] at hx i2
            have hck : W3.cell? ⟨W.heap.size, 0, none⟩ = some (.int .i64 (q : Nat)) := i2.cell 0
            have hc2 : W3.cell? ⟨w.heap.size, 2, none⟩ = some (.slice A its.length cap) := i1.2.1.cell 2
            have hM3 := marks_cons i5 HMk.out (by omega : W.heap.size ≤ D) (by have := HBs.out; omega) hD
            have hstep : fr + 1 = ((j + 1 : Nat) : Int) - 1 := by have := HFj.out; omega
            have HM3 := Lib.hid hM3; have HL3 := Lib.hid i1; have HSt := Lib.hid hstep
            clear i1 i2 i3 i4 i5 hM3 H0 HL HM HAt hstep hD
            obtain rfl : q = its.length := by omega
            by_cases hz : (0 : Int) < (its.length : Int)
            · clear hq hx e2
              gi_wp2_with fail
              rw [show (fr : Int) + 1 = ((j + 1 : Nat) : Int) - 1 from HSt.out]
              refine ⟨⟨j + 1, D :: Ds, _, _, _, _, _, _, _, _, _, _, _, _, _, _, _, _, _, _, _, _, _, _, _, _, _, _, _, _, _, _, _, _, _, _, _, _, _, _, _, _, _, _, _, _, _, _, _, _, _, _, _, rfl, by rw [HMm.out]; exact hj2, HM3.out, HL3.out⟩, ?_⟩
              have := HSt.out
              have := HFj.out
              simp [intOf]
              omega
            · have hz0 : its.length = 0 := by omega
              rw [hz0] at hck
              clear hq hx e2 hz0
              gi_wp2_with fail
              rw [show (fr : Int) + 1 = ((j + 1 : Nat) : Int) - 1 from HSt.out]
              refine ⟨⟨j + 1, D :: Ds, _, _, _, _, _, _, _, _, _, _, _, _, _, _, _, _, _, _, _, _, _, _, _, _, _, _, _, _, _, _, _, _, _, _, _, _, _, _, _, _, _, _, _, _, _, _, _, _, _, _, _, rfl, by rw [HMm.out]; exact hj2, HM3.out, HL3.out⟩, ?_⟩
              have := HSt.out
              have := HFj.out
              simp [intOf]
              omega
      · rcases hmin with ⟨h5, rfl⟩ | ⟨h5, rfl⟩
        · skip
          gi_wp2_with fail
          refine ⟨trivial, ?_⟩
          gi_at_call 24
          refine (callsIn_wide.2 (lits_any _ _ _)).mono ?_
          rintro r w' ⟨rfl, rfl⟩
          gi_wp2_with fail
          refine range_lits (n := 5) (by decide) (g := g) (nv := nv) (bf := W.heap.size + 1 + 1) (bt := W.heap.size + 1) _ _ HF.out hnv rfl (enters_of Try.func45 (by kernel_rfl) rfl) rfl (fun _ => its) (fun _ => st) (LsI K g nv its st w.heap.size #[.int .i64 n, .int .i64 now, .slice A its.length cap, sv] w1 W.heap.size _ _ Ds) (fun _ _ => False) (fun s => (steady_true _).and ((steady_true _).and ((liI_steady (by have := HBs.out; simp; omega)).and ((steady_whole _ _ _).and ((steady_whole _ _ _).and ((steady_whole _ _ _).and (marks_steady (fun D hD => by have := HMk.out D hD; simp; omega)))))))) (fun _ => steady_true False) K H0.out ?has3 ?a3 ?assign3 ?body3 ?done3 ?stop3
          case has3 =>
            rintro s W3 ⟨e1, -, i1, -, i3, i4, -⟩
            exact ⟨⟨e1 ▸ i1.1, i3.cell 0⟩, i4.cell 0⟩
          case assign3 =>
            intro l i x W K hK
            gi_wp2
            exact hK
          case stop3 => intro D c W _ h; cases h
          case body3 =>
            rintro l ⟨k, K'⟩ x W3 ⟨e1, e2, i1, i2, i3, i4, i5⟩ hx
            dsimp only at e1 e2 i2 hx ⊢
            subst e1
            obtain ⟨q, hq⟩ : ∃ q, f + k = q := ⟨_, rfl⟩
            rw [hq] at hx i2 ⊢
            have hql := (List.getElem?_eq_some_iff.1 hx).1
            obtain ⟨b, rfl, hb, hc0, -, -⟩ := HAt.out q x hx
            have hbw := BB'.out.trans (i1.2.2.2.mono BB'.out.size)
            have hc0 := (hbw.cell (p := ⟨b, q * 3, none⟩) hb).trans hc0
            have hc2 : W3.cell? ⟨w.heap.size, 2, none⟩ = some (.slice (some ⟨b, 0, none⟩) its.length cap) := i1.2.1.cell 2
            have hck : W3.cell? ⟨W.heap.size, 0, none⟩ = some (.int .i64 (q : Nat)) := i2.cell 0
            have hfk := i2.frozen 0
            obtain ⟨y, hy⟩ : ∃ y, x.lit = y := ⟨_, rfl⟩
            rw [hy] at hc0 ⊢
            have hqi : (q : Int) < (its.length : Int) := by omega
            have hO := Odd.set i2 0 (.int .i64 ((q : Int) + 1))
            have hL3 := i1.set HKb.out HBs.out i2 (.int .i64 ((q : Int) + 1))
            have hK3 := i2.store 0 (.int .i64 ((q : Int) + 1))
            have h33 := i3.at_other (c := W.heap.size) (by omega) 0 (.int .i64 ((q : Int) + 1))
            have h44 := i4.at_other (c := W.heap.size) (by omega) 0 (.int .i64 ((q : Int) + 1))
            have h55 := marks_odd i5 hO
            have HO := Lib.hid hO
            have hqk : ((f + (k + 1) : Nat) : Int) = (q : Int) + 1 := by omega
            have hkl : k + 1 = 0 ∨ f + (k + 1) ≤ its.length := .inr (by omega)
            have HN := Lib.hid (show LsI K' g nv its st w.heap.size #[.int .i64 n, .int .i64 now, .slice (some ⟨b, 0, none⟩) its.length cap, sv] w1 W.heap.size _ f Ds (k + 1, K') _ from ⟨rfl, hkl, hL3, by dsimp only; rw [hqk]; exact hK3, h33, h44, h55⟩)
            clear i1 i2 i3 i4 i5 hx hbw hO hL3 hK3 h33 h44 h55 hq hqk hkl H0 HL HM HAt hy e2
            gi_wp2_with fail
            exact ⟨HO.out, (k + 1, K'), rfl, HN.out⟩
          case done3 =>
            rintro D ⟨k, K'⟩ W3 hDw hx ⟨e1, e2, i1, i2, i3, i4, i5⟩ hD
            dsimp only at e1 e2 i2 hx
            simp only [World.size_alloc] at hDw
            subst e1
            obtain ⟨q, hq⟩ : ∃ q, f + k = q := ⟨_, rfl⟩
            rw [hq] at hx i2
            have hck : W3.cell? ⟨W.heap.size, 0, none⟩ = some (.int .i64 (q : Nat)) := i2.cell 0
            have hc2 : W3.cell? ⟨w.heap.size, 2, none⟩ = some (.slice A its.length cap) := i1.2.1.cell 2
            have hM3 := marks_cons i5 HMk.out (by omega : W.heap.size ≤ D) (by have := HBs.out; omega) hD
            have hstep : (f : Int) + 1 = ((j + 1 : Nat) : Int) - 1 := by have := HFj.out; omega
            have HM3 := Lib.hid hM3; have HL3 := Lib.hid i1; have HSt := Lib.hid hstep
            clear i1 i2 i3 i4 i5 hM3 H0 HL HM HAt hstep hD
            by_cases hz : (f : Int) < (its.length : Int)
            · obtain rfl : q = its.length := by omega
              clear hq hx e2
              gi_wp2_with fail
              rw [show (f : Int) + 1 = ((j + 1 : Nat) : Int) - 1 from HSt.out]
              refine ⟨⟨j + 1, D :: Ds, _, _, _, _, _, _, _, _, _, _, _, _, _, _, _, _, _, _, _, _, _, _, _, _, _, _, _, _, _, _, _, _, _, _, _, _, _, _, _, _, _, _, _, _, _, _, _, _, _, _, _, rfl, by rw [HMm.out]; exact hj2, HM3.out, HL3.out⟩, ?_⟩
              have := HSt.out
              have := HFj.out
              simp [intOf]
              omega
            · obtain rfl : q = f := by omega
              clear hq hx e2
              gi_wp2_with fail
              rw [show (q : Int) + 1 = ((j + 1 : Nat) : Int) - 1 from HSt.out]
              refine ⟨⟨j + 1, D :: Ds, _, _, _, _, _, _, _, _, _, _, _, _, _, _, _, _, _, _, _, _, _, _, _, _, _, _, _, _, _, _, _, _, _, _, _, _, _, _, _, _, _, _, _, _, _, _, _, _, _, _, _, rfl, by rw [HMm.out]; exact hj2, HM3.out, HL3.out⟩, ?_⟩
              have := HSt.out
              have := HFj.out
              simp [intOf]
              omega
        · skip
          gi_wp2_with fail
          refine ⟨trivial, ?_⟩
          gi_at_call 24
          refine (callsIn_wide.2 (lits_any _ _ _)).mono ?_
          rintro r w' ⟨rfl, rfl⟩
          gi_wp2_with fail
          refine range_lits (n := 5) (by decide) (g := g) (nv := nv) (bf := W.heap.size + 1 + 1) (bt := W.heap.size + 1) _ _ HF.out hnv rfl (enters_of Try.func45 (by kernel_rfl) rfl) rfl (fun _ => its) (fun _ => st) (LsI K g nv its st w.heap.size #[.int .i64 n, .int .i64 now, .slice A its.length cap, sv] w1 W.heap.size _ _ Ds) (fun _ _ => False) (fun s => (steady_true _).and ((steady_true _).and ((liI_steady (by have := HBs.out; simp; omega)).and ((steady_whole _ _ _).and ((steady_whole _ _ _).and ((steady_whole _ _ _).and (marks_steady (fun D hD => by have := HMk.out D hD; simp; omega)))))))) (fun _ => steady_true False) K H0.out ?has4 ?a4 ?assign4 ?body4 ?done4 ?stop4
          case has4 =>
            rintro s W3 ⟨e1, -, i1, -, i3, i4, -⟩
            exact ⟨⟨e1 ▸ i1.1, i3.cell 0⟩, i4.cell 0⟩
          case assign4 =>
            intro l i x W K hK
            gi_wp2
            exact hK
          case stop4 => intro D c W _ h; cases h
          case body4 =>
            rintro l ⟨k, K'⟩ x W3 ⟨e1, e2, i1, i2, i3, i4, i5⟩ hx
            dsimp only at e1 e2 i2 hx ⊢
            subst e1
            obtain ⟨q, hq⟩ : ∃ q, f + k = q := ⟨_, rfl⟩
            rw [hq] at hx i2 ⊢
            have hql := (List.getElem?_eq_some_iff.1 hx).1
            obtain ⟨b, rfl, hb, hc0, -, -⟩ := HAt.out q x hx
            have hbw := BB'.out.trans (i1.2.2.2.mono BB'.out.size)
            have hc0 := (hbw.cell (p := ⟨b, q * 3, none⟩) hb).trans hc0
            have hc2 : W3.cell? ⟨w.heap.size, 2, none⟩ = some (.slice (some ⟨b, 0, none⟩) its.length cap) := i1.2.1.cell 2
            have hck : W3.cell? ⟨W.heap.size, 0, none⟩ = some (.int .i64 (q : Nat)) := i2.cell 0
            have hfk := i2.frozen 0
            obtain ⟨y, hy⟩ : ∃ y, x.lit = y := ⟨_, rfl⟩
            rw [hy] at hc0 ⊢
            have hqi : (q : Int) < (its.length : Int) := by omega
            have hO := Odd.set i2 0 (.int .i64 ((q : Int) + 1))
            have hL3 := i1.set HKb.out HBs.out i2 (.int .i64 ((q : Int) + 1))
            have hK3 := i2.store 0 (.int .i64 ((q : Int) + 1))
            have h33 := i3.at_other (c := W.heap.size) (by omega) 0 (.int .i64 ((q : Int) + 1))
            have h44 := i4.at_other (c := W.heap.size) (by omega) 0 (.int .i64 ((q : Int) + 1))
            have h55 := marks_odd i5 hO
            have HO := Lib.hid hO
            have hqk : ((f + (k + 1) : Nat) : Int) = (q : Int) + 1 := by omega
            have hkl : k + 1 = 0 ∨ f + (k + 1) ≤ its.length := .inr (by omega)
            have HN := Lib.hid (show LsI K' g nv its st w.heap.size #[.int .i64 n, .int .i64 now, .slice (some ⟨b, 0, none⟩) its.length cap, sv] w1 W.heap.size _ f Ds (k + 1, K') _ from ⟨rfl, hkl, hL3, by dsimp only; rw [hqk]; exact hK3, h33, h44, h55⟩)
            clear i1 i2 i3 i4 i5 hx hbw hO hL3 hK3 h33 h44 h55 hq hqk hkl H0 HL HM HAt hy e2
            gi_wp2_with fail
            exact ⟨HO.out, (k + 1, K'), rfl, HN.out⟩
          case done4 =>
            rintro D ⟨k, K'⟩ W3 hDw hx ⟨e1, e2, i1, i2, i3, i4, i5⟩ hD
            dsimp only at e1 e2 i2 hx
            simp only [World.size_alloc] at hDw
            subst e1
            obtain ⟨q, hq⟩ : ∃ q, f + k = q := ⟨_, rfl⟩
            rw [hq] at hx i2
            have hck : W3.cell? ⟨W.heap.size, 0, none⟩ = some (.int .i64 (q : Nat)) := i2.cell 0
            have hc2 : W3.cell? ⟨w.heap.size, 2, none⟩ = some (.slice A its.length cap) := i1.2.1.cell 2
            have hM3 := marks_cons i5 HMk.out (by omega : W.heap.size ≤ D) (by have := HBs.out; omega) hD
            have hstep : (f : Int) + 1 = ((j + 1 : Nat) : Int) - 1 := by have := HFj.out; omega
            have HM3 := Lib.hid hM3; have HL3 := Lib.hid i1; have HSt := Lib.hid hstep
            clear i1 i2 i3 i4 i5 hM3 H0 HL HM HAt hstep hD
            by_cases hz : (f : Int) < (its.length : Int)
            · obtain rfl : q = its.length := by omega
              clear hq hx e2
              gi_wp2_with fail
              rw [show (f : Int) + 1 = ((j + 1 : Nat) : Int) - 1 from HSt.out]
              refine ⟨⟨j + 1, D :: Ds, _, _, _, _, _, _, _, _, _, _, _, _, _, _, _, _, _, _, _, _, _, _, _, _, _, _, _, _, _, _, _, _, _, _, _, _, _, _, _, _, _, _, _, _, _, _, _, _, _, _, _, rfl, by rw [HMm.out]; exact hj2, HM3.out, HL3.out⟩, ?_⟩
              have := HSt.out
              have := HFj.out
              simp [intOf]
              omega
            · obtain rfl : q = f := by omega
              clear hq hx e2
              gi_wp2_with fail
              rw [show (q : Int) + 1 = ((j + 1 : Nat) : Int) - 1 from HSt.out]
              refine ⟨⟨j + 1, D :: Ds, _, _, _, _, _, _, _, _, _, _, _, _, _, _, _, _, _, _, _, _, _, _, _, _, _, _, _, _, _, _, _, _, _, _, _, _, _, _, _, _, _, _, _, _, _, _, _, _, _, _, _, rfl, by rw [HMm.out]; exact hj2, HM3.out, HL3.out⟩, ?_⟩
              have := HSt.out
              have := HFj.out
              simp [intOf]
              omega
    · have hlo2 : (m : Int) + 1 < fr := by omega
      have hkb : ¬ K W.heap.size := fun x => Nat.lt_irrefl _ (HL.out.1.kok.lt x)
      have hmk : ∀ D ∈ Ds, D < W.heap.size := fun D hD => (Array.getElem?_eq_some_iff.1 (HM.out.2 D hD).2).1
      have bW1 := below1a W (.cells #[.int .i64 (its.length : Nat)] 3)
      have bW2 := below1a (W.alloc (.cells #[.int .i64 (its.length : Nat)] 3)) (.cells #[.pointer (some ⟨g, 0, none⟩)] 28)
      have bW := bW1.trans (bW2.mono bW1.size)
      have k1 := (Whole.made W 3 #[.int .i64 (its.length : Nat)]).same (bW2.block _ (by simp))
      have k2 := Whole.made (W.alloc (.cells #[.int .i64 (its.length : Nat)] 3)) 28 #[.pointer (some ⟨g, 0, none⟩)]
      simp only [World.size_alloc] at k2
      have h0 : DnI K g nv its st w.heap.size #[.int .i64 n, .int .i64 now, .slice A its.length cap, sv] w1 W.heap.size Ds (0, K) ((W.alloc (.cells #[.int .i64 (its.length : Nat)] 3)).alloc (.cells #[.pointer (some ⟨g, 0, none⟩)] 28)) :=
        ⟨rfl, Nat.zero_le _, HL.out.on bW, by rw [show ((its.length : Int) - ((0 : Nat) : Int)) = (its.length : Nat) from by omega]; exact k1, k2, marks_odd HM.out (Odd.of_below bW)⟩
      have hsz1 : w.heap.size + 2 ≤ w1.heap.size := by rw [← H1.out]; simp
      have H0 := Lib.hid h0; have HKb := Lib.hid hkb; have HMk := Lib.hid hmk; have HBs := Lib.hid HL.out.2.2.2.size; have BB' := Lib.hid BB.out
      clear bW1 bW2 bW k1 k2 h0 hkb hmk
      rcases hmin with ⟨h5, rfl⟩ | ⟨h5, rfl⟩
      · skip
        gi_wp2_with fail
        refine ⟨trivial, ?_⟩
        gi_at_call 25
        refine (callsIn_wide.2 (down_any _ _)).mono ?_
        rintro r w' ⟨rfl, rfl⟩
        gi_wp2_with fail
        refine range_down (n := 5) (by decide) (g := g) (nv := nv) (bt := W.heap.size + 1) its.length hnv rfl (enters_of Try.func46 (by kernel_rfl) rfl) rfl (fun _ => its) (fun _ => st) rfl (DnI K g nv its st w.heap.size #[.int .i64 n, .int .i64 now, .slice A its.length cap, sv] w1 W.heap.size Ds) (fun _ _ => False) (fun s => (steady_true _).and ((steady_true _).and ((liI_steady (by have := HBs.out; simp; omega)).and ((steady_whole _ _ _).and ((steady_whole _ _ _).and (marks_steady (fun D hD => by have := HMk.out D hD; simp; omega))))))) (fun _ => steady_true False) K H0.out ?has5 ?skip5 ?a5 ?assign5 ?body5 ?done5 ?stop5
        case has5 =>
          rintro s W3 ⟨e1, -, i1, -, i3, -⟩
          exact ⟨e1 ▸ i1.1, i3.cell 0⟩
        case skip5 =>
          rintro s W3 - h1 h2
          omega
        case assign5 =>
          intro l i x W K hK
          gi_wp2
          exact hK
        case stop5 => intro D c W _ h; cases h
        case body5 =>
          rintro l ⟨k, K'⟩ x W3 ⟨e1, e2, i1, i2, i3, i5⟩ hk hx
          dsimp only at e1 e2 i2 hk hx ⊢
          subst e1
          obtain ⟨q, hq⟩ : ∃ q, its.length - 1 - k = q := ⟨_, rfl⟩
          rw [hq] at hx ⊢
          obtain ⟨z, hz⟩ : ∃ z : Int, (its.length : Int) - (k : Int) = z := ⟨_, rfl⟩
          rw [hz] at i2
          have hzq : z - 1 = (q : Int) := by omega
          have hqk : (its.length : Int) - ((k + 1 : Nat) : Int) = (q : Int) := by omega
          have hql := (List.getElem?_eq_some_iff.1 hx).1
          obtain ⟨b, rfl, hb, hc0, -, -⟩ := HAt.out q x hx
          have hbw := BB'.out.trans (i1.2.2.2.mono BB'.out.size)
          have hc0 := (hbw.cell (p := ⟨b, q * 3, none⟩) hb).trans hc0
          have hck : W3.cell? ⟨W.heap.size, 0, none⟩ = some (.int .i64 z) := i2.cell 0
          have hfk := i2.frozen 0
          obtain ⟨y, hy⟩ : ∃ y, x.lit = y := ⟨_, rfl⟩
          rw [hy] at hc0 ⊢
          have hqi : (q : Int) < (its.length : Int) := by omega
          have hqn : ¬ (q : Int) < 0 := by omega
          have hO := Odd.set i2 0 (.int .i64 (q : Int))
          have hL3 := i1.set HKb.out HBs.out i2 (.int .i64 (q : Int))
          have hK3 := i2.store 0 (.int .i64 (q : Int))
          have h33 := i3.at_other (c := W.heap.size) (by omega) 0 (.int .i64 (q : Int))
          have h55 := marks_odd i5 hO
          have hc2 : (W3.setCell ⟨W.heap.size, 0, none⟩ (.int .i64 (q : Int))).cell? ⟨w.heap.size, 2, none⟩ = some (.slice (some ⟨b, 0, none⟩) its.length cap) := hL3.2.1.cell 2
          have hck2 : (W3.setCell ⟨W.heap.size, 0, none⟩ (.int .i64 (q : Int))).cell? ⟨W.heap.size, 0, none⟩ = some (.int .i64 (q : Int)) := hK3.cell 0
          have hc02 : (W3.setCell ⟨W.heap.size, 0, none⟩ (.int .i64 (q : Int))).cell? ⟨b, q * 3, none⟩ = some (.int .i64 y) := (World.cell?_of_block (Below.heap_setCell _ _ _ _ (show b ≠ W.heap.size by have := HBs.out; omega))).trans hc0
          have HO := Lib.hid hO
          have HN := Lib.hid (show DnI K' g nv its st w.heap.size #[.int .i64 n, .int .i64 now, .slice (some ⟨b, 0, none⟩) its.length cap, sv] w1 W.heap.size Ds (k + 1, K') _ from ⟨rfl, by dsimp only; omega, hL3, by dsimp only; rw [hqk]; exact hK3, h33, h55⟩)
          clear i1 i2 i3 i5 hx hbw hO hL3 hK3 h33 h55 hq hqk hz H0 HL HM HAt hy e2 hk
          gi_wp2_with fail
          exact ⟨HO.out, (k + 1, K'), rfl, HN.out⟩
        case done5 =>
          rintro D ⟨k, K'⟩ W3 hDw hx ⟨e1, e2, i1, i2, i3, i5⟩ hD
          dsimp only at e1 e2 i2 hx
          simp only [World.size_alloc] at hDw
          subst e1
          rw [hx, Int.sub_self] at i2
          have hck : W3.cell? ⟨W.heap.size, 0, none⟩ = some (.int .i64 0) := i2.cell 0
          have hM3 := marks_cons i5 HMk.out (by omega : W.heap.size ≤ D) (by have := HBs.out; omega) hD
          have hr := i1.2.2.1
          have hfr := hr.frozen 0
          have hM4 := marks_odd hM3 (Odd.set hr 0 (.bool true))
          have hr4 : Whole _ _ _ #[.bool true] := hr.store 0 (.bool true)
          have hb4 := (BB'.out.trans (i1.2.2.2.mono BB'.out.size)).setCell (p := ⟨w.heap.size + 1, 0, none⟩) (by show w.heap.size ≤ w.heap.size + 1; omega) (.bool true)
          have hcr : W3.cell? ⟨w.heap.size + 1, 0, none⟩ = some (.bool false) := hr.cell 0
          have HM4 := Lib.hid hM4; have HR4 := Lib.hid hr4; have HB4 := Lib.hid hb4
          clear i1 i2 i3 i5 hM3 H0 HL HM HAt hD hx e2 hM4 hr4 hb4 hr
          gi_wp2_with fail
          refine leaves_marks (B := w1.heap.size) (fun W' => Below w.heap.size w W' ∧ Whole W' (w.heap.size + 1) 4 #[.bool true]) (fun W' D' h1 h2 h3 => ⟨h2.1.grown (grownBy_putObj' W' D' (.deferred none)) h2.1.size (fun k e => by cases e; omega), h2.2.same (World.putObj_heap_other (by omega))⟩) (fun W' h => ?_) (D :: Ds) _ HM4.out ⟨HB4.out, HR4.out⟩
          have hc3 : W'.cell? ⟨w.heap.size + 1, 0, none⟩ = some (.bool true) := h.2.cell 0
          refine ⟨.bool true, ?_, rfl, h.1⟩
          simp [results, Try.f53, go_sem, hc3]
      · skip
        gi_wp2_with fail
        refine ⟨trivial, ?_⟩
        gi_at_call 25
        refine (callsIn_wide.2 (down_any _ _)).mono ?_
        rintro r w' ⟨rfl, rfl⟩
        gi_wp2_with fail
        refine range_down (n := 5) (by decide) (g := g) (nv := nv) (bt := W.heap.size + 1) its.length hnv rfl (enters_of Try.func46 (by kernel_rfl) rfl) rfl (fun _ => its) (fun _ => st) rfl (DnI K g nv its st w.heap.size #[.int .i64 n, .int .i64 now, .slice A its.length cap, sv] w1 W.heap.size Ds) (fun _ _ => False) (fun s => (steady_true _).and ((steady_true _).and ((liI_steady (by have := HBs.out; simp; omega)).and ((steady_whole _ _ _).and ((steady_whole _ _ _).and (marks_steady (fun D hD => by have := HMk.out D hD; simp; omega))))))) (fun _ => steady_true False) K H0.out ?has6 ?skip6 ?a6 ?assign6 ?body6 ?done6 ?stop6
        case has6 =>
          rintro s W3 ⟨e1, -, i1, -, i3, -⟩
          exact ⟨e1 ▸ i1.1, i3.cell 0⟩
        case skip6 =>
          rintro s W3 - h1 h2
          omega
        case assign6 =>
          intro l i x W K hK
          gi_wp2
          exact hK
        case stop6 => intro D c W _ h; cases h
        case body6 =>
          rintro l ⟨k, K'⟩ x W3 ⟨e1, e2, i1, i2, i3, i5⟩ hk hx
          dsimp only at e1 e2 i2 hk hx ⊢
          subst e1
          obtain ⟨q, hq⟩ : ∃ q, its.length - 1 - k = q := ⟨_, rfl⟩
          rw [hq] at hx ⊢
          obtain ⟨z, hz⟩ : ∃ z : Int, (its.length : Int) - (k : Int) = z := ⟨_, rfl⟩
          rw [hz] at i2
          have hzq : z - 1 = (q : Int) := by omega
          have hqk : (its.length : Int) - ((k + 1 : Nat) : Int) = (q : Int) := by omega
          have hql := (List.getElem?_eq_some_iff.1 hx).1
          obtain ⟨b, rfl, hb, hc0, -, -⟩ := HAt.out q x hx
          have hbw := BB'.out.trans (i1.2.2.2.mono BB'.out.size)
          have hc0 := (hbw.cell (p := ⟨b, q * 3, none⟩) hb).trans hc0
          have hck : W3.cell? ⟨W.heap.size, 0, none⟩ = some (.int .i64 z) := i2.cell 0
          have hfk := i2.frozen 0
          obtain ⟨y, hy⟩ : ∃ y, x.lit = y := ⟨_, rfl⟩
          rw [hy] at hc0 ⊢
          have hqi : (q : Int) < (its.length : Int) := by omega
          have hqn : ¬ (q : Int) < 0 := by omega
          have hO := Odd.set i2 0 (.int .i64 (q : Int))
          have hL3 := i1.set HKb.out HBs.out i2 (.int .i64 (q : Int))
          have hK3 := i2.store 0 (.int .i64 (q : Int))
          have h33 := i3.at_other (c := W.heap.size) (by omega) 0 (.int .i64 (q : Int))
          have h55 := marks_odd i5 hO
          have hc2 : (W3.setCell ⟨W.heap.size, 0, none⟩ (.int .i64 (q : Int))).cell? ⟨w.heap.size, 2, none⟩ = some (.slice (some ⟨b, 0, none⟩) its.length cap) := hL3.2.1.cell 2
          have hck2 : (W3.setCell ⟨W.heap.size, 0, none⟩ (.int .i64 (q : Int))).cell? ⟨W.heap.size, 0, none⟩ = some (.int .i64 (q : Int)) := hK3.cell 0
          have hc02 : (W3.setCell ⟨W.heap.size, 0, none⟩ (.int .i64 (q : Int))).cell? ⟨b, q * 3, none⟩ = some (.int .i64 y) := (World.cell?_of_block (Below.heap_setCell _ _ _ _ (show b ≠ W.heap.size by have := HBs.out; omega))).trans hc0
          have HO := Lib.hid hO
          have HN := Lib.hid (show DnI K' g nv its st w.heap.size #[.int .i64 n, .int .i64 now, .slice (some ⟨b, 0, none⟩) its.length cap, sv] w1 W.heap.size Ds (k + 1, K') _ from ⟨rfl, by dsimp only; omega, hL3, by dsimp only; rw [hqk]; exact hK3, h33, h55⟩)
          clear i1 i2 i3 i5 hx hbw hO hL3 hK3 h33 h55 hq hqk hz H0 HL HM HAt hy e2 hk
          gi_wp2_with fail
          exact ⟨HO.out, (k + 1, K'), rfl, HN.out⟩
        case done6 =>
          rintro D ⟨k, K'⟩ W3 hDw hx ⟨e1, e2, i1, i2, i3, i5⟩ hD
          dsimp only at e1 e2 i2 hx
          simp only [World.size_alloc] at hDw
          subst e1
          rw [hx, Int.sub_self] at i2
          have hck : W3.cell? ⟨W.heap.size, 0, none⟩ = some (.int .i64 0) := i2.cell 0
          have hM3 := marks_cons i5 HMk.out (by omega : W.heap.size ≤ D) (by have := HBs.out; omega) hD
          have hr := i1.2.2.1
          have hfr := hr.frozen 0
          have hM4 := marks_odd hM3 (Odd.set hr 0 (.bool true))
          have hr4 : Whole _ _ _ #[.bool true] := hr.store 0 (.bool true)
          have hb4 := (BB'.out.trans (i1.2.2.2.mono BB'.out.size)).setCell (p := ⟨w.heap.size + 1, 0, none⟩) (by show w.heap.size ≤ w.heap.size + 1; omega) (.bool true)
          have hcr : W3.cell? ⟨w.heap.size + 1, 0, none⟩ = some (.bool false) := hr.cell 0
          have HM4 := Lib.hid hM4; have HR4 := Lib.hid hr4; have HB4 := Lib.hid hb4
          clear i1 i2 i3 i5 hM3 H0 HL HM HAt hD hx e2 hM4 hr4 hb4 hr
          gi_wp2_with fail
          refine leaves_marks (B := w1.heap.size) (fun W' => Below w.heap.size w W' ∧ Whole W' (w.heap.size + 1) 4 #[.bool true]) (fun W' D' h1 h2 h3 => ⟨h2.1.grown (grownBy_putObj' W' D' (.deferred none)) h2.1.size (fun k e => by cases e; omega), h2.2.same (World.putObj_heap_other (by omega))⟩) (fun W' h => ?_) (D :: Ds) _ HM4.out ⟨HB4.out, HR4.out⟩
          have hc3 : W'.cell? ⟨w.heap.size + 1, 0, none⟩ = some (.bool true) := h.2.cell 0
          refine ⟨.bool true, ?_, rfl, h.1⟩
          simp [results, Try.f53, go_sem, hc3]
end Go.Proofs.Ytdeedmfofjdbjaa
