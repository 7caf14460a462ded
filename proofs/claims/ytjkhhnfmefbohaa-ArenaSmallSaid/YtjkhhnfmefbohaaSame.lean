/- The law's same: an arena has what the reference has. -/
import Derived.Test.YtjkhhnfmefbohaaAsks
import Derived.Test.YtjkhhnfmefbohaaArAwake
import Derived.Test.YtjkhhnfmefbohaaBeside
import Derived.BigQuiet
import Derived.Deep.QuietTactic
import Derived.IntWalk
import Derived.Test.YtjkhhnfmefbohaaRoundRegion
namespace Go.Proofs.Ytjkhhnfmefbohaa
open Go.RowKit Go.ChangeAt Go.ChangeShapes Go.WideShapes Go.Sort

attribute [local go_sem] Oper.semAt_some

/-- All blocks of a world that are plain. -/
def plains (w : World) (i : Nat) : Prop := ∃ o : Obj, w.heap[i]? = some o ∧ Obj.plain o = true
theorem Ar.widen {K K' : Nat → Prop} {w : World} {g : Nat} {L : List (Int × List Int)} {last : Int} (h : Ar K w g L last) (hK : ∀ i, K i → K' i) (hok : KOk K' w) : Ar K' w g L last := by
  obtain ⟨es, ⟨sv, ev, m, n, D, h1, h2, h3, h4, h5, h6, h7, h8, h9, h10, h11, h12⟩, hL, hH⟩ := h
  exact ⟨es, ⟨sv, ev, m, n, D, h1, h2, h3, h4, h5, h6, h7, hK _ h8, hK _ h9, fun b e => hK _ (h10 b e), fun b e => hK _ (h11 b e), hok⟩, hL, hH⟩
theorem Ar.plains {K : Nat → Prop} {w : World} {g : Nat} {L : List (Int × List Int)} {last : Int} (h : Ar K w g L last) : Ar (plains w) w g L last := h.widen (fun i hi => h.kok i hi) (fun _ h => h)
theorem steady_below {B C : Nat} (w : World) (hC : C ≤ w.heap.size) (hB : C ≤ B) : Steady B (Below C w) := fun _ _ _ h hg hr =>
  h.grown hg (Nat.le_trans hC h.size) (fun k e => Nat.le_trans hB (hr k e).1)
theorem Whole.type_ne {w : World} {b c : Nat} {t u : TypeId} {cs ds : Array Value} (h : Whole w b t cs) (k : Whole w c u ds) (hne : t ≠ u) : b ≠ c := fun e => by
  subst e
  have := (show w.heap[b]? = _ from h).symm.trans k
  cases this
  exact hne rfl
def SameI (g : Nat) (L : List (Int × List Int)) (last : Int) (w3 : World) (bx nb : Nat) (s : AllS) (W : World) : Prop :=
  Come L s.1 ∧ s.2.1 = plains w3 ∧ Ar (plains w3) W g L last ∧ Whole W bx 31 #[.pointer (some ⟨g, 0, none⟩)] ∧ BoxOk s W ∧ Whole W nb 3 #[.int .i64 (s.1.length : Nat)] ∧ Below w3.heap.size w3 W
section
variable {g bx nb : Nat} {L : List (Int × List Int)} {last : Int} {w3 : World}
theorem sameI_steady {B : Nat} (hB : w3.heap.size ≤ B) (s : AllS) : Steady B (SameI g L last w3 bx nb s) :=
  (steady_true _).and ((steady_true _).and ((steady_ar _ _ _ _).and ((steady_whole _ _ _).and ((steady_box _).and ((steady_whole _ _ _).and (steady_below _ (Nat.le_refl _) hB))))))
theorem sameI_link (s s' : AllS) (W W' : World) (h : AllLk s W s' W') (hi : SameI g L last w3 bx nb s W) : SameI g L last w3 bx nb s' W' := by
  obtain ⟨h1, h2, h3, h4, h5, h6, h7⟩ := hi
  have hb := h.below
  have hbox := h5.link (by rw [h2]; exact h3.kok) h
  obtain ⟨e1, e2, e3⟩ := h
  exact ⟨by rw [← e1]; exact h1, by rw [← e2]; exact h2, h3.on hb, h4.same (hb.block _ h4.lt), hbox, by rw [← e1]; exact h6.same (hb.block _ h6.lt), h7.trans (hb.mono h7.size)⟩
theorem sameI_on {s : AllS} {W W' : World} (hi : SameI g L last w3 bx nb s W) (hb : Below W.heap.size W W') : SameI g L last w3 bx nb s W' := by
  obtain ⟨h1, h2, h3, h4, h5, h6, h7⟩ := hi
  exact ⟨h1, h2, h3.on hb, h4.same (hb.block _ h4.lt), fun b cs e => ⟨(h5 b cs e).1.same (hb.block _ (h5 b cs e).1.lt), (h5 b cs e).2⟩, h6.same (hb.block _ h6.lt), h7.trans (hb.mono h7.size)⟩
theorem sameI_set {s : AllS} {W : World} {B n bc c0 : Nat} {xs : List Value} (hi : SameI g L last w3 bx nb s W) (hr : W.ownsRow B 30 1 (.slice (some ⟨bc, 0, none⟩) n c0) n xs) (hk : ¬ plains w3 bc) (j : Nat) (u : Value) :
    SameI g L last w3 bx nb s (W.setCell ⟨bc, j, none⟩ u) ∧ Odd W (W.setCell ⟨bc, j, none⟩ u) := by
  obtain ⟨h1, h2, h3, h4, h5, h6, h7⟩ := hi
  have hB : w3.heap.size ≤ bc := by
    rcases Nat.lt_or_ge bc w3.heap.size with h | h
    · obtain ⟨o, ho, hp⟩ := row_plain hr (b := bc) rfl
      exact absurd ⟨o, (h7.block bc h).symm.trans ho, hp⟩ hk
    · exact h
  have hn : ∀ {b : Nat} {t : TypeId} {cs : Array Value}, Whole W b t cs → 30 ≠ t → b ≠ bc := fun h hne e => by
    subst e
    exact h.row_ne hr hne rfl
  refine ⟨⟨h1, h2, h3.set hk u, h4.at_other (hn h4 (by decide)) j u, fun b cs e => ⟨(h5 b cs e).1.at_other (hn (h5 b cs e).1 (by decide)) j u, (h5 b cs e).2⟩, h6.at_other (hn h6 (by decide)) j u, h7.setCell (p := ⟨bc, j, none⟩) hB u⟩, Odd.grown (hr.stored j u).2 (fun r e => ?_)⟩
  cases e
  exact row_plain hr rfl
theorem sameI_next {s : AllS} {W : World} {x : Int × List Int} {n : Int} (hnb : w3.heap.size ≤ nb) (hi : SameI g L last w3 bx nb s W) (hc : Come L (s.1 ++ [x])) (hn : n = (s.1.length : Int) + 1) :
    SameI g L last w3 bx nb (s.1 ++ [x], s.2.1, s.2.2) (W.setCell ⟨nb, 0, none⟩ (.int .i64 n)) ∧ Odd W (W.setCell ⟨nb, 0, none⟩ (.int .i64 n)) := by
  obtain ⟨h1, h2, h3, h4, h5, h6, h7⟩ := hi
  have hk : ¬ plains w3 nb := fun ⟨o, ho, _⟩ => by
    have := (Array.getElem?_eq_some_iff.1 ho).1
    omega
  refine ⟨⟨hc, h2, h3.set hk _, h4.at_other (h4.type_ne h6 (by decide)) 0 _, fun b cs e => ⟨(h5 b cs e).1.at_other ((h5 b cs e).1.type_ne h6 (by decide)) 0 _, (h5 b cs e).2⟩, ?_, h7.setCell (p := ⟨nb, 0, none⟩) hnb _⟩, Odd.set h6 0 _⟩
  have := h6.store 0 (.int .i64 n)
  rw [List.length_append, List.length_singleton]
  rw [hn] at this ⊢
  exact this
def ZeroRel (I : World → Prop) (B n : Nat) (v : Value) (W : World) (i : Value) (wr : World) : Prop :=
  ∃ (j : Nat) (xs : List Int), j ≤ n ∧ i = .int .i64 j ∧ Odd W wr ∧ I wr ∧ wr.ownsRow B 30 1 v n (xs.map (Value.int .i64))
theorem sameI_has (s : AllS) (W : World) (hi : SameI g L last w3 bx nb s W) : (∃ last, Ar s.2.1 W g L last) ∧ W.cell? ⟨bx, 0, none⟩ = some (.pointer (some ⟨g, 0, none⟩)) ∧ BoxOk s W := by
  obtain ⟨h1, h2, h3, h4, h5, -⟩ := hi
  exact ⟨⟨_, by rw [h2]; exact h3⟩, h4.cell 0, h5⟩
end

set_option maxRecDepth 100000 in
set_option maxHeartbeats 1000000 in
theorem same_any {K : Nat → Prop} {g B C : Nat} {av : Value} {L : List (Int × List Int)} {last : Int} (w : World) (hCw : C ≤ w.heap.size) (hA : Ar K w g L last) (hR : RefRow B C w av L) (hs : ∀ p ∈ L, p.2.length ≤ 1000000) :
    Calls Try.prog 34 #[.pointer (some ⟨g, 0, none⟩), .agg #[av, .int .i64 last]] w fun r w' => r = .returned (.bool true) ∧ Below w.heap.size w w' := by
  have hgd := hA.good
  have hl := hgd.len
  have hu := hgd.used
  obtain ⟨A, cap, rfl, -, -⟩ := hR.at_
  obtain ⟨es, hAr, rfl, hH⟩ := hA
  have hH0 := sum_le_store es
  obtain ⟨L, hL⟩ : ∃ L, clO es = L := ⟨_, rfl⟩
  rw [hL] at hgd hl hu hR hs hH hH0 ⊢
  obtain ⟨u, hU⟩ : ∃ u, sumL L = u := ⟨_, rfl⟩
  obtain ⟨m, hM⟩ : ∃ m, (stO es).length = m := ⟨_, rfl⟩
  rw [hU] at hu hH hH0
  rw [hM] at hH hH0
  have b1 := below1a w (.cells #[.slice A L.length cap, .int .i64 last] 65)
  have b2 := below1a (w.alloc (.cells #[.slice A L.length cap, .int .i64 last] 65)) (.cells #[.bool false] 4)
  have bb := b1.trans (b2.mono b1.size)
  have m1 := (Whole.made w 65 #[.slice A L.length cap, .int .i64 last]).same (b2.block _ (by simp))
  have m2 := Whole.made (w.alloc (.cells #[.slice A L.length cap, .int .i64 last] 65)) 4 #[.bool false]
  rw [World.size_alloc] at m2
  have hA1 := hAr.on bb
  have hR1 := hR.on hCw bb
  obtain ⟨w1, hw1⟩ : ∃ y, (w.alloc (.cells #[.slice A L.length cap, .int .i64 last] 65)).alloc (.cells #[.bool false] 4) = y := ⟨_, rfl⟩
  rw [hw1] at m1 m2 bb hA1 hR1
  have c0 : w1.cell? ⟨w.heap.size, 0, none⟩ = some (.slice A L.length cap) := m1.cell 0
  have c1 : w1.cell? ⟨w.heap.size, 1, none⟩ = some (.int .i64 last) := m1.cell 1
  have hused := used_ref (last := last) w1 hR1 hl (by omega)
  rw [hU] at hused
  have M1 := Lib.hid m1; have M2 := Lib.hid m2; have BB := Lib.hid bb; have HA1 := Lib.hid hA1; have HR1 := Lib.hid hR1; have H1 := Lib.hid hw1; have HUs := Lib.hid hused; have HL := Lib.hid hL; have HU := Lib.hid hU; have HM := Lib.hid hM; have HS := Lib.hid hs; have HG := Lib.hid hgd
  clear b1 b2 bb m1 m2 hA1 hR1 hw1 hused hL hU hM hs hgd hAr hR
  refine (callsIn_wide (n := 5)).1 ?_
  refine callsIn_of_wp_marks Try.func34 rfl trivial ?_ rfl
  simp only [Try.ntmps34, List.size_toArray, List.length_cons, List.length_nil, Nat.reduceAdd, Nat.reduceSub, Array.replicate_succ, Array.replicate_zero, List.push_toArray, List.append_toArray, List.nil_append, List.cons_append]
  gi_wp2_with fail
  rw [H1.out]
  refine ⟨trivial, ?_⟩
  gi_at_call 46
  refine (callsIn_wide.2 HUs.out).mono ?_
  rintro r w2 ⟨rfl, hb2⟩
  have hbb2 := BB.out.trans (hb2.mono BB.out.size)
  have m12 := M1.out.same (hb2.block _ M1.out.lt)
  have m22 := M2.out.same (hb2.block _ M2.out.lt)
  have hA2 := HA1.out.on hb2
  have hR2 := HR1.out.on (Nat.le_trans hCw BB.out.size) hb2
  have hcnt : ∀ q, Calls Try.prog 22 #[.pointer (some ⟨g, 0, none⟩)] (w2.drewN q) fun e w' => e = .returned (.int .i64 (L.length : Nat)) ∧ w' = w2.drewN q := fun q => by
    have := count_any (w2.drewN q) (hA2.on (below_drewN (Below.refl _ _) q))
    rw [HL.out] at this
    exact this.mono fun e w' ⟨h1, h2⟩ => ⟨h1, h2.symm⟩
  have hus : ∀ q, Calls Try.prog 16 #[.pointer (some ⟨g, 0, none⟩)] (w2.drewN q) fun e w' => e = .returned (.int .i64 (u : Nat)) ∧ w' = w2.drewN q := fun q => by
    have := used_any (w2.drewN q) (hA2.on (below_drewN (Below.refl _ _) q))
    rw [HL.out, HU.out] at this
    exact this.mono fun e w' ⟨h1, h2⟩ => ⟨h1, h2.symm⟩
  have hla : ∀ q, Calls Try.prog 24 #[.pointer (some ⟨g, 0, none⟩)] (w2.drewN q) fun e w' => e = .returned (.int .i64 last) ∧ w' = w2.drewN q := fun q =>
    (last_any (w2.drewN q) (hA2.on (below_drewN (Below.refl _ _) q))).mono fun e w' ⟨h1, h2⟩ => ⟨h1, h2.symm⟩
  have hhe : ∀ q, Calls Try.prog 23 #[.pointer (some ⟨g, 0, none⟩)] (w2.drewN q) fun e w' => e = .returned (.int .i64 (m : Nat)) ∧ w' = w2.drewN q := fun q => by
    have := held_any (w2.drewN q) (hA2.on (below_drewN (Below.refl _ _) q))
    rw [HM.out] at this
    exact this.mono fun e w' ⟨h1, h2⟩ => ⟨h1, h2.symm⟩
  have c0 : w2.cell? ⟨w.heap.size, 0, none⟩ = some (.slice A L.length cap) := m12.cell 0
  have c1 : w2.cell? ⟨w.heap.size, 1, none⟩ = some (.int .i64 last) := m12.cell 1
  have q1 : ¬ (m : Int) < (u : Int) := by omega
  have q2 : ¬ 2 * (u : Int) + 64 < (m : Int) := by omega
  have q3 : decide (m < u) = false := decide_eq_false (by omega)
  have q4 : decide (2 * (u : Int) + 64 < (m : Int)) = false := decide_eq_false q2
  have q5 : IntKind.i64.wrap (2 * (u : Int)) = 2 * (u : Int) := IntWalk.i64_in _ (by omega)
  have q6 : IntKind.i64.wrap (2 * (u : Int) + 64) = 2 * (u : Int) + 64 := IntWalk.i64_in _ (by omega)
  have BB2 := Lib.hid hbb2; have M12 := Lib.hid m12; have M22 := Lib.hid m22; have HA2 := Lib.hid hA2; have HR2 := Lib.hid hR2; have HCnt := Lib.hid hcnt; have HUse := Lib.hid hus; have HLa := Lib.hid hla; have HHe := Lib.hid hhe
  clear hbb2 hb2 m12 m22 hA2 hR2 hcnt hus hla hhe HA1 HR1 BB M1 M2 HUs
  gi_wp2_with fail
  refine wpIn_wide.2 ?_
  go_quiet (first
    | (go_at_call 22; exact Calls.quiet_of_same (HCnt.out _))
    | (go_at_call 16; exact Calls.quiet_of_same (HUse.out _))
    | (go_at_call 24; exact Calls.quiet_of_same (HLa.out _))
    | (go_at_call 23; exact Calls.quiet_of_same (HHe.out _)))
  clear q3 q4 q5 q6
  have hb3 := below_drewN (Below.refl w2.heap.size w2) nq
  have hA3 := HA2.out.on hb3
  have hR3 := HR2.out.on (Nat.le_trans hCw BB2.out.size) hb3
  have m13 := M12.out.same (hb3.block _ M12.out.lt)
  have m23 := M22.out.same (hb3.block _ M22.out.lt)
  have hbb3 := BB2.out.trans (hb3.mono BB2.out.size)
  obtain ⟨w3, hw3⟩ : ∃ y, w2.drewN nq = y := ⟨_, rfl⟩
  rw [hw3] at hA3 hR3 m13 m23 hbb3 ⊢
  have BB3 := Lib.hid hbb3; have M13 := Lib.hid m13; have M23 := Lib.hid m23; have HA3 := Lib.hid hA3; have HR3 := Lib.hid hR3
  clear hbb3 hb3 m13 m23 hA3 hR3 hw3 HA2 HR2 BB2 M12 M22 HCnt HUse HLa HHe c0 c1
  gi_wp2_with fail
  refine ⟨trivial, ?_⟩
  gi_at_call 20
  refine (callsIn_wide.2 (all_any _ _)).mono ?_
  rintro r w' ⟨rfl, rfl⟩
  gi_wp2_with fail
  have hn0 : Whole (w3.alloc (.cells #[.int .i64 0] 3)) w3.heap.size 3 #[.int .i64 0] := Whole.made w3 _ _
  have hb0 := Whole.made (w3.alloc (.cells #[.int .i64 0] 3)) 31 #[.pointer (some ⟨g, 0, none⟩)]
  have hbl := (below1a w3 (.cells #[.int .i64 0] 3)).trans ((below1a (w3.alloc (.cells #[.int .i64 0] 3)) (.cells #[.pointer (some ⟨g, 0, none⟩)] 31)).mono (by simp))
  rw [World.size_alloc] at hb0
  have hA3 : Ar K w3 g L last := ⟨es, HA3.out, HL.out, by rw [HM.out, HU.out]; exact hH⟩
  have h0 : SameI g L last w3 (w3.heap.size + 1) w3.heap.size ([], plains w3, none) ((w3.alloc (.cells #[.int .i64 0] 3)).alloc (.cells #[.pointer (some ⟨g, 0, none⟩)] 31)) := ⟨come_nil _, rfl, hA3.plains.on hbl, hb0, (fun b cs e => by cases e), hn0.same ((below1a _ _).block _ hn0.lt), hbl⟩
  have hBB : w3.heap.size ≤ ((w3.alloc (.cells #[.int .i64 0] 3)).alloc (.cells #[.pointer (some ⟨g, 0, none⟩)] 31)).heap.size := by simp; omega
  have H0 := Lib.hid h0
  clear h0 hn0 hb0 hbl hA3 HA3
  refine range_all (n := 5) (by decide) (g := g) (bx := w3.heap.size + 1) rfl (enters_of Try.func43 (by kernel_rfl) rfl) rfl (fun _ => L) (SameI g L last w3 (w3.heap.size + 1) w3.heap.size) (fun _ _ => False) (fun s => sameI_steady hBB s) (fun _ => steady_true False) (plains w3) H0.out sameI_link sameI_has ?a1 ?assign ?body ?done ?stop
  case assign =>
    intro l id v W K hK
    gi_wp2
    exact hK
  case stop => intro D c W _ h; cases h
  case body =>
    intro l s id ls v B W hI hx hrow hnk
    obtain ⟨i1, i2, i3, i4, i5, i6, i7⟩ := hI
    obtain ⟨c1, c2⟩ := i1.step HG.out.inc (fun p hp => (HG.out.lo p hp).1) hx
    obtain ⟨k, hk⟩ : ∃ k, s.1.length = k := ⟨_, rfl⟩
    rw [hk] at c1 i6
    have hkl := (List.getElem?_eq_some_iff.1 c1).1
    have hls := HS.out _ (List.mem_iff_getElem?.2 ⟨_, c1⟩)
    have hRW := HR3.out.on (Nat.le_trans hCw BB3.out.size) i7
    obtain ⟨A', cap', e', -, hat⟩ := hRW.at_
    cases e'
    obtain ⟨b, u9, rfl, hb, e0, e1, hI9⟩ := hat k _ c1
    obtain ⟨Av, cv, rfl, -⟩ := ints_shape hI9
    obtain ⟨Ac, cc, rfl⟩ := own_shape0 hrow
    have mW := M13.out.same (i7.block _ M13.out.lt)
    have hS0 : W.drew.cell? ⟨w3.heap.size, 0, none⟩ = some (.int .i64 (k : Nat)) ∧ W.drew.cell? ⟨w.heap.size, 0, none⟩ = some (.slice (some ⟨b, 0, none⟩) L.length cap) ∧ W.drew.cell? ⟨b, k * 2, none⟩ = some (.int .i64 id) ∧ W.drew.cell? ⟨b, k * 2 + 1, none⟩ = some (.slice Av ls.length cv) := ⟨i6.cell 0, mW.cell 0, e0, e1⟩
    have lt1 := i6.lt
    have lt2 := mW.lt
    have hbd : Below W.heap.size W W.drew := (Below.refl _ _).drew
    have hint := intsOf_any W.drew.heap.size _ ls hls W.drew (Nat.le_refl _) ((ints_own hrow).below hbd)
    have hCW : C ≤ W.heap.size := Nat.le_trans hCw (Nat.le_trans BB3.out.size i7.size)
    have HS := Lib.hid hS0; have HInt := Lib.hid hint; have HI9 := Lib.hid hI9; have HI := Lib.hid (show SameI g L last w3 (w3.heap.size + 1) w3.heap.size s W from ⟨i1, i2, i3, i4, i5, by rw [hk]; exact i6, i7⟩); have HRow := Lib.hid hrow; have HNk := Lib.hid (show ∀ b, Value.ownBlock (.slice Ac ls.length cc) = some b → ¬ plains w3 b by rw [← i2]; exact hnk); have HC2 := Lib.hid c2; have HK := Lib.hid hk; have HBd := Lib.hid hbd
    clear hS0 mW e0 e1 hat hRW H0 i1 i2 i3 i4 i5 i6 i7 c1 c2 hx hnk hrow hint hI9 hk hbd
    gi_wp2_with fail
    refine wpIn_round_held (fun W' => W'.cell? ⟨w3.heap.size, 0, none⟩ = some (.int .i64 (k : Nat)) ∧ W'.cell? ⟨w.heap.size, 0, none⟩ = some (.slice (some ⟨b, 0, none⟩) L.length cap) ∧ W'.cell? ⟨b, k * 2, none⟩ = some (.int .i64 id) ∧ W'.cell? ⟨b, k * 2 + 1, none⟩ = some (.slice Av ls.length cv)) (by kernel_rfl) (by kernel_rfl) (by rintro ⟨a, w, h⟩; exact h) ?_
    refine wpAnyH_take (i := 0) (v := .int .i64 (k : Nat)) rfl (by kernel_rfl) (by kernel_rfl) (by kernel_rfl) (fun _ _ _ h => h) (Or.inl ⟨by kernel_rfl, fun w ⟨s0, s1, s2, s3⟩ => by go_simp⟩) HS.out ?_
    refine wpAnyH_take (i := 1) (v := .pointer (some ⟨w.heap.size, 0, none⟩)) rfl (by kernel_rfl) (by kernel_rfl) (by kernel_rfl) (fun _ _ _ h => h) (Or.inl ⟨by kernel_rfl, fun w ⟨s0, s1, s2, s3⟩ => by go_simp⟩) HS.out ?_
    refine wpAnyH_take (i := 2) (v := .slice (some ⟨b, 0, none⟩) L.length cap) rfl (by kernel_rfl) (by kernel_rfl) (by kernel_rfl) (fun _ _ _ h => h) (Or.inl ⟨by kernel_rfl, fun w ⟨s0, s1, s2, s3⟩ => by go_simp⟩) HS.out ?_
    refine wpAnyH_take (i := 3) (v := .int .i64 (L.length : Nat)) rfl (by kernel_rfl) (by kernel_rfl) (by kernel_rfl) (fun _ _ _ h => h) (Or.inl ⟨by kernel_rfl, fun w ⟨s0, s1, s2, s3⟩ => by go_simp⟩) HS.out ?_
    refine wpAnyH_take (i := 4) (v := .bool false) rfl (by kernel_rfl) (by kernel_rfl) (by kernel_rfl) (fun _ _ _ h => h) (Or.inl ⟨by kernel_rfl, fun w ⟨s0, s1, s2, s3⟩ => by go_simp⟩) HS.out ?_
    refine wpAnyH_take (i := 5) (v := .bool false) rfl (by kernel_rfl) (by kernel_rfl) (by kernel_rfl) (fun _ _ _ h => h) (Or.inl ⟨by kernel_rfl, fun w ⟨s0, s1, s2, s3⟩ => by go_simp⟩) HS.out ?_
    refine wpAnyH_take (i := 6) (v := .int .i64 id) rfl (by kernel_rfl) (by kernel_rfl) (by kernel_rfl) (fun _ _ _ h => h) (Or.inl ⟨by kernel_rfl, fun w ⟨s0, s1, s2, s3⟩ => by go_simp⟩) HS.out ?_
    refine wpAnyH_take (i := 7) (v := .pointer (some ⟨w.heap.size, 0, none⟩)) rfl (by kernel_rfl) (by kernel_rfl) (by kernel_rfl) (fun _ _ _ h => h) (Or.inl ⟨by kernel_rfl, fun w ⟨s0, s1, s2, s3⟩ => by go_simp⟩) HS.out ?_
    refine wpAnyH_take (i := 8) (v := .slice (some ⟨b, 0, none⟩) L.length cap) rfl (by kernel_rfl) (by kernel_rfl) (by kernel_rfl) (fun _ _ _ h => h) (Or.inl ⟨by kernel_rfl, fun w ⟨s0, s1, s2, s3⟩ => by go_simp⟩) HS.out ?_
    refine wpAnyH_take (i := 9) (v := .int .i64 (k : Nat)) rfl (by kernel_rfl) (by kernel_rfl) (by kernel_rfl) (fun _ _ _ h => h) (Or.inl ⟨by kernel_rfl, fun w ⟨s0, s1, s2, s3⟩ => by go_simp⟩) HS.out ?_
    refine wpAnyH_take (i := 10) (v := .pointer (some ⟨b, k * 2, none⟩)) rfl (by kernel_rfl) (by kernel_rfl) (by kernel_rfl) (fun _ _ _ h => h) (Or.inl ⟨by kernel_rfl, fun w ⟨s0, s1, s2, s3⟩ => by go_simp⟩) HS.out ?_
    refine wpAnyH_take (i := 11) (v := .pointer (some ⟨b, k * 2, none⟩)) rfl (by kernel_rfl) (by kernel_rfl) (by kernel_rfl) (fun _ _ _ h => h) (Or.inl ⟨by kernel_rfl, fun w ⟨s0, s1, s2, s3⟩ => by go_simp⟩) HS.out ?_
    refine wpAnyH_take (i := 12) (v := .int .i64 id) rfl (by kernel_rfl) (by kernel_rfl) (by kernel_rfl) (fun _ _ _ h => h) (Or.inl ⟨by kernel_rfl, fun w ⟨s0, s1, s2, s3⟩ => by go_simp⟩) HS.out ?_
    refine wpAnyH_take (i := 13) (v := .bool false) rfl (by kernel_rfl) (by kernel_rfl) (by kernel_rfl) (fun _ _ _ h => h) (Or.inl ⟨by kernel_rfl, fun w ⟨s0, s1, s2, s3⟩ => by go_simp⟩) HS.out ?_
    refine wpAnyH_take (i := 14) (v := .bool false) rfl (by kernel_rfl) (by kernel_rfl) (by kernel_rfl) (fun _ _ _ h => h) (Or.inl ⟨by kernel_rfl, fun w ⟨s0, s1, s2, s3⟩ => by go_simp⟩) HS.out ?_
    refine wpAnyH_take (i := 15) (v := .bool false) rfl (by kernel_rfl) (by kernel_rfl) (by kernel_rfl) (fun _ _ _ h => h) (Or.inl ⟨by kernel_rfl, fun w ⟨s0, s1, s2, s3⟩ => by go_simp⟩) HS.out ?_
    refine wpAnyH_take (i := 16) (v := .slice Ac ls.length cc) rfl (by kernel_rfl) (by kernel_rfl) (by kernel_rfl) (fun _ _ _ h => h) (Or.inl ⟨by kernel_rfl, fun w ⟨s0, s1, s2, s3⟩ => by go_simp⟩) HS.out ?_
    refine wpAnyH_take (i := 18) (v := .pointer (some ⟨w.heap.size, 0, none⟩)) rfl (by kernel_rfl) (by kernel_rfl) (by kernel_rfl) (fun _ _ _ h => h) (Or.inl ⟨by kernel_rfl, fun w ⟨s0, s1, s2, s3⟩ => by go_simp⟩) HS.out ?_
    refine wpAnyH_take (i := 19) (v := .slice (some ⟨b, 0, none⟩) L.length cap) rfl (by kernel_rfl) (by kernel_rfl) (by kernel_rfl) (fun _ _ _ h => h) (Or.inl ⟨by kernel_rfl, fun w ⟨s0, s1, s2, s3⟩ => by go_simp⟩) HS.out ?_
    refine wpAnyH_take (i := 20) (v := .int .i64 (k : Nat)) rfl (by kernel_rfl) (by kernel_rfl) (by kernel_rfl) (fun _ _ _ h => h) (Or.inl ⟨by kernel_rfl, fun w ⟨s0, s1, s2, s3⟩ => by go_simp⟩) HS.out ?_
    refine wpAnyH_take (i := 21) (v := .pointer (some ⟨b, k * 2, none⟩)) rfl (by kernel_rfl) (by kernel_rfl) (by kernel_rfl) (fun _ _ _ h => h) (Or.inl ⟨by kernel_rfl, fun w ⟨s0, s1, s2, s3⟩ => by go_simp⟩) HS.out ?_
    refine wpAnyH_take (i := 22) (v := .pointer (some ⟨b, k * 2 + 1, none⟩)) rfl (by kernel_rfl) (by kernel_rfl) (by kernel_rfl) (fun _ _ _ h => h) (Or.inl ⟨by kernel_rfl, fun w ⟨s0, s1, s2, s3⟩ => by go_simp⟩) HS.out ?_
    refine wpAnyH_take (i := 23) (v := .slice Av ls.length cv) rfl (by kernel_rfl) (by kernel_rfl) (by kernel_rfl) (fun _ _ _ h => h) (Or.inl ⟨by kernel_rfl, fun w ⟨s0, s1, s2, s3⟩ => by go_simp⟩) HS.out ?_
    refine wpAnyH_ready (rs := [17]) (by kernel_rfl) (by simp) (AllReadyH.cons rfl (fun K hK => ?_) AllReadyH.nil)
    go_simp
    refine (HInt.out).mono ?_
    rintro r w6 ⟨vi, rfl, hr6, hb6⟩
    have hS6 : w6.cell? ⟨w3.heap.size, 0, none⟩ = some (.int .i64 (k : Nat)) ∧ w6.cell? ⟨w.heap.size, 0, none⟩ = some (.slice (some ⟨b, 0, none⟩) L.length cap) ∧ w6.cell? ⟨b, k * 2, none⟩ = some (.int .i64 id) ∧ w6.cell? ⟨b, k * 2 + 1, none⟩ = some (.slice Av ls.length cv) :=
      ⟨(hb6.cell (p := ⟨w3.heap.size, 0, none⟩) lt1).trans HS.out.1, (hb6.cell (p := ⟨w.heap.size, 0, none⟩) lt2).trans HS.out.2.1, (hb6.cell (p := ⟨b, k * 2, none⟩) hb).trans HS.out.2.2.1, (hb6.cell (p := ⟨b, k * 2 + 1, none⟩) hb).trans HS.out.2.2.2⟩
    have hb06 := HBd.out.trans (hb6.mono (Nat.le_refl _))
    have heq := equal_int w6 (by omega) (by omega) (ints_own hr6) ((HI9.out.below (hb06.mono hCW)).more (Nat.le_trans hCW hb06.size))
    rw [beq_self_eq_true] at heq
    have HEq := Lib.hid heq; have HB6 := Lib.hid hb06; have HS6 := Lib.hid hS6
    clear heq hb06 hS6 hr6 hb6 HInt HI9
    go_simp
    refine hK.out _ _ HS6.out (fun _ => ?_)
    clear hK K
    refine wpAnyH_ready (rs := [24]) (by kernel_rfl) (by simp) (AllReadyH.cons rfl (fun K hK => ?_) AllReadyH.nil)
    go_simp
    refine (HEq.out).mono ?_
    rintro r w7 ⟨rfl, q, hq⟩
    have hb7 : Below W.heap.size W w7 := by rw [hq]; exact below_drewN HB6.out q
    have hS7 : w7.cell? ⟨w3.heap.size, 0, none⟩ = some (.int .i64 (k : Nat)) ∧ w7.cell? ⟨w.heap.size, 0, none⟩ = some (.slice (some ⟨b, 0, none⟩) L.length cap) ∧ w7.cell? ⟨b, k * 2, none⟩ = some (.int .i64 id) ∧ w7.cell? ⟨b, k * 2 + 1, none⟩ = some (.slice Av ls.length cv) := by
      rw [hq]; exact HS6.out
    have HB7 := Lib.hid hb7; have HS := Lib.hid hS7
    clear hq hb7 hS7 HEq HB6 HS6
    go_simp
    refine hK.out _ _ HS.out (fun _ => ?_)
    clear hK K
    refine wpAnyH_take (i := 25) (v := .bool false) rfl (by kernel_rfl) (by kernel_rfl) (by kernel_rfl) (fun _ _ _ h => h) (Or.inl ⟨by kernel_rfl, fun w ⟨s0, s1, s2, s3⟩ => by go_simp⟩) HS.out ?_
    refine wpAnyH_take (i := 26) (v := .bool false) rfl (by kernel_rfl) (by kernel_rfl) (by kernel_rfl) (fun _ _ _ h => h) (Or.inl ⟨by kernel_rfl, fun w ⟨s0, s1, s2, s3⟩ => by go_simp⟩) HS.out ?_
    refine wpAnyH_done (by kernel_rfl) ?_ _
    go_simp
    have hI7 := sameI_on HI.out HB7.out
    have hr7 := owns_on0 HRow.out HB7.out
    have HI7 := Lib.hid hI7; have HR7 := Lib.hid hr7; have HO7 := Lib.hid (Odd.of_below HB7.out)
    clear hI7 hr7 HI HRow HB7 HS HBd
    gi_wp2_with fail
    gi_loopw [78] (fun i wr => ZeroRel (SameI g L last w3 (w3.heap.size + 1) w3.heap.size s) B ls.length (.slice Ac ls.length cc) W i wr) (fun i _ => ls.length - (intOf i).toNat)
    case atStart => exact ⟨0, ls, Nat.zero_le _, rfl, HO7.out, HI7.out, HR7.out⟩
    case round =>
      obtain ⟨j, xs, hj, rfl, hO, hI, hR⟩ := hrel
      by_cases hlt : j < ls.length
      · obtain ⟨bc, rfl⟩ : ∃ bc, Ac = some ⟨bc, 0, none⟩ := by
          rcases hR.2 with ⟨e, -⟩ | ⟨bc, cap', cur, e, -⟩
          · injection e with _ e1 _
            omega
          · cases e
            exact ⟨bc, rfl⟩
        have hxl : xs.length = ls.length := by simpa using hR.1
        have hcell : wr.cell? ⟨bc, j, none⟩ = some (.int .i64 (xs[j]?.getD 0)) := by
          rw [hR.cellAt j (by omega), List.getElem?_map, List.getElem?_eq_getElem (by omega)]
          rfl
        have hfz := hR.frozenAt j
        obtain ⟨hI2, hO2⟩ := sameI_set hI hR (HNk.out bc rfl) j (.int .i64 0)
        have hR2 := (hR.stored j (.int .i64 0)).1
        have HI2 := Lib.hid hI2; have HO2 := Lib.hid (hO.trans hO2); have HR2 := Lib.hid hR2
        clear hI2 hO2 hR2 hO hI hR hxl HI7 HR7 HO7
        gi_wp2_with fail
        refine ⟨⟨j + 1, xs.set j 0, hlt, by go_num, HO2.out, HI2.out, by rw [List.map_set]; exact HR2.out⟩, ?_⟩
        simp [intOf]; omega
      · obtain rfl : j = ls.length := by omega
        have h6 := hI.2.2.2.2.2.1
        rw [HK.out] at h6
        have hcn : wr.cell? ⟨w3.heap.size, 0, none⟩ = some (.int .i64 (k : Nat)) := h6.cell 0
        have hfn := h6.frozen 0
        obtain ⟨hI2, hO2⟩ := sameI_next (n := (k : Int) + 1) (Nat.le_refl _) hI HC2.out (by rw [HK.out])
        have HI2 := Lib.hid hI2; have HO2 := Lib.hid (hO.trans hO2)
        clear hI2 hO2 hO hI hR h6 HI7 HR7 HO7
        gi_wp2_with fail
        exact ⟨HO2.out, (s.1 ++ [(id, ls)], s.2.1, s.2.2), ⟨rfl, rfl⟩, HI2.out⟩
  case done =>
    intro D s W hDw hx hI hD
    simp only [World.size_alloc] at hDw
    obtain ⟨i1, i2, i3, i4, i5, i6, i7⟩ := hI
    have hs1 := i1.all HG.out.inc (fun p hp => (HG.out.lo p hp).1) hx
    rw [hs1] at i6
    have hcn : W.cell? ⟨w3.heap.size, 0, none⟩ = some (.int .i64 (L.length : Nat)) := i6.cell 0
    have mW := M13.out.same (i7.block _ M13.out.lt)
    have rW := M23.out.same (i7.block _ M23.out.lt)
    have c0 : W.cell? ⟨w.heap.size, 0, none⟩ = some (.slice A L.length cap) := mW.cell 0
    have cr : W.cell? ⟨w.heap.size + 1, 0, none⟩ = some (.bool false) := rW.cell 0
    have hfr := rW.frozen 0
    have hBW := BB3.out.trans (i7.mono BB3.out.size)
    have hlt := rW.lt
    have hD2 := (Odd.set rW 0 (.bool true)).same D _ hD rfl
    have cr2 : (W.setCell ⟨w.heap.size + 1, 0, none⟩ (.bool true)).cell? ⟨w.heap.size + 1, 0, none⟩ = some (.bool true) := (rW.store 0 _).cell 0
    have hB2 : Below w.heap.size w (W.setCell ⟨w.heap.size + 1, 0, none⟩ (.bool true)) := hBW.setCell (p := ⟨w.heap.size + 1, 0, none⟩) (by show w.heap.size ≤ w.heap.size + 1; omega) _
    have hM1 := M13.out.lt
    have hM2 := M23.out.lt
    have HD2 := Lib.hid hD2; have HC2 := Lib.hid cr2; have HB2 := Lib.hid hB2
    clear i1 i2 i3 i4 i5 i6 i7 hs1 hx hD hD2 cr2 hB2 hBW mW rW H0
    gi_wp2_with fail
    refine ⟨by simp, .inl ⟨_, _, rfl, run_takeDeferred HD2.out, ?_⟩⟩
    have hc3 : ((W.setCell ⟨w.heap.size + 1, 0, none⟩ (.bool true)).putObj D (.deferred none)).cell? ⟨w.heap.size + 1, 0, none⟩ = some (.bool true) := (World.cell?_of_block (World.putObj_heap_other (k := w.heap.size + 1) (by omega))).trans HC2.out
    have hb3 := HB2.out.grown (grownBy_putObj' _ D (.deferred none)) HB2.out.size (fun k e => by cases e; omega)
    refine ⟨.bool true, ?_, rfl, hb3⟩
    simp [results, Try.f34, go_sem, hc3]
end Go.Proofs.Ytjkhhnfmefbohaa
