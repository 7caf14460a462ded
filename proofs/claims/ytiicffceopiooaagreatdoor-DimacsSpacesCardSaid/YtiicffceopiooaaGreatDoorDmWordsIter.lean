/- dimacs.words: its iterator. -/
import Derived.Test.YtiicffceopiooaaGreatDoorDmWords
namespace Go.Proofs.YtiicffceopiooaaGreatDoor
open Go.RowKit Go.ChangeAt Go.ChangeShapes Go.WideShapes Go.Shelf Go.Sort

attribute [local go_sem] Oper.semAt_some

set_option maxRecDepth 100000 in
set_option maxHeartbeats 2000000 in
theorem words_iter (sb hb h : Nat) (S : List UInt8) (hS : S.length ≤ 4000000000) (hh64 : h ≤ 4000000001) :
    IterIn Tryz.prog 94 #[.pointer (some ⟨sb, 0, none⟩), .pointer (some ⟨hb, 0, none⟩)] ((wordsS S h).map fun p => #[.int .i64 (p.1 : Nat), str p.2]) (fun b => b = sb ∨ b = hb) (fun W => Whole W sb 9 #[str S] ∧ Whole W hb 3 #[.int .i64 h]) := by
  intro m l J Jx W hJ hJx h0 hc hY
  have c0 : W.cell? ⟨sb, 0, none⟩ = some (str S) := hc.1.cell 0
  have c1 : ∀ o, (W.alloc o).cell? ⟨sb, 0, none⟩ = some (str S) := fun o => (((Below.refl _ W).alloc (Nat.le_refl _) o).cell (p := ⟨sb, 0, none⟩) hc.1.lt).trans c0
  have hli := fun W => lines_any S W
  have hsp := fun W s => splitSeq_any s 32 W
  have HJ := Lib.hid hJ; have HJx := Lib.hid hJx; have H0 := Lib.hid h0; have HY := Lib.hid hY; have HC := Lib.hid hc; have HLi := Lib.hid hli; have HSp := Lib.hid hsp
  clear hJ hJx h0 hY hc hsp hli
  refine calls_any (m := 9) ?_
  refine callsIn_of_wp_marks Tryz.func94 rfl trivial ?_ rfl
  simp only [Tryz.ntmps94, List.size_toArray, List.length_cons, List.length_nil, Nat.reduceAdd, Nat.reduceSub, Array.replicate_succ, Array.replicate_zero, List.push_toArray, List.append_toArray, List.nil_append, List.cons_append]
  gi_wp2_with fail
  obtain ⟨W2, hW2⟩ : ∃ x, W.alloc (.cells #[.func (.yield l) #[] #[]] 135) = x := ⟨_, rfl⟩
  have hy2 : Whole W2 W.heap.size 135 #[.func (.yield l) #[] #[]] := by rw [← hW2]; exact Whole.made W _ _
  have hb2 : Below W.heap.size W W2 := by rw [← hW2]; exact (Below.refl _ W).alloc (Nat.le_refl _) _
  have hs2 : W2.heap.size = W.heap.size + 1 := by rw [← hW2]; simp
  obtain ⟨by_, hby⟩ : ∃ x, W.heap.size = x := ⟨_, rfl⟩
  rw [hby] at hy2
  rw [hW2, hby]
  have HB2 := Lib.hid hb2; have HY2 := Lib.hid hy2; have HBy := Lib.hid hby; have HS2 := Lib.hid hs2
  clear hW2 hy2 hb2 hs2 hby c0 c1
  refine ⟨trivial, ?_⟩
  refine (callsIn_wide.2 (HLi.out W2)).mono ?_
  rintro e W3 ⟨rfl, hw3⟩
  have hl3 : Whole W3 W2.heap.size 9 #[str S] := by rw [hw3]; exact Whole.made W2 _ _
  have hb3 : Below W2.heap.size W2 W3 := by rw [hw3]; exact (Below.refl _ W2).alloc (Nat.le_refl _) _
  obtain ⟨bl, hbl⟩ : ∃ x, W2.heap.size = x := ⟨_, rfl⟩
  rw [hbl] at hl3
  rw [hbl]
  have HL3 := Lib.hid hl3; have HB3 := Lib.hid hb3; have HBl := Lib.hid hbl
  clear hl3 hb3 hbl hw3
  gi_wp2_with fail
  have hI := wdI_inv (l := l) (by_ := by_) (hb := hb) (h := h) (S := S) HJ.out
  refine range_iter rfl (enters_of Tryz.func111 (by kernel_rfl) rfl) (lines_iter bl S hS) (fun args h => by obtain ⟨x, -, rfl⟩ := List.mem_map.1 h; rfl)
    (WdI l by_ hb h S J) (LnX Jx) hI (lnX_inv HJx.out) ?start (fun W' hb' => HL3.out.same (hb'.block _ HL3.out.lt))
    (WdR l by_ hb h S J (fun bx n ln => { tmps := #[.func (.yield l) #[] #[], .pointer (some ⟨sb, 0, none⟩), .pointer (some ⟨hb, 0, none⟩), .pointer (some ⟨by_, 0, none⟩), .pointer (some ⟨bx, 0, none⟩), str ln, undef, str S, .func (.func 111) #[] #[.pointer (some ⟨bl, 0, none⟩)], .int .i64 n, str ln, undef, undef, undef, undef, undef, undef, undef, undef, undef, undef, undef, undef, undef, undef, undef], defers := [] })) (wdR_keep HJ.out) ?assign ?body ?done ?stop
  case start =>
    have hW : Below W.heap.size W W3 := HB2.out.trans (HB3.out.mono HB2.out.size)
    have hg := (HJ.out 0).grow _ W W3 H0.out hW
    have h3 := HB3.out.size
    have hs2 := HS2.out; have hby := HBy.out; have hbl := HBl.out; have hl3 := HL3.out.lt
    have hbw := HC.out.2.lt
    refine ⟨fun b => (b = sb ∨ b = hb) ∨ (W.heap.size ≤ b ∧ b < W3.heap.size), (by rw [show cntW S h 0 = 0 by simp [cntW]]; exact hg), fun x hx => .inr (by omega), ⟨.inr (by omega), .inl (.inr rfl)⟩, ⟨(by omega), (by omega)⟩, ⟨HY2.out.same (HB3.out.block _ HY2.out.lt), HC.out.2.same (hW.block _ hbw)⟩⟩
  case assign =>
    intro l' k X args W' hX hr hI' hk
    obtain ⟨p, hp, rfl⟩ : ∃ p, (linesL S)[k]? = some p ∧ args = #[.int .i64 (p.1 : Nat), str p.2] := by
      rw [List.getElem?_map] at hk
      cases hp : (linesL S)[k]? with
      | none => rw [hp] at hk; cases hk
      | some p => rw [hp] at hk; exact ⟨p, rfl, (Option.some.inj hk).symm⟩
    obtain ⟨n, ln⟩ := p
    have HI := Lib.hid hI'; have HP := Lib.hid hp
    clear hI' hk hr hp
    gi_wp2
    obtain ⟨Xo, h1, h2, h3, h4, h5⟩ := HI.out
    have hb4 := (Below.refl W'.heap.size W').alloc (Nat.le_refl _) (.cells #[.int .i64 (n : Nat)] 3)
    have hown := (HJ.out _).own _ _ h1
    refine ⟨⟨_, W'.heap.size, (n, ln), rfl, HP.out, (HJ.out _).grow _ _ _ h1 hb4, fun x hx => .inl (h2 x hx), ⟨.inl h3.1, .inl h3.2, .inr ⟨Nat.le_refl _, by simp⟩⟩, ⟨h4.1, h4.2, fun hx => by have := hown _ (h2 _ hx); omega⟩, h5.on hb4, Whole.made W' _ _⟩, SameX.below (fun x hx => hown x (h2 x hx)) hb4⟩
  case body =>
    rintro l' k X a' W' hX ⟨r0, hr0⟩ hown ⟨Xo, bx, ⟨n, ln⟩, rfl, hp, hj, hXo, ⟨hoy, hob, hox⟩, ⟨hny, hnb, hnx⟩, hwd, hwx⟩ hlt
    have hle := lines_le (List.mem_of_getElem? hp)
    have hn64 : (n : Int) ≤ 4000000001 := by have := hle.2.1; omega
    have hh65 : (h : Int) ≤ 4000000001 := by omega
    have hln : ln.length ≤ 4000000000 := by have := hle.2.2; exact Nat.le_trans this hS
    have cx : W'.cell? ⟨bx, 0, none⟩ = some (.int .i64 n) := hwx.cell 0
    have cb : W'.cell? ⟨hb, 0, none⟩ = some (.int .i64 h) := hwd.b.cell 0
    have HP := Lib.hid hp; have HJ1 := Lib.hid hj; have HXo := Lib.hid hXo; have HWd := Lib.hid hwd; have HWx := Lib.hid hwx; have HOwn := Lib.hid hown; have HR0 := Lib.hid hr0; have HX := Lib.hid hX
    clear hp hj hXo hwd hwx hown hr0 hle hlt hX
    by_cases hnh : n ≤ h
    · have hnh2 : (n : Int) ≤ (h : Int) := by omega
      gi_wp2_with fail
      exact ⟨⟨Xo, by rw [cntW_old HP.out hnh]; exact HJ1.out, HXo.out, ⟨hoy, hob⟩, ⟨hny, hnb⟩, HWd.out⟩, SameX.refl _ _⟩
    · have hnh2 : ¬ (n : Int) ≤ (h : Int) := by omega
      gi_wp2_with fail
      refine ⟨trivial, ?_⟩
      refine (CallsIn.inRound l' (callsIn_wide.2 (HSp.out W' ln))).mono ?_
      rintro e W4 ⟨rfl, hsp, hb4⟩
      obtain ⟨br, hbr⟩ : ∃ x, W'.heap.size = x := ⟨_, rfl⟩
      obtain ⟨bs, hbs⟩ : ∃ x, br + 1 = x := ⟨_, rfl⟩
      obtain ⟨bk, hbk⟩ : ∃ x, bs + 1 = x := ⟨_, rfl⟩
      rw [hbr, hbs, hbk] at hsp
      rw [hbr, hbs, hbk]
      have HSpA := Lib.hid hsp; have HB4 := Lib.hid hb4; have HBr := Lib.hid hbr; have HBs := Lib.hid hbs; have HBk := Lib.hid hbk
      clear hsp hb4 hbr hbs hbk cx cb
      gi_wp2_with fail
      have hI2 := wpI_inv (l := l) (by_ := by_) (hb := hb) (h := h) (bx := bx) (n := n) (c0 := cntW S h k) (ln := ln) (Xl := X) (W0 := W') HJ.out
      have hl4 : W4.heap[l']? = some (.loop r0) := (HB4.out.block _ (HOwn.out l' HX.out)).trans HR0.out
      refine range_iter_in hl4 rfl (enters_of Tryz.func137 (by kernel_rfl) rfl) (split_iter 32 bs br bk ln hln ⟨by have := HBs.out; omega, by have := HBs.out; have := HBk.out; omega⟩) (fun args h => by obtain ⟨x, -, rfl⟩ := List.mem_map.1 h; rfl)
        (WpI l by_ hb h bx n (cntW S h k) ln J X W') (WpX Jx X W') hI2 (wpX_inv HJx.out) ?start2 (fun W' hb => HSpA.out.on hb)
        (PlainR ((segs 32 ln).map fun x => #[str x]) (WpI l by_ hb h bx n (cntW S h k) ln J X W') (fun args => { tmps := #[.func (.yield l) #[] #[], .pointer (some ⟨sb, 0, none⟩), .pointer (some ⟨hb, 0, none⟩), .pointer (some ⟨by_, 0, none⟩), .pointer (some ⟨bx, 0, none⟩), str ln, args.getD 0 undef, str S, .func (.func 111) #[] #[.pointer (some ⟨bl, 0, none⟩)], .int .i64 n, str ln, .int .i64 n, .int .i64 h, .bool false, str ln, .func (.func 137) #[] #[.pointer (some ⟨bs, 0, none⟩), .pointer (some ⟨br, 0, none⟩), .pointer (some ⟨bk, 0, none⟩)], args.getD 0 undef, undef, undef, undef, undef, undef, undef, undef, undef, undef], defers := [] })) (plainR_keep hI2) ?assign2 ?body2 ?done2 ?stop2
      case start2 =>
        have hg := (HJ.out _).grow _ W' W4 HJ1.out HB4.out
        have hbr := HBr.out; have hbs := HBs.out; have hbk := HBk.out
        have h4 := HB4.out.size
        have hk4 := HSpA.out.2.2.lt
        have hy := HWd.out.y.lt; have hbb := HWd.out.b.lt; have hxx := HWx.out.lt
        refine ⟨fun b => Xo b ∨ (W'.heap.size ≤ b ∧ b < W4.heap.size), (by rw [show cntP ln 0 = 0 by simp [cntP]]; exact hg), fun x hx => .inr (by omega), fun x hx => .inl (HXo.out x hx), fun x hx h => by have := HOwn.out x hx; omega,
          ⟨.inl hoy, .inl hob, .inl hox⟩, ⟨(by omega), (by omega), (by omega)⟩, HWd.out.on HB4.out, HWx.out.same (HB4.out.block _ hxx), SameX.below HOwn.out HB4.out, HOwn.out⟩
      case assign2 =>
        intro l2 j X2 args W5 hX2 hr hI' hk'
        obtain ⟨x, hx, rfl⟩ := List.mem_map.1 (List.mem_of_getElem? hk')
        have HI := Lib.hid hI'; have HK := Lib.hid hk'
        clear hI' hk' hr
        gi_wp2
        exact ⟨⟨_, rfl, HI.out, HK.out⟩, SameX.refl _ _⟩
      case body2 =>
        rintro l2 j X2 a' W5 hX2 hr hown2 ⟨args, rfl, ⟨Xo2, g1, g2, g3, g4, ⟨goy, gob, gox⟩, ⟨gny, gnb, gnx⟩, gwd, gwx, gs, gl⟩, hk'⟩ hlt'
        obtain ⟨x, hx⟩ : ∃ x, (segs 32 ln)[j]? = some x := ⟨_, List.getElem?_eq_getElem (by rw [List.length_map] at hlt'; exact hlt')⟩
        obtain rfl : args = #[str x] := by rw [List.getElem?_map, hx] at hk'; exact (Option.some.inj hk').symm
        have cy : W5.cell? ⟨by_, 0, none⟩ = some (.func (.yield l) #[] #[]) := gwd.y.cell 0
        have cx : W5.cell? ⟨bx, 0, none⟩ = some (.int .i64 n) := gwx.cell 0
        have HX2 := Lib.hid hx; have G1 := Lib.hid g1; have G2 := Lib.hid g2; have G3 := Lib.hid g3; have G4 := Lib.hid g4; have GWd := Lib.hid gwd; have GWx := Lib.hid gwx; have GS := Lib.hid gs; have GL := Lib.hid gl
        clear hx g1 g2 g3 g4 gwd gwx gs gl hk' hlt' hr hown2
        by_cases hxe : x = []
        · subst hxe
          gi_wp2_with fail
          refine ⟨fun _ h => (by cases h), ?_⟩
          gi_wp2_with fail
          exact ⟨⟨Xo2, by rw [cntP_none HX2.out]; exact G1.out, G2.out, G3.out, G4.out, ⟨goy, gob, gox⟩, ⟨gny, gnb, gnx⟩, GWd.out, GWx.out, GS.out, GL.out⟩, SameX.refl _ _⟩
        · have hyy := yield_round (l' := l2) (yield_any (m' := 4) (HY.out _ Xo2 #[.int .i64 (n : Nat), str x] W5 G1.out (by rw [List.getElem?_map, words_at HP.out hnh HX2.out hxe]; rfl)))
          obtain ⟨fn, tmps, as', bd, hy, hR⟩ := hyy
          have hxe2 : x.isEmpty = false := by simp [hxe]
          gi_wp2_with fail
          refine hR.mono ?_
          rintro e W6 (⟨rfl, j6, s6⟩ | ⟨rfl, x6, s6⟩)
          · have HJ6 := Lib.hid j6; have HS6 := Lib.hid s6
            clear j6 s6
            gi_wp2
            exact ⟨⟨Xo2, by rw [(cntP_word HX2.out hxe).1]; exact HJ6.out, G2.out, G3.out, G4.out, ⟨goy, gob, gox⟩, ⟨gny, gnb, gnx⟩, ⟨GWd.out.y.same (HS6.out.2 _ goy), GWd.out.b.same (HS6.out.2 _ gob)⟩, GWx.out.same (HS6.out.2 _ gox), GS.out.trans (HS6.out.less G3.out), GL.out⟩, HS6.out.less G2.out⟩
          · have HX6 := Lib.hid x6; have HS6 := Lib.hid s6
            clear x6 s6
            gi_wp2
            exact ⟨⟨rfl, Xo2, HX6.out, G2.out, G3.out, G4.out, GS.out.trans (HS6.out.less G3.out), GL.out⟩, HS6.out.less G2.out⟩
      case done2 =>
        rintro X2 W5 ⟨Xo2, g1, g2, g3, g4, ⟨goy, gob, gox⟩, ⟨gny, gnb, gnx⟩, gwd, gwx, gs, gl⟩
        rw [List.length_map, ← cntW_new HP.out hnh] at g1
        have G1 := Lib.hid g1; have G3 := Lib.hid g3; have GWd := Lib.hid gwd; have GS := Lib.hid gs
        clear g1 g2 g3 g4 gwd gwx gs gl
        gi_wp2
        exact ⟨⟨Xo2, G1.out, G3.out, ⟨goy, gob⟩, ⟨hny, hnb⟩, GWd.out⟩, GS.out⟩
      case stop2 =>
        rintro c X2 W5 ⟨rfl, Xo2, g1, g2, g3, g4, gs, gl⟩
        have G1 := Lib.hid g1; have G3 := Lib.hid g3; have GS := Lib.hid gs
        clear g1 g2 g3 g4 gs gl
        gi_wp2
        exact ⟨⟨rfl, Xo2, G1.out, G3.out⟩, GS.out⟩
  case done =>
    rintro X W' hXD ⟨Xo, hj, hXo, ⟨hoy, hob⟩, ⟨hny, hnb⟩, hwd⟩ hK
    rw [List.length_map, cntW_all] at hj
    have hj2 := (HJ.out _).keep _ _ (W'.putObj W3.heap.size (.deferred none)) hj ((putObj_keeps _).less fun x hx => by subst hx; exact hXo _ hXD)
    have HJ1 := Lib.hid hj2
    clear hj hXo hwd hj2
    gi_wp2
    refine ⟨by simp, .inl ⟨_, _, rfl, run_takeDeferred hK, ?_⟩⟩
    exact ⟨_, results_none rfl _ _ _, ⟨_, rfl⟩, .inl ⟨Xo, by rw [List.length_map]; exact HJ1.out⟩⟩
  case stop =>
    rintro c X W' hXD ⟨rfl, Xo, hx, hXo⟩ hK
    have hx2 := HJx.out.keep _ _ (W'.putObj W3.heap.size (.deferred none)) hx ((putObj_keeps _).less fun x hx => by subst hx; exact hXo _ hXD)
    have HX1 := Lib.hid hx2
    clear hx hXo hx2
    gi_wp2
    refine ⟨by simp, .inl ⟨_, _, rfl, run_takeDeferred hK, ?_⟩⟩
    exact ⟨_, results_none rfl _ _ _, ⟨_, rfl⟩, .inr ⟨Xo, HX1.out⟩⟩
end Go.Proofs.YtiicffceopiooaaGreatDoor
