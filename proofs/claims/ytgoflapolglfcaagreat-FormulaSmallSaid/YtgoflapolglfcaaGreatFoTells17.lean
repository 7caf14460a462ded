/- salvorlaw05.tells from its normal form on. -/
import Derived.Test.YtgoflapolglfcaaGreatFoTellsTwo
import Derived.Deep.RegionHeld3
namespace Go.Proofs.YtgoflapolglfcaaGreat
open Go.RowKit Go.ChangeAt Go.ChangeShapes Go.WideShapes Go.Shelf Go.Sort

/-- What follows k statements. -/
def sndsT : Nat → Code → Code
  | 0, c => c
  | k + 1, .seq _ b => sndsT k b
  | _ + 1, _ => .skip
theorem tl_part {P : Program} {f : Func} {c d : Code} {Q : Exit → Act → World → Prop} {a : Act} {w : World} (k : Nat) (hb : f.body = some c) (hd : sndsT k c = d) (h : d.wp P Q a w) : (sndsT k (f.body.getD .skip)).wp P Q a w := by rw [hb]; rw [Option.getD_some, hd]; exact h
theorem tl_whole {P : Program} {f : Func} {c d : Code} {Q : Exit → Act → World → Prop} {a : Act} {w : World} (k : Nat) (hb : f.body = some c) (hd : sndsT k c = d) (h : (sndsT k (f.body.getD .skip)).wp P Q a w) : d.wp P Q a w := by rw [hb, Option.getD_some, hd] at h; exact h
set_option maxRecDepth 100000 in
set_option maxHeartbeats 10000000 in
theorem tells_17 {w W7 W8 W11 W14 W16 : World} {A Am A1 A2 A3 A4 A5 A6 A7 : Option Addr} {cap cm m n p7 p8 c1 c2 c3 c4 c5 c6 c7 K : Nat} {vars l ci aV nV nE T : Int} {aN nN L : List (List Int)} {fx x : List Bool} {mv : Value} {z4 z5 z10 z11 z12 z13 z14 z15 z16 z17 z18 z19 z20 z30 z31 z32 z33 z34 z35 z36 z37 z38 z39 z40 z41 z42 z43 z44 z45 z46 z47 z48 z49 z50 z51 z52 z53 z54 z55 z56 z57 z58 z59 z60 z61 z62 z63 z64 z65 z66 z67 z68 z69 z70 z71 z72 z73 z74 z75 z76 z77 z78 z79 z80 z81 z82 z83 z84 z85 z86 z87 z88 z89 z90 z91 z92 z93 z94 z95 z96 z97 z98 z99 z100 z101 z102 z103 z104 z105 z106 z107 z108 z109 z110 z111 z112 z113 z114 z115 z116 z117 z118 z119 z120 z121 z122 z123 z124 z125 z126 z127 z128 z129 z130 z131 z132 z133 z134 z135 z136 z137 z138 z139 z140 z141 z142 z143 z144 z145 z146 z147 z148 z149 z150 z151 z152 z153 z154 z155 z156 z157 z158 z159 z160 z161 z162 z163 z164 z165 z166 z167 z168 z169 z170 z171 z172 z173 z174 z175 z176 z177 z178 z179 z180 z181 z182 z183 z184 z185 z186 z187 z188 z189 z190 z191 z192 z193 z194 z195 z196 z197 z198 z199 z200 z201 z202 z203 z204 z205 z206 z207 z208 z209 z210 z211 z212 z213 z214 z215 z216 z217 z218 z219 z220 z221 z222 z223 z224 z225 z226 z227 z228 z229 z230 z231 z232 z233 z234 z235 z236 z237 z238 z239 z240 z241 z242 z243 z244 z245 z246 z247 z248 z249 z250 z251 z252 z253 z254 z255 z256 z257 z258 z259 z260 z261 z262 z263 z264 z265 z266 z267 z268 z269 z270 z271 z272 z273 z274 z275 z276 z277 z278 z279 z280 z281 z282 z283 z284 z285 z286 z287 z288 z289 z290 z291 z292 z293 z294 z295 z296 z297 z298 z299 z300 z301 z302 z303 z304 z305 z306 z307 z308 z309 z310 z311 z312 z313 z314 z315 z316 z317 z318 z319 z320 z321 z322 z323 z324 z325 z326 z327 z328 z329 z330 z331 z332 z333 z334 z335 z336 z337 : Value} (hv0 : 0 ≤ vars) (hv1 : vars ≤ 1048576) (HRt : Hid (∀ zs ∈ L, rightB zs = true ∧ ∀ l ∈ zs, litB l = true ∧ (l.natAbs : Int) ≤ vars)) (HOk : Hid (OkT L)) (HCk : Hid (chkI vars L = (ci, 0))) (HNr : Hid (nrmR vars L = (nV, nN, nE))) (HT : Hid (triedE vars L = T)) (HK : Hid ((mdlR vars L).length = K)) (HFx : Hid ((mdlR vars L)[0]?.getD [] = fx)) (HMv : Hid (ModV vars L T mv W11)) (HB11 : Hid (Below w.heap.size w W11)) (H16 : Hid (Tl W11 W16 [(.slice none 0 0, []), (.slice A5 nN.length c5, nN), (.slice A4 aN.length c4, aN), (.slice A n cap, L), (.slice A1 n c1, L), (.slice A2 n c2, L)] [(.slice A6 fx.length c6, fx), (.slice Am m cm, x)] [(.slice A7 m c7, x.map b2i), (.slice A3 m c3, x.map b2i)] [(W14.heap.size, 27, #[.int .i64 0, .slice none 0 0]), (W8.heap.size, 27, #[.int .i64 nV, .slice A5 nN.length c5]), (W7.heap.size, 27, #[.int .i64 aV, .slice A4 aN.length c4]), (w.heap.size, 27, #[.int .i64 vars, .slice A n cap]), (p7, 27, #[.int .i64 vars, .slice A1 n c1]), (p8, 40, #[.int .i64 vars, .slice A2 n c2])])) :
    (sndsT 17 (Tryz.f4.body.getD .skip)).wp Tryz.prog (bodyPost Tryz.prog Tryz.f4 fun e w' => e = .returned (.bool true) ∧ Below w.heap.size w w') ({ tmps := #[.agg #[.int .i64 vars, .slice A n cap], .slice Am m cm, .int .i64 l, .pointer (some ⟨w.heap.size, 0, none⟩), z4, z5, .bool false, .pointer (some ⟨p7, 0, none⟩), .pointer (some ⟨p8, 0, none⟩), .slice A3 m c3, z10, z11, z12, z13, z14, z15, z16, z17, z18, z19, z20, .pointer (some ⟨W8.heap.size, 0, none⟩), .int .i64 nE, .int .i64 (K : Nat), .int .i64 T, .slice A6 fx.length c6, .bool (decide (0 < K)), .int .i64 T, mv, .int .i64 T, z30, z31, z32, z33, z34, z35, z36, z37, z38, z39, z40, z41, z42, z43, z44, z45, z46, z47, z48, z49, z50, z51, z52, z53, z54, z55, z56, z57, z58, z59, z60, z61, z62, z63, z64, z65, z66, z67, z68, z69, z70, z71, z72, z73, z74, z75, z76, z77, z78, z79, z80, z81, z82, z83, z84, z85, z86, z87, z88, z89, z90, z91, z92, z93, z94, z95, z96, z97, z98, z99, z100, z101, z102, z103, z104, z105, z106, z107, z108, z109, z110, z111, z112, z113, z114, z115, z116, z117, z118, z119, z120, z121, z122, z123, z124, z125, z126, z127, z128, z129, z130, z131, z132, z133, z134, z135, z136, z137, z138, z139, z140, z141, z142, z143, z144, z145, z146, z147, z148, z149, z150, z151, z152, z153, z154, z155, z156, z157, z158, z159, z160, z161, z162, z163, z164, z165, z166, z167, z168, z169, z170, z171, z172, z173, z174, z175, z176, z177, z178, z179, z180, z181, z182, z183, z184, z185, z186, z187, z188, z189, z190, z191, z192, z193, z194, z195, z196, z197, z198, z199, z200, z201, z202, z203, z204, z205, z206, z207, z208, z209, z210, z211, z212, z213, z214, z215, z216, z217, z218, z219, z220, z221, z222, z223, z224, z225, z226, z227, z228, z229, z230, z231, z232, z233, z234, z235, z236, z237, z238, z239, z240, z241, z242, z243, z244, z245, z246, z247, z248, z249, z250, z251, z252, z253, z254, z255, z256, z257, z258, z259, z260, z261, z262, z263, z264, z265, z266, z267, z268, z269, z270, z271, z272, z273, z274, z275, z276, z277, z278, z279, z280, z281, z282, z283, z284, z285, z286, z287, z288, z289, z290, z291, z292, z293, z294, z295, z296, z297, z298, z299, z300, z301, z302, z303, z304, z305, z306, z307, z308, z309, z310, z311, z312, z313, z314, z315, z316, z317, z318, z319, z320, z321, z322, z323, z324, z325, z326, z327, z328, z329, z330, z331, z332, z333, z334, z335, z336, z337], defers := [] }) W16 := by
  refine tl_part 17 rfl (by dsimp only [sndsT]) ?_
  have _hv := And.intro hv0 hv1
  obtain ⟨rfl, rfl, rfl⟩ := nrm_yes HCk.out HNr.out
  have HOkN := Lib.hid (okt_nrm HOk.out fun zs hz => (HRt.out zs hz).1)
  go_upto_region 29 with fail
  have HS := Lib.hid (show (World.cell? (W16.drew) ⟨W8.heap.size, 0, none⟩ = some (.int .i64 vars) ∧ World.cell? (W16.drew) ⟨W8.heap.size, 1, none⟩ = some (.slice A5 (nrmF L).length c5)) ∧ (World.cell? (W16.drew) ⟨p8, 0, none⟩ = some (.int .i64 vars) ∧ World.cell? (W16.drew) ⟨p8, 1, none⟩ = some (.slice A2 n c2)) from And.intro (tl_box H16.out.drew (g := W8.heap.size) (t := 27) (u := .int .i64 vars) (v := .slice A5 (nrmF L).length c5) (by simp)) (tl_box H16.out.drew (g := p8) (t := 40) (u := .int .i64 vars) (v := .slice A2 n c2) (by simp)))
  refine wp_region_noPanic ?_
  refine wp_region_held_drew (S := (fun W' => (World.cell? W' ⟨W8.heap.size, 0, none⟩ = some (.int .i64 vars) ∧ World.cell? W' ⟨W8.heap.size, 1, none⟩ = some (.slice A5 (nrmF L).length c5)) ∧ (World.cell? W' ⟨p8, 0, none⟩ = some (.int .i64 vars) ∧ World.cell? W' ⟨p8, 1, none⟩ = some (.slice A2 n c2)))) (by kernel_rfl) HS.out (fun _ => ?_)
  refine wpAnyH_take (i := 0) (v := .int .i64 0) rfl (by kernel_rfl) (by kernel_rfl) (by kernel_rfl) (fun _ _ _ h => h) (Or.inl ⟨by kernel_rfl, fun w hS => by go_simp⟩) HS.out ?_
  refine wpAnyH_take (i := 1) (v := .bool false) rfl (by kernel_rfl) (by kernel_rfl) (by kernel_rfl) (fun _ _ _ h => h) (Or.inl ⟨by kernel_rfl, fun w hS => by go_simp⟩) HS.out ?_
  refine wpAnyH_take (i := 2) (v := .bool false) rfl (by kernel_rfl) (by kernel_rfl) (by kernel_rfl) (fun _ _ _ h => h) (Or.inl ⟨by kernel_rfl, fun w hS => by go_simp⟩) HS.out ?_
  refine wpAnyH_take (i := 3) (v := .agg #[.int .i64 vars, .slice A5 (nrmF L).length c5]) rfl (by kernel_rfl) (by kernel_rfl) (by kernel_rfl) (fun _ _ _ h => h) (Or.inl ⟨by kernel_rfl, fun w hS => by go_simp⟩) HS.out ?_
  refine wpAnyH_take (i := 4) (v := .agg #[.int .i64 vars, .slice A2 n c2]) rfl (by kernel_rfl) (by kernel_rfl) (by kernel_rfl) (fun _ _ _ h => h) (Or.inl ⟨by kernel_rfl, fun w hS => by go_simp⟩) HS.out ?_
  refine wpAnyH_ready (rs := [5]) (by kernel_rfl) (by simp) (AllReadyH.cons rfl (fun K hK => ?_) AllReadyH.nil)
  go_simp
  refine (tl_refnorm vars (H16.out.drew) (v := .slice A2 n c2) (L := L) (by simp) HOk.out (fun zs hz => (HRt.out zs hz).1)).mono ?_
  rintro r v1 ⟨A8, c8, rfl, hq1⟩
  have HS1 := Lib.hid (And.intro (tl_box hq1 (g := W8.heap.size) (t := 27) (u := .int .i64 vars) (v := .slice A5 (nrmF L).length c5) (by simp)) (tl_box hq1 (g := p8) (t := 40) (u := .int .i64 vars) (v := .slice A2 n c2) (by simp)))
  have HQ1 := Lib.hid hq1
  clear hq1
  go_simp
  refine hK.out _ _ HS1.out (fun _ => ?_)
  clear hK K
  refine wpAnyH_ready (rs := [6]) (by kernel_rfl) (by simp) (AllReadyH.cons rfl (fun K hK => ?_) AllReadyH.nil)
  go_simp
  refine (tl_equal (q := true) vars vars HQ1.out (v := .slice A5 (nrmF L).length c5) (v' := .slice A8 (nrmF L).length c8) (L := nrmF L) (L' := nrmF L) (by simp) (by simp) HOkN.out HOkN.out (by simp)).mono ?_
  rintro r v2 ⟨rfl, hq2⟩
  have HS2 := Lib.hid (And.intro (tl_box hq2 (g := W8.heap.size) (t := 27) (u := .int .i64 vars) (v := .slice A5 (nrmF L).length c5) (by simp)) (tl_box hq2 (g := p8) (t := 40) (u := .int .i64 vars) (v := .slice A2 n c2) (by simp)))
  have HQ2 := Lib.hid hq2.dropF
  clear hq2
  go_simp
  refine hK.out _ _ HS2.out (fun _ => ?_)
  clear hK K
  refine wpAnyH_take (i := 7) (v := .bool false) rfl (by kernel_rfl) (by kernel_rfl) (by kernel_rfl) (fun _ _ _ h => h) (Or.inl ⟨by kernel_rfl, fun w hS => by go_simp⟩) HS2.out ?_
  refine wpAnyH_take (i := 8) (v := .bool false) rfl (by kernel_rfl) (by kernel_rfl) (by kernel_rfl) (fun _ _ _ h => h) (Or.inl ⟨by kernel_rfl, fun w hS => by go_simp⟩) HS2.out ?_
  refine wpAnyH_done (by kernel_rfl) ?_ _
  refine NoPanic.normal ?_
  go_simp
  obtain ⟨a3, d3⟩ := tl_box HQ2.out (g := w.heap.size) (t := 27) (u := .int .i64 vars) (v := .slice A n cap) (by simp)
  obtain ⟨a8, d8⟩ := tl_box HQ2.out (g := p8) (t := 40) (u := .int .i64 vars) (v := .slice A2 n c2) (by simp)
  by_cases h16 : 16 < vars
  · as_aux_lemma =>
    obtain ⟨rfl, rfl, rfl⟩ := many_all HCk.out h16 HT.out HK.out HFx.out
    obtain rfl : mv = .nilFunc := by
      rcases HMv.out with h | h
      · exact h.2
      · exact absurd h.1 (by decide)
    have nil0 := fun W => tl_eql_nil W
    go_wp2_with fail
    go_ret
    exact ⟨by trivial, HB11.out.trans (HQ2.out.below.mono HB11.out.size)⟩
  · obtain ⟨rfl, n', rfl, hok, hKn, hxn⟩ := some_all HCk.out h16 HT.out HK.out HFx.out
    by_cases h8 : 8 < (n' : Int)
    · as_aux_lemma =>
      go_wp2_with fail
      go_ret
      exact ⟨by trivial, HB11.out.trans (HQ2.out.below.mono HB11.out.size)⟩
    · as_aux_lemma =>
      rcases HMv.out with ⟨h, -⟩ | ⟨-, n2, bf, bv, g, cf, hn2, -, -, rfl, hmd⟩
      · exact absurd rfl h
      · obtain rfl : n' = n2 := by omega
        have HMd := Lib.hid (hmd.below HQ2.out.below)
        have HKn := Lib.hid hKn; have HXn := Lib.hid hxn; have HOk2 := Lib.hid hok
        have hsz := HQ2.out.below.size
        clear hmd hn2 hKn hxn hok HMv
        have neq0 := fun W env => tl_neq_fn W env
        go_wp2_with fail
        refine (tl_lawmodels (n := n') (by omega) HQ2.out (v := .slice A2 n c2) (L := L) (fv := .slice A6 fx.length c6) (x := fx) (by simp) (by simp) HOk.out HOk2.out HXn.out HKn.out hsz HMd.out).mono ?_
        rintro e W17 ⟨rfl, h17⟩
        have H17 := Lib.hid h17
        clear h17 a3 d3 a8 d8
        go_wp2_with fail
        go_ret
        exact ⟨by trivial, HB11.out.trans (H17.out.below.mono HB11.out.size)⟩
end Go.Proofs.YtgoflapolglfcaaGreat
