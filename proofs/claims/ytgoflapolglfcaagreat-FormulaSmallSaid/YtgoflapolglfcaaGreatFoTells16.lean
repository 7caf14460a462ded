/- salvorlaw05.tells: the literal that is set (statement 16). -/
import Derived.Test.YtgoflapolglfcaaGreatFoTells17
namespace Go.Proofs.YtgoflapolglfcaaGreat
open Go.RowKit Go.ChangeAt Go.ChangeShapes Go.WideShapes Go.Shelf Go.Sort

set_option maxRecDepth 100000 in
set_option maxHeartbeats 10000000 in
theorem tells_16 {w W7 W8 W11 W14 W15 : World} {A Am A1 A2 A3 A4 A5 A6 A7 : Option Addr} {cap cm m n p7 p8 c1 c2 c3 c4 c5 c6 c7 K : Nat} {vars l ci aV nV nE T aE : Int} {aN nN L : List (List Int)} {fx x : List Bool} {mv : Value} {z4 z5 z10 z11 z12 z13 z14 z15 z16 z17 z18 z31 z32 z33 z34 z35 z36 z37 z38 z39 z40 z41 z42 z43 z44 z45 z46 z47 z48 z49 z50 z51 z52 z53 z54 z55 z56 z57 z58 z59 z60 z61 z62 z63 z64 z65 z66 z67 z68 z69 z70 z71 z72 z73 z74 z75 z76 z77 z78 z79 z80 z81 z82 z83 z84 z85 z86 z87 z88 z89 z90 z91 z92 z93 z94 z95 z96 z97 z98 z99 z100 z101 z102 z103 z104 z105 z106 z107 z108 z109 z110 z111 z112 z113 z114 z115 z116 z117 z118 z119 z120 z121 z122 z123 z124 z125 z126 z127 z128 z129 z130 z131 z132 z133 z134 z135 z136 z137 z138 z139 z140 z141 z142 z143 z144 z145 z146 z147 z148 z149 z150 z151 z152 z153 z154 z155 z156 z157 z158 z159 z160 z161 z162 z163 z164 z165 z166 z167 z168 z169 z170 z171 z172 z173 z174 z175 z176 z177 z178 z179 z180 z181 z182 z183 z184 z185 z186 z187 z188 z189 z190 z191 z192 z193 z194 z195 z196 z197 z198 z199 z200 z201 z202 z203 z204 z205 z206 z207 z208 z209 z210 z211 z212 z213 z214 z215 z216 z217 z218 z219 z220 z221 z222 z223 z224 z225 z226 z227 z228 z229 z230 z231 z232 z233 z234 z235 z236 z237 z238 z239 z240 z241 z242 z243 z244 z245 z246 z247 z248 z249 z250 z251 z252 z253 z254 z255 z256 z257 z258 z259 z260 z261 z262 z263 z264 z265 z266 z267 z268 z269 z270 z271 z272 z273 z274 z275 z276 z277 z278 z279 z280 z281 z282 z283 z284 z285 z286 z287 z288 z289 z290 z291 z292 z293 z294 z295 z296 z297 z298 z299 z300 z301 z302 z303 z304 z305 z306 z307 z308 z309 z310 z311 z312 z313 z314 z315 z316 z317 z318 z319 z320 z321 z322 z323 z324 z325 z326 z327 z328 z329 z330 z331 z332 z333 z334 z335 z336 z337 : Value} (hv0 : 0 ≤ vars) (hv1 : vars ≤ 1048576) (HRt : Hid (∀ zs ∈ L, rightB zs = true ∧ ∀ l ∈ zs, litB l = true ∧ (l.natAbs : Int) ≤ vars)) (HAs : Hid (asgR vars l L = (aV, aN, aE))) (HOk : Hid (OkT L)) (HCk : Hid (chkI vars L = (ci, 0))) (HNr : Hid (nrmR vars L = (nV, nN, nE))) (HT : Hid (triedE vars L = T)) (HK : Hid ((mdlR vars L).length = K)) (HFx : Hid ((mdlR vars L)[0]?.getD [] = fx)) (HMv : Hid (ModV vars L T mv W11)) (HB11 : Hid (Below w.heap.size w W11)) (H15 : Hid (Tl W11 W15 [(.slice none 0 0, []), (.slice A5 nN.length c5, nN), (.slice A4 aN.length c4, aN), (.slice A n cap, L), (.slice A1 n c1, L), (.slice A2 n c2, L)] [(.slice A6 fx.length c6, fx), (.slice Am m cm, x)] [(.slice A7 m c7, x.map b2i), (.slice A3 m c3, x.map b2i)] [(W14.heap.size, 27, #[.int .i64 0, .slice none 0 0]), (W8.heap.size, 27, #[.int .i64 nV, .slice A5 nN.length c5]), (W7.heap.size, 27, #[.int .i64 aV, .slice A4 aN.length c4]), (w.heap.size, 27, #[.int .i64 vars, .slice A n cap]), (p7, 27, #[.int .i64 vars, .slice A1 n c1]), (p8, 40, #[.int .i64 vars, .slice A2 n c2])])) :
    (sndsT 16 (Tryz.f4.body.getD .skip)).wp Tryz.prog (bodyPost Tryz.prog Tryz.f4 fun e w' => e = .returned (.bool true) ∧ Below w.heap.size w w') ({ tmps := #[.agg #[.int .i64 vars, .slice A n cap], .slice Am m cm, .int .i64 l, .pointer (some ⟨w.heap.size, 0, none⟩), z4, z5, .bool false, .pointer (some ⟨p7, 0, none⟩), .pointer (some ⟨p8, 0, none⟩), .slice A3 m c3, z10, z11, z12, z13, z14, z15, z16, z17, z18, .pointer (some ⟨W7.heap.size, 0, none⟩), .int .i64 aE, .pointer (some ⟨W8.heap.size, 0, none⟩), .int .i64 nE, .int .i64 (K : Nat), .int .i64 T, .slice A6 fx.length c6, .bool (decide (0 < K)), .int .i64 T, mv, .int .i64 T, .pointer (some ⟨W14.heap.size, 0, none⟩), z31, z32, z33, z34, z35, z36, z37, z38, z39, z40, z41, z42, z43, z44, z45, z46, z47, z48, z49, z50, z51, z52, z53, z54, z55, z56, z57, z58, z59, z60, z61, z62, z63, z64, z65, z66, z67, z68, z69, z70, z71, z72, z73, z74, z75, z76, z77, z78, z79, z80, z81, z82, z83, z84, z85, z86, z87, z88, z89, z90, z91, z92, z93, z94, z95, z96, z97, z98, z99, z100, z101, z102, z103, z104, z105, z106, z107, z108, z109, z110, z111, z112, z113, z114, z115, z116, z117, z118, z119, z120, z121, z122, z123, z124, z125, z126, z127, z128, z129, z130, z131, z132, z133, z134, z135, z136, z137, z138, z139, z140, z141, z142, z143, z144, z145, z146, z147, z148, z149, z150, z151, z152, z153, z154, z155, z156, z157, z158, z159, z160, z161, z162, z163, z164, z165, z166, z167, z168, z169, z170, z171, z172, z173, z174, z175, z176, z177, z178, z179, z180, z181, z182, z183, z184, z185, z186, z187, z188, z189, z190, z191, z192, z193, z194, z195, z196, z197, z198, z199, z200, z201, z202, z203, z204, z205, z206, z207, z208, z209, z210, z211, z212, z213, z214, z215, z216, z217, z218, z219, z220, z221, z222, z223, z224, z225, z226, z227, z228, z229, z230, z231, z232, z233, z234, z235, z236, z237, z238, z239, z240, z241, z242, z243, z244, z245, z246, z247, z248, z249, z250, z251, z252, z253, z254, z255, z256, z257, z258, z259, z260, z261, z262, z263, z264, z265, z266, z267, z268, z269, z270, z271, z272, z273, z274, z275, z276, z277, z278, z279, z280, z281, z282, z283, z284, z285, z286, z287, z288, z289, z290, z291, z292, z293, z294, z295, z296, z297, z298, z299, z300, z301, z302, z303, z304, z305, z306, z307, z308, z309, z310, z311, z312, z313, z314, z315, z316, z317, z318, z319, z320, z321, z322, z323, z324, z325, z326, z327, z328, z329, z330, z331, z332, z333, z334, z335, z336, z337], defers := [] }) W15 := by
  refine tl_part 16 rfl (by dsimp only [sndsT]) ?_
  dsimp only
  go_upto_region 24 with fail
  obtain ⟨a3, d3⟩ := tl_box H15.out (g := w.heap.size) (t := 27) (u := .int .i64 vars) (v := .slice A n cap) (by simp)
  go_cut [255] (fun c wx => ∃ W b, W = wx ∧ c = .bool b ∧ (b = true ↔ (l = 0 ∨ l < -vars ∨ vars < l)) ∧ W15 = W)
  case first => as_aux_lemma =>
    by_cases h1 : l = 0
    · subst h1
      go_wp2_with fail
      go_meet
      exact ⟨_, _, rfl, rfl, by simp, rfl⟩
    · have q1 : (l == 0) = false := by simp [h1]
      by_cases h2 : l < -vars
      · have q2 : decide (l < -vars) = true := decide_eq_true h2
        go_wp2_with fail
        go_meet
        exact ⟨_, _, rfl, rfl, by simp [h2], rfl⟩
      · have q2 : decide (l < -vars) = false := decide_eq_false h2
        by_cases h3 : vars < l
        · have q3 : decide (vars < l) = true := decide_eq_true h3
          go_wp2_with fail
          go_meet
          exact ⟨_, _, rfl, rfl, by simp [h3], rfl⟩
        · have q3 : decide (vars < l) = false := decide_eq_false h3
          go_wp2_with fail
          go_meet
          exact ⟨_, _, rfl, rfl, by simp [h1, h2, h3], rfl⟩
  case rest =>
    obtain ⟨W, b, rfl, rfl, hb, rfl⟩ := hcut
    have HBd := Lib.hid hb
    clear hb a3 d3
    go_upto_if 255 with fail
    go_cut [6] (fun s6 wx => s6 = .bool false ∧ ∃ W, W = wx ∧ Tl W11 W [(.slice none 0 0, []), (.slice A5 nN.length c5, nN), (.slice A4 aN.length c4, aN), (.slice A n cap, L), (.slice A1 n c1, L), (.slice A2 n c2, L)] [(.slice A6 fx.length c6, fx), (.slice Am m cm, x)] [(.slice A7 m c7, x.map b2i), (.slice A3 m c3, x.map b2i)] [(W14.heap.size, 27, #[.int .i64 0, .slice none 0 0]), (W8.heap.size, 27, #[.int .i64 nV, .slice A5 nN.length c5]), (W7.heap.size, 27, #[.int .i64 aV, .slice A4 aN.length c4]), (w.heap.size, 27, #[.int .i64 vars, .slice A n cap]), (p7, 27, #[.int .i64 vars, .slice A1 n c1]), (p8, 40, #[.int .i64 vars, .slice A2 n c2])])
    case first =>
      rcases Bool.eq_false_or_eq_true b with rfl | rfl
      · as_aux_lemma =>
        obtain ⟨rfl, rfl, rfl⟩ := lit_no HCk.out (HBd.out.1 rfl) HAs.out
        obtain ⟨a19, d19⟩ := tl_box H15.out (g := W7.heap.size) (t := 27) (u := .int .i64 0) (v := .slice A4 0 c4) (by simp)
        obtain ⟨a30, d30⟩ := tl_box H15.out (g := W14.heap.size) (t := 27) (u := .int .i64 0) (v := .slice none 0 0) (by simp)
        go_wp2_with fail
        refine (tl_same (q := true) 0 0 H15.out (v := .slice A4 0 c4) (v' := .slice none 0 0) (L := []) (L' := []) (by simp) (by simp) okt_nil okt_nil (by simp)).mono ?_
        rintro e W16 ⟨rfl, h16⟩
        have H16 := Lib.hid h16
        clear h16 a19 d19 a30 d30
        go_wp2_with fail
        go_meet
        exact ⟨rfl, _, rfl, H16.out⟩
      · obtain ⟨rfl, rfl, rfl⟩ := lit_yes HCk.out (fun h => Bool.false_ne_true (HBd.out.2 h)) HAs.out
        have hl1 : ¬ l < -vars := fun h => Bool.false_ne_true (HBd.out.2 (.inr (.inl h)))
        have hl2 : ¬ vars < l := fun h => Bool.false_ne_true (HBd.out.2 (.inr (.inr h)))
        have hl3 : -1048576 ≤ l := by omega
        have hl4 : l ≤ 1048576 := by omega
        clear hl1 hl2
        have HOkN := Lib.hid (okt_asg HOk.out l)
        go_upto_region 27 with fail
        have HS := Lib.hid (show (World.cell? (W15.drew) ⟨W7.heap.size, 0, none⟩ = some (.int .i64 vars) ∧ World.cell? (W15.drew) ⟨W7.heap.size, 1, none⟩ = some (.slice A4 (asgL l L).length c4)) ∧ (World.cell? (W15.drew) ⟨p8, 0, none⟩ = some (.int .i64 vars) ∧ World.cell? (W15.drew) ⟨p8, 1, none⟩ = some (.slice A2 n c2)) from And.intro (tl_box H15.out.drew (g := W7.heap.size) (t := 27) (u := .int .i64 vars) (v := .slice A4 (asgL l L).length c4) (by simp)) (tl_box H15.out.drew (g := p8) (t := 40) (u := .int .i64 vars) (v := .slice A2 n c2) (by simp)))
        refine wp_region_noPanic ?_
        refine wp_region_held_drew (S := (fun W' => (World.cell? W' ⟨W7.heap.size, 0, none⟩ = some (.int .i64 vars) ∧ World.cell? W' ⟨W7.heap.size, 1, none⟩ = some (.slice A4 (asgL l L).length c4)) ∧ (World.cell? W' ⟨p8, 0, none⟩ = some (.int .i64 vars) ∧ World.cell? W' ⟨p8, 1, none⟩ = some (.slice A2 n c2)))) (by kernel_rfl) HS.out (fun _ => ?_)
        refine wpAnyH_take (i := 0) (v := .int .i64 0) rfl (by kernel_rfl) (by kernel_rfl) (by kernel_rfl) (fun _ _ _ h => h) (Or.inl ⟨by kernel_rfl, fun w hS => by go_simp⟩) HS.out ?_
        refine wpAnyH_take (i := 1) (v := .bool false) rfl (by kernel_rfl) (by kernel_rfl) (by kernel_rfl) (fun _ _ _ h => h) (Or.inl ⟨by kernel_rfl, fun w hS => by go_simp⟩) HS.out ?_
        refine wpAnyH_take (i := 2) (v := .bool false) rfl (by kernel_rfl) (by kernel_rfl) (by kernel_rfl) (fun _ _ _ h => h) (Or.inl ⟨by kernel_rfl, fun w hS => by go_simp⟩) HS.out ?_
        refine wpAnyH_take (i := 3) (v := .agg #[.int .i64 vars, .slice A4 (asgL l L).length c4]) rfl (by kernel_rfl) (by kernel_rfl) (by kernel_rfl) (fun _ _ _ h => h) (Or.inl ⟨by kernel_rfl, fun w hS => by go_simp⟩) HS.out ?_
        refine wpAnyH_take (i := 4) (v := .agg #[.int .i64 vars, .slice A2 n c2]) rfl (by kernel_rfl) (by kernel_rfl) (by kernel_rfl) (fun _ _ _ h => h) (Or.inl ⟨by kernel_rfl, fun w hS => by go_simp⟩) HS.out ?_
        refine wpAnyH_take (i := 5) (v := .int .i64 l) rfl (by kernel_rfl) (by kernel_rfl) (by kernel_rfl) (fun _ _ _ h => h) (Or.inl ⟨by kernel_rfl, fun w hS => by go_simp⟩) HS.out ?_
        refine wpAnyH_ready (rs := [6]) (by kernel_rfl) (by simp) (AllReadyH.cons rfl (fun K hK => ?_) AllReadyH.nil)
        go_simp
        refine (tl_refassign vars l hl3 hl4 (H15.out.drew) (v := .slice A2 n c2) (L := L) (by simp) HOk.out).mono ?_
        rintro r v1 ⟨A8, c8, rfl, hq1⟩
        have HS1 := Lib.hid (And.intro (tl_box hq1 (g := W7.heap.size) (t := 27) (u := .int .i64 vars) (v := .slice A4 (asgL l L).length c4) (by simp)) (tl_box hq1 (g := p8) (t := 40) (u := .int .i64 vars) (v := .slice A2 n c2) (by simp)))
        have HQ1 := Lib.hid hq1
        clear hq1
        go_simp
        refine hK.out _ _ HS1.out (fun _ => ?_)
        clear hK K
        refine wpAnyH_ready (rs := [7]) (by kernel_rfl) (by simp) (AllReadyH.cons rfl (fun K hK => ?_) AllReadyH.nil)
        go_simp
        refine (tl_equal (q := true) vars vars HQ1.out (v := .slice A4 (asgL l L).length c4) (v' := .slice A8 (asgL l L).length c8) (L := asgL l L) (L' := asgL l L) (by simp) (by simp) HOkN.out HOkN.out (by simp)).mono ?_
        rintro r v2 ⟨rfl, hq2⟩
        have HS2 := Lib.hid (And.intro (tl_box hq2 (g := W7.heap.size) (t := 27) (u := .int .i64 vars) (v := .slice A4 (asgL l L).length c4) (by simp)) (tl_box hq2 (g := p8) (t := 40) (u := .int .i64 vars) (v := .slice A2 n c2) (by simp)))
        have HQ2 := Lib.hid hq2.dropF
        clear hq2
        go_simp
        refine hK.out _ _ HS2.out (fun _ => ?_)
        clear hK K
        refine wpAnyH_take (i := 8) (v := .bool false) rfl (by kernel_rfl) (by kernel_rfl) (by kernel_rfl) (fun _ _ _ h => h) (Or.inl ⟨by kernel_rfl, fun w hS => by go_simp⟩) HS2.out ?_
        refine wpAnyH_take (i := 9) (v := .bool false) rfl (by kernel_rfl) (by kernel_rfl) (by kernel_rfl) (fun _ _ _ h => h) (Or.inl ⟨by kernel_rfl, fun w hS => by go_simp⟩) HS2.out ?_
        refine wpAnyH_done (by kernel_rfl) ?_ _
        refine NoPanic.normal ?_
        go_simp
        go_wp2_with fail
        go_meet
        exact ⟨rfl, _, rfl, HQ2.out⟩
    case rest =>
      obtain ⟨rfl, W16, rfl, h16⟩ := hcut
      have H16 := Lib.hid h16
      clear h16
      go_step
      refine tl_whole (f := Tryz.f4) 17 rfl rfl ?_
      exact tells_17 hv0 hv1 HRt HOk HCk HNr HT HK HFx HMv HB11 H16
end Go.Proofs.YtgoflapolglfcaaGreat
