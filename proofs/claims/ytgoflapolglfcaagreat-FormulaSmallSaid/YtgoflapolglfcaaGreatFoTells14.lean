/- salvorlaw05.tells from its tests on (statement 14). -/
import Derived.Test.YtgoflapolglfcaaGreatFoTells16
namespace Go.Proofs.YtgoflapolglfcaaGreat
open Go.RowKit Go.ChangeAt Go.ChangeShapes Go.WideShapes Go.Shelf Go.Sort

set_option maxRecDepth 100000 in
set_option maxHeartbeats 10000000 in
theorem tells_14 {w W7 W8 W11 W14 : World} {A Am A1 A2 A3 A4 A5 A6 A7 : Option Addr} {cap cm m n p7 p8 c1 c2 c3 c4 c5 c6 c7 K : Nat} {vars l ci aV nV nE T aE cE fE fi : Int} {aN nN L : List (List Int)} {fx x : List Bool} {mv : Value} {vq fq : Bool} {z4 z5 z31 z32 z33 z34 z35 z36 z37 z38 z39 z40 z41 z42 z43 z44 z45 z46 z47 z48 z49 z50 z51 z52 z53 z54 z55 z56 z57 z58 z59 z60 z61 z62 z63 z64 z65 z66 z67 z68 z69 z70 z71 z72 z73 z74 z75 z76 z77 z78 z79 z80 z81 z82 z83 z84 z85 z86 z87 z88 z89 z90 z91 z92 z93 z94 z95 z96 z97 z98 z99 z100 z101 z102 z103 z104 z105 z106 z107 z108 z109 z110 z111 z112 z113 z114 z115 z116 z117 z118 z119 z120 z121 z122 z123 z124 z125 z126 z127 z128 z129 z130 z131 z132 z133 z134 z135 z136 z137 z138 z139 z140 z141 z142 z143 z144 z145 z146 z147 z148 z149 z150 z151 z152 z153 z154 z155 z156 z157 z158 z159 z160 z161 z162 z163 z164 z165 z166 z167 z168 z169 z170 z171 z172 z173 z174 z175 z176 z177 z178 z179 z180 z181 z182 z183 z184 z185 z186 z187 z188 z189 z190 z191 z192 z193 z194 z195 z196 z197 z198 z199 z200 z201 z202 z203 z204 z205 z206 z207 z208 z209 z210 z211 z212 z213 z214 z215 z216 z217 z218 z219 z220 z221 z222 z223 z224 z225 z226 z227 z228 z229 z230 z231 z232 z233 z234 z235 z236 z237 z238 z239 z240 z241 z242 z243 z244 z245 z246 z247 z248 z249 z250 z251 z252 z253 z254 z255 z256 z257 z258 z259 z260 z261 z262 z263 z264 z265 z266 z267 z268 z269 z270 z271 z272 z273 z274 z275 z276 z277 z278 z279 z280 z281 z282 z283 z284 z285 z286 z287 z288 z289 z290 z291 z292 z293 z294 z295 z296 z297 z298 z299 z300 z301 z302 z303 z304 z305 z306 z307 z308 z309 z310 z311 z312 z313 z314 z315 z316 z317 z318 z319 z320 z321 z322 z323 z324 z325 z326 z327 z328 z329 z330 z331 z332 z333 z334 z335 z336 z337 : Value} (HX : Hid (x.length = m)) (HAs : Hid (asgR vars l L = (aV, aN, aE))) (HVq : Hid (valueR vars L x = vq)) (HFl : Hid (failsR vars L x = (fi, fq, fE))) (HOk : Hid (OkT L)) (HCk : Hid (chkI vars L = (ci, cE))) (HNr : Hid (nrmR vars L = (nV, nN, nE))) (HT : Hid (triedE vars L = T)) (HK : Hid ((mdlR vars L).length = K)) (HFx : Hid ((mdlR vars L)[0]?.getD [] = fx)) (HMv : Hid (ModV vars L T mv W11)) (HB11 : Hid (Below w.heap.size w W11)) (H14 : Hid (Tl W11 (W14.alloc (.cells #[.int .i64 0, .slice none 0 0] 27)) [(.slice none 0 0, []), (.slice A5 nN.length c5, nN), (.slice A4 aN.length c4, aN), (.slice A n cap, L), (.slice A1 n c1, L), (.slice A2 n c2, L)] [(.slice A6 fx.length c6, fx), (.slice Am m cm, x)] [(.slice A7 m c7, x.map b2i), (.slice A3 m c3, x.map b2i)] [(W14.heap.size, 27, #[.int .i64 0, .slice none 0 0]), (W8.heap.size, 27, #[.int .i64 nV, .slice A5 nN.length c5]), (W7.heap.size, 27, #[.int .i64 aV, .slice A4 aN.length c4]), (w.heap.size, 27, #[.int .i64 vars, .slice A n cap]), (p7, 27, #[.int .i64 vars, .slice A1 n c1]), (p8, 40, #[.int .i64 vars, .slice A2 n c2])])) :
    (sndsT 14 (Tryz.f4.body.getD .skip)).wp Tryz.prog (bodyPost Tryz.prog Tryz.f4 fun e w' => e = .returned (.bool true) ∧ Below w.heap.size w w') ({ tmps := #[.agg #[.int .i64 vars, .slice A n cap], .slice Am m cm, .int .i64 l, .pointer (some ⟨w.heap.size, 0, none⟩), z4, z5, .bool false, .pointer (some ⟨p7, 0, none⟩), .pointer (some ⟨p8, 0, none⟩), .slice A3 m c3, .int .i64 ci, .int .i64 cE, .int .i64 ci, .int .i64 cE, .bool vq, .int .i64 fE, .int .i64 fi, .bool fq, .int .i64 fE, .pointer (some ⟨W7.heap.size, 0, none⟩), .int .i64 aE, .pointer (some ⟨W8.heap.size, 0, none⟩), .int .i64 nE, .int .i64 (K : Nat), .int .i64 T, .slice A6 fx.length c6, .bool (decide (0 < K)), .int .i64 T, mv, .int .i64 T, .pointer (some ⟨W14.heap.size, 0, none⟩), z31, z32, z33, z34, z35, z36, z37, z38, z39, z40, z41, z42, z43, z44, z45, z46, z47, z48, z49, z50, z51, z52, z53, z54, z55, z56, z57, z58, z59, z60, z61, z62, z63, z64, z65, z66, z67, z68, z69, z70, z71, z72, z73, z74, z75, z76, z77, z78, z79, z80, z81, z82, z83, z84, z85, z86, z87, z88, z89, z90, z91, z92, z93, z94, z95, z96, z97, z98, z99, z100, z101, z102, z103, z104, z105, z106, z107, z108, z109, z110, z111, z112, z113, z114, z115, z116, z117, z118, z119, z120, z121, z122, z123, z124, z125, z126, z127, z128, z129, z130, z131, z132, z133, z134, z135, z136, z137, z138, z139, z140, z141, z142, z143, z144, z145, z146, z147, z148, z149, z150, z151, z152, z153, z154, z155, z156, z157, z158, z159, z160, z161, z162, z163, z164, z165, z166, z167, z168, z169, z170, z171, z172, z173, z174, z175, z176, z177, z178, z179, z180, z181, z182, z183, z184, z185, z186, z187, z188, z189, z190, z191, z192, z193, z194, z195, z196, z197, z198, z199, z200, z201, z202, z203, z204, z205, z206, z207, z208, z209, z210, z211, z212, z213, z214, z215, z216, z217, z218, z219, z220, z221, z222, z223, z224, z225, z226, z227, z228, z229, z230, z231, z232, z233, z234, z235, z236, z237, z238, z239, z240, z241, z242, z243, z244, z245, z246, z247, z248, z249, z250, z251, z252, z253, z254, z255, z256, z257, z258, z259, z260, z261, z262, z263, z264, z265, z266, z267, z268, z269, z270, z271, z272, z273, z274, z275, z276, z277, z278, z279, z280, z281, z282, z283, z284, z285, z286, z287, z288, z289, z290, z291, z292, z293, z294, z295, z296, z297, z298, z299, z300, z301, z302, z303, z304, z305, z306, z307, z308, z309, z310, z311, z312, z313, z314, z315, z316, z317, z318, z319, z320, z321, z322, z323, z324, z325, z326, z327, z328, z329, z330, z331, z332, z333, z334, z335, z336, z337], defers := [] }) (W14.alloc (.cells #[.int .i64 0, .slice none 0 0] 27)) := by
  refine tl_part 14 rfl (by dsimp only [sndsT]) ?_
  dsimp only
  by_cases hE : cE = 0
  · obtain rfl : cE = 0 := hE
    go_upto_region 18 with fail
    obtain ⟨Wn, hWn⟩ : ∃ y, W14.alloc (.cells #[.int .i64 0, .slice none 0 0] 27) = y := ⟨_, rfl⟩
    rw [hWn] at H14 ⊢
    clear hWn
    obtain ⟨a3, d3⟩ := tl_box H14.out (g := w.heap.size) (t := 27) (u := .int .i64 vars) (v := .slice A n cap) (by simp)
    go_upto_if 198 with fail
    go_cut [6, 31] (fun s6 _ wx => s6 = .bool false ∧ ∃ W, W = wx ∧ Tl W11 W [(.slice none 0 0, []), (.slice A5 nN.length c5, nN), (.slice A4 aN.length c4, aN), (.slice A n cap, L), (.slice A1 n c1, L), (.slice A2 n c2, L)] [(.slice A6 fx.length c6, fx), (.slice Am m cm, x)] [(.slice A7 m c7, x.map b2i), (.slice A3 m c3, x.map b2i)] [(W14.heap.size, 27, #[.int .i64 0, .slice none 0 0]), (W8.heap.size, 27, #[.int .i64 nV, .slice A5 nN.length c5]), (W7.heap.size, 27, #[.int .i64 aV, .slice A4 aN.length c4]), (w.heap.size, 27, #[.int .i64 vars, .slice A n cap]), (p7, 27, #[.int .i64 vars, .slice A1 n c1]), (p8, 40, #[.int .i64 vars, .slice A2 n c2])])
    case first =>
      obtain ⟨a8, d8⟩ := tl_box H14.out (g := p8) (t := 40) (u := .int .i64 vars) (v := .slice A2 n c2) (by simp)
      by_cases hm : (m : Int) = vars
      · as_aux_lemma =>
        obtain ⟨f, hf, rfl, rfl, rfl, rfl, hf1, hf2⟩ := near_all HCk.out (by rw [HX.out]; exact hm) HVq.out HFl.out
        have HF := Lib.hid hf
        clear hf
        subst hm
        go_wp2_with fail
        refine (tl_reffails (m : Int) H14.out (v := .slice A2 n c2) (iv := .slice A3 m c3) (zs := x.map b2i) (L := L) (by simp) (by simp) HOk.out HF.out).mono ?_
        rintro e W15 ⟨rfl, h15⟩
        have H15 := Lib.hid h15
        clear h15 a8 d8 a3 d3
        go_wp2_with fail
        go_meet
        exact ⟨rfl, _, rfl, H15.out⟩
      · as_aux_lemma =>
        obtain ⟨rfl, rfl, rfl, rfl⟩ := far_all HCk.out (by rw [HX.out]; exact hm) HVq.out HFl.out
        have hd : ((m : Int) != vars) = true := by simp [hm]
        go_wp2_with fail
        go_meet
        exact ⟨rfl, _, rfl, H14.out⟩
    case rest =>
      obtain ⟨rfl, W15, rfl, h15⟩ := hcut
      have H15 := Lib.hid h15
      clear h15
      have hcv := chk_ok (vars := vars) (L := L) (by rw [HCk.out])
      have hv0 := hcv.1
      have hv1 := hcv.2.1
      have HRt := Lib.hid hcv.2.2.2
      clear hcv
      go_step
      refine tl_whole (f := Tryz.f4) 16 rfl rfl ?_
      exact tells_16 hv0 hv1 HRt HAs HOk HCk HNr HT HK HFx HMv HB11 H15
  · as_aux_lemma =>
    obtain ⟨rfl, ⟨rfl, rfl, rfl⟩, ⟨rfl, rfl, rfl⟩, ⟨rfl, rfl, rfl⟩, rfl, rfl, rfl⟩ := bad_all HCk.out hE HVq.out HFl.out HAs.out HNr.out HT.out HK.out HFx.out
    obtain rfl : mv = .nilFunc := by
      rcases HMv.out with h | h
      · exact h.2
      · exact absurd h.1 hE
    obtain ⟨a19, d19⟩ := tl_box H14.out (g := W7.heap.size) (t := 27) (u := .int .i64 0) (v := .slice A4 0 c4) (by simp)
    obtain ⟨a30, d30⟩ := tl_box H14.out (g := W14.heap.size) (t := 27) (u := .int .i64 0) (v := .slice none 0 0) (by simp)
    have nil0 := fun W => tl_eql_nil W
    go_wp2_with fail
    refine (tl_same (q := true) 0 0 H14.out (by simp) (by simp) okt_nil okt_nil (by simp)).mono ?_
    rintro e W15 ⟨rfl, h15⟩
    have H15 := Lib.hid h15
    clear h15 a19 d19 a30 d30
    obtain ⟨a21, d21⟩ := tl_box H15.out (g := W8.heap.size) (t := 27) (u := .int .i64 0) (v := .slice A5 0 c5) (by simp)
    obtain ⟨a30, d30⟩ := tl_box H15.out (g := W14.heap.size) (t := 27) (u := .int .i64 0) (v := .slice none 0 0) (by simp)
    go_wp2_with fail
    refine (tl_same (q := true) 0 0 H15.out (by simp) (by simp) okt_nil okt_nil (by simp)).mono ?_
    rintro e W16 ⟨rfl, h16⟩
    have H16 := Lib.hid h16
    clear h16 a21 d21 a30 d30
    go_wp2_with fail
    go_ret
    exact ⟨by trivial, HB11.out.trans (H16.out.below.mono HB11.out.size)⟩
end Go.Proofs.YtgoflapolglfcaaGreat
