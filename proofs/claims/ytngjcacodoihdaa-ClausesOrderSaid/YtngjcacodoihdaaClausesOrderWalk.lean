/- The walk of ClausesOrder. -/
import Derived.Test.YtngjcacodoihdaaClAt
namespace Go.Proofs.Ytngjcacodoihdaa
open Go.RowKit Go.ChangeAt Go.ChangeShapes Go.WideShapes


set_option maxRecDepth 100000 in
set_option maxHeartbeats 8000000 in
theorem order_pos (jv kv lv : Value) (j k l a b c xs ys : List Int) (ax bx : Bool) (w : World) (hIj : IntsK .u8 w.heap.size w jv j) (hIk : IntsK .u8 w.heap.size w kv k) (hIl : IntsK .u8 w.heap.size w lv l)
    (hmj : MadeAt jv j a) (hmk : MadeAt kv k b) (hml : MadeAt lv l c) (hla : a.length ≤ 20) (hlb : b.length ≤ 20) (_hlc : c.length ≤ 20) (hra : rightB a = true) (hrb : rightB b = true) (hna : normL a = xs) (hnb : normL b = ys) (haa : alwB a = ax) (hab' : alwB b = bx) (hlx : xs.length ≤ 4096) (hly : ys.length ≤ 4096)
    (hab : cmpE a b = 1) (hba : cmpE b a = (-1)) (hsm : sameB a b = false) (hxy : cmpE xs ys = 1) (hge : ys.length ≤ xs.length) :
    Calls Try.prog 9 #[jv, kv, lv] w fun e w' => e = .returned (.bool true) ∧ Below w.heap.size w w' := by
  have hw := awakeAt
  have Hj0 := Lib.hid hIj; have Hk0 := Lib.hid hIk; have Hl0 := Lib.hid hIl; have HMj := Lib.hid hmj; have HMk := Lib.hid hmk; have HMl := Lib.hid hml; have HRa := Lib.hid hra; have HRb := Lib.hid hrb; have HNa := Lib.hid hna; have HNb := Lib.hid hnb; have HAa := Lib.hid haa; have HAb := Lib.hid hab'
  have Hab := Lib.hid hab; have Hba := Lib.hid hba; have Hsm := Lib.hid hsm; have Hxy := Lib.hid hxy; have HAw := Lib.hid hw; clear hIj hIk hIl hmj hmk hml hra hrb hna hnb haa hab' hab hba hsm hxy hw
  go_enter Try.func9, Try.ntmps9
  go_wp2_with fail
  refine (HMj.out _ Hj0.out).mono ?_
  rintro e w1 ⟨va, rfl, hr, hB⟩
  have ha1 := lits_own hr
  have hbw1 := hB
  have hj1 := Hj0.out.on hB
  have hk1 := Hk0.out.on hB
  have hl1 := Hl0.out.on hB
  have Hj1 := Lib.hid hj1; clear hj1 Hj0
  have Hk1 := Lib.hid hk1; clear hk1 Hk0
  have Hl1 := Lib.hid hl1; clear hl1 Hl0
  have Ha1 := Lib.hid ha1; clear ha1
  clear hr
  clear Hj1
  go_wp2_with fail
  refine (HMk.out _ Hk1.out).mono ?_
  rintro e w2 ⟨vb, rfl, hr, hB⟩
  have hb2 := lits_own hr
  have hbw2 := hbw1.trans (hB.mono hbw1.size)
  have hk2 := Hk1.out.on hB
  have hl2 := Hl1.out.on hB
  have ha2 := Ha1.out.on hB
  have Hk2 := Lib.hid hk2; clear hk2 Hk1
  have Hl2 := Lib.hid hl2; clear hl2 Hl1
  have Ha2 := Lib.hid ha2; clear ha2 Ha1
  have Hb2 := Lib.hid hb2; clear hb2
  clear hr
  clear Hk2
  go_wp2_with fail
  refine (HMl.out _ Hl2.out).mono ?_
  rintro e w3 ⟨vc, rfl, hr, hB⟩
  have hc3 := lits_own hr
  have hbw3 := hbw2.trans (hB.mono hbw2.size)
  have hl3 := Hl2.out.on hB
  have ha3 := Ha2.out.on hB
  have hb3 := Hb2.out.on hB
  have Hl3 := Lib.hid hl3; clear hl3 Hl2
  have Ha3 := Lib.hid ha3; clear ha3 Ha2
  have Hb3 := Lib.hid hb3; clear hb3 Hb2
  have Hc3 := Lib.hid hc3; clear hc3
  clear hr
  clear Hl3
  go_wp2_with fail
  refine (norm_at _ _ a xs _ (by omega) HRa.out HNa.out HAa.out _ (Nat.le_refl _) Ha3.out).mono ?_
  rintro e w4 ⟨vx, rfl, hr, hB⟩
  obtain ⟨Ax, cx, rfl⟩ := own_shape hr
  have hx4 := hr
  have hbw4 := hbw3.trans (hB.mono hbw3.size)
  have ha4 := Ha3.out.on hB
  have hb4 := Hb3.out.on hB
  have hc4 := Hc3.out.on hB
  have Ha4 := Lib.hid ha4; clear ha4 Ha3
  have Hb4 := Lib.hid hb4; clear hb4 Hb3
  have Hc4 := Lib.hid hc4; clear hc4 Hc3
  have Hx4 := Lib.hid hx4; clear hx4
  clear hr
  go_wp2_with fail
  refine (norm_at _ _ b ys _ (by omega) HRb.out HNb.out HAb.out _ (Nat.le_refl _) Hb4.out).mono ?_
  rintro e w5 ⟨vy, rfl, hr, hB⟩
  obtain ⟨Ay, cy, rfl⟩ := own_shape hr
  have hy5 := hr
  have hbw5 := hbw4.trans (hB.mono hbw4.size)
  have ha5 := Ha4.out.on hB
  have hb5 := Hb4.out.on hB
  have hc5 := Hc4.out.on hB
  have hx5 := owns_on Hx4.out hB
  have Ha5 := Lib.hid ha5; clear ha5 Ha4
  have Hb5 := Lib.hid hb5; clear hb5 Hb4
  have Hc5 := Lib.hid hc5; clear hc5 Hc4
  have Hx5 := Lib.hid hx5; clear hx5 Hx4
  have Hy5 := Lib.hid hy5; clear hy5
  clear hr
  go_wp2_with fail
  refine (cmp_at _ _ _ a b _ (by omega) (by omega) Hab.out _ (Nat.le_refl _) Ha5.out Hb5.out).mono ?_
  rintro e w6 ⟨rfl, hB⟩
  have hbw6 := hbw5.trans (hB.mono hbw5.size)
  have ha6 := Ha5.out.on hB
  have hb6 := Hb5.out.on hB
  have hc6 := Hc5.out.on hB
  have hx6 := owns_on Hx5.out hB
  have hy6 := owns_on Hy5.out hB
  have Ha6 := Lib.hid ha6; clear ha6 Ha5
  have Hb6 := Lib.hid hb6; clear hb6 Hb5
  have Hc6 := Lib.hid hc6; clear hc6 Hc5
  have Hx6 := Lib.hid hx6; clear hx6 Hx5
  have Hy6 := Lib.hid hy6; clear hy6 Hy5
  go_wp2_with fail
  refine (cmp_at _ _ _ b a _ (by omega) (by omega) Hba.out _ (Nat.le_refl _) Hb6.out Ha6.out).mono ?_
  rintro e w7 ⟨rfl, hB⟩
  have hbw7 := hbw6.trans (hB.mono hbw6.size)
  have ha7 := Ha6.out.on hB
  have hb7 := Hb6.out.on hB
  have hc7 := Hc6.out.on hB
  have hx7 := owns_on Hx6.out hB
  have hy7 := owns_on Hy6.out hB
  have Ha7 := Lib.hid ha7; clear ha7 Ha6
  have Hb7 := Lib.hid hb7; clear hb7 Hb6
  have Hc7 := Lib.hid hc7; clear hc7 Hc6
  have Hx7 := Lib.hid hx7; clear hx7 Hx6
  have Hy7 := Lib.hid hy7; clear hy7 Hy6
  go_wp2_with fail
  refine (same_at _ _ _ a b _ (by omega) (by omega) Hsm.out _ (Nat.le_refl _) Ha7.out Hb7.out).mono ?_
  rintro e w8 ⟨rfl, hB⟩
  have hbw8 := hbw7.trans (hB.mono hbw7.size)
  have ha8 := Ha7.out.on hB
  have hb8 := Hb7.out.on hB
  have hc8 := Hc7.out.on hB
  have hx8 := owns_on Hx7.out hB
  have hy8 := owns_on Hy7.out hB
  have Ha8 := Lib.hid ha8; clear ha8 Ha7
  have Hb8 := Lib.hid hb8; clear hb8 Hb7
  have Hc8 := Lib.hid hc8; clear hc8 Hc7
  have Hx8 := Lib.hid hx8; clear hx8 Hx7
  have Hy8 := Lib.hid hy8; clear hy8 Hy7
  go_wp2_with fail
  refine (cmp_at _ _ _ xs ys _ (by omega) (by omega) Hxy.out _ (Nat.le_refl _) (lits_own Hx8.out) (lits_own Hy8.out)).mono ?_
  rintro e w9 ⟨rfl, hB⟩
  have hbw9 := hbw8.trans (hB.mono hbw8.size)
  have ha9 := Ha8.out.on hB
  have hb9 := Hb8.out.on hB
  have hc9 := Hc8.out.on hB
  have hx9 := owns_on Hx8.out hB
  have hy9 := owns_on Hy8.out hB
  have Ha9 := Lib.hid ha9; clear ha9 Ha8
  have Hb9 := Lib.hid hb9; clear hb9 Hb8
  have Hc9 := Lib.hid hc9; clear hc9 Hc8
  have Hx9 := Lib.hid hx9; clear hx9 Hx8
  have Hy9 := Lib.hid hy9; clear hy9 Hy8
  go_wp2_with fail
  refine (HAw.out _).mono ?_
  rintro e w10 ⟨rfl, hB⟩
  have hbw10 := hbw9.trans (hB.mono hbw9.size)
  have ha10 := Ha9.out.on hB
  have hb10 := Hb9.out.on hB
  have hc10 := Hc9.out.on hB
  have hx10 := owns_on Hx9.out hB
  have hy10 := owns_on Hy9.out hB
  have Ha10 := Lib.hid ha10; clear ha10 Ha9
  have Hb10 := Lib.hid hb10; clear hb10 Hb9
  have Hc10 := Lib.hid hc10; clear hc10 Hc9
  have Hx10 := Lib.hid hx10; clear hx10 Hx9
  have Hy10 := Lib.hid hy10; clear hy10 Hy9
  go_wp2_with fail
  go_ret
  exact ⟨rfl, hbw10⟩


set_option maxRecDepth 100000 in
set_option maxHeartbeats 8000000 in
theorem order_nil_m (jv kv lv : Value) (j k l a b c xs ys : List Int) (ax bx : Bool) (w : World) (hIj : IntsK .u8 w.heap.size w jv j) (hIk : IntsK .u8 w.heap.size w kv k) (hIl : IntsK .u8 w.heap.size w lv l)
    (hmj : MadeAt jv j a) (hmk : MadeAt kv k b) (hml : MadeAt lv l c) (hla : a.length ≤ 20) (hlb : b.length ≤ 20) (hlc : c.length ≤ 20) (hra : rightB a = true) (hrb : rightB b = true) (hna : normL a = xs) (hnb : normL b = ys) (haa : alwB a = ax) (hab' : alwB b = bx) (hlx : xs.length ≤ 4096) (hly : ys.length ≤ 4096)
    (hab : cmpE a b = 0) (hba : cmpE b a = 0) (hsm : sameB a b = true) (hxy : cmpE xs ys = 0) (m : Int) (hbc : cmpE b c = m) (hm : 0 < m) (hge : ys.length ≤ xs.length) :
    Calls Try.prog 9 #[jv, kv, lv] w fun e w' => e = .returned (.bool true) ∧ Below w.heap.size w w' := by
  have hw := awakeAt
  have Hj0 := Lib.hid hIj; have Hk0 := Lib.hid hIk; have Hl0 := Lib.hid hIl; have HMj := Lib.hid hmj; have HMk := Lib.hid hmk; have HMl := Lib.hid hml; have HRa := Lib.hid hra; have HRb := Lib.hid hrb; have HNa := Lib.hid hna; have HNb := Lib.hid hnb; have HAa := Lib.hid haa; have HAb := Lib.hid hab'
  have Hab := Lib.hid hab; have Hba := Lib.hid hba; have Hsm := Lib.hid hsm; have Hxy := Lib.hid hxy; have HAw := Lib.hid hw; clear hIj hIk hIl hmj hmk hml hra hrb hna hnb haa hab' hab hba hsm hxy hw
  have Hbc := Lib.hid hbc; clear hbc
  go_enter Try.func9, Try.ntmps9
  go_wp2_with fail
  refine (HMj.out _ Hj0.out).mono ?_
  rintro e w1 ⟨va, rfl, hr, hB⟩
  have ha1 := lits_own hr
  have hbw1 := hB
  have hj1 := Hj0.out.on hB
  have hk1 := Hk0.out.on hB
  have hl1 := Hl0.out.on hB
  have Hj1 := Lib.hid hj1; clear hj1 Hj0
  have Hk1 := Lib.hid hk1; clear hk1 Hk0
  have Hl1 := Lib.hid hl1; clear hl1 Hl0
  have Ha1 := Lib.hid ha1; clear ha1
  clear hr
  clear Hj1
  go_wp2_with fail
  refine (HMk.out _ Hk1.out).mono ?_
  rintro e w2 ⟨vb, rfl, hr, hB⟩
  have hb2 := lits_own hr
  have hbw2 := hbw1.trans (hB.mono hbw1.size)
  have hk2 := Hk1.out.on hB
  have hl2 := Hl1.out.on hB
  have ha2 := Ha1.out.on hB
  have Hk2 := Lib.hid hk2; clear hk2 Hk1
  have Hl2 := Lib.hid hl2; clear hl2 Hl1
  have Ha2 := Lib.hid ha2; clear ha2 Ha1
  have Hb2 := Lib.hid hb2; clear hb2
  clear hr
  clear Hk2
  go_wp2_with fail
  refine (HMl.out _ Hl2.out).mono ?_
  rintro e w3 ⟨vc, rfl, hr, hB⟩
  have hc3 := lits_own hr
  have hbw3 := hbw2.trans (hB.mono hbw2.size)
  have hl3 := Hl2.out.on hB
  have ha3 := Ha2.out.on hB
  have hb3 := Hb2.out.on hB
  have Hl3 := Lib.hid hl3; clear hl3 Hl2
  have Ha3 := Lib.hid ha3; clear ha3 Ha2
  have Hb3 := Lib.hid hb3; clear hb3 Hb2
  have Hc3 := Lib.hid hc3; clear hc3
  clear hr
  clear Hl3
  go_wp2_with fail
  refine (norm_at _ _ a xs _ (by omega) HRa.out HNa.out HAa.out _ (Nat.le_refl _) Ha3.out).mono ?_
  rintro e w4 ⟨vx, rfl, hr, hB⟩
  obtain ⟨Ax, cx, rfl⟩ := own_shape hr
  have hx4 := hr
  have hbw4 := hbw3.trans (hB.mono hbw3.size)
  have ha4 := Ha3.out.on hB
  have hb4 := Hb3.out.on hB
  have hc4 := Hc3.out.on hB
  have Ha4 := Lib.hid ha4; clear ha4 Ha3
  have Hb4 := Lib.hid hb4; clear hb4 Hb3
  have Hc4 := Lib.hid hc4; clear hc4 Hc3
  have Hx4 := Lib.hid hx4; clear hx4
  clear hr
  go_wp2_with fail
  refine (norm_at _ _ b ys _ (by omega) HRb.out HNb.out HAb.out _ (Nat.le_refl _) Hb4.out).mono ?_
  rintro e w5 ⟨vy, rfl, hr, hB⟩
  obtain ⟨Ay, cy, rfl⟩ := own_shape hr
  have hy5 := hr
  have hbw5 := hbw4.trans (hB.mono hbw4.size)
  have ha5 := Ha4.out.on hB
  have hb5 := Hb4.out.on hB
  have hc5 := Hc4.out.on hB
  have hx5 := owns_on Hx4.out hB
  have Ha5 := Lib.hid ha5; clear ha5 Ha4
  have Hb5 := Lib.hid hb5; clear hb5 Hb4
  have Hc5 := Lib.hid hc5; clear hc5 Hc4
  have Hx5 := Lib.hid hx5; clear hx5 Hx4
  have Hy5 := Lib.hid hy5; clear hy5
  clear hr
  go_wp2_with fail
  refine (cmp_at _ _ _ a b _ (by omega) (by omega) Hab.out _ (Nat.le_refl _) Ha5.out Hb5.out).mono ?_
  rintro e w6 ⟨rfl, hB⟩
  have hbw6 := hbw5.trans (hB.mono hbw5.size)
  have ha6 := Ha5.out.on hB
  have hb6 := Hb5.out.on hB
  have hc6 := Hc5.out.on hB
  have hx6 := owns_on Hx5.out hB
  have hy6 := owns_on Hy5.out hB
  have Ha6 := Lib.hid ha6; clear ha6 Ha5
  have Hb6 := Lib.hid hb6; clear hb6 Hb5
  have Hc6 := Lib.hid hc6; clear hc6 Hc5
  have Hx6 := Lib.hid hx6; clear hx6 Hx5
  have Hy6 := Lib.hid hy6; clear hy6 Hy5
  go_wp2_with fail
  refine (cmp_at _ _ _ b a _ (by omega) (by omega) Hba.out _ (Nat.le_refl _) Hb6.out Ha6.out).mono ?_
  rintro e w7 ⟨rfl, hB⟩
  have hbw7 := hbw6.trans (hB.mono hbw6.size)
  have ha7 := Ha6.out.on hB
  have hb7 := Hb6.out.on hB
  have hc7 := Hc6.out.on hB
  have hx7 := owns_on Hx6.out hB
  have hy7 := owns_on Hy6.out hB
  have Ha7 := Lib.hid ha7; clear ha7 Ha6
  have Hb7 := Lib.hid hb7; clear hb7 Hb6
  have Hc7 := Lib.hid hc7; clear hc7 Hc6
  have Hx7 := Lib.hid hx7; clear hx7 Hx6
  have Hy7 := Lib.hid hy7; clear hy7 Hy6
  go_wp2_with fail
  refine (same_at _ _ _ a b _ (by omega) (by omega) Hsm.out _ (Nat.le_refl _) Ha7.out Hb7.out).mono ?_
  rintro e w8 ⟨rfl, hB⟩
  have hbw8 := hbw7.trans (hB.mono hbw7.size)
  have ha8 := Ha7.out.on hB
  have hb8 := Hb7.out.on hB
  have hc8 := Hc7.out.on hB
  have hx8 := owns_on Hx7.out hB
  have hy8 := owns_on Hy7.out hB
  have Ha8 := Lib.hid ha8; clear ha8 Ha7
  have Hb8 := Lib.hid hb8; clear hb8 Hb7
  have Hc8 := Lib.hid hc8; clear hc8 Hc7
  have Hx8 := Lib.hid hx8; clear hx8 Hx7
  have Hy8 := Lib.hid hy8; clear hy8 Hy7
  go_wp2_with fail
  refine (cmp_at _ _ _ b c _ (by omega) (by omega) Hbc.out _ (Nat.le_refl _) Hb8.out Hc8.out).mono ?_
  rintro e w9 ⟨rfl, hB⟩
  have hbw9 := hbw8.trans (hB.mono hbw8.size)
  have ha9 := Ha8.out.on hB
  have hb9 := Hb8.out.on hB
  have hc9 := Hc8.out.on hB
  have hx9 := owns_on Hx8.out hB
  have hy9 := owns_on Hy8.out hB
  have Ha9 := Lib.hid ha9; clear ha9 Ha8
  have Hb9 := Lib.hid hb9; clear hb9 Hb8
  have Hc9 := Lib.hid hc9; clear hc9 Hc8
  have Hx9 := Lib.hid hx9; clear hx9 Hx8
  have Hy9 := Lib.hid hy9; clear hy9 Hy8
  go_wp2_with fail
  refine (cmp_at _ _ _ xs ys _ (by omega) (by omega) Hxy.out _ (Nat.le_refl _) (lits_own Hx9.out) (lits_own Hy9.out)).mono ?_
  rintro e w10 ⟨rfl, hB⟩
  have hbw10 := hbw9.trans (hB.mono hbw9.size)
  have ha10 := Ha9.out.on hB
  have hb10 := Hb9.out.on hB
  have hc10 := Hc9.out.on hB
  have hx10 := owns_on Hx9.out hB
  have hy10 := owns_on Hy9.out hB
  have Ha10 := Lib.hid ha10; clear ha10 Ha9
  have Hb10 := Lib.hid hb10; clear hb10 Hb9
  have Hc10 := Lib.hid hc10; clear hc10 Hc9
  have Hx10 := Lib.hid hx10; clear hx10 Hx9
  have Hy10 := Lib.hid hy10; clear hy10 Hy9
  go_wp2_with fail
  refine (HAw.out _).mono ?_
  rintro e w11 ⟨rfl, hB⟩
  have hbw11 := hbw10.trans (hB.mono hbw10.size)
  have ha11 := Ha10.out.on hB
  have hb11 := Hb10.out.on hB
  have hc11 := Hc10.out.on hB
  have hx11 := owns_on Hx10.out hB
  have hy11 := owns_on Hy10.out hB
  have Ha11 := Lib.hid ha11; clear ha11 Ha10
  have Hb11 := Lib.hid hb11; clear hb11 Hb10
  have Hc11 := Lib.hid hc11; clear hc11 Hc10
  have Hx11 := Lib.hid hx11; clear hx11 Hx10
  have Hy11 := Lib.hid hy11; clear hy11 Hy10
  go_wp2_with fail
  go_ret
  exact ⟨rfl, hbw11⟩


set_option maxRecDepth 100000 in
set_option maxHeartbeats 8000000 in
theorem order_nil_p (jv kv lv : Value) (j k l a b c xs ys : List Int) (ax bx : Bool) (w : World) (hIj : IntsK .u8 w.heap.size w jv j) (hIk : IntsK .u8 w.heap.size w kv k) (hIl : IntsK .u8 w.heap.size w lv l)
    (hmj : MadeAt jv j a) (hmk : MadeAt kv k b) (hml : MadeAt lv l c) (hla : a.length ≤ 20) (hlb : b.length ≤ 20) (hlc : c.length ≤ 20) (hra : rightB a = true) (hrb : rightB b = true) (hna : normL a = xs) (hnb : normL b = ys) (haa : alwB a = ax) (hab' : alwB b = bx) (hlx : xs.length ≤ 4096) (hly : ys.length ≤ 4096)
    (hab : cmpE a b = 0) (hba : cmpE b a = 0) (hsm : sameB a b = true) (hxy : cmpE xs ys = 0) (m : Int) (hbc : cmpE b c = m) (hm : m ≤ 0) (p : Int) (hac : cmpE a c = p) (hp : p ≤ 0) (hge : ys.length ≤ xs.length) :
    Calls Try.prog 9 #[jv, kv, lv] w fun e w' => e = .returned (.bool true) ∧ Below w.heap.size w w' := by
  have hw := awakeAt
  have Hj0 := Lib.hid hIj; have Hk0 := Lib.hid hIk; have Hl0 := Lib.hid hIl; have HMj := Lib.hid hmj; have HMk := Lib.hid hmk; have HMl := Lib.hid hml; have HRa := Lib.hid hra; have HRb := Lib.hid hrb; have HNa := Lib.hid hna; have HNb := Lib.hid hnb; have HAa := Lib.hid haa; have HAb := Lib.hid hab'
  have Hab := Lib.hid hab; have Hba := Lib.hid hba; have Hsm := Lib.hid hsm; have Hxy := Lib.hid hxy; have HAw := Lib.hid hw; clear hIj hIk hIl hmj hmk hml hra hrb hna hnb haa hab' hab hba hsm hxy hw
  have Hbc := Lib.hid hbc; clear hbc
  have Hac := Lib.hid hac; clear hac
  go_enter Try.func9, Try.ntmps9
  go_wp2_with fail
  refine (HMj.out _ Hj0.out).mono ?_
  rintro e w1 ⟨va, rfl, hr, hB⟩
  have ha1 := lits_own hr
  have hbw1 := hB
  have hj1 := Hj0.out.on hB
  have hk1 := Hk0.out.on hB
  have hl1 := Hl0.out.on hB
  have Hj1 := Lib.hid hj1; clear hj1 Hj0
  have Hk1 := Lib.hid hk1; clear hk1 Hk0
  have Hl1 := Lib.hid hl1; clear hl1 Hl0
  have Ha1 := Lib.hid ha1; clear ha1
  clear hr
  clear Hj1
  go_wp2_with fail
  refine (HMk.out _ Hk1.out).mono ?_
  rintro e w2 ⟨vb, rfl, hr, hB⟩
  have hb2 := lits_own hr
  have hbw2 := hbw1.trans (hB.mono hbw1.size)
  have hk2 := Hk1.out.on hB
  have hl2 := Hl1.out.on hB
  have ha2 := Ha1.out.on hB
  have Hk2 := Lib.hid hk2; clear hk2 Hk1
  have Hl2 := Lib.hid hl2; clear hl2 Hl1
  have Ha2 := Lib.hid ha2; clear ha2 Ha1
  have Hb2 := Lib.hid hb2; clear hb2
  clear hr
  clear Hk2
  go_wp2_with fail
  refine (HMl.out _ Hl2.out).mono ?_
  rintro e w3 ⟨vc, rfl, hr, hB⟩
  have hc3 := lits_own hr
  have hbw3 := hbw2.trans (hB.mono hbw2.size)
  have hl3 := Hl2.out.on hB
  have ha3 := Ha2.out.on hB
  have hb3 := Hb2.out.on hB
  have Hl3 := Lib.hid hl3; clear hl3 Hl2
  have Ha3 := Lib.hid ha3; clear ha3 Ha2
  have Hb3 := Lib.hid hb3; clear hb3 Hb2
  have Hc3 := Lib.hid hc3; clear hc3
  clear hr
  clear Hl3
  go_wp2_with fail
  refine (norm_at _ _ a xs _ (by omega) HRa.out HNa.out HAa.out _ (Nat.le_refl _) Ha3.out).mono ?_
  rintro e w4 ⟨vx, rfl, hr, hB⟩
  obtain ⟨Ax, cx, rfl⟩ := own_shape hr
  have hx4 := hr
  have hbw4 := hbw3.trans (hB.mono hbw3.size)
  have ha4 := Ha3.out.on hB
  have hb4 := Hb3.out.on hB
  have hc4 := Hc3.out.on hB
  have Ha4 := Lib.hid ha4; clear ha4 Ha3
  have Hb4 := Lib.hid hb4; clear hb4 Hb3
  have Hc4 := Lib.hid hc4; clear hc4 Hc3
  have Hx4 := Lib.hid hx4; clear hx4
  clear hr
  go_wp2_with fail
  refine (norm_at _ _ b ys _ (by omega) HRb.out HNb.out HAb.out _ (Nat.le_refl _) Hb4.out).mono ?_
  rintro e w5 ⟨vy, rfl, hr, hB⟩
  obtain ⟨Ay, cy, rfl⟩ := own_shape hr
  have hy5 := hr
  have hbw5 := hbw4.trans (hB.mono hbw4.size)
  have ha5 := Ha4.out.on hB
  have hb5 := Hb4.out.on hB
  have hc5 := Hc4.out.on hB
  have hx5 := owns_on Hx4.out hB
  have Ha5 := Lib.hid ha5; clear ha5 Ha4
  have Hb5 := Lib.hid hb5; clear hb5 Hb4
  have Hc5 := Lib.hid hc5; clear hc5 Hc4
  have Hx5 := Lib.hid hx5; clear hx5 Hx4
  have Hy5 := Lib.hid hy5; clear hy5
  clear hr
  go_wp2_with fail
  refine (cmp_at _ _ _ a b _ (by omega) (by omega) Hab.out _ (Nat.le_refl _) Ha5.out Hb5.out).mono ?_
  rintro e w6 ⟨rfl, hB⟩
  have hbw6 := hbw5.trans (hB.mono hbw5.size)
  have ha6 := Ha5.out.on hB
  have hb6 := Hb5.out.on hB
  have hc6 := Hc5.out.on hB
  have hx6 := owns_on Hx5.out hB
  have hy6 := owns_on Hy5.out hB
  have Ha6 := Lib.hid ha6; clear ha6 Ha5
  have Hb6 := Lib.hid hb6; clear hb6 Hb5
  have Hc6 := Lib.hid hc6; clear hc6 Hc5
  have Hx6 := Lib.hid hx6; clear hx6 Hx5
  have Hy6 := Lib.hid hy6; clear hy6 Hy5
  go_wp2_with fail
  refine (cmp_at _ _ _ b a _ (by omega) (by omega) Hba.out _ (Nat.le_refl _) Hb6.out Ha6.out).mono ?_
  rintro e w7 ⟨rfl, hB⟩
  have hbw7 := hbw6.trans (hB.mono hbw6.size)
  have ha7 := Ha6.out.on hB
  have hb7 := Hb6.out.on hB
  have hc7 := Hc6.out.on hB
  have hx7 := owns_on Hx6.out hB
  have hy7 := owns_on Hy6.out hB
  have Ha7 := Lib.hid ha7; clear ha7 Ha6
  have Hb7 := Lib.hid hb7; clear hb7 Hb6
  have Hc7 := Lib.hid hc7; clear hc7 Hc6
  have Hx7 := Lib.hid hx7; clear hx7 Hx6
  have Hy7 := Lib.hid hy7; clear hy7 Hy6
  go_wp2_with fail
  refine (same_at _ _ _ a b _ (by omega) (by omega) Hsm.out _ (Nat.le_refl _) Ha7.out Hb7.out).mono ?_
  rintro e w8 ⟨rfl, hB⟩
  have hbw8 := hbw7.trans (hB.mono hbw7.size)
  have ha8 := Ha7.out.on hB
  have hb8 := Hb7.out.on hB
  have hc8 := Hc7.out.on hB
  have hx8 := owns_on Hx7.out hB
  have hy8 := owns_on Hy7.out hB
  have Ha8 := Lib.hid ha8; clear ha8 Ha7
  have Hb8 := Lib.hid hb8; clear hb8 Hb7
  have Hc8 := Lib.hid hc8; clear hc8 Hc7
  have Hx8 := Lib.hid hx8; clear hx8 Hx7
  have Hy8 := Lib.hid hy8; clear hy8 Hy7
  go_wp2_with fail
  refine (cmp_at _ _ _ b c _ (by omega) (by omega) Hbc.out _ (Nat.le_refl _) Hb8.out Hc8.out).mono ?_
  rintro e w9 ⟨rfl, hB⟩
  have hbw9 := hbw8.trans (hB.mono hbw8.size)
  have ha9 := Ha8.out.on hB
  have hb9 := Hb8.out.on hB
  have hc9 := Hc8.out.on hB
  have hx9 := owns_on Hx8.out hB
  have hy9 := owns_on Hy8.out hB
  have Ha9 := Lib.hid ha9; clear ha9 Ha8
  have Hb9 := Lib.hid hb9; clear hb9 Hb8
  have Hc9 := Lib.hid hc9; clear hc9 Hc8
  have Hx9 := Lib.hid hx9; clear hx9 Hx8
  have Hy9 := Lib.hid hy9; clear hy9 Hy8
  go_wp2_with fail
  refine (cmp_at _ _ _ a c _ (by omega) (by omega) Hac.out _ (Nat.le_refl _) Ha9.out Hc9.out).mono ?_
  rintro e w10 ⟨rfl, hB⟩
  have hbw10 := hbw9.trans (hB.mono hbw9.size)
  have ha10 := Ha9.out.on hB
  have hb10 := Hb9.out.on hB
  have hc10 := Hc9.out.on hB
  have hx10 := owns_on Hx9.out hB
  have hy10 := owns_on Hy9.out hB
  have Ha10 := Lib.hid ha10; clear ha10 Ha9
  have Hb10 := Lib.hid hb10; clear hb10 Hb9
  have Hc10 := Lib.hid hc10; clear hc10 Hc9
  have Hx10 := Lib.hid hx10; clear hx10 Hx9
  have Hy10 := Lib.hid hy10; clear hy10 Hy9
  go_wp2_with fail
  refine (cmp_at _ _ _ xs ys _ (by omega) (by omega) Hxy.out _ (Nat.le_refl _) (lits_own Hx10.out) (lits_own Hy10.out)).mono ?_
  rintro e w11 ⟨rfl, hB⟩
  have hbw11 := hbw10.trans (hB.mono hbw10.size)
  have ha11 := Ha10.out.on hB
  have hb11 := Hb10.out.on hB
  have hc11 := Hc10.out.on hB
  have hx11 := owns_on Hx10.out hB
  have hy11 := owns_on Hy10.out hB
  have Ha11 := Lib.hid ha11; clear ha11 Ha10
  have Hb11 := Lib.hid hb11; clear hb11 Hb10
  have Hc11 := Lib.hid hc11; clear hc11 Hc10
  have Hx11 := Lib.hid hx11; clear hx11 Hx10
  have Hy11 := Lib.hid hy11; clear hy11 Hy10
  go_wp2_with fail
  refine (HAw.out _).mono ?_
  rintro e w12 ⟨rfl, hB⟩
  have hbw12 := hbw11.trans (hB.mono hbw11.size)
  have ha12 := Ha11.out.on hB
  have hb12 := Hb11.out.on hB
  have hc12 := Hc11.out.on hB
  have hx12 := owns_on Hx11.out hB
  have hy12 := owns_on Hy11.out hB
  have Ha12 := Lib.hid ha12; clear ha12 Ha11
  have Hb12 := Lib.hid hb12; clear hb12 Hb11
  have Hc12 := Lib.hid hc12; clear hc12 Hc11
  have Hx12 := Lib.hid hx12; clear hx12 Hx11
  have Hy12 := Lib.hid hy12; clear hy12 Hy11
  go_wp2_with fail
  go_ret
  exact ⟨rfl, hbw12⟩


set_option maxRecDepth 100000 in
set_option maxHeartbeats 8000000 in
theorem order_neg_m1 (jv kv lv : Value) (j k l a b c xs ys : List Int) (ax bx : Bool) (w : World) (hIj : IntsK .u8 w.heap.size w jv j) (hIk : IntsK .u8 w.heap.size w kv k) (hIl : IntsK .u8 w.heap.size w lv l)
    (hmj : MadeAt jv j a) (hmk : MadeAt kv k b) (hml : MadeAt lv l c) (hla : a.length ≤ 20) (hlb : b.length ≤ 20) (hlc : c.length ≤ 20) (hra : rightB a = true) (hrb : rightB b = true) (hna : normL a = xs) (hnb : normL b = ys) (haa : alwB a = ax) (hab' : alwB b = bx) (hlx : xs.length ≤ 4096) (hly : ys.length ≤ 4096)
    (hab : cmpE a b = (-1)) (hba : cmpE b a = 1) (hsm : sameB a b = false) (hxy : cmpE xs ys = (-1)) (m : Int) (hbc : cmpE b c = m) (hm : 0 < m) (hge : ys.length ≤ xs.length) :
    Calls Try.prog 9 #[jv, kv, lv] w fun e w' => e = .returned (.bool true) ∧ Below w.heap.size w w' := by
  have hw := awakeAt
  have Hj0 := Lib.hid hIj; have Hk0 := Lib.hid hIk; have Hl0 := Lib.hid hIl; have HMj := Lib.hid hmj; have HMk := Lib.hid hmk; have HMl := Lib.hid hml; have HRa := Lib.hid hra; have HRb := Lib.hid hrb; have HNa := Lib.hid hna; have HNb := Lib.hid hnb; have HAa := Lib.hid haa; have HAb := Lib.hid hab'
  have Hab := Lib.hid hab; have Hba := Lib.hid hba; have Hsm := Lib.hid hsm; have Hxy := Lib.hid hxy; have HAw := Lib.hid hw; clear hIj hIk hIl hmj hmk hml hra hrb hna hnb haa hab' hab hba hsm hxy hw
  have Hbc := Lib.hid hbc; clear hbc
  go_enter Try.func9, Try.ntmps9
  go_wp2_with fail
  refine (HMj.out _ Hj0.out).mono ?_
  rintro e w1 ⟨va, rfl, hr, hB⟩
  have ha1 := lits_own hr
  have hbw1 := hB
  have hj1 := Hj0.out.on hB
  have hk1 := Hk0.out.on hB
  have hl1 := Hl0.out.on hB
  have Hj1 := Lib.hid hj1; clear hj1 Hj0
  have Hk1 := Lib.hid hk1; clear hk1 Hk0
  have Hl1 := Lib.hid hl1; clear hl1 Hl0
  have Ha1 := Lib.hid ha1; clear ha1
  clear hr
  clear Hj1
  go_wp2_with fail
  refine (HMk.out _ Hk1.out).mono ?_
  rintro e w2 ⟨vb, rfl, hr, hB⟩
  have hb2 := lits_own hr
  have hbw2 := hbw1.trans (hB.mono hbw1.size)
  have hk2 := Hk1.out.on hB
  have hl2 := Hl1.out.on hB
  have ha2 := Ha1.out.on hB
  have Hk2 := Lib.hid hk2; clear hk2 Hk1
  have Hl2 := Lib.hid hl2; clear hl2 Hl1
  have Ha2 := Lib.hid ha2; clear ha2 Ha1
  have Hb2 := Lib.hid hb2; clear hb2
  clear hr
  clear Hk2
  go_wp2_with fail
  refine (HMl.out _ Hl2.out).mono ?_
  rintro e w3 ⟨vc, rfl, hr, hB⟩
  have hc3 := lits_own hr
  have hbw3 := hbw2.trans (hB.mono hbw2.size)
  have hl3 := Hl2.out.on hB
  have ha3 := Ha2.out.on hB
  have hb3 := Hb2.out.on hB
  have Hl3 := Lib.hid hl3; clear hl3 Hl2
  have Ha3 := Lib.hid ha3; clear ha3 Ha2
  have Hb3 := Lib.hid hb3; clear hb3 Hb2
  have Hc3 := Lib.hid hc3; clear hc3
  clear hr
  clear Hl3
  go_wp2_with fail
  refine (norm_at _ _ a xs _ (by omega) HRa.out HNa.out HAa.out _ (Nat.le_refl _) Ha3.out).mono ?_
  rintro e w4 ⟨vx, rfl, hr, hB⟩
  obtain ⟨Ax, cx, rfl⟩ := own_shape hr
  have hx4 := hr
  have hbw4 := hbw3.trans (hB.mono hbw3.size)
  have ha4 := Ha3.out.on hB
  have hb4 := Hb3.out.on hB
  have hc4 := Hc3.out.on hB
  have Ha4 := Lib.hid ha4; clear ha4 Ha3
  have Hb4 := Lib.hid hb4; clear hb4 Hb3
  have Hc4 := Lib.hid hc4; clear hc4 Hc3
  have Hx4 := Lib.hid hx4; clear hx4
  clear hr
  go_wp2_with fail
  refine (norm_at _ _ b ys _ (by omega) HRb.out HNb.out HAb.out _ (Nat.le_refl _) Hb4.out).mono ?_
  rintro e w5 ⟨vy, rfl, hr, hB⟩
  obtain ⟨Ay, cy, rfl⟩ := own_shape hr
  have hy5 := hr
  have hbw5 := hbw4.trans (hB.mono hbw4.size)
  have ha5 := Ha4.out.on hB
  have hb5 := Hb4.out.on hB
  have hc5 := Hc4.out.on hB
  have hx5 := owns_on Hx4.out hB
  have Ha5 := Lib.hid ha5; clear ha5 Ha4
  have Hb5 := Lib.hid hb5; clear hb5 Hb4
  have Hc5 := Lib.hid hc5; clear hc5 Hc4
  have Hx5 := Lib.hid hx5; clear hx5 Hx4
  have Hy5 := Lib.hid hy5; clear hy5
  clear hr
  go_wp2_with fail
  refine (cmp_at _ _ _ a b _ (by omega) (by omega) Hab.out _ (Nat.le_refl _) Ha5.out Hb5.out).mono ?_
  rintro e w6 ⟨rfl, hB⟩
  have hbw6 := hbw5.trans (hB.mono hbw5.size)
  have ha6 := Ha5.out.on hB
  have hb6 := Hb5.out.on hB
  have hc6 := Hc5.out.on hB
  have hx6 := owns_on Hx5.out hB
  have hy6 := owns_on Hy5.out hB
  have Ha6 := Lib.hid ha6; clear ha6 Ha5
  have Hb6 := Lib.hid hb6; clear hb6 Hb5
  have Hc6 := Lib.hid hc6; clear hc6 Hc5
  have Hx6 := Lib.hid hx6; clear hx6 Hx5
  have Hy6 := Lib.hid hy6; clear hy6 Hy5
  go_wp2_with fail
  refine (cmp_at _ _ _ b a _ (by omega) (by omega) Hba.out _ (Nat.le_refl _) Hb6.out Ha6.out).mono ?_
  rintro e w7 ⟨rfl, hB⟩
  have hbw7 := hbw6.trans (hB.mono hbw6.size)
  have ha7 := Ha6.out.on hB
  have hb7 := Hb6.out.on hB
  have hc7 := Hc6.out.on hB
  have hx7 := owns_on Hx6.out hB
  have hy7 := owns_on Hy6.out hB
  have Ha7 := Lib.hid ha7; clear ha7 Ha6
  have Hb7 := Lib.hid hb7; clear hb7 Hb6
  have Hc7 := Lib.hid hc7; clear hc7 Hc6
  have Hx7 := Lib.hid hx7; clear hx7 Hx6
  have Hy7 := Lib.hid hy7; clear hy7 Hy6
  go_wp2_with fail
  refine (same_at _ _ _ a b _ (by omega) (by omega) Hsm.out _ (Nat.le_refl _) Ha7.out Hb7.out).mono ?_
  rintro e w8 ⟨rfl, hB⟩
  have hbw8 := hbw7.trans (hB.mono hbw7.size)
  have ha8 := Ha7.out.on hB
  have hb8 := Hb7.out.on hB
  have hc8 := Hc7.out.on hB
  have hx8 := owns_on Hx7.out hB
  have hy8 := owns_on Hy7.out hB
  have Ha8 := Lib.hid ha8; clear ha8 Ha7
  have Hb8 := Lib.hid hb8; clear hb8 Hb7
  have Hc8 := Lib.hid hc8; clear hc8 Hc7
  have Hx8 := Lib.hid hx8; clear hx8 Hx7
  have Hy8 := Lib.hid hy8; clear hy8 Hy7
  go_wp2_with fail
  refine (cmp_at _ _ _ b c _ (by omega) (by omega) Hbc.out _ (Nat.le_refl _) Hb8.out Hc8.out).mono ?_
  rintro e w9 ⟨rfl, hB⟩
  have hbw9 := hbw8.trans (hB.mono hbw8.size)
  have ha9 := Ha8.out.on hB
  have hb9 := Hb8.out.on hB
  have hc9 := Hc8.out.on hB
  have hx9 := owns_on Hx8.out hB
  have hy9 := owns_on Hy8.out hB
  have Ha9 := Lib.hid ha9; clear ha9 Ha8
  have Hb9 := Lib.hid hb9; clear hb9 Hb8
  have Hc9 := Lib.hid hc9; clear hc9 Hc8
  have Hx9 := Lib.hid hx9; clear hx9 Hx8
  have Hy9 := Lib.hid hy9; clear hy9 Hy8
  go_wp2_with fail
  refine (cmp_at _ _ _ xs ys _ (by omega) (by omega) Hxy.out _ (Nat.le_refl _) (lits_own Hx9.out) (lits_own Hy9.out)).mono ?_
  rintro e w10 ⟨rfl, hB⟩
  have hbw10 := hbw9.trans (hB.mono hbw9.size)
  have ha10 := Ha9.out.on hB
  have hb10 := Hb9.out.on hB
  have hc10 := Hc9.out.on hB
  have hx10 := owns_on Hx9.out hB
  have hy10 := owns_on Hy9.out hB
  have Ha10 := Lib.hid ha10; clear ha10 Ha9
  have Hb10 := Lib.hid hb10; clear hb10 Hb9
  have Hc10 := Lib.hid hc10; clear hc10 Hc9
  have Hx10 := Lib.hid hx10; clear hx10 Hx9
  have Hy10 := Lib.hid hy10; clear hy10 Hy9
  go_wp2_with fail
  refine (HAw.out _).mono ?_
  rintro e w11 ⟨rfl, hB⟩
  have hbw11 := hbw10.trans (hB.mono hbw10.size)
  have ha11 := Ha10.out.on hB
  have hb11 := Hb10.out.on hB
  have hc11 := Hc10.out.on hB
  have hx11 := owns_on Hx10.out hB
  have hy11 := owns_on Hy10.out hB
  have Ha11 := Lib.hid ha11; clear ha11 Ha10
  have Hb11 := Lib.hid hb11; clear hb11 Hb10
  have Hc11 := Lib.hid hc11; clear hc11 Hc10
  have Hx11 := Lib.hid hx11; clear hx11 Hx10
  have Hy11 := Lib.hid hy11; clear hy11 Hy10
  go_wp2_with fail
  go_ret
  exact ⟨rfl, hbw11⟩


set_option maxRecDepth 100000 in
set_option maxHeartbeats 8000000 in
theorem order_neg_p1 (jv kv lv : Value) (j k l a b c xs ys : List Int) (ax bx : Bool) (w : World) (hIj : IntsK .u8 w.heap.size w jv j) (hIk : IntsK .u8 w.heap.size w kv k) (hIl : IntsK .u8 w.heap.size w lv l)
    (hmj : MadeAt jv j a) (hmk : MadeAt kv k b) (hml : MadeAt lv l c) (hla : a.length ≤ 20) (hlb : b.length ≤ 20) (hlc : c.length ≤ 20) (hra : rightB a = true) (hrb : rightB b = true) (hna : normL a = xs) (hnb : normL b = ys) (haa : alwB a = ax) (hab' : alwB b = bx) (hlx : xs.length ≤ 4096) (hly : ys.length ≤ 4096)
    (hab : cmpE a b = (-1)) (hba : cmpE b a = 1) (hsm : sameB a b = false) (hxy : cmpE xs ys = (-1)) (m : Int) (hbc : cmpE b c = m) (hm : m ≤ 0) (p : Int) (hac : cmpE a c = p) (hp : p ≤ 0) (hge : ys.length ≤ xs.length) :
    Calls Try.prog 9 #[jv, kv, lv] w fun e w' => e = .returned (.bool true) ∧ Below w.heap.size w w' := by
  have hw := awakeAt
  have Hj0 := Lib.hid hIj; have Hk0 := Lib.hid hIk; have Hl0 := Lib.hid hIl; have HMj := Lib.hid hmj; have HMk := Lib.hid hmk; have HMl := Lib.hid hml; have HRa := Lib.hid hra; have HRb := Lib.hid hrb; have HNa := Lib.hid hna; have HNb := Lib.hid hnb; have HAa := Lib.hid haa; have HAb := Lib.hid hab'
  have Hab := Lib.hid hab; have Hba := Lib.hid hba; have Hsm := Lib.hid hsm; have Hxy := Lib.hid hxy; have HAw := Lib.hid hw; clear hIj hIk hIl hmj hmk hml hra hrb hna hnb haa hab' hab hba hsm hxy hw
  have Hbc := Lib.hid hbc; clear hbc
  have Hac := Lib.hid hac; clear hac
  go_enter Try.func9, Try.ntmps9
  go_wp2_with fail
  refine (HMj.out _ Hj0.out).mono ?_
  rintro e w1 ⟨va, rfl, hr, hB⟩
  have ha1 := lits_own hr
  have hbw1 := hB
  have hj1 := Hj0.out.on hB
  have hk1 := Hk0.out.on hB
  have hl1 := Hl0.out.on hB
  have Hj1 := Lib.hid hj1; clear hj1 Hj0
  have Hk1 := Lib.hid hk1; clear hk1 Hk0
  have Hl1 := Lib.hid hl1; clear hl1 Hl0
  have Ha1 := Lib.hid ha1; clear ha1
  clear hr
  clear Hj1
  go_wp2_with fail
  refine (HMk.out _ Hk1.out).mono ?_
  rintro e w2 ⟨vb, rfl, hr, hB⟩
  have hb2 := lits_own hr
  have hbw2 := hbw1.trans (hB.mono hbw1.size)
  have hk2 := Hk1.out.on hB
  have hl2 := Hl1.out.on hB
  have ha2 := Ha1.out.on hB
  have Hk2 := Lib.hid hk2; clear hk2 Hk1
  have Hl2 := Lib.hid hl2; clear hl2 Hl1
  have Ha2 := Lib.hid ha2; clear ha2 Ha1
  have Hb2 := Lib.hid hb2; clear hb2
  clear hr
  clear Hk2
  go_wp2_with fail
  refine (HMl.out _ Hl2.out).mono ?_
  rintro e w3 ⟨vc, rfl, hr, hB⟩
  have hc3 := lits_own hr
  have hbw3 := hbw2.trans (hB.mono hbw2.size)
  have hl3 := Hl2.out.on hB
  have ha3 := Ha2.out.on hB
  have hb3 := Hb2.out.on hB
  have Hl3 := Lib.hid hl3; clear hl3 Hl2
  have Ha3 := Lib.hid ha3; clear ha3 Ha2
  have Hb3 := Lib.hid hb3; clear hb3 Hb2
  have Hc3 := Lib.hid hc3; clear hc3
  clear hr
  clear Hl3
  go_wp2_with fail
  refine (norm_at _ _ a xs _ (by omega) HRa.out HNa.out HAa.out _ (Nat.le_refl _) Ha3.out).mono ?_
  rintro e w4 ⟨vx, rfl, hr, hB⟩
  obtain ⟨Ax, cx, rfl⟩ := own_shape hr
  have hx4 := hr
  have hbw4 := hbw3.trans (hB.mono hbw3.size)
  have ha4 := Ha3.out.on hB
  have hb4 := Hb3.out.on hB
  have hc4 := Hc3.out.on hB
  have Ha4 := Lib.hid ha4; clear ha4 Ha3
  have Hb4 := Lib.hid hb4; clear hb4 Hb3
  have Hc4 := Lib.hid hc4; clear hc4 Hc3
  have Hx4 := Lib.hid hx4; clear hx4
  clear hr
  go_wp2_with fail
  refine (norm_at _ _ b ys _ (by omega) HRb.out HNb.out HAb.out _ (Nat.le_refl _) Hb4.out).mono ?_
  rintro e w5 ⟨vy, rfl, hr, hB⟩
  obtain ⟨Ay, cy, rfl⟩ := own_shape hr
  have hy5 := hr
  have hbw5 := hbw4.trans (hB.mono hbw4.size)
  have ha5 := Ha4.out.on hB
  have hb5 := Hb4.out.on hB
  have hc5 := Hc4.out.on hB
  have hx5 := owns_on Hx4.out hB
  have Ha5 := Lib.hid ha5; clear ha5 Ha4
  have Hb5 := Lib.hid hb5; clear hb5 Hb4
  have Hc5 := Lib.hid hc5; clear hc5 Hc4
  have Hx5 := Lib.hid hx5; clear hx5 Hx4
  have Hy5 := Lib.hid hy5; clear hy5
  clear hr
  go_wp2_with fail
  refine (cmp_at _ _ _ a b _ (by omega) (by omega) Hab.out _ (Nat.le_refl _) Ha5.out Hb5.out).mono ?_
  rintro e w6 ⟨rfl, hB⟩
  have hbw6 := hbw5.trans (hB.mono hbw5.size)
  have ha6 := Ha5.out.on hB
  have hb6 := Hb5.out.on hB
  have hc6 := Hc5.out.on hB
  have hx6 := owns_on Hx5.out hB
  have hy6 := owns_on Hy5.out hB
  have Ha6 := Lib.hid ha6; clear ha6 Ha5
  have Hb6 := Lib.hid hb6; clear hb6 Hb5
  have Hc6 := Lib.hid hc6; clear hc6 Hc5
  have Hx6 := Lib.hid hx6; clear hx6 Hx5
  have Hy6 := Lib.hid hy6; clear hy6 Hy5
  go_wp2_with fail
  refine (cmp_at _ _ _ b a _ (by omega) (by omega) Hba.out _ (Nat.le_refl _) Hb6.out Ha6.out).mono ?_
  rintro e w7 ⟨rfl, hB⟩
  have hbw7 := hbw6.trans (hB.mono hbw6.size)
  have ha7 := Ha6.out.on hB
  have hb7 := Hb6.out.on hB
  have hc7 := Hc6.out.on hB
  have hx7 := owns_on Hx6.out hB
  have hy7 := owns_on Hy6.out hB
  have Ha7 := Lib.hid ha7; clear ha7 Ha6
  have Hb7 := Lib.hid hb7; clear hb7 Hb6
  have Hc7 := Lib.hid hc7; clear hc7 Hc6
  have Hx7 := Lib.hid hx7; clear hx7 Hx6
  have Hy7 := Lib.hid hy7; clear hy7 Hy6
  go_wp2_with fail
  refine (same_at _ _ _ a b _ (by omega) (by omega) Hsm.out _ (Nat.le_refl _) Ha7.out Hb7.out).mono ?_
  rintro e w8 ⟨rfl, hB⟩
  have hbw8 := hbw7.trans (hB.mono hbw7.size)
  have ha8 := Ha7.out.on hB
  have hb8 := Hb7.out.on hB
  have hc8 := Hc7.out.on hB
  have hx8 := owns_on Hx7.out hB
  have hy8 := owns_on Hy7.out hB
  have Ha8 := Lib.hid ha8; clear ha8 Ha7
  have Hb8 := Lib.hid hb8; clear hb8 Hb7
  have Hc8 := Lib.hid hc8; clear hc8 Hc7
  have Hx8 := Lib.hid hx8; clear hx8 Hx7
  have Hy8 := Lib.hid hy8; clear hy8 Hy7
  go_wp2_with fail
  refine (cmp_at _ _ _ b c _ (by omega) (by omega) Hbc.out _ (Nat.le_refl _) Hb8.out Hc8.out).mono ?_
  rintro e w9 ⟨rfl, hB⟩
  have hbw9 := hbw8.trans (hB.mono hbw8.size)
  have ha9 := Ha8.out.on hB
  have hb9 := Hb8.out.on hB
  have hc9 := Hc8.out.on hB
  have hx9 := owns_on Hx8.out hB
  have hy9 := owns_on Hy8.out hB
  have Ha9 := Lib.hid ha9; clear ha9 Ha8
  have Hb9 := Lib.hid hb9; clear hb9 Hb8
  have Hc9 := Lib.hid hc9; clear hc9 Hc8
  have Hx9 := Lib.hid hx9; clear hx9 Hx8
  have Hy9 := Lib.hid hy9; clear hy9 Hy8
  go_wp2_with fail
  refine (cmp_at _ _ _ a c _ (by omega) (by omega) Hac.out _ (Nat.le_refl _) Ha9.out Hc9.out).mono ?_
  rintro e w10 ⟨rfl, hB⟩
  have hbw10 := hbw9.trans (hB.mono hbw9.size)
  have ha10 := Ha9.out.on hB
  have hb10 := Hb9.out.on hB
  have hc10 := Hc9.out.on hB
  have hx10 := owns_on Hx9.out hB
  have hy10 := owns_on Hy9.out hB
  have Ha10 := Lib.hid ha10; clear ha10 Ha9
  have Hb10 := Lib.hid hb10; clear hb10 Hb9
  have Hc10 := Lib.hid hc10; clear hc10 Hc9
  have Hx10 := Lib.hid hx10; clear hx10 Hx9
  have Hy10 := Lib.hid hy10; clear hy10 Hy9
  go_wp2_with fail
  refine (cmp_at _ _ _ xs ys _ (by omega) (by omega) Hxy.out _ (Nat.le_refl _) (lits_own Hx10.out) (lits_own Hy10.out)).mono ?_
  rintro e w11 ⟨rfl, hB⟩
  have hbw11 := hbw10.trans (hB.mono hbw10.size)
  have ha11 := Ha10.out.on hB
  have hb11 := Hb10.out.on hB
  have hc11 := Hc10.out.on hB
  have hx11 := owns_on Hx10.out hB
  have hy11 := owns_on Hy10.out hB
  have Ha11 := Lib.hid ha11; clear ha11 Ha10
  have Hb11 := Lib.hid hb11; clear hb11 Hb10
  have Hc11 := Lib.hid hc11; clear hc11 Hc10
  have Hx11 := Lib.hid hx11; clear hx11 Hx10
  have Hy11 := Lib.hid hy11; clear hy11 Hy10
  go_wp2_with fail
  refine (HAw.out _).mono ?_
  rintro e w12 ⟨rfl, hB⟩
  have hbw12 := hbw11.trans (hB.mono hbw11.size)
  have ha12 := Ha11.out.on hB
  have hb12 := Hb11.out.on hB
  have hc12 := Hc11.out.on hB
  have hx12 := owns_on Hx11.out hB
  have hy12 := owns_on Hy11.out hB
  have Ha12 := Lib.hid ha12; clear ha12 Ha11
  have Hb12 := Lib.hid hb12; clear hb12 Hb11
  have Hc12 := Lib.hid hc12; clear hc12 Hc11
  have Hx12 := Lib.hid hx12; clear hx12 Hx11
  have Hy12 := Lib.hid hy12; clear hy12 Hy11
  go_wp2_with fail
  go_ret
  exact ⟨rfl, hbw12⟩


set_option maxRecDepth 100000 in
set_option maxHeartbeats 8000000 in
theorem order_neg_m0 (jv kv lv : Value) (j k l a b c xs ys : List Int) (ax bx : Bool) (w : World) (hIj : IntsK .u8 w.heap.size w jv j) (hIk : IntsK .u8 w.heap.size w kv k) (hIl : IntsK .u8 w.heap.size w lv l)
    (hmj : MadeAt jv j a) (hmk : MadeAt kv k b) (hml : MadeAt lv l c) (hla : a.length ≤ 20) (hlb : b.length ≤ 20) (hlc : c.length ≤ 20) (hra : rightB a = true) (hrb : rightB b = true) (hna : normL a = xs) (hnb : normL b = ys) (haa : alwB a = ax) (hab' : alwB b = bx) (hlx : xs.length ≤ 4096) (hly : ys.length ≤ 4096)
    (hab : cmpE a b = (-1)) (hba : cmpE b a = 1) (hsm : sameB a b = false) (hxy : cmpE xs ys = (-1)) (m : Int) (hbc : cmpE b c = m) (hm : 0 < m) (hge : xs.length < ys.length) :
    Calls Try.prog 9 #[jv, kv, lv] w fun e w' => e = .returned (.bool true) ∧ Below w.heap.size w w' := by
  have hw := awakeAt
  have Hj0 := Lib.hid hIj; have Hk0 := Lib.hid hIk; have Hl0 := Lib.hid hIl; have HMj := Lib.hid hmj; have HMk := Lib.hid hmk; have HMl := Lib.hid hml; have HRa := Lib.hid hra; have HRb := Lib.hid hrb; have HNa := Lib.hid hna; have HNb := Lib.hid hnb; have HAa := Lib.hid haa; have HAb := Lib.hid hab'
  have Hab := Lib.hid hab; have Hba := Lib.hid hba; have Hsm := Lib.hid hsm; have Hxy := Lib.hid hxy; have HAw := Lib.hid hw; clear hIj hIk hIl hmj hmk hml hra hrb hna hnb haa hab' hab hba hsm hxy hw
  have Hbc := Lib.hid hbc; clear hbc
  go_enter Try.func9, Try.ntmps9
  go_wp2_with fail
  refine (HMj.out _ Hj0.out).mono ?_
  rintro e w1 ⟨va, rfl, hr, hB⟩
  have ha1 := lits_own hr
  have hbw1 := hB
  have hj1 := Hj0.out.on hB
  have hk1 := Hk0.out.on hB
  have hl1 := Hl0.out.on hB
  have Hj1 := Lib.hid hj1; clear hj1 Hj0
  have Hk1 := Lib.hid hk1; clear hk1 Hk0
  have Hl1 := Lib.hid hl1; clear hl1 Hl0
  have Ha1 := Lib.hid ha1; clear ha1
  clear hr
  clear Hj1
  go_wp2_with fail
  refine (HMk.out _ Hk1.out).mono ?_
  rintro e w2 ⟨vb, rfl, hr, hB⟩
  have hb2 := lits_own hr
  have hbw2 := hbw1.trans (hB.mono hbw1.size)
  have hk2 := Hk1.out.on hB
  have hl2 := Hl1.out.on hB
  have ha2 := Ha1.out.on hB
  have Hk2 := Lib.hid hk2; clear hk2 Hk1
  have Hl2 := Lib.hid hl2; clear hl2 Hl1
  have Ha2 := Lib.hid ha2; clear ha2 Ha1
  have Hb2 := Lib.hid hb2; clear hb2
  clear hr
  clear Hk2
  go_wp2_with fail
  refine (HMl.out _ Hl2.out).mono ?_
  rintro e w3 ⟨vc, rfl, hr, hB⟩
  have hc3 := lits_own hr
  have hbw3 := hbw2.trans (hB.mono hbw2.size)
  have hl3 := Hl2.out.on hB
  have ha3 := Ha2.out.on hB
  have hb3 := Hb2.out.on hB
  have Hl3 := Lib.hid hl3; clear hl3 Hl2
  have Ha3 := Lib.hid ha3; clear ha3 Ha2
  have Hb3 := Lib.hid hb3; clear hb3 Hb2
  have Hc3 := Lib.hid hc3; clear hc3
  clear hr
  clear Hl3
  go_wp2_with fail
  refine (norm_at _ _ a xs _ (by omega) HRa.out HNa.out HAa.out _ (Nat.le_refl _) Ha3.out).mono ?_
  rintro e w4 ⟨vx, rfl, hr, hB⟩
  obtain ⟨Ax, cx, rfl⟩ := own_shape hr
  have hx4 := hr
  have hbw4 := hbw3.trans (hB.mono hbw3.size)
  have ha4 := Ha3.out.on hB
  have hb4 := Hb3.out.on hB
  have hc4 := Hc3.out.on hB
  have Ha4 := Lib.hid ha4; clear ha4 Ha3
  have Hb4 := Lib.hid hb4; clear hb4 Hb3
  have Hc4 := Lib.hid hc4; clear hc4 Hc3
  have Hx4 := Lib.hid hx4; clear hx4
  clear hr
  go_wp2_with fail
  refine (norm_at _ _ b ys _ (by omega) HRb.out HNb.out HAb.out _ (Nat.le_refl _) Hb4.out).mono ?_
  rintro e w5 ⟨vy, rfl, hr, hB⟩
  obtain ⟨Ay, cy, rfl⟩ := own_shape hr
  have hy5 := hr
  have hbw5 := hbw4.trans (hB.mono hbw4.size)
  have ha5 := Ha4.out.on hB
  have hb5 := Hb4.out.on hB
  have hc5 := Hc4.out.on hB
  have hx5 := owns_on Hx4.out hB
  have Ha5 := Lib.hid ha5; clear ha5 Ha4
  have Hb5 := Lib.hid hb5; clear hb5 Hb4
  have Hc5 := Lib.hid hc5; clear hc5 Hc4
  have Hx5 := Lib.hid hx5; clear hx5 Hx4
  have Hy5 := Lib.hid hy5; clear hy5
  clear hr
  go_wp2_with fail
  refine (cmp_at _ _ _ a b _ (by omega) (by omega) Hab.out _ (Nat.le_refl _) Ha5.out Hb5.out).mono ?_
  rintro e w6 ⟨rfl, hB⟩
  have hbw6 := hbw5.trans (hB.mono hbw5.size)
  have ha6 := Ha5.out.on hB
  have hb6 := Hb5.out.on hB
  have hc6 := Hc5.out.on hB
  have hx6 := owns_on Hx5.out hB
  have hy6 := owns_on Hy5.out hB
  have Ha6 := Lib.hid ha6; clear ha6 Ha5
  have Hb6 := Lib.hid hb6; clear hb6 Hb5
  have Hc6 := Lib.hid hc6; clear hc6 Hc5
  have Hx6 := Lib.hid hx6; clear hx6 Hx5
  have Hy6 := Lib.hid hy6; clear hy6 Hy5
  go_wp2_with fail
  refine (cmp_at _ _ _ b a _ (by omega) (by omega) Hba.out _ (Nat.le_refl _) Hb6.out Ha6.out).mono ?_
  rintro e w7 ⟨rfl, hB⟩
  have hbw7 := hbw6.trans (hB.mono hbw6.size)
  have ha7 := Ha6.out.on hB
  have hb7 := Hb6.out.on hB
  have hc7 := Hc6.out.on hB
  have hx7 := owns_on Hx6.out hB
  have hy7 := owns_on Hy6.out hB
  have Ha7 := Lib.hid ha7; clear ha7 Ha6
  have Hb7 := Lib.hid hb7; clear hb7 Hb6
  have Hc7 := Lib.hid hc7; clear hc7 Hc6
  have Hx7 := Lib.hid hx7; clear hx7 Hx6
  have Hy7 := Lib.hid hy7; clear hy7 Hy6
  go_wp2_with fail
  refine (same_at _ _ _ a b _ (by omega) (by omega) Hsm.out _ (Nat.le_refl _) Ha7.out Hb7.out).mono ?_
  rintro e w8 ⟨rfl, hB⟩
  have hbw8 := hbw7.trans (hB.mono hbw7.size)
  have ha8 := Ha7.out.on hB
  have hb8 := Hb7.out.on hB
  have hc8 := Hc7.out.on hB
  have hx8 := owns_on Hx7.out hB
  have hy8 := owns_on Hy7.out hB
  have Ha8 := Lib.hid ha8; clear ha8 Ha7
  have Hb8 := Lib.hid hb8; clear hb8 Hb7
  have Hc8 := Lib.hid hc8; clear hc8 Hc7
  have Hx8 := Lib.hid hx8; clear hx8 Hx7
  have Hy8 := Lib.hid hy8; clear hy8 Hy7
  go_wp2_with fail
  refine (cmp_at _ _ _ b c _ (by omega) (by omega) Hbc.out _ (Nat.le_refl _) Hb8.out Hc8.out).mono ?_
  rintro e w9 ⟨rfl, hB⟩
  have hbw9 := hbw8.trans (hB.mono hbw8.size)
  have ha9 := Ha8.out.on hB
  have hb9 := Hb8.out.on hB
  have hc9 := Hc8.out.on hB
  have hx9 := owns_on Hx8.out hB
  have hy9 := owns_on Hy8.out hB
  have Ha9 := Lib.hid ha9; clear ha9 Ha8
  have Hb9 := Lib.hid hb9; clear hb9 Hb8
  have Hc9 := Lib.hid hc9; clear hc9 Hc8
  have Hx9 := Lib.hid hx9; clear hx9 Hx8
  have Hy9 := Lib.hid hy9; clear hy9 Hy8
  go_wp2_with fail
  refine (cmp_at _ _ _ xs ys _ (by omega) (by omega) Hxy.out _ (Nat.le_refl _) (lits_own Hx9.out) (lits_own Hy9.out)).mono ?_
  rintro e w10 ⟨rfl, hB⟩
  have hbw10 := hbw9.trans (hB.mono hbw9.size)
  have ha10 := Ha9.out.on hB
  have hb10 := Hb9.out.on hB
  have hc10 := Hc9.out.on hB
  have hx10 := owns_on Hx9.out hB
  have hy10 := owns_on Hy9.out hB
  have Ha10 := Lib.hid ha10; clear ha10 Ha9
  have Hb10 := Lib.hid hb10; clear hb10 Hb9
  have Hc10 := Lib.hid hc10; clear hc10 Hc9
  have Hx10 := Lib.hid hx10; clear hx10 Hx9
  have Hy10 := Lib.hid hy10; clear hy10 Hy9
  go_wp2_with fail
  refine (HAw.out _).mono ?_
  rintro e w11 ⟨rfl, hB⟩
  have hbw11 := hbw10.trans (hB.mono hbw10.size)
  have ha11 := Ha10.out.on hB
  have hb11 := Hb10.out.on hB
  have hc11 := Hc10.out.on hB
  have hx11 := owns_on Hx10.out hB
  have hy11 := owns_on Hy10.out hB
  have Ha11 := Lib.hid ha11; clear ha11 Ha10
  have Hb11 := Lib.hid hb11; clear hb11 Hb10
  have Hc11 := Lib.hid hc11; clear hc11 Hc10
  have Hx11 := Lib.hid hx11; clear hx11 Hx10
  have Hy11 := Lib.hid hy11; clear hy11 Hy10
  go_wp2_with fail
  go_ret
  exact ⟨rfl, hbw11⟩


set_option maxRecDepth 100000 in
set_option maxHeartbeats 8000000 in
theorem order_neg_p0 (jv kv lv : Value) (j k l a b c xs ys : List Int) (ax bx : Bool) (w : World) (hIj : IntsK .u8 w.heap.size w jv j) (hIk : IntsK .u8 w.heap.size w kv k) (hIl : IntsK .u8 w.heap.size w lv l)
    (hmj : MadeAt jv j a) (hmk : MadeAt kv k b) (hml : MadeAt lv l c) (hla : a.length ≤ 20) (hlb : b.length ≤ 20) (hlc : c.length ≤ 20) (hra : rightB a = true) (hrb : rightB b = true) (hna : normL a = xs) (hnb : normL b = ys) (haa : alwB a = ax) (hab' : alwB b = bx) (hlx : xs.length ≤ 4096) (hly : ys.length ≤ 4096)
    (hab : cmpE a b = (-1)) (hba : cmpE b a = 1) (hsm : sameB a b = false) (hxy : cmpE xs ys = (-1)) (m : Int) (hbc : cmpE b c = m) (hm : m ≤ 0) (p : Int) (hac : cmpE a c = p) (hp : p ≤ 0) (hge : xs.length < ys.length) :
    Calls Try.prog 9 #[jv, kv, lv] w fun e w' => e = .returned (.bool true) ∧ Below w.heap.size w w' := by
  have hw := awakeAt
  have Hj0 := Lib.hid hIj; have Hk0 := Lib.hid hIk; have Hl0 := Lib.hid hIl; have HMj := Lib.hid hmj; have HMk := Lib.hid hmk; have HMl := Lib.hid hml; have HRa := Lib.hid hra; have HRb := Lib.hid hrb; have HNa := Lib.hid hna; have HNb := Lib.hid hnb; have HAa := Lib.hid haa; have HAb := Lib.hid hab'
  have Hab := Lib.hid hab; have Hba := Lib.hid hba; have Hsm := Lib.hid hsm; have Hxy := Lib.hid hxy; have HAw := Lib.hid hw; clear hIj hIk hIl hmj hmk hml hra hrb hna hnb haa hab' hab hba hsm hxy hw
  have Hbc := Lib.hid hbc; clear hbc
  have Hac := Lib.hid hac; clear hac
  go_enter Try.func9, Try.ntmps9
  go_wp2_with fail
  refine (HMj.out _ Hj0.out).mono ?_
  rintro e w1 ⟨va, rfl, hr, hB⟩
  have ha1 := lits_own hr
  have hbw1 := hB
  have hj1 := Hj0.out.on hB
  have hk1 := Hk0.out.on hB
  have hl1 := Hl0.out.on hB
  have Hj1 := Lib.hid hj1; clear hj1 Hj0
  have Hk1 := Lib.hid hk1; clear hk1 Hk0
  have Hl1 := Lib.hid hl1; clear hl1 Hl0
  have Ha1 := Lib.hid ha1; clear ha1
  clear hr
  clear Hj1
  go_wp2_with fail
  refine (HMk.out _ Hk1.out).mono ?_
  rintro e w2 ⟨vb, rfl, hr, hB⟩
  have hb2 := lits_own hr
  have hbw2 := hbw1.trans (hB.mono hbw1.size)
  have hk2 := Hk1.out.on hB
  have hl2 := Hl1.out.on hB
  have ha2 := Ha1.out.on hB
  have Hk2 := Lib.hid hk2; clear hk2 Hk1
  have Hl2 := Lib.hid hl2; clear hl2 Hl1
  have Ha2 := Lib.hid ha2; clear ha2 Ha1
  have Hb2 := Lib.hid hb2; clear hb2
  clear hr
  clear Hk2
  go_wp2_with fail
  refine (HMl.out _ Hl2.out).mono ?_
  rintro e w3 ⟨vc, rfl, hr, hB⟩
  have hc3 := lits_own hr
  have hbw3 := hbw2.trans (hB.mono hbw2.size)
  have hl3 := Hl2.out.on hB
  have ha3 := Ha2.out.on hB
  have hb3 := Hb2.out.on hB
  have Hl3 := Lib.hid hl3; clear hl3 Hl2
  have Ha3 := Lib.hid ha3; clear ha3 Ha2
  have Hb3 := Lib.hid hb3; clear hb3 Hb2
  have Hc3 := Lib.hid hc3; clear hc3
  clear hr
  clear Hl3
  go_wp2_with fail
  refine (norm_at _ _ a xs _ (by omega) HRa.out HNa.out HAa.out _ (Nat.le_refl _) Ha3.out).mono ?_
  rintro e w4 ⟨vx, rfl, hr, hB⟩
  obtain ⟨Ax, cx, rfl⟩ := own_shape hr
  have hx4 := hr
  have hbw4 := hbw3.trans (hB.mono hbw3.size)
  have ha4 := Ha3.out.on hB
  have hb4 := Hb3.out.on hB
  have hc4 := Hc3.out.on hB
  have Ha4 := Lib.hid ha4; clear ha4 Ha3
  have Hb4 := Lib.hid hb4; clear hb4 Hb3
  have Hc4 := Lib.hid hc4; clear hc4 Hc3
  have Hx4 := Lib.hid hx4; clear hx4
  clear hr
  go_wp2_with fail
  refine (norm_at _ _ b ys _ (by omega) HRb.out HNb.out HAb.out _ (Nat.le_refl _) Hb4.out).mono ?_
  rintro e w5 ⟨vy, rfl, hr, hB⟩
  obtain ⟨Ay, cy, rfl⟩ := own_shape hr
  have hy5 := hr
  have hbw5 := hbw4.trans (hB.mono hbw4.size)
  have ha5 := Ha4.out.on hB
  have hb5 := Hb4.out.on hB
  have hc5 := Hc4.out.on hB
  have hx5 := owns_on Hx4.out hB
  have Ha5 := Lib.hid ha5; clear ha5 Ha4
  have Hb5 := Lib.hid hb5; clear hb5 Hb4
  have Hc5 := Lib.hid hc5; clear hc5 Hc4
  have Hx5 := Lib.hid hx5; clear hx5 Hx4
  have Hy5 := Lib.hid hy5; clear hy5
  clear hr
  go_wp2_with fail
  refine (cmp_at _ _ _ a b _ (by omega) (by omega) Hab.out _ (Nat.le_refl _) Ha5.out Hb5.out).mono ?_
  rintro e w6 ⟨rfl, hB⟩
  have hbw6 := hbw5.trans (hB.mono hbw5.size)
  have ha6 := Ha5.out.on hB
  have hb6 := Hb5.out.on hB
  have hc6 := Hc5.out.on hB
  have hx6 := owns_on Hx5.out hB
  have hy6 := owns_on Hy5.out hB
  have Ha6 := Lib.hid ha6; clear ha6 Ha5
  have Hb6 := Lib.hid hb6; clear hb6 Hb5
  have Hc6 := Lib.hid hc6; clear hc6 Hc5
  have Hx6 := Lib.hid hx6; clear hx6 Hx5
  have Hy6 := Lib.hid hy6; clear hy6 Hy5
  go_wp2_with fail
  refine (cmp_at _ _ _ b a _ (by omega) (by omega) Hba.out _ (Nat.le_refl _) Hb6.out Ha6.out).mono ?_
  rintro e w7 ⟨rfl, hB⟩
  have hbw7 := hbw6.trans (hB.mono hbw6.size)
  have ha7 := Ha6.out.on hB
  have hb7 := Hb6.out.on hB
  have hc7 := Hc6.out.on hB
  have hx7 := owns_on Hx6.out hB
  have hy7 := owns_on Hy6.out hB
  have Ha7 := Lib.hid ha7; clear ha7 Ha6
  have Hb7 := Lib.hid hb7; clear hb7 Hb6
  have Hc7 := Lib.hid hc7; clear hc7 Hc6
  have Hx7 := Lib.hid hx7; clear hx7 Hx6
  have Hy7 := Lib.hid hy7; clear hy7 Hy6
  go_wp2_with fail
  refine (same_at _ _ _ a b _ (by omega) (by omega) Hsm.out _ (Nat.le_refl _) Ha7.out Hb7.out).mono ?_
  rintro e w8 ⟨rfl, hB⟩
  have hbw8 := hbw7.trans (hB.mono hbw7.size)
  have ha8 := Ha7.out.on hB
  have hb8 := Hb7.out.on hB
  have hc8 := Hc7.out.on hB
  have hx8 := owns_on Hx7.out hB
  have hy8 := owns_on Hy7.out hB
  have Ha8 := Lib.hid ha8; clear ha8 Ha7
  have Hb8 := Lib.hid hb8; clear hb8 Hb7
  have Hc8 := Lib.hid hc8; clear hc8 Hc7
  have Hx8 := Lib.hid hx8; clear hx8 Hx7
  have Hy8 := Lib.hid hy8; clear hy8 Hy7
  go_wp2_with fail
  refine (cmp_at _ _ _ b c _ (by omega) (by omega) Hbc.out _ (Nat.le_refl _) Hb8.out Hc8.out).mono ?_
  rintro e w9 ⟨rfl, hB⟩
  have hbw9 := hbw8.trans (hB.mono hbw8.size)
  have ha9 := Ha8.out.on hB
  have hb9 := Hb8.out.on hB
  have hc9 := Hc8.out.on hB
  have hx9 := owns_on Hx8.out hB
  have hy9 := owns_on Hy8.out hB
  have Ha9 := Lib.hid ha9; clear ha9 Ha8
  have Hb9 := Lib.hid hb9; clear hb9 Hb8
  have Hc9 := Lib.hid hc9; clear hc9 Hc8
  have Hx9 := Lib.hid hx9; clear hx9 Hx8
  have Hy9 := Lib.hid hy9; clear hy9 Hy8
  go_wp2_with fail
  refine (cmp_at _ _ _ a c _ (by omega) (by omega) Hac.out _ (Nat.le_refl _) Ha9.out Hc9.out).mono ?_
  rintro e w10 ⟨rfl, hB⟩
  have hbw10 := hbw9.trans (hB.mono hbw9.size)
  have ha10 := Ha9.out.on hB
  have hb10 := Hb9.out.on hB
  have hc10 := Hc9.out.on hB
  have hx10 := owns_on Hx9.out hB
  have hy10 := owns_on Hy9.out hB
  have Ha10 := Lib.hid ha10; clear ha10 Ha9
  have Hb10 := Lib.hid hb10; clear hb10 Hb9
  have Hc10 := Lib.hid hc10; clear hc10 Hc9
  have Hx10 := Lib.hid hx10; clear hx10 Hx9
  have Hy10 := Lib.hid hy10; clear hy10 Hy9
  go_wp2_with fail
  refine (cmp_at _ _ _ xs ys _ (by omega) (by omega) Hxy.out _ (Nat.le_refl _) (lits_own Hx10.out) (lits_own Hy10.out)).mono ?_
  rintro e w11 ⟨rfl, hB⟩
  have hbw11 := hbw10.trans (hB.mono hbw10.size)
  have ha11 := Ha10.out.on hB
  have hb11 := Hb10.out.on hB
  have hc11 := Hc10.out.on hB
  have hx11 := owns_on Hx10.out hB
  have hy11 := owns_on Hy10.out hB
  have Ha11 := Lib.hid ha11; clear ha11 Ha10
  have Hb11 := Lib.hid hb11; clear hb11 Hb10
  have Hc11 := Lib.hid hc11; clear hc11 Hc10
  have Hx11 := Lib.hid hx11; clear hx11 Hx10
  have Hy11 := Lib.hid hy11; clear hy11 Hy10
  go_wp2_with fail
  refine (HAw.out _).mono ?_
  rintro e w12 ⟨rfl, hB⟩
  have hbw12 := hbw11.trans (hB.mono hbw11.size)
  have ha12 := Ha11.out.on hB
  have hb12 := Hb11.out.on hB
  have hc12 := Hc11.out.on hB
  have hx12 := owns_on Hx11.out hB
  have hy12 := owns_on Hy11.out hB
  have Ha12 := Lib.hid ha12; clear ha12 Ha11
  have Hb12 := Lib.hid hb12; clear hb12 Hb11
  have Hc12 := Lib.hid hc12; clear hc12 Hc11
  have Hx12 := Lib.hid hx12; clear hx12 Hx11
  have Hy12 := Lib.hid hy12; clear hy12 Hy11
  go_wp2_with fail
  go_ret
  exact ⟨rfl, hbw12⟩


theorem clausesOrder.clausesOrder_walk (jv : Value) (j : List Int) (hlj : j.length ≤ maxLen) (hwj : ∀ x ∈ j, (Lit.int .u8 x).wf = true) (hfj : Fits jv) (kv : Value) (k : List Int) (hlk : k.length ≤ maxLen) (hwk : ∀ x ∈ k, (Lit.int .u8 x).wf = true) (hfk : Fits kv)
    (lv : Value) (l : List Int) (hll : l.length ≤ maxLen) (hwl : ∀ x ∈ l, (Lit.int .u8 x).wf = true) (hfl : Fits lv) (w : World) (hIj : IntsK .u8 w.heap.size w jv j) (hIk : IntsK .u8 w.heap.size w kv k) (hIl : IntsK .u8 w.heap.size w lv l) :
    Calls Try.prog 9 #[jv, kv, lv] w fun e w' => e = .returned (.bool true) ∧ Below w.heap.size w w' := by
  have hmj := madeAt hlj hwj hfj rfl
  have hmk := madeAt hlk hwk hfk rfl
  have hml := madeAt hll hwl hfl rfl
  have hra := madeL_right j
  have hrb := madeL_right k
  have hrc := madeL_right l
  have hla := madeL_len j
  have hlb := madeL_len k
  have hlc := madeL_len l
  obtain ⟨a, ha⟩ : ∃ a, madeL j = a := ⟨_, rfl⟩
  obtain ⟨b, hb⟩ : ∃ b, madeL k = b := ⟨_, rfl⟩
  obtain ⟨c, hc⟩ : ∃ c, madeL l = c := ⟨_, rfl⟩
  rw [ha] at hmj hra hla
  rw [hb] at hmk hrb hlb
  rw [hc] at hml hrc hlc
  have hE : ∀ {x y : List Int}, rightB x = true → rightB y = true → cmpE x y = clCmp x y := fun h h' => by unfold cmpE; rw [h, h', Bool.and_self, if_pos rfl]
  have hlx : (normL a).length ≤ 4096 := by have := norm_length a; omega
  have hly : (normL b).length ≤ 4096 := by have := norm_length b; omega
  have hba : cmpE b a = -clCmp a b := by rw [hE hrb hra, clCmp_flip]
  have hxy : cmpE (normL a) (normL b) = clCmp a b := by rw [hE (norm_right hra) (norm_right hrb), clCmp_norm]
  have hsm : sameB a b = (clCmp a b == 0) := by unfold sameB withinB; rw [hra, hrb, Bool.true_and, Bool.true_and, Bool.true_and, Bool.true_and, clCmp_same]
  have hab := hE hra hrb
  have hbc := hE hrb hrc
  have hac := hE hra hrc
  rcases clCmp_vals a b with e | e | e
  · rw [e] at hba hxy hsm hab
    by_cases hm : 0 < clCmp b c
    · by_cases hge : (normL b).length ≤ (normL a).length
      · exact order_neg_m1 jv kv lv j k l a b c _ _ _ _ w hIj hIk hIl hmj hmk hml hla hlb hlc hra hrb rfl rfl rfl rfl hlx hly hab hba hsm hxy _ hbc hm hge
      · exact order_neg_m0 jv kv lv j k l a b c _ _ _ _ w hIj hIk hIl hmj hmk hml hla hlb hlc hra hrb rfl rfl rfl rfl hlx hly hab hba hsm hxy _ hbc hm (by omega)
    · have hp : clCmp a c ≤ 0 := clCmp_trans (by omega) (by omega : clCmp b c ≤ 0)
      by_cases hge : (normL b).length ≤ (normL a).length
      · exact order_neg_p1 jv kv lv j k l a b c _ _ _ _ w hIj hIk hIl hmj hmk hml hla hlb hlc hra hrb rfl rfl rfl rfl hlx hly hab hba hsm hxy _ hbc (by omega) _ hac hp hge
      · exact order_neg_p0 jv kv lv j k l a b c _ _ _ _ w hIj hIk hIl hmj hmk hml hla hlb hlc hra hrb rfl rfl rfl rfl hlx hly hab hba hsm hxy _ hbc (by omega) _ hac hp (by omega)
  · have hge := clCmp_nil e
    rw [e] at hba hxy hsm hab
    by_cases hm : 0 < clCmp b c
    · exact order_nil_m jv kv lv j k l a b c _ _ _ _ w hIj hIk hIl hmj hmk hml hla hlb hlc hra hrb rfl rfl rfl rfl hlx hly hab hba hsm hxy _ hbc hm (by omega)
    · have hp : clCmp a c ≤ 0 := clCmp_trans (by omega) (by omega : clCmp b c ≤ 0)
      exact order_nil_p jv kv lv j k l a b c _ _ _ _ w hIj hIk hIl hmj hmk hml hla hlb hlc hra hrb rfl rfl rfl rfl hlx hly hab hba hsm hxy _ hbc (by omega) _ hac hp (by omega)
  · have hge := clCmp_one e
    rw [e] at hba hxy hsm hab
    exact order_pos jv kv lv j k l a b c _ _ _ _ w hIj hIk hIl hmj hmk hml hla hlb hlc hra hrb rfl rfl rfl rfl hlx hly hab hba hsm hxy hge
end Go.Proofs.Ytngjcacodoihdaa
