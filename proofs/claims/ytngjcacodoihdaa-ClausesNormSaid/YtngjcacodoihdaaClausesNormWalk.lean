/- The walk of ClausesNorm. -/
import Derived.Test.YtngjcacodoihdaaClausesLessWalk
import Derived.Test.YtngjcacodoihdaaModels
namespace Go.Proofs.Ytngjcacodoihdaa
open Go.RowKit Go.ChangeAt Go.ChangeShapes Go.WideShapes Go.Shelf Go.Sort

theorem own_form {W : World} {base n : Nat} {e : TypeId} {A : Option Addr} {cap : Nat} {xs : List Value} (h : W.ownsRow base e 1 (.slice A n cap) n xs) : (A = none ∧ n = 0 ∧ cap = 0) ∨ ∃ g, A = some ⟨g, 0, none⟩ ∧ n ≤ cap ∧ cap ≤ 9223372036854775807 := by
  rcases h.2 with ⟨h1, h0⟩ | ⟨g, cap', cur, h1, h2, h3, h4, h5, h6⟩
  · injection h1 with h1 h2 h3
    exact .inl ⟨h1, h0, h3⟩
  · injection h1 with h1 h2 h3
    subst h3
    exact .inr ⟨g, h1, h4, h5⟩
theorem isf_any {B : Nat} (v : Value) (ns : List Int) (hn : ns.length ≤ 1000000) (h : Inc ns) (W : World) (hB : B ≤ W.heap.size) (hI : Lits B W v ns) :
    Calls Try.prog 31 #[v, .func (.func 32) #[] #[]] W fun e W' => e = .returned (.bool true) ∧ RowKit.Below W.heap.size W W' := by
  rcases hI with ⟨A, c, rfl, -, rfl⟩ | ⟨b, off, cap, rfl, hb, hH⟩
  · exact (Any.slices_IsSortedFunc_none Try.laysIsf_f31 A c (.func (.func 32) #[] #[]) W).mono fun e W' ⟨he, hw⟩ => ⟨he, by rw [hw]; exact RowKit.Below.refl _ _⟩
  · have hs : ns.toArray.size = ns.length := by simp
    have hd : Lib.downOK (ltOf compareI) ns.toArray (ns.toArray.size - 1) = true := (Lib.downOK_iff _ _ _).2 fun i hi => by
      rw [hs] at hi
      rw [bang_eq ns (by omega : i + 1 < ns.length), bang_eq ns (by omega : i < ns.length)]
      have h1 := List.pairwise_iff_getElem.1 h i (i + 1) (by omega) (by omega) (by omega)
      exact ltI_asymm h1
    have hc := Any.slices_IsSortedFunc Try.laysIsf_f31 (Value.int .i64) (fun _ => rfl) compareI 32 #[] b off cap ns.toArray W eg_cmp (cmp_reads b off _ W).lays hH (by omega) (by rw [hs]; omega)
    rw [hd, hs] at hc
    exact hc.mono fun e W' ⟨he, hw⟩ => ⟨he, SW.belowHere hH hw⟩
theorem contains_at {B : Nat} {v : Value} {xs : List Int} (x : Int) (b : Bool) (w : World) (hx : xs.length ≤ 1000000) (hb : hasB xs x = b) (h : Ints B w v xs) :
    Calls Try.prog 34 #[v, .int .i64 x] w fun e w' => e = .returned (.bool b) ∧ w = w' := by
  subst hb
  exact contains_lits x w hx h

theorem ints_drop {B : Nat} {W : World} {g cc t : Nat} {c : List Int} (h : Ints B W (.slice (some ⟨g, 0, none⟩) c.length cc) c) (ht : t < c.length) : Ints B W (.slice (some ⟨g, t, none⟩) (c.length - t) (cc - t)) (c.drop t) := by
  obtain ⟨_, _, he, hc⟩ := ints_shape h
  injection he with h1 h2 h3
  subst h1
  obtain ⟨b, off, e, hb, -⟩ := hc t ht
  injection e with e
  injection e with e1 e2
  subst e1; subst e2
  refine .inr ⟨g, t, cc - t, by rw [List.length_drop], hb, fun j hj => ?_⟩
  rw [List.length_drop] at hj
  obtain ⟨b', off', e', -, hcell⟩ := hc (t + j) (by omega)
  injection e' with e'
  injection e' with e1' e2'
  subst e1'; subst e2'
  rw [List.getElem?_drop]
  rw [Nat.zero_add] at hcell
  exact hcell
theorem ints_take {B : Nat} {W : World} {g cc t : Nat} {c : List Int} (h : Ints B W (.slice (some ⟨g, 0, none⟩) c.length cc) c) (ht : t < c.length) : Ints B W (.slice (some ⟨g, 0, none⟩) t cc) (c.take t) := by
  obtain ⟨_, _, he, hc⟩ := ints_shape h
  injection he with h1 h2 h3
  subst h1
  have hl : (c.take t).length = t := by rw [List.length_take]; omega
  by_cases h0 : t = 0
  · subst h0
    exact .inl ⟨_, _, rfl, (fun e => by cases e), rfl⟩
  · obtain ⟨b, off, e, hb, -⟩ := hc t ht
    injection e with e
    injection e with e1 e2
    subst e1; subst e2
    refine .inr ⟨g, 0, cc, by rw [hl], hb, fun j hj => ?_⟩
    rw [hl] at hj
    obtain ⟨b', off', e', -, hcell⟩ := hc j (by omega)
    injection e' with e'
    injection e' with e1' e2'
    subst e1'; subst e2'
    rw [List.getElem?_take_of_lt hj]
    exact hcell
theorem ints_none {B : Nat} {W : World} {A : Option Addr} {cc : Nat} (h : A = none → cc = 0) : Ints B W (.slice A 0 cc) [] := .inl ⟨_, _, rfl, h, rfl⟩
/-- Two slices laid side by side, and joined. -/
theorem concat_at (w : World) (va vb : Value) (xs ys : List Int) (hx : xs.length ≤ 1000) (hy : ys.length ≤ 1000) (hA : Ints w.heap.size w va xs) (hC : Ints w.heap.size w vb ys) (T : TypeId) :
    Calls Try.prog 35 #[.slice (some ⟨w.heap.size, 0, none⟩) 2 2] ((w.alloc (.cells #[va, vb] T)).drew) fun e w' => ∃ v, e = .returned v ∧ Lits w'.heap.size w' v (xs ++ ys) ∧ Below w.heap.size w w' := by
  have hb : Below w.heap.size w ((w.alloc (.cells #[va, vb] T)).drew) := (below1 w _).drew
  refine (concatLit w.heap.size va vb xs ys (by omega) (by omega) _ (by simp [World.drew]) (hA.on hb) (hC.on hb) ?_ ?_).mono ?_
  · exact World.cell?_alloc_new _ _ _ _
  · exact World.cell?_alloc_new _ _ _ _
  · rintro e w' ⟨v, rfl, hr, hB⟩
    exact ⟨v, rfl, lits_own hr, hb.trans (hB.mono hb.size)⟩

def NIRel (w : World) (n : Nat) (i : Value) (wr : World) : Prop := ∃ k : Nat, k ≤ n ∧ i = .int .i64 k ∧ Below w.heap.size w wr
def CntRel (w : World) (c : List Int) (q i : Value) (wr : World) : Prop := ∃ k : Nat, k ≤ 256 ∧ i = .int .i64 k ∧ q = .int .i64 (cnt c k) ∧ Below w.heap.size w wr
def AtCut (n : Nat) (w : World) (s16 : Value) (wx : World) : Prop := ∃ t : Nat, s16 = .int .i64 t ∧ t ≤ n ∧ (t < n ∨ n = 0) ∧ w = wx
def OthCut (w : World) (ns : List Int) (s17 s18 s19 : Value) (wx : World) : Prop := Lits wx.heap.size wx s17 ns ∧ (∃ b, s18 = .bool b) ∧ s19 = .int .i64 0 ∧ Below w.heap.size w wx

set_option maxRecDepth 100000 in
set_option maxHeartbeats 16000000 in
theorem norm_core (kv : Value) (k : List Int) (turn : Int) (c ns : List Int) (al : Bool) (w : World) (hIk : IntsK .u8 w.heap.size w kv k) (hmk : MadeAt kv k c) (ht0 : 0 ≤ turn) (ht1 : turn ≤ 255)
    (hlc : c.length ≤ 20) (hrc : rightB c = true) (hns : normL c = ns) (hal : alwB c = al) (hnn : normL ns = ns) (han : alwB ns = al) (hrn : rightB ns = true) (hin : incB ns = true) (hsc : sameB c ns = true) (hln : ns.length ≤ 20)
    (hcn : ∀ x ∈ ns, hasB c x = true) (hnc : ∀ x ∈ c, hasB ns x = true) (hne : ∀ i, 0 < i → i < ns.length → (ns[i - 1]?.getD 0 == ns[i]?.getD 0) = false)
    (hoth : ∀ t, normL (c.drop t ++ c.take t) = ns) (hrot : ∀ t, rightB (c.drop t ++ c.take t) = true)
    (hho : ∀ m, holdsB ns m = holdsB c m) (h256 : ((cnt c 256 : Int) == 256) = al) (h0 : ((cnt c 256 : Int) == 0) = ((ns.length : Int) == 0)) :
    Calls Try.prog 7 #[kv, .int .u8 turn] w fun e w' => e = .returned (.bool true) ∧ Below w.heap.size w w' := by
  have hInc := (incB_iff ns).1 hin
  have hba := bne_b al
  have hw := awakeAt
  have HIkx := Lib.hid hIk; have HMkx := Lib.hid hmk; have HRcx := Lib.hid hrc; have HNsx := Lib.hid hns; have HAlx := Lib.hid hal; have HNnx := Lib.hid hnn; have HAnx := Lib.hid han; have HRnx := Lib.hid hrn; have HInx := Lib.hid hin; have HScx := Lib.hid hsc; have HCnx := Lib.hid hcn; have HNcx := Lib.hid hnc; have HNex := Lib.hid hne; have HOthx := Lib.hid hoth; have HRotx := Lib.hid hrot; have HHox := Lib.hid hho; have H256x := Lib.hid h256; have H0x := Lib.hid h0; have HIncx := Lib.hid hInc; have HAw := Lib.hid hw
  clear hIk hmk hrc hns hal hnn han hrn hin hsc hcn hnc hne hoth hrot hho h256 h0 hInc hw
  have Hk0 := HIkx; clear HIkx
  go_enter Try.func7, Try.ntmps7
  go_wp2_with fail
  refine (HMkx.out _ Hk0.out).mono ?_
  rintro e w1 ⟨vc, rfl, hr, hB⟩
  obtain ⟨Ac, cc, rfl⟩ := own_shape hr
  have hcf := own_form hr
  have HCf := Lib.hid hcf; clear hcf
  have hc1 := hr
  have hbw1 := hB
  have hk1 := Hk0.out.on hB
  have Hk1 := Lib.hid hk1; clear hk1 Hk0
  have Hc1 := Lib.hid hc1; clear hc1
  clear hr
  clear Hk1
  go_wp2_with fail
  refine (norm_at _ _ c ns _ (by omega) HRcx.out HNsx.out HAlx.out _ (Nat.le_refl _) (lits_own Hc1.out)).mono ?_
  rintro e w2 ⟨vn, rfl, hr, hB⟩
  obtain ⟨An, cn, rfl⟩ := own_shape hr
  have hn2 := hr
  have hbw2 := hbw1.trans (hB.mono hbw1.size)
  have hc2 := owns_on Hc1.out hB
  have Hc2 := Lib.hid hc2; clear hc2 Hc1
  have Hn2 := Lib.hid hn2; clear hn2
  clear hr
  go_wp2_with fail
  refine (norm_at _ _ ns ns _ (by omega) HRnx.out HNnx.out HAnx.out _ (Nat.le_refl _) (lits_own Hn2.out)).mono ?_
  rintro e w3 ⟨vg, rfl, hr, hB⟩
  obtain ⟨Ag, cg, rfl⟩ := own_shape hr
  have hg3 := hr
  have hbw3 := hbw2.trans (hB.mono hbw2.size)
  have hc3 := owns_on Hc2.out hB
  have hn3 := owns_on Hn2.out hB
  have Hc3 := Lib.hid hc3; clear hc3 Hc2
  have Hn3 := Lib.hid hn3; clear hn3 Hn2
  have Hg3 := Lib.hid hg3; clear hg3
  clear hr
  go_wp2_with fail
  refine (equal_cl _ (by omega) (by omega) (ints_own Hg3.out) (ints_own Hn3.out)).mono ?_
  rintro e w' ⟨rfl, q, rfl⟩
  rw [beq_self_eq_true]
  have hB := below_drewN (Below.refl w3.heap.size w3) q
  obtain ⟨w4, hw⟩ : ∃ x, w3.drewN q = x := ⟨_, rfl⟩
  rw [hw] at hB ⊢
  clear hw
  have hbw4 := hbw3.trans (hB.mono hbw3.size)
  have hc4 := owns_on Hc3.out hB
  have hn4 := owns_on Hn3.out hB
  have hg4 := owns_on Hg3.out hB
  have Hc4 := Lib.hid hc4; clear hc4 Hc3
  have Hn4 := Lib.hid hn4; clear hn4 Hn3
  have Hg4 := Lib.hid hg4; clear hg4 Hg3
  clear Hg4
  go_wp2_with fail
  refine (clnormal_any _ _ ns (by omega) _ (ints_own Hn4.out)).mono ?_
  rintro e w' ⟨rfl, q, rfl⟩
  rw [HRnx.out, HInx.out, Bool.and_self]
  have hB := below_drewN (Below.refl w4.heap.size w4) q
  obtain ⟨w5, hw⟩ : ∃ x, w4.drewN q = x := ⟨_, rfl⟩
  rw [hw] at hB ⊢
  clear hw
  have hbw5 := hbw4.trans (hB.mono hbw4.size)
  have hc5 := owns_on Hc4.out hB
  have hn5 := owns_on Hn4.out hB
  have Hc5 := Lib.hid hc5; clear hc5 Hc4
  have Hn5 := Lib.hid hn5; clear hn5 Hn4
  go_wp2_with fail
  refine (isf_any _ ns (by omega) HIncx.out _ (Nat.le_refl _) (lits_own Hn5.out)).mono ?_
  rintro e w6 ⟨rfl, hB⟩
  have hbw6 := hbw5.trans (hB.mono hbw5.size)
  have hc6 := owns_on Hc5.out hB
  have hn6 := owns_on Hn5.out hB
  have Hc6 := Lib.hid hc6; clear hc6 Hc5
  have Hn6 := Lib.hid hn6; clear hn6 Hn5
  go_wp2_with fail
  refine (same_at _ _ _ c ns _ (by omega) (by omega) HScx.out _ (Nat.le_refl _) (lits_own Hc6.out) (lits_own Hn6.out)).mono ?_
  rintro e w7 ⟨rfl, hB⟩
  have hbw7 := hbw6.trans (hB.mono hbw6.size)
  have hc7 := owns_on Hc6.out hB
  have hn7 := owns_on Hn6.out hB
  have Hc7 := Lib.hid hc7; clear hc7 Hc6
  have Hn7 := Lib.hid hn7; clear hn7 Hn6
  go_wp2_with fail

  obtain ⟨_, _, he, hcell⟩ := ints_shape (ints_own Hn7.out)
  injection he with he0 he1 he2
  subst he0; clear he1 he2
  have HCn := Lib.hid hcell; clear hcell
  obtain ⟨_, _, he, hcell⟩ := ints_shape (ints_own Hc7.out)
  injection he with he0 he1 he2
  subst he0; clear he1 he2
  have HCc := Lib.hid hcell; clear hcell
  go_loopw [70] (fun i wr => NIRel w7 ns.length i wr) (fun i _ => ns.length - (intOf i).toNat)
  case atStart => exact ⟨0, by omega, rfl, Below.refl _ _⟩
  case round =>
    obtain ⟨k, hk, rfl, hbr⟩ := hrel
    by_cases hlt : k < ns.length
    · obtain ⟨b, off, rfl, hb, hck⟩ := HCn.out k hlt
      have hck : wr.cell? ⟨b, off + k, none⟩ = some (.int .i64 (ns[k]?.getD 0)) := (hbr.cell (p := ⟨b, off + k, none⟩) hb).trans hck
      have hmem := get_mem hlt
      have hnek := HNex.out k
      by_cases hk0 : 0 < k
      · have hnek := hnek hk0 hlt
        obtain ⟨b', off', he, _, hck'⟩ := HCn.out (k - 1) (by omega)
        injection he with he
        injection he with he1 he2 he3
        subst he1; subst he2; clear he3
        have hck' : wr.cell? ⟨b, off + (k - 1), none⟩ = some (.int .i64 (ns[k - 1]?.getD 0)) := (hbr.cell (p := ⟨b, off + (k - 1), none⟩) hb).trans hck'
        obtain ⟨y, hy⟩ : ∃ y, ns[k - 1]?.getD 0 = y := ⟨_, rfl⟩
        obtain ⟨x, hx⟩ : ∃ x, ns[k]?.getD 0 = x := ⟨_, rfl⟩
        rw [hx] at hck hmem hnek
        rw [hy] at hck' hnek
        clear hx hy
        have hhx := Lib.hid (HCnx.out x hmem); clear hmem
        have hIc := (ints_own (owns_on Hc7.out hbr)); have HIc := Lib.hid hIc; clear hIc
        go_wp2_with fail
        refine (contains_at x _ _ (by omega) hhx.out HIc.out).mono ?_
        rintro e w' ⟨rfl, rfl⟩
        obtain ⟨t, rfl⟩ : ∃ t, k = t + 1 := ⟨k - 1, by omega⟩
        have ht : ((t + 1 : Nat) : Int) - 1 = (t : Int) := by omega
        rw [Nat.add_sub_cancel] at hck'
        have HT := Lib.hid ht; clear ht
        go_wp2_with fail
        go_roundw
        case rel => exact ⟨t + 1 + 1, by omega, by go_num, hbr⟩
        case measure => simp [intOf]; omega
      · obtain rfl : k = 0 := by omega
        obtain ⟨x, hx⟩ : ∃ x, ns[0]?.getD 0 = x := ⟨_, rfl⟩
        rw [hx] at hck hmem
        rw [Nat.add_zero] at hck
        clear hx hnek
        rw [show ((0 : Nat) : Int) = 0 from rfl]
        have hhx := Lib.hid (HCnx.out x hmem); clear hmem
        have hIc := (ints_own (owns_on Hc7.out hbr)); have HIc := Lib.hid hIc; clear hIc
        go_wp2_with fail
        refine (contains_at x _ _ (by omega) hhx.out HIc.out).mono ?_
        rintro e w' ⟨rfl, rfl⟩
        go_wp2_with fail
        go_roundw
        case rel => exact ⟨1, by omega, by go_num, hbr⟩
        case measure => simp [intOf]; omega
    · obtain rfl : k = ns.length := by omega
      clear hlt hk
      obtain ⟨wa, rfl⟩ : ∃ x, x = wr := ⟨_, rfl⟩
      have hc1 := owns_on Hc7.out hbr; have hn1 := owns_on Hn7.out hbr
      have hcell1 : ∀ k, k < c.length → ∃ b off, Ac = some ⟨b, off, none⟩ ∧ b < wa.heap.size ∧ wa.cell? ⟨b, off + k, none⟩ = some (.int .i64 (c[k]?.getD 0)) := fun k hk => by
        obtain ⟨b, off, e, hb, hck⟩ := HCc.out k hk
        exact ⟨b, off, e, Nat.lt_of_lt_of_le hb hbr.size, (hbr.cell (p := ⟨b, off + k, none⟩) hb).trans hck⟩
      have hbwa := hbw7.trans (hbr.mono hbw7.size)
      clear HCn HCc Hc7 Hn7 hbr hbw1 hbw2 hbw3 hbw4 hbw5 hbw6 hbw7
      have HCc := Lib.hid hcell1; have Hc1 := Lib.hid hc1; have Hn1 := Lib.hid hn1; clear hcell1 hc1 hn1
      go_wp2_with fail
      go_loopw [95] (fun i wr => NIRel wa c.length i wr) (fun i _ => c.length - (intOf i).toNat)
      case atStart => exact ⟨0, by omega, rfl, Below.refl _ _⟩
      case round =>
        obtain ⟨k, hk, rfl, hbr⟩ := hrel
        by_cases hlt : k < c.length
        · obtain ⟨b, off, rfl, hb, hck⟩ := HCc.out k hlt
          have hck : wr.cell? ⟨b, off + k, none⟩ = some (.int .i64 (c[k]?.getD 0)) := (hbr.cell (p := ⟨b, off + k, none⟩) hb).trans hck
          have hmem := get_mem hlt
          obtain ⟨x, hx⟩ : ∃ x, c[k]?.getD 0 = x := ⟨_, rfl⟩
          rw [hx] at hck hmem
          clear hx
          have Hhx := Lib.hid (HNcx.out x hmem); have Hhc := Lib.hid (hasB_iff.2 hmem); clear hmem
          have hIc := (ints_own (owns_on Hc1.out hbr)); have hIn := (ints_own (owns_on Hn1.out hbr)); have HIc := Lib.hid hIc; have HIn := Lib.hid hIn; clear hIc hIn
          go_wp2_with fail
          refine (contains_at x _ _ (by omega) Hhx.out HIn.out).mono ?_
          rintro e w' ⟨rfl, rfl⟩
          go_wp2_with fail
          refine (has_at _ _ c x _ (by omega) HRcx.out Hhc.out _ HIc.out).mono ?_
          rintro e w' ⟨rfl, rfl⟩
          go_wp2_with fail
          go_roundw
          case rel => exact ⟨k + 1, by omega, by go_num, hbr⟩
          case measure => simp [intOf]; omega
        · obtain rfl : k = c.length := by omega
          clear hlt hk
          obtain ⟨wb, rfl⟩ : ∃ x, x = wr := ⟨_, rfl⟩
          have hc1 := owns_on Hc1.out hbr; have hn1 := owns_on Hn1.out hbr
          have hbwb := hbwa.trans (hbr.mono hbwa.size)
          clear HCc Hc1 Hn1 hbr hbwa
          have Hc1 := Lib.hid hc1; have Hn1 := Lib.hid hn1; clear hc1 hn1
          go_upto_if 112 with fail
          go_cut [16] (fun s16 wx => AtCut c.length wb s16 wx)
          case first =>
            by_cases h0 : 0 < c.length
            · have htm : ((turn.toNat % c.length : Nat) : Int) = turn % (c.length : Int) := by rw [Int.natCast_emod, Int.toNat_of_nonneg ht0]
              have hlt := Nat.mod_lt turn.toNat h0
              obtain ⟨t, ht⟩ : ∃ t, turn.toNat % c.length = t := ⟨_, rfl⟩
              rw [ht] at htm hlt
              have HT := Lib.hid htm; clear htm ht
              go_wp2_with fail
              go_meet
              exact ⟨t, by rw [HT.out], by omega, .inl hlt, rfl⟩
            · go_wp2_with fail
              go_meet
              exact ⟨0, rfl, by omega, by omega, rfl⟩
          case rest =>
            obtain ⟨t, rfl, ht0, ht1, rfl⟩ := hcut
            go_upto_region 21 with fail
            go_cut [17, 18, 19] (fun s17 s18 s19 wx => OthCut wb ns s17 s18 s19 wx)
            case first =>
              have hrow := ints_own Hc1.out
              have hro := HRotx.out t
              have hot := HOthx.out t
              have hld : (c.drop t).length ≤ 1000 := by rw [List.length_drop]; omega
              have hlt' : (c.take t).length ≤ 1000 := by rw [List.length_take]; omega
              have hlz : (c.drop t ++ c.take t).length ≤ 1000000 := by rw [List.length_append]; omega
              have Hro := Lib.hid hro; have Hot := Lib.hid hot; have Hrow := Lib.hid hrow; clear hro hot hrow
              rcases HCf.out with ⟨rfl, hn0, rfl⟩ | ⟨g, rfl, hle, hmx⟩
              · obtain rfl : t = 0 := by omega
                have hc0 := List.eq_nil_of_length_eq_zero hn0
                have HX := Lib.hid (show Ints wb.heap.size wb (.slice none 0 0) (c.drop 0) by rw [hc0]; exact ints_none fun _ => rfl)
                have HY := Lib.hid (show Ints wb.heap.size wb (.slice none 0 0) (c.take 0) by rw [hc0]; exact ints_none fun _ => rfl)
                clear hc0
                have HCC := Lib.hid (concat_at wb (.slice none 0 0) (.slice none 0 0) _ _ hld hlt' HX.out HY.out 28)
                obtain rfl : c = [] := List.eq_nil_of_length_eq_zero hn0
                rw [show ((0 : Nat) : Int) = 0 from rfl]
                clear hn0 HX HY
                go_region_with (first
                  | (go_at_call 35; (with_reducible refine (HCC.out).mono ?_); rintro e w2 ⟨v2, rfl, hl2, hB2⟩; have Hl2 := Lib.hid hl2; clear hl2)
                  | (go_at_call 28; refine (norm_at _ _ _ ns _ hlz Hro.out Hot.out rfl _ (Nat.le_refl _) Hl2.out).mono ?_; rintro e w3 ⟨v3, rfl, hr3, hB3⟩))
                all_goals (go_simp; go_wp2_with fail; go_meet; exact ⟨lits_own hr3, ⟨_, rfl⟩, rfl, hB2.trans (hB3.mono hB2.size)⟩)
              · by_cases h0 : c.length = 0
                · obtain rfl : t = 0 := by omega
                  have hc0 := List.eq_nil_of_length_eq_zero h0
                  have HX := Lib.hid (show Ints wb.heap.size wb (.slice (some ⟨g, 0, none⟩) 0 cc) (c.drop 0) by rw [hc0]; exact ints_none fun e => by cases e)
                  have HY := Lib.hid (show Ints wb.heap.size wb (.slice (some ⟨g, 0, none⟩) 0 cc) (c.take 0) by rw [hc0]; exact ints_none fun e => by cases e)
                  clear hc0
                  have HCC := Lib.hid (concat_at wb (.slice (some ⟨g, 0, none⟩) 0 cc) (.slice (some ⟨g, 0, none⟩) 0 cc) _ _ hld hlt' HX.out HY.out 28)
                  obtain rfl : c = [] := List.eq_nil_of_length_eq_zero h0
                  rw [show ((0 : Nat) : Int) = 0 from rfl]
                  clear h0 HX HY
                  go_region_with (first
                    | (go_at_call 35; (with_reducible refine (HCC.out).mono ?_); rintro e w2 ⟨v2, rfl, hl2, hB2⟩; have Hl2 := Lib.hid hl2; clear hl2)
                    | (go_at_call 28; refine (norm_at _ _ _ ns _ hlz Hro.out Hot.out rfl _ (Nat.le_refl _) Hl2.out).mono ?_; rintro e w3 ⟨v3, rfl, hr3, hB3⟩))
                  all_goals (go_simp; go_wp2_with fail; go_meet; exact ⟨lits_own hr3, ⟨_, rfl⟩, rfl, hB2.trans (hB3.mono hB2.size)⟩)
                · have ht5 : t < c.length := by omega
                  have ht6 : ¬ cc = t := by omega
                  have ht2 : (t : Int) ≤ (c.length : Int) := by omega
                  have ht3 : (t : Int) ≤ (cc : Int) := by omega
                  have ht4 : (0 : Int) ≤ (t : Int) := by omega
                  have HCC := Lib.hid (concat_at wb (.slice (some ⟨g, t, none⟩) (c.length - t) (cc - t)) (.slice (some ⟨g, 0, none⟩) t cc) _ _ hld hlt' (ints_drop Hrow.out ht5) (ints_take Hrow.out ht5) 28)
                  go_region_with (first
                    | (go_at_call 35; (with_reducible refine (HCC.out).mono ?_); rintro e w2 ⟨v2, rfl, hl2, hB2⟩; have Hl2 := Lib.hid hl2; clear hl2)
                    | (go_at_call 28; refine (norm_at _ _ _ ns _ hlz Hro.out Hot.out rfl _ (Nat.le_refl _) Hl2.out).mono ?_; rintro e w3 ⟨v3, rfl, hr3, hB3⟩))
                  all_goals (go_simp; go_wp2_with fail; go_meet; exact ⟨lits_own hr3, ⟨_, rfl⟩, rfl, hB2.trans (hB3.mono hB2.size)⟩)
            case rest =>
              obtain ⟨ho0, ⟨b18, rfl⟩, rfl, hbo⟩ := hcut
              have hc2 := (lits_own Hc1.out).on hbo; have hn2 := (lits_own Hn1.out).on hbo
              have hbwc := hbwb.trans (hbo.mono hbwb.size)
              clear Hc1 Hn1 hbo hbwb HCf
              have Hc2 := Lib.hid hc2; have Hn2 := Lib.hid hn2; have Ho2 := Lib.hid ho0; clear hc2 hn2 ho0
              go_wp2_with fail
              go_loopw [20, 131] (fun q i wr => CntRel wc c q i wr) (fun _ i _ => 256 - (intOf i).toNat)
              case atStart => exact ⟨0, by omega, rfl, rfl, Below.refl _ _⟩
              case round =>
                obtain ⟨k, hk, rfl, rfl, hbr⟩ := hrel
                have hcs := cnt_step c k
                have hcl := cnt_le c k
                by_cases hlt : k < 256
                · have hc3 := Hc2.out.on hbr; have hn3 := Hn2.out.on hbr
                  have Hc3 := Lib.hid hc3; have Hn3 := Lib.hid hn3; clear hc3 hn3
                  have hml := modelL_len k
                  have hml1 : (modelL k).length ≤ 8 := by omega
                  clear hml
                  obtain ⟨m, hm⟩ : ∃ m, modelL k = m := ⟨_, rfl⟩
                  rw [hm] at hml1 hcs
                  obtain ⟨q, hq⟩ : ∃ q, cnt c k = q := ⟨_, rfl⟩
                  rw [hq] at hcs hcl ⊢
                  obtain ⟨x, hx⟩ : ∃ x, holdsB c m = x := ⟨_, rfl⟩
                  have hy := HHox.out m
                  rw [hx] at hcs hy
                  have HMm := Lib.hid hm; have HQ := Lib.hid hq; have HX := Lib.hid hx; have HY := Lib.hid hy; have HCs := Lib.hid hcs; clear hm hq hx hy hcs
                  go_wp2_with fail
                  refine (model_any k _).mono ?_
                  rintro e w2 ⟨vm, rfl, hr, hB2⟩
                  rw [HMm.out] at hr
                  have Hm4 := Lib.hid (ints_own hr); have Hc4 := Lib.hid (Hc3.out.on hB2); have Hn4 := Lib.hid (Hn3.out.on hB2); clear hr Hc3 Hn3
                  go_wp2_with fail
                  refine (holds_at _ _ _ c m _ (by omega) (by omega) HRcx.out HX.out _ (Nat.le_refl _) Hc4.out Hm4.out).mono ?_
                  rintro e w3 ⟨rfl, hB3⟩
                  have Hm5 := Lib.hid (Hm4.out.on hB3); have Hc5 := Lib.hid (Hc4.out.on hB3); have Hn5 := Lib.hid (Hn4.out.on hB3); clear Hc4 Hn4 Hm4
                  go_wp2_with fail
                  refine (holds_at _ _ _ ns m _ (by omega) (by omega) HRnx.out HY.out _ (Nat.le_refl _) Hn5.out Hm5.out).mono ?_
                  rintro e w4 ⟨rfl, hB4⟩
                  have Hm6 := Lib.hid (Hm5.out.on hB4); have Hc6 := Lib.hid (Hc5.out.on hB4); clear Hc5 Hn5 Hm5
                  have hbx := bne_b x
                  go_wp2_with fail
                  refine (holds_at _ _ _ c m _ (by omega) (by omega) HRcx.out HX.out _ (Nat.le_refl _) Hc6.out Hm6.out).mono ?_
                  rintro e w5 ⟨rfl, hB5⟩
                  clear Hm6 Hc6 hbx
                  have hbe : Below wc.heap.size wc w5 := (((hbr.trans (hB2.mono hbr.size)).trans (hB3.mono (Nat.le_trans hbr.size hB2.size))).trans (hB4.mono (Nat.le_trans (Nat.le_trans hbr.size hB2.size) hB3.size))).trans (hB5.mono (Nat.le_trans (Nat.le_trans (Nat.le_trans hbr.size hB2.size) hB3.size) hB4.size))
                  clear hB2 hB3 hB4 hB5
                  cases x
                  · go_wp2_with fail
                    go_roundw
                    case rel => exact ⟨k + 1, by omega, by go_num, by rw [HCs.out]; simp, hbe⟩
                    case measure => simp [intOf]; omega
                  · go_wp2_with fail
                    go_roundw
                    case rel => exact ⟨k + 1, by omega, by go_num, by rw [HCs.out, if_pos (by trivial)]; go_num, hbe⟩
                    case measure => simp [intOf]; omega
                · obtain rfl : k = 256 := by omega
                  clear hlt hk hcs
                  obtain ⟨q, hq⟩ : ∃ q, cnt c 256 = q := ⟨_, rfl⟩
                  have h256 := H256x.out
                  have h0 := H0x.out
                  rw [hq] at h256 h0 hcl ⊢
                  clear hq H256x H0x
                  have Ho3 := Lib.hid ((Ho2.out.on hbr).ints); have Hn3 := Lib.hid ((Hn2.out.on hbr).ints)
                  have hbt := hbwc.trans (hbr.mono hbwc.size)
                  clear Ho2 Hn2 Hc2
                  go_wp2_with fail
                  refine (equal_cl _ (by omega) (by omega) Ho3.out Hn3.out).mono ?_
                  rintro e w' ⟨rfl, qq, rfl⟩
                  rw [beq_self_eq_true]
                  have hB := below_drewN (Below.refl wr.heap.size wr) qq
                  obtain ⟨w8, hw8⟩ : ∃ x, wr.drewN qq = x := ⟨_, rfl⟩
                  rw [hw8] at hB ⊢
                  clear hw8
                  have hbu := hbt.trans (hB.mono hbt.size)
                  clear hB hbt hbr
                  cases hl0 : ((ns.length : Int) == 0)
                  all_goals
                    rw [hl0] at h0
                    go_wp2_with fail
                    refine (HAw.out _).mono ?_
                    rintro e w9 ⟨rfl, hb9⟩
                    go_wp2_with fail
                    go_ret
                    exact ⟨rfl, hbu.trans (hb9.mono hbu.size)⟩

theorem clausesNorm.clausesNorm_walk (kv : Value) (k : List Int) (hlk : k.length ≤ maxLen) (hwk : ∀ x ∈ k, (Lit.int .u8 x).wf = true) (hfk : Fits kv)
    (turn : Int) (hwt : (Lit.int .u8 turn).wf = true) (w : World) (hIk : IntsK .u8 w.heap.size w kv k) :
    Calls Try.prog 7 #[kv, .int .u8 turn] w fun e w' => e = .returned (.bool true) ∧ Below w.heap.size w w' := by
  have hmk := madeAt hlk hwk hfk rfl
  have ht := u8_wf hwt
  have hrc := madeL_right k
  have hlc := madeL_len k
  have hc8 : ∀ x ∈ madeL k, ∃ v : Int, 1 ≤ v ∧ v ≤ 8 ∧ (x = v ∨ x = -v) := fun x h => madeL_lit h
  obtain ⟨c, hc⟩ : ∃ a, madeL k = a := ⟨_, rfl⟩
  rw [hc] at hmk hrc hlc hc8
  have hln := norm_length c
  have hrn := norm_right hrc
  have hal : alwB (normL c) = alwB c := by
    rw [Bool.eq_iff_iff, alwB_iff, alwB_iff]
    exact ⟨fun ⟨x, h, h'⟩ => ⟨x, norm_mem.1 h, norm_mem.1 h'⟩, fun ⟨x, h, h'⟩ => ⟨x, norm_mem.2 h, norm_mem.2 h'⟩⟩
  have hrot : ∀ t x, x ∈ c.drop t ++ c.take t ↔ x ∈ c := fun t x => by
    rw [List.mem_append]
    constructor
    · rintro (h | h)
      · exact List.mem_of_mem_drop h
      · exact List.mem_of_mem_take h
    · intro h
      rw [← List.take_append_drop t c] at h
      exact (List.mem_append.1 h).symm
  refine norm_core kv k turn c _ _ w hIk hmk ht.1 ht.2 hlc hrc rfl rfl (norm_norm c) hal hrn ((incB_iff _).2 (norm_inc c)) ?_ (by omega) (fun x h => hasB_iff.2 (norm_mem.1 h)) (fun x h => hasB_iff.2 (norm_mem.2 h)) ?_ (fun t => norm_congr (hrot t)) ?_ (fun m => ?_) ?_ ?_
  · unfold sameB
    rw [within_of hrc hrn, within_of hrn hrc, Bool.and_eq_true, withB_iff, withB_iff]
    exact ⟨fun x h => norm_mem.2 h, fun x h => norm_mem.1 h⟩
  · intro i h0 hi
    rw [beq_eq_false_iff_ne]
    intro e
    have h1 := List.pairwise_iff_getElem.1 (norm_inc c) (i - 1) i (by omega) hi (by omega)
    rw [List.getElem?_eq_getElem (by omega), List.getElem?_eq_getElem hi, Option.getD_some, Option.getD_some] at e
    rw [e, ltI_irrefl] at h1
    cases h1
  · intro t
    refine rightB_mk ?_ fun x h => (rightB_of hrc).2 x ((hrot t x).1 h)
    rw [List.length_append, List.length_drop, List.length_take]
    omega
  · rw [Bool.eq_iff_iff, holdsB_iff, holdsB_iff]
    exact ⟨fun ⟨x, h, h'⟩ => ⟨x, h, norm_mem.1 h'⟩, fun ⟨x, h, h'⟩ => ⟨x, h, norm_mem.2 h'⟩⟩
  · cases h : alwB c
    · rw [beq_eq_false_iff_ne]
      have := cnt_not h
      omega
    · rw [beq_iff_eq, cnt_all hc8 h]; rfl
  · by_cases h : c = []
    · subst h
      rw [cnt_nil]
      have : normL ([] : List Int) = [] := norm_of_inc .nil
      rw [this]; rfl
    · obtain ⟨x, t, rfl⟩ := List.exists_cons_of_ne_nil h
      have h1 : ((cnt (x :: t) 256 : Int) == 0) = false := by rw [beq_eq_false_iff_ne]; have := cnt_pos hc8 (x := x) (by simp); omega
      have h2 : (((normL (x :: t)).length : Int) == 0) = false := by
        rw [beq_eq_false_iff_ne]
        have := List.length_pos_of_mem (norm_mem.2 (List.mem_cons_self : x ∈ x :: t))
        omega
      rw [h1, h2]
end Go.Proofs.Ytngjcacodoihdaa
