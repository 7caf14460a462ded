/- dimacs.lines: the lines of a text that are not passed over, each with its number. -/
import Derived.Test.YticcgmegimiegaaGreatDoorDmPassed
namespace Go.Proofs.YticcgmegimiegaaGreatDoor
open Go.RowKit Go.ChangeAt Go.ChangeShapes Go.WideShapes Go.Shelf Go.Sort

attribute [local go_sem] Oper.semAt_some

/-- Lines that are not passed over, with their numbers, of which the first is n + 1. -/
def numL (n : Nat) : List (List UInt8) → List (Nat × List UInt8)
  | [] => []
  | x :: r => (if passB x then [] else [(n + 1, x)]) ++ numL (n + 1) r
def linesL (s : List UInt8) : List (Nat × List UInt8) := numL 0 (segs 10 s)
theorem numL_snoc : ∀ (l : List (List UInt8)) (n : Nat) (x : List UInt8), numL n (l ++ [x]) = numL n l ++ (if passB x then [] else [(n + l.length + 1, x)])
  | [], n, x => by simp [numL]
  | y :: l, n, x => by
    rw [List.cons_append, numL, numL, numL_snoc l (n + 1) x, List.append_assoc, List.length_cons, show n + 1 + l.length + 1 = n + (l.length + 1) + 1 by omega]
theorem numL_append : ∀ (l r : List (List UInt8)) (n : Nat), numL n (l ++ r) = numL n l ++ numL (n + l.length) r
  | [], r, n => by simp [numL]
  | y :: l, r, n => by
    rw [List.cons_append, numL, numL, numL_append l r (n + 1), List.append_assoc, List.length_cons, show n + 1 + l.length = n + (l.length + 1) by omega]
/-- How many of the first k lines are not passed over. -/
def cntL (s : List UInt8) (k : Nat) : Nat := (numL 0 ((segs 10 s).take k)).length
theorem cnt_pass {s : List UInt8} {k : Nat} {x : List UInt8} (h : (segs 10 s)[k]? = some x) (hp : passB x = true) : cntL s (k + 1) = cntL s k := by
  unfold cntL
  rw [List.take_add_one, h, Option.toList_some, numL_snoc, hp]
  simp
theorem cnt_line {s : List UInt8} {k : Nat} {x : List UInt8} (h : (segs 10 s)[k]? = some x) (hp : passB x = false) : cntL s (k + 1) = cntL s k + 1 ∧ (linesL s)[cntL s k]? = some (k + 1, x) := by
  have hl := (List.getElem?_eq_some_iff.1 h).1
  have e : numL 0 ((segs 10 s).take (k + 1)) = numL 0 ((segs 10 s).take k) ++ [(k + 1, x)] := by
    rw [List.take_add_one, h, Option.toList_some, numL_snoc, hp, List.length_take, Nat.min_eq_left (Nat.le_of_lt hl)]
    simp
  refine ⟨by unfold cntL; rw [e]; simp, ?_⟩
  unfold cntL linesL
  have e2 : numL 0 (segs 10 s) = numL 0 ((segs 10 s).take (k + 1)) ++ numL (k + 1) ((segs 10 s).drop (k + 1)) := by
    conv => lhs; rw [← List.take_append_drop (k + 1) (segs 10 s)]
    rw [numL_append, List.length_take, Nat.min_eq_left (by omega), Nat.zero_add]
  rw [e2, e, List.append_assoc, List.getElem?_append_right (Nat.le_refl _), Nat.sub_self]
  rfl
theorem cnt_all (s : List UInt8) : cntL s (segs 10 s).length = (linesL s).length := by unfold cntL linesL; rw [List.take_length]
theorem cnt_all' (s : List UInt8) : cntL s ((segs 10 s).map fun x => #[str x]).length = ((linesL s).map fun p => #[Value.int .i64 (p.1 : Nat), str p.2]).length := by rw [List.length_map, List.length_map]; exact cnt_all s
/-- Between two rounds of the loop of lines. -/
def LnI (l by_ bn : Nat) (S : List UInt8) (J : Nat → (Nat → Prop) → World → Prop) (k : Nat) (X : Nat → Prop) (W : World) : Prop :=
  ∃ Xo, J (cntL S k) Xo W ∧ (∀ x, X x → Xo x) ∧ (Xo by_ ∧ Xo bn) ∧ (¬ X by_ ∧ ¬ X bn) ∧ Whole W by_ 135 #[.func (.yield l) #[] #[]] ∧ Whole W bn 3 #[.int .i64 k]
def LnX (Jx : (Nat → Prop) → World → Prop) (c : Code) (X : Nat → Prop) (W : World) : Prop := c = .ret ∧ ∃ Xo, Jx Xo W ∧ ∀ x, X x → Xo x
theorem lnX_inv {Jx : (Nat → Prop) → World → Prop} (hJ : InvX Jx) (c : Code) : InvX (LnX Jx c) :=
  ⟨fun _ _ _ ⟨hc, Xo, h1, h2⟩ hk => ⟨hc, Xo, hJ.keep _ _ _ h1 (hk.less h2), h2⟩,
   fun _ _ _ ⟨hc, _, h1, h2⟩ hb => ⟨hc, _, hJ.grow _ _ _ h1 hb, fun x hx => hx.imp (h2 x) id⟩,
   fun _ _ ⟨_, _, h1, h2⟩ x hx => hJ.own _ _ h1 x (h2 x hx)⟩
theorem lnI_inv {l by_ bn : Nat} {S : List UInt8} {J : Nat → (Nat → Prop) → World → Prop} (hJ : ∀ k, InvX (J k)) (k : Nat) : InvX (LnI l by_ bn S J k) :=
  ⟨fun _ _ _ ⟨Xo, h1, h2, h3, h4, h5, h6⟩ hk => ⟨Xo, (hJ _).keep _ _ _ h1 (hk.less h2), h2, h3, h4, h5.same (hk.block _ h5.lt h4.1), h6.same (hk.block _ h6.lt h4.2)⟩,
   fun _ _ _ ⟨_, h1, h2, h3, h4, h5, h6⟩ hb => ⟨_, (hJ _).grow _ _ _ h1 hb, fun x hx => hx.imp (h2 x) id, ⟨.inl h3.1, .inl h3.2⟩,
     ⟨fun h => h.elim h4.1 (fun h => by have := h5.lt; omega), fun h => h.elim h4.2 (fun h => by have := h6.lt; omega)⟩, h5.same (hb.block _ h5.lt), h6.same (hb.block _ h6.lt)⟩,
   fun _ _ ⟨_, h1, h2, _⟩ x hx => (hJ _).own _ _ h1 x (h2 x hx)⟩
set_option maxRecDepth 100000 in
set_option maxHeartbeats 2000000 in
theorem lines_iter (sb : Nat) (S : List UInt8) (hS : S.length ≤ 4000000000) :
    IterIn Tryz.prog 111 #[.pointer (some ⟨sb, 0, none⟩)] ((linesL S).map fun p => #[.int .i64 (p.1 : Nat), str p.2]) (fun b => b = sb) (fun W => Whole W sb 9 #[str S]) := by
  intro m l J Jx W hJ hJx h0 hc hY
  have c0 : W.cell? ⟨sb, 0, none⟩ = some (str S) := hc.cell 0
  have HJ := Lib.hid hJ; have HJx := Lib.hid hJx; have H0 := Lib.hid h0; have HY := Lib.hid hY; have HC := Lib.hid hc
  have hlt := hc.lt
  have hsp := fun W => splitSeq_any S 10 W
  have HSp := Lib.hid hsp
  clear hJ hJx h0 hY hc hsp
  refine calls_any (m := 5) ?_
  refine callsIn_of_wp_marks Tryz.func111 rfl trivial ?_ rfl
  simp only [Tryz.ntmps111, List.size_toArray, List.length_cons, List.length_nil, Nat.reduceAdd, Nat.reduceSub, Array.replicate_succ, Array.replicate_zero, List.push_toArray, List.append_toArray, List.nil_append, List.cons_append]
  have c1 : ∀ o o', ((W.alloc o).alloc o').cell? ⟨sb, 0, none⟩ = some (str S) := fun o o' => ((((Below.refl _ W).alloc (Nat.le_refl _) o).alloc (by simp) o').cell (p := ⟨sb, 0, none⟩) hlt).trans c0
  gi_wp2_with fail
  obtain ⟨W2, hW2⟩ : ∃ x, (W.alloc (.cells #[.func (.yield l) #[] #[]] 135)).alloc (.cells #[.int .i64 0] 3) = x := ⟨_, rfl⟩
  have hy2 : Whole W2 W.heap.size 135 #[.func (.yield l) #[] #[]] := by
    rw [← hW2]; exact whole_alloc (Whole.made W _ _) _
  have hn2 : Whole W2 (W.heap.size + 1) 3 #[.int .i64 0] := by
    rw [← hW2]
    have := Whole.made (W.alloc (.cells #[.func (.yield l) #[] #[]] 135)) 3 #[.int .i64 0]
    rwa [World.size_alloc] at this
  have hb2 : Below W.heap.size W W2 := by rw [← hW2]; exact ((Below.refl _ W).alloc (Nat.le_refl _) _).alloc (by simp) _
  have hs2 : W2.heap.size = W.heap.size + 2 := by rw [← hW2]; simp
  obtain ⟨by_, hby⟩ : ∃ x, W.heap.size = x := ⟨_, rfl⟩
  obtain ⟨bn, hbn⟩ : ∃ x, by_ + 1 = x := ⟨_, rfl⟩
  rw [hby] at hy2 hn2
  rw [hbn] at hn2
  rw [hW2, hby, hbn]
  have HW2 := Lib.hid hb2; have HY2 := Lib.hid hy2; have HN2 := Lib.hid hn2; have HBy := Lib.hid hby; have HBn := Lib.hid hbn; have HS2 := Lib.hid hs2
  clear hW2 hy2 hn2 hb2 hs2 hby hbn c0 c1
  refine ⟨trivial, ?_⟩
  refine (callsIn_wide.2 (HSp.out W2)).mono ?_
  rintro e W3 ⟨rfl, hsp, hb3⟩
  obtain ⟨br, hbr⟩ : ∃ x, W2.heap.size = x := ⟨_, rfl⟩
  obtain ⟨bs, hbs⟩ : ∃ x, br + 1 = x := ⟨_, rfl⟩
  obtain ⟨bk, hbk⟩ : ∃ x, bs + 1 = x := ⟨_, rfl⟩
  rw [hbr, hbs, hbk] at hsp
  rw [hbr, hbs, hbk]
  have HSpA := Lib.hid hsp; have HB3 := Lib.hid hb3; have HBr := Lib.hid hbr; have HBs := Lib.hid hbs; have HBk := Lib.hid hbk
  clear hsp hb3 hbr hbs hbk
  gi_wp2_with fail
  have hI := lnI_inv (l := l) (by_ := by_) (bn := bn) (S := S) HJ.out
  refine range_iter rfl (enters_of Tryz.func137 (by kernel_rfl) rfl) (split_iter 10 bs br bk S hS ⟨by have := HBs.out; omega, by have := HBs.out; have := HBk.out; omega⟩) (fun args h => by obtain ⟨x, -, rfl⟩ := List.mem_map.1 h; rfl)
    (LnI l by_ bn S J) (LnX Jx) hI (lnX_inv HJx.out) ?start (fun W' hb => HSpA.out.on hb)
    (PlainR ((segs 10 S).map fun x => #[str x]) (LnI l by_ bn S J) (fun args => { tmps := #[.func (.yield l) #[] #[], .pointer (some ⟨sb, 0, none⟩), .pointer (some ⟨by_, 0, none⟩), .pointer (some ⟨bn, 0, none⟩), args.getD 0 undef, str S, .func (.func 137) #[] #[.pointer (some ⟨bs, 0, none⟩), .pointer (some ⟨br, 0, none⟩), .pointer (some ⟨bk, 0, none⟩)], args.getD 0 undef, undef, undef, undef, undef, undef, undef, undef, undef, undef, undef, undef, undef], defers := [] })) (plainR_keep hI) ?assign ?body ?done ?stop
  case start =>
    have hW : Below W.heap.size W W3 := HW2.out.trans (HB3.out.mono HW2.out.size)
    have hg := (HJ.out 0).grow _ W W3 H0.out hW
    have h3 := HB3.out.size
    have hs2 := HS2.out; have hby := HBy.out; have hbn := HBn.out; have hbr := HBr.out; have hbs := HBs.out; have hbk := HBk.out
    have hk3 := HSpA.out.2.2.lt
    refine ⟨fun b => b = sb ∨ (W.heap.size ≤ b ∧ b < W3.heap.size), (by rw [show cntL S 0 = 0 by simp [cntL, numL]]; exact hg), fun x hx => .inr (by omega), ⟨.inr (by omega), .inr (by omega)⟩, ⟨(by omega), (by omega)⟩, HY2.out.same (HB3.out.block _ HY2.out.lt), HN2.out.same (HB3.out.block _ HN2.out.lt)⟩
  case assign =>
    intro l' k X args W' hX hr hI hk
    obtain ⟨x, hx, rfl⟩ := List.mem_map.1 (List.mem_of_getElem? hk)
    have HI := Lib.hid hI; have HK := Lib.hid hk
    clear hI hk hr
    gi_wp2
    exact ⟨⟨_, rfl, HI.out, HK.out⟩, SameX.refl _ _⟩
  case body =>
    rintro l' k X a' W' hX hr hown ⟨args, rfl, ⟨Xo, hj, hXo, ⟨hoy, hon⟩, ⟨hny, hnn⟩, hwy, hwn⟩, hk⟩ hlt
    obtain ⟨x, hx⟩ : ∃ x, (segs 10 S)[k]? = some x := ⟨_, List.getElem?_eq_getElem (by rw [List.length_map] at hlt; exact hlt)⟩
    obtain rfl : args = #[str x] := by rw [List.getElem?_map, hx] at hk; exact (Option.some.inj hk).symm
    have hk64 : (k : Int) ≤ 4000000001 := by
      have h1 := segs_le 10 S
      have h2 := (List.getElem?_eq_some_iff.1 hx).1
      omega
    have hx64 : x.length ≤ 4000000000 := Nat.le_trans (segs_short (List.mem_of_getElem? hx)) hS
    have cy : W'.cell? ⟨by_, 0, none⟩ = some (.func (.yield l) #[] #[]) := hwy.cell 0
    have cn : W'.cell? ⟨bn, 0, none⟩ = some (.int .i64 k) := hwn.cell 0
    have fn := hwn.frozen 0
    have hne : by_ ≠ bn := by have := HBn.out; omega
    have hwy2 : ∀ u, Whole (W'.setCell ⟨bn, 0, none⟩ u) by_ 135 #[.func (.yield l) #[] #[]] := fun u => hwy.beside hne u
    have hwn2 : ∀ u, Whole (W'.setCell ⟨bn, 0, none⟩ u) bn 3 #[u] := fun u => hwn.store 0 u
    have hj2 : ∀ u, J (cntL S k) Xo (W'.setCell ⟨bn, 0, none⟩ u) := fun u => (HJ.out _).keep _ _ _ hj ((Keeps.refl Xo W').setCell (p := ⟨bn, 0, none⟩) (.inl hon) u)
    have hsx2 : ∀ u, SameX X W' (W'.setCell ⟨bn, 0, none⟩ u) := fun u => SameX.keeps (K := fun b => b = bn) hown ((Keeps.refl (fun b => b = bn) W').setCell (p := ⟨bn, 0, none⟩) (.inl rfl) u) (fun y hy e => hnn (e ▸ hy))
    have hpa := fun w => passed_any x hx64 w
    have HX := Lib.hid hx; have HOwn := Lib.hid hown; have HXo := Lib.hid hXo; have HWy2 := Lib.hid hwy2; have HWn2 := Lib.hid hwn2; have HJ2 := Lib.hid hj2; have HSx2 := Lib.hid hsx2; have HPa := Lib.hid hpa
    clear hx hown hXo hwy2 hwn2 hj2 hsx2 hpa hwy hwn hj hk hlt hr
    gi_wp2_with fail
    obtain ⟨W4, hW4⟩ : ∃ y, W'.setCell ⟨bn, 0, none⟩ (.int .i64 ((k : Int) + 1)) = y := ⟨_, rfl⟩
    have w1 := HWy2.out (.int .i64 ((k : Int) + 1)); have w2 := HWn2.out (.int .i64 ((k : Int) + 1)); have j4 := HJ2.out (.int .i64 ((k : Int) + 1)); have s4 := HSx2.out (.int .i64 ((k : Int) + 1))
    rw [hW4] at w1 w2 j4 s4 ⊢
    refine ⟨trivial, ?_⟩
    refine (CallsIn.inRound l' (callsIn_wide.2 (HPa.out W4))).mono ?_
    rintro e W5 ⟨rfl, hb5⟩
    have y5 := w1.same (hb5.block _ w1.lt)
    have n5 := w2.same (hb5.block _ w2.lt)
    have j5 := (HJ.out _).keep Xo W4 W5 j4 (Keeps.of_below hb5)
    have s5 := s4.trans (SameX.below (fun y hy => Nat.lt_of_lt_of_le (HOwn.out y hy) s4.1) hb5)
    have cy : W5.cell? ⟨by_, 0, none⟩ = some (.func (.yield l) #[] #[]) := y5.cell 0
    have cn : W5.cell? ⟨bn, 0, none⟩ = some (.int .i64 ((k : Int) + 1)) := n5.cell 0
    have HY5 := Lib.hid y5; have HN5 := Lib.hid n5; have HJ5 := Lib.hid j5; have HS5 := Lib.hid s5
    clear w1 w2 j4 s4 y5 n5 j5 s5 hW4 HWy2 HWn2 HJ2 HSx2 HPa fn hb5
    cases hp : passB x
    · obtain ⟨hcn, hat⟩ := cnt_line HX.out hp
      have hyy := yield_round (l' := l') (yield_any (m' := 2) (HY.out (cntL S k) Xo #[.int .i64 ((k : Int) + 1), str x] W5 HJ5.out (by rw [List.getElem?_map, hat]; rfl)))
      obtain ⟨fn, tmps, as', bd, hy, hR⟩ := hyy
      have HCn := Lib.hid hcn
      clear hp hat hcn
      gi_wp2_with fail
      refine hR.mono ?_
      rintro e W6 (⟨rfl, j6, s6⟩ | ⟨rfl, x6, s6⟩)
      · have HJ6 := Lib.hid j6; have HS6 := Lib.hid s6
        clear j6 s6
        gi_wp2
        exact ⟨⟨Xo, by rw [HCn.out]; exact HJ6.out, HXo.out, ⟨hoy, hon⟩, ⟨hny, hnn⟩, HY5.out.same (HS6.out.2 _ hoy), HN5.out.same (HS6.out.2 _ hon)⟩, HS5.out.trans (HS6.out.less HXo.out)⟩
      · have HX6 := Lib.hid x6; have HS6 := Lib.hid s6
        clear x6 s6
        gi_wp2
        exact ⟨⟨rfl, Xo, HX6.out, HXo.out⟩, HS5.out.trans (HS6.out.less HXo.out)⟩
    · have hcn := cnt_pass HX.out hp
      have HCn := Lib.hid hcn
      clear hp hcn
      gi_wp2_with fail
      refine ⟨fun _ h => (by cases h), ?_⟩
      gi_wp2_with fail
      exact ⟨⟨Xo, by rw [HCn.out]; exact HJ5.out, HXo.out, ⟨hoy, hon⟩, ⟨hny, hnn⟩, HY5.out, HN5.out⟩, HS5.out⟩
  case done =>
    rintro X W' hXD ⟨Xo, hj, hXo, ⟨hoy, hon⟩, ⟨hny, hnn⟩, hwy, hwn⟩ hK
    rw [cnt_all'] at hj
    have hj2 := (HJ.out _).keep _ _ (W'.putObj W3.heap.size (.deferred none)) hj ((putObj_keeps _).less fun x hx => by subst hx; exact hXo _ hXD)
    have HJ1 := Lib.hid hj2
    clear hj hXo hwy hwn hj2
    gi_wp2
    refine ⟨by simp, .inl ⟨_, _, rfl, run_takeDeferred hK, ?_⟩⟩
    exact ⟨_, results_none rfl _ _ _, ⟨_, rfl⟩, .inl ⟨Xo, HJ1.out⟩⟩
  case stop =>
    rintro c X W' hXD ⟨rfl, Xo, hx, hXo⟩ hK
    have hx2 := HJx.out.keep _ _ (W'.putObj W3.heap.size (.deferred none)) hx ((putObj_keeps _).less fun x hx => by subst hx; exact hXo _ hXD)
    have HX1 := Lib.hid hx2
    clear hx hXo hx2
    gi_wp2
    refine ⟨by simp, .inl ⟨_, _, rfl, run_takeDeferred hK, ?_⟩⟩
    exact ⟨_, results_none rfl _ _ _, ⟨_, rfl⟩, .inr ⟨Xo, HX1.out⟩⟩
end Go.Proofs.YticcgmegimiegaaGreatDoor
