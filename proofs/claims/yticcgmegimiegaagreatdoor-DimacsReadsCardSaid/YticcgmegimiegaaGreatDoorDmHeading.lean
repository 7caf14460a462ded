/- Results that lie in boxes. -/
/- A region of a round that draws its order: the walk outside a fence serves. -/
/- dimacs.heading. -/
import Derived.Test.YticcgmegimiegaaGreatDoorDmWordsIter
import Derived.Test.YticcgmegimiegaaGreatDoorDmParse
import Derived.Laws.Rows
import Derived.Laws.ResultCell
import Derived.Test.YticcgmegimiegaaGreatDoorRange
import Derived.OrdersHeld
import Derived.OrdersIn
import Derived.RangeFuncCalls
namespace Go.Proofs.YticcgmegimiegaaGreatDoor
open Go.RowKit Go.ChangeAt Go.ChangeShapes Go.WideShapes Go.Shelf Go.Sort

theorem load_int {P : Program} {w : World} {t : TypeId} {k : IntKind} {g : Nat} {v : Value} (ht : P.underlying t = some (.int k)) (hc : w.cell? ⟨g, 0, none⟩ = some v) : (loadVar t ⟨g, 0, none⟩).run P w = .ok v w := by
  have ha : (isAgg t).run P w = .ok false w := run_isAgg_plain ht rfl w
  simp [loadVar, Sem.run_bind, ha, hc, Result.andThen, go_sem]
theorem results_ints4 {P : Program} {fn : Func} {p1 p2 p3 p4 : Tmp} {t1 t2 t3 t4 : TypeId} {k1 k2 k3 k4 : IntKind} {g1 g2 g3 g4 : Nat} {v1 v2 v3 v4 : Value} {w : World} {tmps : Array Value} (h : fn.results = #[.cell p1 t1, .cell p2 t2, .cell p3 t3, .cell p4 t4])
    (u1 : P.underlying t1 = some (.int k1)) (u2 : P.underlying t2 = some (.int k2)) (u3 : P.underlying t3 = some (.int k3)) (u4 : P.underlying t4 = some (.int k4))
    (h1 : tmps.getD p1 undef = .pointer (some ⟨g1, 0, none⟩)) (h2 : tmps.getD p2 undef = .pointer (some ⟨g2, 0, none⟩)) (h3 : tmps.getD p3 undef = .pointer (some ⟨g3, 0, none⟩)) (h4 : tmps.getD p4 undef = .pointer (some ⟨g4, 0, none⟩))
    (c1 : w.cell? ⟨g1, 0, none⟩ = some v1) (c2 : w.cell? ⟨g2, 0, none⟩ = some v2) (c3 : w.cell? ⟨g3, 0, none⟩ = some v3) (c4 : w.cell? ⟨g4, 0, none⟩ = some v4) :
    (results fn tmps).run P w = .ok (.tuple #[v1, v2, v3, v4]) w := by
  have l1 := load_int u1 c1
  have l2 := load_int u2 c2
  have l3 := load_int u3 c3
  have l4 := load_int u4 c4
  have h1 : tmps[p1]?.getD undef = .pointer (some ⟨g1, 0, none⟩) := by simpa using h1
  have h2 : tmps[p2]?.getD undef = .pointer (some ⟨g2, 0, none⟩) := by simpa using h2
  have h3 : tmps[p3]?.getD undef = .pointer (some ⟨g3, 0, none⟩) := by simpa using h3
  have h4 : tmps[p4]?.getD undef = .pointer (some ⟨g4, 0, none⟩) := by simpa using h4
  simp [results, h, h1, h2, h3, h4, asAddr, Sem.run_bind, l1, l2, l3, l4, Result.andThen]
theorem results_row_tmp2 {P : Program} {fn : Func} {p q r : Tmp} {ty : TypeId} (h : fn.results = #[.cell p ty, .tmp q, .tmp r]) (tmps : Array Value) (w : World) (g : Nat) (t : TypeId) (cs : Array Value) (fr : Nat × Nat) (d : TypeDesc)
    (hp : tmps.getD p undef = .pointer (some ⟨g, 0, none⟩)) (hg : w.heap[g]? = some (.cells cs t fr))
    (hu : P.underlying ty = some d) (hd : (match d with | .struct _ | .array _ _ => true | _ => false) = true) (hi : (P.info? ty).map (·.size) = some cs.size) :
    (results fn tmps).run P w = .ok (.tuple #[.agg cs, tmps.getD q undef, tmps.getD r undef]) w := by
  have hp' : tmps[p]?.getD undef = .pointer (some ⟨g, 0, none⟩) := by simpa using hp
  simp [results, h, hp', asAddr, run_loadVar_row w g t ty cs fr d hg hu hd hi, Result.andThen]
/-- The line behind a text. -/
def behindN (s : List UInt8) : Nat := s.count 10 + 2
theorem behind_any (s : List UInt8) (hs : s.length ≤ 4000000000) (w : World) : Calls Tryz.prog 55 #[str s] w fun e w' => e = .returned (.int .i64 (behindN s : Nat)) ∧ w' = w := by
  have hc := fun W => Tryz.strings_Count_one_f96 ⟨s.toArray⟩ 10 W
  dsimp only at hc
  have hcl : s.count 10 ≤ 4000000000 := Nat.le_trans List.count_le_length hs
  unfold behindN
  have e : (Lib.countByte s 10) = s.count 10 := rfl
  obtain ⟨n, hn⟩ : ∃ n, s.count 10 = n := ⟨_, rfl⟩
  have hc : ∀ W, Calls Tryz.prog 96 #[str s, .string ⟨#[10]⟩] W fun e w' => e = .returned (.int .i64 (n : Nat)) ∧ w' = W := fun W => (hc W).mono fun e' w' ⟨h1, h2⟩ => ⟨by rw [h1, e, hn], h2⟩
  rw [hn] at hcl ⊢
  have hni : (n : Int) ≤ 4000000000 := by omega
  have HC := Lib.hid hc
  clear hc e hn
  go_enter Tryz.func55, Tryz.ntmps55
  go_wp2_with fail
  refine (HC.out _).mono ?_
  rintro e w' ⟨rfl, rfl⟩
  go_wp2_with fail
  go_ret
  exact ⟨by simp, rfl⟩
end Go.Proofs.YticcgmegimiegaaGreatDoor
namespace Go.Proofs.YticcgmegimiegaaGreatDoor
open Go.RowKit Go.ChangeAt Go.ChangeShapes Go.WideShapes

def noDefer (ops : Array Oper) : Bool := ops.all fun o => match o.op with
  | .defer _ => false
  | _ => true
theorem noDefer_spec {ops : Array Oper} (h : noDefer ops = true) (i : Nat) (o : Oper) (ho : ops[i]? = some o) (c : Call) : o.op ≠ .defer c := fun e => by
  obtain ⟨hi, rfl⟩ := Array.getElem?_eq_some_iff.1 ho
  have := Array.all_eq_true.1 h i hi
  rw [e] at this
  cases this
section
variable {P : Program} {ops : Array Oper} {Q : Exit → Act → World → Prop} {md : Region.Mode} {l n : Nat}
theorem wpOpIn_round {i : Nat} {K : Act → World → Prop} {a : Act} {w : World} (hd : noDefer ops = true) (hQ : ¬ LetsOut Q) (h : wpOp P ops Q i K a w) : wpOpIn (Fence.wide.inRound l) n P ops Q i K a w := by
  unfold wpOp at h
  unfold wpOpIn
  cases ho : ops[i]? with
  | none => simpa [ho] using h
  | some o =>
    simp only [ho] at h ⊢
    split at h
    · rename_i hw
      simp only [hw, if_true]
      rcases h with h | ⟨-, h⟩
      · refine ⟨fun _ _ => trivial, ?_⟩
        rw [Oper.semAt_eq _ _ _ (noDefer_spec hd i o ho)]
        unfold Oper.wp at h
        generalize (execOp a.eval o).run P w = r at h ⊢
        cases r with
        | ok x w' =>
          cases x <;> first
            | exact h
            | exact h.elim
            | exact ⟨(fun h => by cases h), CallsIn.inRound l (callsIn_wide.2 h)⟩
            | exact ⟨(fun h => by cases h), fun c cs _ => let ⟨v, w', r, s⟩ := h c cs; ⟨v, w', r, stepsIn_wide.2 s⟩⟩
        | halt x w' => cases x <;> first | exact h | exact h.elim
      · exact (hQ h).elim
    · rename_i hw
      simp only [hw]
      exact ⟨fun _ _ => trivial, h⟩
theorem wpAnyIn_round (hd : noDefer ops = true) (hQ : ¬ LetsOut Q) : ∀ (fuel : Nat) (listed : Array Bool) (a : Act) (w : World), wpAny P md ops Q fuel listed a w → wpAnyIn (Fence.wide.inRound l) n P md ops Q fuel listed a w
  | 0, _, _, _, h => h
  | fuel + 1, _, _, _, h => ⟨h.1, fun i hi => wpOpIn_mono (fun a w => wpAnyIn_round hd hQ fuel _ a w) (wpOpIn_round hd hQ (h.2 i hi))⟩
/-- .. with a condition on the world that holds all through the region. -/
theorem wpIn_round_held {id : Nat} {a : Act} {w : World} (S : World → Prop) (hm : P.follows .mixedOrders = true) (hd : noDefer ops = true) (hQ : ¬ LetsOut Q)
    (h : wpAnyH P .any ops Q S ops.size (Array.replicate ops.size false) a w.drew) : (Code.region id ops true).wpIn (Fence.wide.inRound l) n P Q a w :=
  wpIn_region_any hm (wpAnyIn_round hd hQ _ _ _ _ (wpAny_of_held _ _ _ _ h))
end
end Go.Proofs.YticcgmegimiegaaGreatDoor
namespace Go.Proofs.YticcgmegimiegaaGreatDoor
open Go.RowKit Go.ChangeAt Go.ChangeShapes Go.WideShapes Go.Shelf Go.Sort

attribute [local go_sem] Oper.semAt_some

/-- What the first line that is not passed over says: its number, the numbers of the header, and the error. -/
def headR (S : List UInt8) : Nat × Int × Int × Int := match linesL S with
  | [] => (behindN S, 0, 0, 60)
  | p :: _ => if prsH p.2 then (p.1, prsV p.2, prsN p.2, 0) else (p.1, 0, 0, 60)
/-- The boxes of the results. -/
structure HdB (b : Nat) (n v c e : Value) (W : World) : Prop where
  n : Whole W b 3 #[n]
  v : Whole W (b + 1) 3 #[v]
  c : Whole W (b + 1 + 1) 3 #[c]
  e : Whole W (b + 1 + 1 + 1) 34 #[e]
theorem HdB.on {b : Nat} {n v c e : Value} {W W' : World} (h : HdB b n v c e W) (hb : Below W.heap.size W W') : HdB b n v c e W' := ⟨h.n.same (hb.block _ h.n.lt), h.v.same (hb.block _ h.v.lt), h.c.same (hb.block _ h.c.lt), h.e.same (hb.block _ h.e.lt)⟩
theorem HdB.keep {b : Nat} {n v c e : Value} {W W' : World} {K : Nat → Prop} (h : HdB b n v c e W) (hk : Keeps K W W') (hn : ∀ x, K x → x < b ∨ b + 4 ≤ x) : HdB b n v c e W' :=
  ⟨h.n.same (hk.block _ h.n.lt fun x => by have := hn _ x; omega), h.v.same (hk.block _ h.v.lt fun x => by have := hn _ x; omega), h.c.same (hk.block _ h.c.lt fun x => by have := hn _ x; omega), h.e.same (hk.block _ h.e.lt fun x => by have := hn _ x; omega)⟩
theorem hdb_sets {b : Nat} {n v c e : Value} {W : World} (h : HdB b n v c e W) (V C E : Value) : HdB b n V C E (((W.setCell ⟨b + 1, 0, none⟩ V).setCell ⟨b + 1 + 1, 0, none⟩ C).setCell ⟨b + 1 + 1 + 1, 0, none⟩ E) :=
  ⟨((h.n.beside (by omega) V).beside (by omega) C).beside (by omega) E, ((h.v.store 0 V).beside (by omega) C).beside (by omega) E, ((h.c.beside (by omega) V).store 0 C).beside (by omega) E, ((h.e.beside (by omega) V).beside (by omega) C).store 0 E⟩
theorem hdb_set0 {b : Nat} {n v c e : Value} {W : World} (h : HdB b n v c e W) (N : Value) : HdB b N v c e (W.setCell ⟨b, 0, none⟩ N) := ⟨h.n.store 0 N, h.v.beside (by omega) N, h.c.beside (by omega) N, h.e.beside (by omega) N⟩
theorem hdb_set1 {b : Nat} {n v c e : Value} {W : World} (h : HdB b n v c e W) (N : Value) : HdB b n N c e (W.setCell ⟨b + 1, 0, none⟩ N) := ⟨h.n.beside (by omega) N, h.v.store 0 N, h.c.beside (by omega) N, h.e.beside (by omega) N⟩
theorem hdb_set2 {b : Nat} {n v c e : Value} {W : World} (h : HdB b n v c e W) (N : Value) : HdB b n v N e (W.setCell ⟨b + 1 + 1, 0, none⟩ N) := ⟨h.n.beside (by omega) N, h.v.beside (by omega) N, h.c.store 0 N, h.e.beside (by omega) N⟩
theorem hdb_set3 {b : Nat} {n v c e : Value} {W : World} (h : HdB b n v c e W) (N : Value) : HdB b n v c N (W.setCell ⟨b + 1 + 1 + 1, 0, none⟩ N) := ⟨h.n.beside (by omega) N, h.v.beside (by omega) N, h.c.beside (by omega) N, h.e.store 0 N⟩
theorem HdB.drew {b : Nat} {n v c e : Value} {W : World} (h : HdB b n v c e W) : HdB b n v c e W.drew := ⟨whole_drew h.n, whole_drew h.v, whole_drew h.c, whole_drew h.e⟩
/-- .. as facts of cells. -/
def HdS (b : Nat) (v c e : Value) (W : World) : Prop := ∃ u, HdB b u v c e W
theorem HdS.cells {b : Nat} {v c e : Value} {W : World} (h : HdS b v c e W) : (∃ u, W.cell? ⟨b, 0, none⟩ = some u) ∧ W.cell? ⟨b + 1, 0, none⟩ = some v ∧ W.cell? ⟨b + 1 + 1, 0, none⟩ = some c ∧ W.cell? ⟨b + 1 + 1 + 1, 0, none⟩ = some e ∧ W.frozen? ⟨b, 0, none⟩ = false ∧ W.frozen? ⟨b + 1, 0, none⟩ = false ∧ W.frozen? ⟨b + 1 + 1, 0, none⟩ = false ∧ W.frozen? ⟨b + 1 + 1 + 1, 0, none⟩ = false := by
  obtain ⟨u, h⟩ := h
  exact ⟨⟨u, h.n.cell 0⟩, h.v.cell 0, h.c.cell 0, h.e.cell 0, h.n.frozen 0, h.v.frozen 0, h.c.frozen 0, h.e.frozen 0⟩
/-- Ahead of the loop's one round, and when it is left. -/
def HdI (w : World) (n v c e : Value) (X : Nat → Prop) (W : World) : Prop := HdB w.heap.size n v c e W ∧ Below w.heap.size w W ∧ ∀ x, X x → w.heap.size + 4 ≤ x ∧ x < W.heap.size
theorem hdI_inv (w : World) (n v c e : Value) : InvX (HdI w n v c e) :=
  ⟨fun _ _ _ ⟨h1, h2, h3⟩ hk => ⟨h1.keep hk fun x hx => .inr (h3 x hx).1, h2.trans (hk.below h2.size fun x hx => by have := (h3 x hx).1; omega), fun x hx => ⟨(h3 x hx).1, Nat.lt_of_lt_of_le (h3 x hx).2 hk.size⟩⟩,
   fun _ _ _ ⟨h1, h2, h3⟩ hb => ⟨h1.on hb, h2.trans (hb.mono h2.size), fun x hx => hx.elim (fun h => ⟨(h3 x h).1, Nat.lt_of_lt_of_le (h3 x h).2 hb.size⟩) (fun h => ⟨by have := h1.e.lt; omega, h.2⟩)⟩,
   fun _ _ ⟨_, _, h3⟩ x hx => (h3 x hx).2⟩
def HdK (w : World) (k : Nat) (X : Nat → Prop) (W : World) : Prop := k = 0 ∧ HdI w (.int .i64 0) (.int .i64 0) (.int .i64 0) (.int .i64 0) X W
theorem hdK_inv (w : World) (k : Nat) : InvX (HdK w k) :=
  ⟨fun _ _ _ ⟨h0, h⟩ hk => ⟨h0, (hdI_inv _ _ _ _ _).keep _ _ _ h hk⟩, fun _ _ _ ⟨h0, h⟩ hb => ⟨h0, (hdI_inv _ _ _ _ _).grow _ _ _ h hb⟩, fun _ _ ⟨_, h⟩ => (hdI_inv _ _ _ _ _).own _ _ h⟩
def HdX (w : World) (S : List UInt8) (cd : Code) (X : Nat → Prop) (W : World) : Prop := cd = .ret ∧ HdI w (.int .i64 (headR S).1) (.int .i64 (headR S).2.1) (.int .i64 (headR S).2.2.1) (.int .i64 (headR S).2.2.2) X W
theorem hdX_inv (w : World) (S : List UInt8) (cd : Code) : InvX (HdX w S cd) :=
  ⟨fun _ _ _ ⟨h0, h⟩ hk => ⟨h0, (hdI_inv _ _ _ _ _).keep _ _ _ h hk⟩, fun _ _ _ ⟨h0, h⟩ hb => ⟨h0, (hdI_inv _ _ _ _ _).grow _ _ _ h hb⟩, fun _ _ ⟨_, h⟩ => (hdI_inv _ _ _ _ _).own _ _ h⟩
theorem hdb_put {b D : Nat} {n v c e : Value} {W : World} (h : HdB b n v c e W) (hD : b + 4 ≤ D) (o : Obj) : HdB b n v c e (W.putObj D o) :=
  ⟨h.n.same (World.putObj_heap_other (k := b) (by omega)), h.v.same (World.putObj_heap_other (k := b + 1) (by omega)), h.c.same (World.putObj_heap_other (k := b + 1 + 1) (by omega)), h.e.same (World.putObj_heap_other (k := b + 1 + 1 + 1) (by omega))⟩
theorem heap_set_ne {W : World} {p : Addr} {v : Value} {D : Nat} (h : D ≠ p.block) : (W.setCell p v).heap[D]? = W.heap[D]? := Below.heap_setCell _ _ _ _ h
theorem keeps_drewed {K : Nat → Prop} {a w : World} (h : Keeps K a w) : Keeps K a w.drew := ⟨h.os, h.tape, h.output, h.size, h.block⟩
set_option maxRecDepth 100000 in
set_option maxHeartbeats 2000000 in
theorem heading_in (S : List UInt8) (hS : S.length ≤ 4000000000) (w : World) (he : Env w) :
    CallsIn .wide 9 Tryz.prog 52 #[str S] w fun e w' => e = .returned (.tuple #[.int .i64 (headR S).1, .int .i64 (headR S).2.1, .int .i64 (headR S).2.2.1, .int .i64 (headR S).2.2.2]) ∧ Below w.heap.size w w' := by
  have hli := fun W => lines_any S W
  have HLi := Lib.hid hli; have HE := Lib.hid he
  clear hli he
  refine callsIn_of_wp_marks Tryz.func52 rfl trivial ?_ rfl
  simp only [Tryz.ntmps52, List.size_toArray, List.length_cons, List.length_nil, Nat.reduceAdd, Nat.reduceSub, Array.replicate_succ, Array.replicate_zero, List.push_toArray, List.append_toArray, List.nil_append, List.cons_append]
  gi_wp2_with fail
  obtain ⟨W2, hW2⟩ : ∃ x, (((w.alloc (.cells #[.int .i64 0] 3)).alloc (.cells #[.int .i64 0] 3)).alloc (.cells #[.int .i64 0] 3)).alloc (.cells #[.int .i64 0] 34) = x := ⟨_, rfl⟩
  have hbx : HdB w.heap.size (.int .i64 0) (.int .i64 0) (.int .i64 0) (.int .i64 0) W2 := by
    have m1 := Whole.made w 3 #[.int .i64 0]
    have m2 := Whole.made (w.alloc (.cells #[.int .i64 0] 3)) 3 #[.int .i64 0]
    have m3 := Whole.made ((w.alloc (.cells #[.int .i64 0] 3)).alloc (.cells #[.int .i64 0] 3)) 3 #[.int .i64 0]
    have m4 := Whole.made (((w.alloc (.cells #[.int .i64 0] 3)).alloc (.cells #[.int .i64 0] 3)).alloc (.cells #[.int .i64 0] 3)) 34 #[.int .i64 0]
    simp only [World.size_alloc] at m2 m3 m4
    rw [← hW2]
    exact ⟨whole_alloc (whole_alloc (whole_alloc m1 _) _) _, whole_alloc (whole_alloc m2 _) _, whole_alloc m3 _, m4⟩
  have hb2 : Below w.heap.size w W2 := by rw [← hW2]; exact ((((Below.refl _ w).alloc (Nat.le_refl _) _).alloc (by simp) _).alloc (by simp; omega) _).alloc (by simp; omega) _
  rw [hW2]
  have HBx := Lib.hid hbx; have HB2 := Lib.hid hb2
  clear hW2 hbx hb2
  refine ⟨trivial, ?_⟩
  refine (callsIn_wide.2 (HLi.out W2)).mono ?_
  rintro e W3 ⟨rfl, hw3⟩
  have hl3 : Whole W3 W2.heap.size 9 #[str S] := by rw [hw3]; exact Whole.made W2 _ _
  have hb3 : Below W2.heap.size W2 W3 := by rw [hw3]; exact (Below.refl _ W2).alloc (Nat.le_refl _) _
  obtain ⟨bl, hbl⟩ : ∃ x, W2.heap.size = x := ⟨_, rfl⟩
  obtain ⟨b0, hb0⟩ : ∃ x, w.heap.size = x := ⟨_, rfl⟩
  rw [hbl] at hl3
  rw [hbl, hb0]
  have HL3 := Lib.hid hl3; have HB3 := Lib.hid hb3; have HBl := Lib.hid hbl; have HB0 := Lib.hid hb0
  clear hl3 hb3 hbl hw3 hb0
  gi_wp2_with fail
  refine range_iter rfl (enters_of Tryz.func111 (by kernel_rfl) rfl) (lines_iter bl S hS) (fun args h => by obtain ⟨x, -, rfl⟩ := List.mem_map.1 h; rfl)
    (HdK w) (HdX w S) (hdK_inv w) (hdX_inv w S) ?start (fun W' hb' => HL3.out.same (hb'.block _ HL3.out.lt))
    (PlainR ((linesL S).map fun p => #[.int .i64 (p.1 : Nat), str p.2]) (HdK w) (fun args => { tmps := #[str S, undef, .pointer (some ⟨b0, 0, none⟩), .pointer (some ⟨b0 + 1, 0, none⟩), .pointer (some ⟨b0 + 1 + 1, 0, none⟩), .pointer (some ⟨b0 + 1 + 1 + 1, 0, none⟩), args.getD 0 undef, args.getD 1 undef, str S, .func (.func 111) #[] #[.pointer (some ⟨bl, 0, none⟩)], args.getD 0 undef, args.getD 1 undef, undef, undef, undef, undef, undef, undef, undef, undef, undef, undef, undef, undef], defers := [] })) (plainR_keep (hdK_inv w)) ?assign ?body ?done ?stop
  case start =>
    have h3 := HB3.out.size
    have h2 := HBx.out.e.lt
    have hbl := HBl.out
    have hl3 := HL3.out.lt
    exact ⟨rfl, HBx.out.on HB3.out, HB2.out.trans (HB3.out.mono HB2.out.size), fun x hx => ⟨by subst hx; omega, by subst hx; omega⟩⟩
  case assign =>
    intro l' k X args W' hX hr hI hk
    obtain ⟨p, hp, rfl⟩ := List.mem_map.1 (List.mem_of_getElem? hk)
    have HI := Lib.hid hI; have HK := Lib.hid hk
    clear hI hk hr
    gi_wp2
    exact ⟨⟨_, rfl, HI.out, HK.out⟩, SameX.refl _ _⟩
  case body =>
    rintro l' k X a' W' hX hr hown ⟨args, rfl, ⟨rfl, hbx, hbw, hXr⟩, hk⟩ hlt
    obtain ⟨p, hp⟩ : ∃ p, (linesL S)[0]? = some p := ⟨_, List.getElem?_eq_getElem (by rw [List.length_map] at hlt; exact hlt)⟩
    obtain rfl : args = #[.int .i64 (p.1 : Nat), str p.2] := by rw [List.getElem?_map, hp] at hk; exact (Option.some.inj hk).symm
    obtain ⟨n, ln⟩ := p
    obtain ⟨rl, hll⟩ : ∃ r, linesL S = (n, ln) :: r := by
      cases h : linesL S with
      | nil => rw [h] at hp; cases hp
      | cons a r => rw [h] at hp; exact ⟨r, by rw [show a = (n, ln) by simpa using hp]⟩
    have hle := lines_le (S := S) (p := (n, ln)) (by rw [hll]; simp)
    have hph := parseHeader_any ln (by have := hle.2.2; dsimp only at this; omega) W' (HE.out.below hbw)
    have hhr : headR S = if prsH ln then (n, prsV ln, prsN ln, 0) else (n, 0, 0, 60) := by unfold headR; rw [hll]
    obtain ⟨V, hV⟩ : ∃ x, (headR S).2.1 = x := ⟨_, rfl⟩
    obtain ⟨C, hC⟩ : ∃ x, (headR S).2.2.1 = x := ⟨_, rfl⟩
    obtain ⟨E, hE⟩ : ∃ x, (headR S).2.2.2 = x := ⟨_, rfl⟩
    have hn1 : (headR S).1 = n := by rw [hhr]; split <;> rfl
    have hph2 : Calls Tryz.prog 30 #[str ln] W' fun e w' => e = .returned (.tuple #[.int .i64 V, .int .i64 C, .int .i64 E]) ∧ Below W'.heap.size W' w' := hph.mono fun e w' ⟨h1, h2⟩ => ⟨by
      rw [h1, ← hV, ← hC, ← hE, hhr]
      split <;> rfl, h2⟩
    have hfin : ∀ X W, HdI w (.int .i64 n) (.int .i64 V) (.int .i64 C) (.int .i64 E) X W → HdX w S .ret X W := fun X W h => ⟨rfl, by rw [hn1, hV, hC, hE]; exact h⟩
    have HPh := Lib.hid hph2; have HBx1 := Lib.hid hbx; have HBw := Lib.hid hbw; have HXr := Lib.hid hXr; have HFin := Lib.hid hfin
    clear hph hph2 hbx hbw hXr hfin hhr hn1 hV hC hE hll hp hk hlt hle hr hown
    gi_wp2_with fail
    refine ⟨trivial, ?_⟩
    refine (CallsIn.inRound l' (callsIn_wide.2 HPh.out)).mono ?_
    rintro e W4 ⟨rfl, hb4⟩
    have x4 := HBx1.out.on hb4
    have f1 := x4.v.frozen 0; have f2 := x4.c.frozen 0; have f3 := x4.e.frozen 0
    have d1 : W4.cell? ⟨b0 + 1, 0, none⟩ = some (.int .i64 0) := by rw [← HB0.out]; exact x4.v.cell 0
    have d2 : W4.cell? ⟨b0 + 1 + 1, 0, none⟩ = some (.int .i64 0) := by rw [← HB0.out]; exact x4.c.cell 0
    have d3 : W4.cell? ⟨b0 + 1 + 1 + 1, 0, none⟩ = some (.int .i64 0) := by rw [← HB0.out]; exact x4.e.cell 0
    rw [HB0.out] at f1 f2 f3
    have HX4 := Lib.hid x4; have HB4 := Lib.hid hb4
    clear x4 hb4
    gi_wp2_with fail
    obtain ⟨W5, hW5⟩ : ∃ x, ((W4.setCell ⟨b0 + 1, 0, none⟩ (.int .i64 V)).setCell ⟨b0 + 1 + 1, 0, none⟩ (.int .i64 C)).setCell ⟨b0 + 1 + 1 + 1, 0, none⟩ (.int .i64 E) = x := ⟨_, rfl⟩
    have x5 : HdB b0 (.int .i64 0) (.int .i64 V) (.int .i64 C) (.int .i64 E) W5 := by
      rw [← hW5, ← HB0.out]; exact hdb_sets HX4.out _ _ _
    have k5 : Keeps (fun b => b0 ≤ b ∧ b < b0 + 4) W' W5 := by
      rw [← hW5]
      exact (((Keeps.of_below HB4.out).setCell (p := ⟨b0 + 1, 0, none⟩) (.inl (by dsimp only; omega)) _).setCell (p := ⟨b0 + 1 + 1, 0, none⟩) (.inl (by dsimp only; omega)) _).setCell (p := ⟨b0 + 1 + 1 + 1, 0, none⟩) (.inl (by dsimp only; omega)) _
    rw [hW5]
    have HX5 := Lib.hid x5; have HK5 := Lib.hid k5
    clear hW5 x5 k5 d1 d2 d3 f1 f2 f3
    refine wpIn_round_held (HdS b0 (.int .i64 V) (.int .i64 C) (.int .i64 E)) (by kernel_rfl) (by kernel_rfl) (by rintro ⟨a, w, h⟩; exact h) ?_
    have HS : Hid (HdS b0 (.int .i64 V) (.int .i64 C) (.int .i64 E) W5.drew) := Lib.hid ⟨_, HX5.out.drew⟩
    refine wpAnyH_take (i := 0) (v := .int .i64 n) rfl (by kernel_rfl) (by kernel_rfl) (by kernel_rfl) (fun _ _ _ h => h) (Or.inl ⟨by kernel_rfl, fun w s => by go_simp⟩) HS.out ?_
    refine wpAnyH_take (i := 1) (v := .int .i64 V) rfl (by kernel_rfl) (by kernel_rfl) (by kernel_rfl) (fun _ _ _ h => h) (Or.inl ⟨by kernel_rfl, fun w s => by obtain ⟨s0, s1, s2, s3, -⟩ := s.cells; go_simp⟩) HS.out ?_
    refine wpAnyH_take (i := 2) (v := .int .i64 C) rfl (by kernel_rfl) (by kernel_rfl) (by kernel_rfl) (fun _ _ _ h => h) (Or.inl ⟨by kernel_rfl, fun w s => by obtain ⟨s0, s1, s2, s3, -⟩ := s.cells; go_simp⟩) HS.out ?_
    refine wpAnyH_take (i := 3) (v := .int .i64 E) rfl (by kernel_rfl) (by kernel_rfl) (by kernel_rfl) (fun _ _ _ h => h) (Or.inl ⟨by kernel_rfl, fun w s => by obtain ⟨s0, s1, s2, s3, -⟩ := s.cells; go_simp⟩) HS.out ?_
    refine wpAnyH_ready (rs := [4]) (by kernel_rfl) (by simp) (AllReadyH.cons rfl (fun K hK => ?_) AllReadyH.nil)
    have hc := HdS.cells HS.out
    have s1 := hc.2.1; have s2 := hc.2.2.1; have s3 := hc.2.2.2.1; have s4 := hc.2.2.2.2.1; have s5 := hc.2.2.2.2.2.1; have s6 := hc.2.2.2.2.2.2.1; have s7 := hc.2.2.2.2.2.2.2
    obtain ⟨u, s0⟩ := hc.1
    clear hc
    go_simp
    clear s0 s1 s2 s3 s4 s5 s6 s7
    obtain ⟨U0, hU0⟩ : ∃ x, W5.setCell ⟨b0, 0, none⟩ (.int .i64 n) = x := ⟨_, rfl⟩
    have z0 := hdb_set0 HX5.out (.int .i64 n)
    have k0 := HK5.out.setCell (p := ⟨b0, 0, none⟩) (.inl (by dsimp only; omega)) (.int .i64 n)
    rw [hU0] at z0 k0
    rw [hU0]
    have Z0 := Lib.hid z0; have L0 := Lib.hid k0
    have T0 : Hid (HdS b0 (.int .i64 V) (.int .i64 C) (.int .i64 E) U0.drew) := Lib.hid ⟨_, Z0.out.drew⟩
    clear hU0 z0 k0
    refine hK.out _ _ T0.out (fun _ => ?_)
    clear hK K
    refine wpAnyH_ready (rs := [5]) (by kernel_rfl) (by simp) (AllReadyH.cons rfl (fun K hK => ?_) AllReadyH.nil)
    have hc := HdS.cells T0.out
    have s1 := hc.2.1; have s2 := hc.2.2.1; have s3 := hc.2.2.2.1; have s4 := hc.2.2.2.2.1; have s5 := hc.2.2.2.2.2.1; have s6 := hc.2.2.2.2.2.2.1; have s7 := hc.2.2.2.2.2.2.2
    obtain ⟨u, s0⟩ := hc.1
    clear hc
    go_simp
    clear s0 s1 s2 s3 s4 s5 s6 s7
    obtain ⟨U1, hU1⟩ : ∃ x, U0.setCell ⟨b0 + 1, 0, none⟩ (.int .i64 V) = x := ⟨_, rfl⟩
    have z1 := hdb_set1 Z0.out (.int .i64 V)
    have k1 := L0.out.setCell (p := ⟨b0 + 1, 0, none⟩) (.inl (by dsimp only; omega)) (.int .i64 V)
    rw [hU1] at z1 k1
    rw [hU1]
    have Z1 := Lib.hid z1; have L1 := Lib.hid k1
    have T1 : Hid (HdS b0 (.int .i64 V) (.int .i64 C) (.int .i64 E) U1.drew) := Lib.hid ⟨_, Z1.out.drew⟩
    clear hU1 z1 k1
    refine hK.out _ _ T1.out (fun _ => ?_)
    clear hK K
    refine wpAnyH_ready (rs := [6]) (by kernel_rfl) (by simp) (AllReadyH.cons rfl (fun K hK => ?_) AllReadyH.nil)
    have hc := HdS.cells T1.out
    have s1 := hc.2.1; have s2 := hc.2.2.1; have s3 := hc.2.2.2.1; have s4 := hc.2.2.2.2.1; have s5 := hc.2.2.2.2.2.1; have s6 := hc.2.2.2.2.2.2.1; have s7 := hc.2.2.2.2.2.2.2
    obtain ⟨u, s0⟩ := hc.1
    clear hc
    go_simp
    clear s0 s1 s2 s3 s4 s5 s6 s7
    obtain ⟨U2, hU2⟩ : ∃ x, U1.setCell ⟨b0 + 1 + 1, 0, none⟩ (.int .i64 C) = x := ⟨_, rfl⟩
    have z2 := hdb_set2 Z1.out (.int .i64 C)
    have k2 := L1.out.setCell (p := ⟨b0 + 1 + 1, 0, none⟩) (.inl (by dsimp only; omega)) (.int .i64 C)
    rw [hU2] at z2 k2
    rw [hU2]
    have Z2 := Lib.hid z2; have L2 := Lib.hid k2
    have T2 : Hid (HdS b0 (.int .i64 V) (.int .i64 C) (.int .i64 E) U2.drew) := Lib.hid ⟨_, Z2.out.drew⟩
    clear hU2 z2 k2
    refine hK.out _ _ T2.out (fun _ => ?_)
    clear hK K
    refine wpAnyH_ready (rs := [7]) (by kernel_rfl) (by simp) (AllReadyH.cons rfl (fun K hK => ?_) AllReadyH.nil)
    have hc := HdS.cells T2.out
    have s1 := hc.2.1; have s2 := hc.2.2.1; have s3 := hc.2.2.2.1; have s4 := hc.2.2.2.2.1; have s5 := hc.2.2.2.2.2.1; have s6 := hc.2.2.2.2.2.2.1; have s7 := hc.2.2.2.2.2.2.2
    obtain ⟨u, s0⟩ := hc.1
    clear hc
    go_simp
    clear s0 s1 s2 s3 s4 s5 s6 s7
    obtain ⟨U3, hU3⟩ : ∃ x, U2.setCell ⟨b0 + 1 + 1 + 1, 0, none⟩ (.int .i64 E) = x := ⟨_, rfl⟩
    have z3 := hdb_set3 Z2.out (.int .i64 E)
    have k3 := L2.out.setCell (p := ⟨b0 + 1 + 1 + 1, 0, none⟩) (.inl (by dsimp only; omega)) (.int .i64 E)
    rw [hU3] at z3 k3
    rw [hU3]
    have Z3 := Lib.hid z3; have L3 := Lib.hid k3
    have T3 : Hid (HdS b0 (.int .i64 V) (.int .i64 C) (.int .i64 E) U3.drew) := Lib.hid ⟨_, Z3.out.drew⟩
    clear hU3 z3 k3
    refine hK.out _ _ T3.out (fun _ => ?_)
    clear hK K
    refine wpAnyH_done (by kernel_rfl) ?_ _
    gi_wp2_with fail
    have hk := keeps_drewed L3.out
    have hh : HdI w (.int .i64 n) (.int .i64 V) (.int .i64 C) (.int .i64 E) X U3.drew :=
      ⟨by rw [HB0.out]; exact Z3.out.drew, HBw.out.trans (hk.below HBw.out.size fun x hx => by have := HB0.out; omega), fun x hx => ⟨(HXr.out x hx).1, Nat.lt_of_lt_of_le (HXr.out x hx).2 hk.size⟩⟩
    exact ⟨HFin.out _ _ hh, SameX.keeps (fun x hx => (HXr.out x hx).2) hk fun x hx => by have := (HXr.out x hx).1; have := HB0.out; omega⟩
  case done =>
    rintro X W hX ⟨hl, hbx, hbw, hXr⟩ hD
    rw [List.length_map, List.length_eq_zero_iff] at hl
    have hhr : headR S = (behindN S, 0, 0, 60) := by unfold headR; rw [hl]
    have hbh := fun W => behind_any S hS W
    have hD0 := (hXr _ hX).1
    obtain ⟨D, hDe⟩ : ∃ x, W3.heap.size = x := ⟨_, rfl⟩
    rw [hDe] at hD hD0
    rw [hDe]
    rw [HB0.out] at hbx hD0
    have HBh := Lib.hid hbh; have HW := Lib.hid hbw; have HD := Lib.hid hD; have HX := Lib.hid hbx; have HD0 := Lib.hid hD0; have HH := Lib.hid hhr
    clear hX hl hXr hhr hbh hbw hD hDe hbx hD0
    have f0 := HX.out.n.frozen 0; have f1 := HX.out.v.frozen 0; have f2 := HX.out.c.frozen 0; have f3 := HX.out.e.frozen 0
    have d0 : W.cell? ⟨b0, 0, none⟩ = some (.int .i64 0) := HX.out.n.cell 0
    have d1 : W.cell? ⟨b0 + 1, 0, none⟩ = some (.int .i64 0) := HX.out.v.cell 0
    have d2 : W.cell? ⟨b0 + 1 + 1, 0, none⟩ = some (.int .i64 0) := HX.out.c.cell 0
    have d3 : W.cell? ⟨b0 + 1 + 1 + 1, 0, none⟩ = some (.int .i64 0) := HX.out.e.cell 0
    gi_wp2_with fail
    refine ⟨trivial, ?_⟩
    refine (callsIn_wide.2 (HBh.out W)).mono ?_
    rintro e W4 ⟨rfl, rfl⟩
    gi_wp2_with fail
    have hu : HdB b0 (.int .i64 (behindN S : Nat)) (.int .i64 0) (.int .i64 0) (.int .i64 60) ((((W4.setCell ⟨b0, 0, none⟩ (.int .i64 (behindN S : Nat))).setCell ⟨b0 + 1, 0, none⟩ (.int .i64 0)).setCell ⟨b0 + 1 + 1, 0, none⟩ (.int .i64 0)).setCell ⟨b0 + 1 + 1 + 1, 0, none⟩ (.int .i64 60)) := hdb_set3 (hdb_set2 (hdb_set1 (hdb_set0 HX.out _) _) _) _
    have hD2 : ((((W4.setCell ⟨b0, 0, none⟩ (.int .i64 (behindN S : Nat))).setCell ⟨b0 + 1, 0, none⟩ (.int .i64 0)).setCell ⟨b0 + 1 + 1, 0, none⟩ (.int .i64 0)).setCell ⟨b0 + 1 + 1 + 1, 0, none⟩ (.int .i64 60)).heap[D]? = some (.deferred (some [])) := by
      have := HD0.out
      rw [heap_set_ne (by dsimp only; omega), heap_set_ne (by dsimp only; omega), heap_set_ne (by dsimp only; omega), heap_set_ne (by dsimp only; omega)]; exact HD.out
    have hb2 : Below w.heap.size w ((((W4.setCell ⟨b0, 0, none⟩ (.int .i64 (behindN S : Nat))).setCell ⟨b0 + 1, 0, none⟩ (.int .i64 0)).setCell ⟨b0 + 1 + 1, 0, none⟩ (.int .i64 0)).setCell ⟨b0 + 1 + 1 + 1, 0, none⟩ (.int .i64 60)) := by
      have := HB0.out
      exact (((HW.out.setCell (p := ⟨b0, 0, none⟩) (by dsimp only; omega) _).setCell (p := ⟨b0 + 1, 0, none⟩) (by dsimp only; omega) _).setCell (p := ⟨b0 + 1 + 1, 0, none⟩) (by dsimp only; omega) _).setCell (p := ⟨b0 + 1 + 1 + 1, 0, none⟩) (by dsimp only; omega) _
    refine ⟨by simp, .inl ⟨_, _, rfl, run_takeDeferred hD2, ?_⟩⟩
    have hp := hdb_put hu (HD0.out) (.deferred none)
    refine ⟨_, results_ints4 (k1 := .i64) (k2 := .i64) (k3 := .i64) (k4 := .i64) (fn := Tryz.f52) (tmps := _) rfl (by kernel_rfl) (by kernel_rfl) (by kernel_rfl) (by kernel_rfl) rfl rfl rfl rfl (hp.n.cell 0) (hp.v.cell 0) (hp.c.cell 0) (hp.e.cell 0), by rw [HH.out]; rfl, ?_⟩
    exact hb2.grown (grownBy_putObj' _ D (.deferred none)) hb2.size (fun k e => by cases e; have := HD0.out; have := HB0.out; omega)
  case stop =>
    rintro c X W hX ⟨rfl, hbx, hbw, hXr⟩ hD
    have hD0 := (hXr _ hX).1
    obtain ⟨D, hDe⟩ : ∃ x, W3.heap.size = x := ⟨_, rfl⟩
    rw [hDe] at hD hD0
    rw [hDe]
    rw [HB0.out] at hbx hD0
    have HW := Lib.hid hbw; have HD := Lib.hid hD; have HX := Lib.hid hbx; have HD0 := Lib.hid hD0
    clear hX hXr hbw hD hDe hbx hD0
    gi_wp2_with fail
    have hu : HdB b0 (.int .i64 (headR S).1) (.int .i64 (headR S).2.1) (.int .i64 (headR S).2.2.1) (.int .i64 (headR S).2.2.2) W := HX.out
    have hD2 : (W).heap[D]? = some (.deferred (some [])) := HD.out
    have hb2 : Below w.heap.size w (W) := HW.out
    refine ⟨by simp, .inl ⟨_, _, rfl, run_takeDeferred hD2, ?_⟩⟩
    have hp := hdb_put hu (HD0.out) (.deferred none)
    refine ⟨_, results_ints4 (k1 := .i64) (k2 := .i64) (k3 := .i64) (k4 := .i64) (fn := Tryz.f52) (tmps := _) rfl (by kernel_rfl) (by kernel_rfl) (by kernel_rfl) (by kernel_rfl) rfl rfl rfl rfl (hp.n.cell 0) (hp.v.cell 0) (hp.c.cell 0) (hp.e.cell 0), rfl, ?_⟩
    exact hb2.grown (grownBy_putObj' _ D (.deferred none)) hb2.size (fun k e => by cases e; have := HD0.out; have := HB0.out; omega)
end Go.Proofs.YticcgmegimiegaaGreatDoor
