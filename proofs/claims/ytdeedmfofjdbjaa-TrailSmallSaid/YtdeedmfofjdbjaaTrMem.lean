/- The trail in memory, and what is asked of it. -/
import Derived.Test.YtdeedmfofjdbjaaTrMath
import Derived.WalkSpells
import Derived.WalkLawsBesides
import Derived.Deep.QuietTactic
import Derived.BigQuiet
import Derived.IntWalk
import Derived.Maps.OwnSet
namespace Go.Proofs.Ytdeedmfofjdbjaa
open Go.RowKit Go.ChangeAt Go.ChangeShapes Go.WideShapes

theorem infoVar : (Try.prog.info? 80).map (fun i => (i.zero, i.size, i.bytes)) = some (some (.agg #[.int .i64 0, .int .i64 0, .int .i64 0, .int .i64 0]), 4, 32) := by kernel_rfl
abbrev below1a (w : World) (o : Obj) : Below w.heap.size w (w.alloc o) := (Below.refl _ _).alloc (Nat.le_refl _) _
def litsOf (its : List It) : List Int := its.map It.lit
def stI (st : List Nat) : List Int := st.map fun (s : Nat) => (s : Int)
theorem litsOf_len (its : List It) : (litsOf its).length = its.length := by simp [litsOf]
theorem stI_len (st : List Nat) : (stI st).length = st.length := by simp [stI]
/-- The trail's own cells. -/
def trC (b nv : Nat) (pv sv : Value) : Array Value := #[.slice (some ⟨b, 0, none⟩) (nv + 1) (nv + 1), pv, sv]
/-- Block g is a trail; all its blocks are in K. -/
def Trl (K : Nat → Prop) (w : World) (g nv : Nat) (its : List It) (st : List Nat) : Prop :=
  ∃ (b : Nat) (cs : Array Value) (m : Nat → Option (Nat × It)) (pv sv : Value), Whole w g 41 (trC b nv pv sv) ∧ Whole w b 80 cs ∧ VarsAt cs nv m ∧ Maps m its ∧
    w.ownsRow 0 36 1 pv its.length ((litsOf its).map (Value.int .i64)) ∧ w.ownsRow 0 3 1 sv st.length ((stI st).map (Value.int .i64)) ∧ TG nv its st ∧
    K g ∧ K b ∧ (∀ i, pv.ownBlock = some i → K i) ∧ (∀ i, sv.ownBlock = some i → K i) ∧ KOk K w
section
variable {K : Nat → Prop} {w w' : World} {g nv : Nat} {its : List It} {st : List Nat}
theorem Trl.good (h : Trl K w g nv its st) : TG nv its st := by
  obtain ⟨b, cs, m, pv, sv, -, -, -, -, -, -, hg, -⟩ := h
  exact hg
theorem Trl.kok (h : Trl K w g nv its st) : KOk K w := by
  obtain ⟨b, cs, m, pv, sv, -, -, -, -, -, -, -, -, -, -, -, hk⟩ := h
  exact hk
theorem Trl.on (h : Trl K w g nv its st) (hb : Below w.heap.size w w') : Trl K w' g nv its st := by
  obtain ⟨b, cs, m, pv, sv, h1, h2, h3, h4, h5, h6, h7, h8, h9, h10, h11, h12⟩ := h
  have hg : w.grownBy w' none := ⟨hb.os, hb.tape, hb.output, hb.size, fun k hk _ => hb.block k hk⟩
  exact ⟨b, cs, m, pv, sv, h1.same (hb.block g h1.lt), h2.same (hb.block b h2.lt), h3, h4, h5.kept hg (by cases pv.ownBlock <;> simp), h6.kept hg (by cases sv.ownBlock <;> simp), h7, h8, h9, h10, h11, h12.on hb⟩
theorem Trl.grown (h : Trl K w g nv its st) {row : Option Nat} (hg : w.grownBy w' row) (hr : ∀ r, row = some r → ¬ K r) : Trl K w' g nv its st := by
  have hne : ∀ b, K b → some b ≠ row := fun b hb e => hr b e.symm hb
  obtain ⟨b, cs, m, pv, sv, h1, h2, h3, h4, h5, h6, h7, h8, h9, h10, h11, h12⟩ := h
  refine ⟨b, cs, m, pv, sv, h1.same (hg.block g h1.lt (hne g h8)), h2.same (hg.block b h2.lt (hne b h9)), h3, h4, h5.kept hg ?_, h6.kept hg ?_, h7, h8, h9, h10, h11, fun i hi => ?_⟩
  · cases hb : pv.ownBlock with
    | none => exact .inl rfl
    | some b => exact .inr (hne b (h10 _ hb))
  · cases hb : sv.ownBlock with
    | none => exact .inl rfl
    | some b => exact .inr (hne b (h11 _ hb))
  · obtain ⟨o, ho, hpl⟩ := h12 i hi
    exact ⟨o, (hg.block i (Array.getElem?_eq_some_iff.1 ho).1 (hne i hi)).trans ho, hpl⟩

/-- What is known of a variable. -/
def OAt (its : List It) (v : Int) (o : Option (Nat × It)) : Prop := ∀ p x, o = some (p, x) ↔ its[p]? = some x ∧ (x.vr : Int) = v
theorem oat_hit (h : TG nv its st) {p : Nat} {x : It} (hx : its[p]? = some x) : OAt its x.vr (some (p, x)) := fun q y => by
  constructor
  · intro e; cases e; exact ⟨hx, rfl⟩
  · rintro ⟨h1, h2⟩
    have := h.pos hx h1 (by omega)
    subst this
    rw [hx] at h1
    cases h1
    rfl
theorem oat_miss {its : List It} {v : Int} (h : ∀ x ∈ its, (x.vr : Int) ≠ v) : OAt its v none := fun p x => by
  constructor
  · intro e; cases e
  · rintro ⟨h1, h2⟩
    exact absurd h2 (h x (List.mem_of_getElem? h1))
theorem oat_ex (h : TG nv its st) (v : Int) : ∃ o, OAt its v o := by
  by_cases hx : ∃ x ∈ its, (x.vr : Int) = v
  · obtain ⟨x, hm, rfl⟩ := hx
    obtain ⟨p, hp⟩ := List.mem_iff_getElem?.1 hm
    exact ⟨_, oat_hit h hp⟩
  · exact ⟨none, oat_miss fun x hm e => hx ⟨x, hm, e⟩⟩
theorem oat_maps {m : Nat → Option (Nat × It)} (hm : Maps m its) {v : Nat} {o : Option (Nat × It)} (h : OAt its v o) : m v = o := by
  cases ho : o with
  | none =>
    refine hm.none fun x hx e => ?_
    obtain ⟨p, hp⟩ := List.mem_iff_getElem?.1 hx
    have := (h p x).2 ⟨hp, by omega⟩
    rw [ho] at this; cases this
  | some q =>
    obtain ⟨p, x⟩ := q
    obtain ⟨h1, h2⟩ := (h p x).1 ho
    exact (hm v p x).2 ⟨h1, by omega⟩
theorem oat_out (h : TG nv its st) {v : Int} {o : Option (Nat × It)} (ho : OAt its v o) (hv : ¬ (1 ≤ v ∧ v ≤ nv)) : o = none := by
  cases hq : o with
  | none => rfl
  | some q =>
    obtain ⟨p, x⟩ := q
    obtain ⟨h1, h2⟩ := (ho p x).1 hq
    have := h.lit x (List.mem_of_getElem? h1)
    omega
def oV (o : Option (Nat × It)) : Value := .agg #[.int .i64 (fld o 0), .int .i64 (fld o 1), .int .i64 (fld o 2), .int .i64 (fld o 3)]

set_option maxHeartbeats 400000 in
theorem exists_tr (w : World) (h : Trl K w g nv its st) : Calls Try.prog 39 #[.pointer (some ⟨g, 0, none⟩)] w fun e w' => e = .returned (.bool true) ∧ w = w' := by
  obtain ⟨b, cs, m, pv, sv, hw, -⟩ := h
  have hc0 : w.cell? ⟨g, 0, none⟩ = some (.slice (some ⟨b, 0, none⟩) (nv + 1) (nv + 1)) := hw.cell 0
  clear hw
  go_enter Try.func39, Try.ntmps39
  go_wp2
  go_ret
  exact ⟨rfl, rfl⟩
set_option maxHeartbeats 400000 in
theorem vars_tr (w : World) (h : Trl K w g nv its st) : Calls Try.prog 27 #[.pointer (some ⟨g, 0, none⟩)] w fun e w' => e = .returned (.int .i64 (nv : Nat)) ∧ w = w' := by
  have HA := Lib.hid h
  have hnv := h.good.nvmax
  obtain ⟨b, cs, m, pv, sv, hw, -⟩ := h
  have hc0 : w.cell? ⟨g, 0, none⟩ = some (.slice (some ⟨b, 0, none⟩) (nv + 1) (nv + 1)) := hw.cell 0
  clear hw
  have s1 : ((nv + 1 : Nat) : Int) - 1 = (nv : Int) := by omega
  have s2 : IntKind.i64.wrap (nv : Int) = (nv : Int) := IntWalk.i64_in _ (by omega)
  go_enter Try.func27, Try.ntmps27
  go_wp2_with (go_at_call 39; refine (exists_tr _ HA.out).mono ?_; rintro e w' ⟨rfl, rfl⟩)
  go_ret
  exact ⟨ret_i (by omega), rfl⟩
set_option maxHeartbeats 400000 in
theorem has_tr (v : Int) (w : World) (h : Trl K w g nv its st) : Calls Try.prog 42 #[.pointer (some ⟨g, 0, none⟩), .int .i64 v] w fun e w' => e = .returned (.bool (decide (1 ≤ v ∧ v ≤ nv))) ∧ w = w' := by
  have HA := Lib.hid h; clear h
  by_cases h1 : 1 ≤ v
  · by_cases h2 : v ≤ (nv : Int)
    · rw [decide_eq_true ⟨h1, h2⟩]
      go_enter Try.func42, Try.ntmps42
      go_wp2_with (go_at_call 27; refine (vars_tr _ HA.out).mono ?_; rintro e w' ⟨rfl, rfl⟩)
      go_ret
      exact ⟨rfl, rfl⟩
    · rw [decide_eq_false (fun x => h2 x.2)]
      go_enter Try.func42, Try.ntmps42
      go_wp2_with (go_at_call 27; refine (vars_tr _ HA.out).mono ?_; rintro e w' ⟨rfl, rfl⟩)
      go_ret
      exact ⟨ret_bool (decide_eq_false (by omega)), rfl⟩
  · rw [decide_eq_false (fun x => h1 x.1)]
    go_enter Try.func42, Try.ntmps42
    go_wp2_with fail
    go_ret
    exact ⟨rfl, rfl⟩
set_option maxHeartbeats 1000000 in
theorem at_tr (v : Int) (o : Option (Nat × It)) (ho : OAt its v o) (w : World) (h : Trl K w g nv its st) : Calls Try.prog 44 #[.pointer (some ⟨g, 0, none⟩), .int .i64 v] w fun r w' => r = .returned (oV o) ∧ Below w.heap.size w w' := by
  have HA := Lib.hid h
  have hnv := h.good.nvmax
  by_cases hv : 1 ≤ v ∧ v ≤ (nv : Int)
  · obtain ⟨b, cs, m, pv, sv, hw, hb, hvs, hm, -⟩ := h
    obtain ⟨u, rfl⟩ : ∃ u : Nat, v = (u : Int) := ⟨v.toNat, by omega⟩
    have hmu := oat_maps hm ho
    have hcs := hvs.2 u
    rw [hmu] at hcs
    have e0 : w.cell? ⟨b, u * 4, none⟩ = some (.int .i64 (fld o 0)) := (hb.cell _).trans (hcs 0 (by omega) (by omega))
    have e1 : w.cell? ⟨b, u * 4 + 1, none⟩ = some (.int .i64 (fld o 1)) := (hb.cell _).trans (hcs 1 (by omega) (by omega))
    have e2 : w.cell? ⟨b, u * 4 + 2, none⟩ = some (.int .i64 (fld o 2)) := (hb.cell _).trans (hcs 2 (by omega) (by omega))
    have e3 : w.cell? ⟨b, u * 4 + 3, none⟩ = some (.int .i64 (fld o 3)) := (hb.cell _).trans (hcs 3 (by omega) (by omega))
    have hc0 : w.cell? ⟨g, 0, none⟩ = some (.slice (some ⟨b, 0, none⟩) (nv + 1) (nv + 1)) := hw.cell 0
    have hgl := hw.lt
    have hbl := hb.lt
    have hd := decide_eq_true hv
    have s1 : (u : Int) < ((nv + 1 : Nat) : Int) := by omega
    obtain ⟨f0, hf0⟩ : ∃ z, fld o 0 = z := ⟨_, rfl⟩
    obtain ⟨f1, hf1⟩ : ∃ z, fld o 1 = z := ⟨_, rfl⟩
    obtain ⟨f2, hf2⟩ : ∃ z, fld o 2 = z := ⟨_, rfl⟩
    obtain ⟨f3, hf3⟩ : ∃ z, fld o 3 = z := ⟨_, rfl⟩
    unfold oV
    rw [hf0] at e0; rw [hf1] at e1; rw [hf2] at e2; rw [hf3] at e3; rw [hf0, hf1, hf2, hf3]
    have HD := Lib.hid hd
    clear hw hb hvs hm hcs hmu ho hf0 hf1 hf2 hf3 hd
    go_enter Try.func44, Try.ntmps44
    go_wp2_with (go_at_call 42; refine (has_tr _ _ (HA.out.on (below1a _ _))).mono ?_; rintro e w' ⟨rfl, rfl⟩; rw [HD.out])
    exact bodyPost_ret (v := .agg #[.int .i64 f0, .int .i64 f1, .int .i64 f2, .int .i64 f3]) (by simp [results, Try.results44, go_sem]) rfl ⟨rfl, below1a _ _⟩
  · have := oat_out h.good ho hv
    subst this
    have hg := h
    have HD := Lib.hid (decide_eq_false hv)
    clear h hv ho
    go_enter Try.func44, Try.ntmps44
    go_wp2_with (go_at_call 42; refine (has_tr _ _ (HA.out.on (below1a _ _))).mono ?_; rintro e w' ⟨rfl, rfl⟩; rw [HD.out])
    exact bodyPost_ret (v := oV none) (by simp [results, Try.results44, go_sem]; rfl) rfl ⟨rfl, below1a _ _⟩
theorem varI_nat {l : Int} (h : litB l = true) : varI l = (l.natAbs : Int) := by
  obtain ⟨h1, h2, h3⟩ := litB_of h
  unfold varI
  rw [h]
  simp only [if_true]
  split <;> omega
theorem lit_not (h : TG nv its st) {l : Int} (hl : litB l = false) : ∀ x ∈ its, x.vr ≠ l.natAbs := fun x hx e => by
  have h1 := h.lit x hx
  have := h.nvmax
  refine litB_no hl ⟨?_, ?_, ?_⟩ <;> omega
theorem fld_bool (o : Option (Nat × It)) (h : TG nv its st) {v : Int} (ho : OAt its v o) : decide (fld o 0 ≠ 0) = o.isSome := by
  cases o with
  | none => rfl
  | some q =>
    obtain ⟨p, x⟩ := q
    obtain ⟨h1, -⟩ := (ho p x).1 rfl
    have h2 : 1 ≤ x.lit.natAbs := (h.lit x (List.mem_of_getElem? h1)).1
    refine decide_eq_true ?_
    show x.lit ≠ 0
    intro e
    have : x.lit.natAbs = 0 := by rw [e]; rfl
    omega
set_option maxHeartbeats 1000000 in
theorem value_tr (l : Int) (w : World) (h : Trl K w g nv its st) : Calls Try.prog 26 #[.pointer (some ⟨g, 0, none⟩), .int .i64 l] w fun r w' => r = .returned (.int .i64 (valI its l)) ∧ Below w.heap.size w w' := by
  have hgd := h.good
  obtain ⟨o, ho⟩ := oat_ex hgd (varI l)
  have hat := at_tr (varI l) o ho w h
  have hres : (fld o 0 = 0 ∧ valI its l = 0) ∨ (fld o 0 ≠ 0 ∧ fld o 0 = l ∧ valI its l = 1) ∨ (fld o 0 ≠ 0 ∧ fld o 0 ≠ l ∧ valI its l = -1) := by
    cases hl : litB l
    · have := oat_out hgd ho (by unfold varI; rw [hl]; simp)
      subst this
      exact .inl ⟨rfl, valI_no (lit_not hgd hl)⟩
    · rw [varI_nat hl] at ho
      cases o with
      | none =>
        refine .inl ⟨rfl, valI_no fun x hx e => ?_⟩
        obtain ⟨p, hp⟩ := List.mem_iff_getElem?.1 hx
        have := (ho p x).2 ⟨hp, by omega⟩
        cases this
      | some q =>
        obtain ⟨p, x⟩ := q
        obtain ⟨h1, h2⟩ := (ho p x).1 rfl
        have hm := List.mem_of_getElem? h1
        have h3 : 1 ≤ x.lit.natAbs := (hgd.lit x hm).1
        have h4 : (x.lit.natAbs : Int) = l.natAbs := h2
        by_cases hx : x.lit = l
        · exact .inr (.inl ⟨by show x.lit ≠ 0; omega, hx, by rw [← hx]; exact valI_yes hm⟩)
        · refine .inr (.inr ⟨by show x.lit ≠ 0; omega, hx, ?_⟩)
          have : l = -x.lit := by omega
          rw [this]
          exact valI_neg hgd hm
  unfold oV at hat
  obtain ⟨f0, hf0⟩ : ∃ z, fld o 0 = z := ⟨_, rfl⟩
  obtain ⟨f1, hf1⟩ : ∃ z, fld o 1 = z := ⟨_, rfl⟩
  obtain ⟨f2, hf2⟩ : ∃ z, fld o 2 = z := ⟨_, rfl⟩
  obtain ⟨f3, hf3⟩ : ∃ z, fld o 3 = z := ⟨_, rfl⟩
  rw [hf0, hf1, hf2, hf3] at hat
  rw [hf0] at hres
  have HF := Lib.hid hat
  have hfd : ∀ (a b c d : Int) (w : World), (Instr.field 80 (.agg #[.int .i64 a, .int .i64 b, .int .i64 c, .int .i64 d]) 0).run Try.prog w = .ok (.int .i64 a) w := fun _ _ _ _ _ => by kernel_rfl
  clear hat hf0 hf1 hf2 hf3 ho h hgd
  rcases hres with ⟨rfl, hr⟩ | ⟨h0, rfl, hr⟩ | ⟨h0, h1, hr⟩
  all_goals
    rw [hr]
    clear hr
    go_enter Try.func26, Try.ntmps26
    go_wp2_with (first
      | (go_at_call 31; refine (var_any _ _).mono ?_; rintro e w' ⟨rfl, rfl⟩)
      | (go_at_call 44; refine (HF.out).mono ?_; rintro e w1 ⟨rfl, hB⟩))
    go_ret
    exact ⟨rfl, hB⟩
set_option maxHeartbeats 1000000 in
theorem level_tr (v : Int) (o : Option (Nat × It)) (ho : OAt its v o) (w : World) (h : Trl K w g nv its st) : Calls Try.prog 21 #[.pointer (some ⟨g, 0, none⟩), .int .i64 v] w fun r w' => r = .returned (.tuple #[.int .i64 (fld o 1), .bool o.isSome]) ∧ Below w.heap.size w w' := by
  have hat := at_tr v o ho w h
  have hs := fld_bool o h.good ho
  unfold oV at hat
  obtain ⟨f0, hf0⟩ : ∃ z, fld o 0 = z := ⟨_, rfl⟩
  obtain ⟨f1, hf1⟩ : ∃ z, fld o 1 = z := ⟨_, rfl⟩
  obtain ⟨f2, hf2⟩ : ∃ z, fld o 2 = z := ⟨_, rfl⟩
  obtain ⟨f3, hf3⟩ : ∃ z, fld o 3 = z := ⟨_, rfl⟩
  rw [hf0, hf1, hf2, hf3] at hat
  rw [hf0] at hs
  rw [hf1, ← hs]
  have HF := Lib.hid hat
  clear hat hf0 hf1 hf2 hf3 ho h hs
  go_enter Try.func21, Try.ntmps21
  go_wp2_with (go_at_call 44; refine (HF.out).mono ?_; rintro e w1 ⟨rfl, hB⟩)
  go_quiet (fail)
  go_wp2
  go_ret2
  exact ⟨by rw [show decide (f0 ≠ 0) = (f0 != 0) by rw [Bool.eq_iff_iff]; simp]; rfl, below_drewN (hB.alloc hB.size _) _⟩
set_option maxHeartbeats 1000000 in
theorem reason_tr (v : Int) (o : Option (Nat × It)) (ho : OAt its v o) (w : World) (h : Trl K w g nv its st) : Calls Try.prog 22 #[.pointer (some ⟨g, 0, none⟩), .int .i64 v] w fun r w' => r = .returned (.tuple #[.int .i64 (fld o 2), .bool o.isSome]) ∧ Below w.heap.size w w' := by
  have hat := at_tr v o ho w h
  have hs := fld_bool o h.good ho
  unfold oV at hat
  obtain ⟨f0, hf0⟩ : ∃ z, fld o 0 = z := ⟨_, rfl⟩
  obtain ⟨f1, hf1⟩ : ∃ z, fld o 1 = z := ⟨_, rfl⟩
  obtain ⟨f2, hf2⟩ : ∃ z, fld o 2 = z := ⟨_, rfl⟩
  obtain ⟨f3, hf3⟩ : ∃ z, fld o 3 = z := ⟨_, rfl⟩
  rw [hf0, hf1, hf2, hf3] at hat
  rw [hf0] at hs
  rw [hf2, ← hs]
  have HF := Lib.hid hat
  clear hat hf0 hf1 hf2 hf3 ho h hs
  go_enter Try.func22, Try.ntmps22
  go_wp2_with (go_at_call 44; refine (HF.out).mono ?_; rintro e w1 ⟨rfl, hB⟩)
  go_quiet (fail)
  go_wp2
  go_ret2
  exact ⟨by rw [show decide (f0 ≠ 0) = (f0 != 0) by rw [Bool.eq_iff_iff]; simp]; rfl, below_drewN (hB.alloc hB.size _) _⟩
set_option maxHeartbeats 1000000 in
theorem place_tr (v : Int) (o : Option (Nat × It)) (ho : OAt its v o) (w : World) (h : Trl K w g nv its st) : Calls Try.prog 23 #[.pointer (some ⟨g, 0, none⟩), .int .i64 v] w fun r w' => r = .returned (.tuple #[.int .i64 (fld o 3), .bool o.isSome]) ∧ Below w.heap.size w w' := by
  have hat := at_tr v o ho w h
  have hs := fld_bool o h.good ho
  unfold oV at hat
  obtain ⟨f0, hf0⟩ : ∃ z, fld o 0 = z := ⟨_, rfl⟩
  obtain ⟨f1, hf1⟩ : ∃ z, fld o 1 = z := ⟨_, rfl⟩
  obtain ⟨f2, hf2⟩ : ∃ z, fld o 2 = z := ⟨_, rfl⟩
  obtain ⟨f3, hf3⟩ : ∃ z, fld o 3 = z := ⟨_, rfl⟩
  rw [hf0, hf1, hf2, hf3] at hat
  rw [hf0] at hs
  rw [hf3, ← hs]
  have HF := Lib.hid hat
  clear hat hf0 hf1 hf2 hf3 ho h hs
  go_enter Try.func23, Try.ntmps23
  go_wp2_with (go_at_call 44; refine (HF.out).mono ?_; rintro e w1 ⟨rfl, hB⟩)
  go_quiet (fail)
  go_wp2
  go_ret2
  exact ⟨by rw [show decide (f0 ≠ 0) = (f0 != 0) by rw [Bool.eq_iff_iff]; simp]; rfl, below_drewN (hB.alloc hB.size _) _⟩
set_option maxHeartbeats 400000 in
theorem orEmpty_tr (w : World) (h : Trl K w g nv its st) : Calls Try.prog 41 #[.pointer (some ⟨g, 0, none⟩)] w fun e w' => e = .returned (.pointer (some ⟨g, 0, none⟩)) ∧ w = w' := by
  have HA := Lib.hid h; clear h
  go_enter Try.func41, Try.ntmps41
  go_wp2_with (go_at_call 39; refine (exists_tr _ HA.out).mono ?_; rintro e w' ⟨rfl, rfl⟩)
  go_ret
  exact ⟨rfl, rfl⟩
theorem own_shape1 {W : World} {B n : Nat} {e : TypeId} {v : Value} {xs : List Value} (h : W.ownsRow B e 1 v n xs) : ∃ A cap, v = .slice A n cap := by
  rcases h.2 with ⟨rfl, h0⟩ | ⟨g, cap, cur, rfl, -⟩
  · exact ⟨none, 0, by rw [h0]⟩
  · exact ⟨_, _, rfl⟩
/-- The trail's own cells, as they are read. -/
theorem Trl.cells (h : Trl K w g nv its st) : ∃ (b : Nat) (Ap As : Option Addr) (cp cs : Nat), w.cell? ⟨g, 0, none⟩ = some (.slice (some ⟨b, 0, none⟩) (nv + 1) (nv + 1)) ∧ w.cell? ⟨g, 1, none⟩ = some (.slice Ap its.length cp) ∧ w.cell? ⟨g, 2, none⟩ = some (.slice As st.length cs) ∧
    (∀ i, i ≤ nv → b < w.heap.size) ∧ (∀ p x, its[p]? = some x → ∃ bp, Ap = some ⟨bp, 0, none⟩ ∧ bp < w.heap.size ∧ w.cell? ⟨bp, p, none⟩ = some (.int .i64 x.lit)) ∧ (∀ k s, st[k]? = some s → ∃ bs, As = some ⟨bs, 0, none⟩ ∧ bs < w.heap.size ∧ w.cell? ⟨bs, k, none⟩ = some (.int .i64 (s : Nat))) ∧ g < w.heap.size := by
  obtain ⟨b, cs, m, pv, sv, h1, h2, h3, h4, h5, h6, h7, h8, h9, h10, h11, h12⟩ := h
  obtain ⟨Ap, cp, rfl⟩ := own_shape1 h5
  obtain ⟨As, cS, rfl⟩ := own_shape1 h6
  refine ⟨b, Ap, As, cp, cS, h1.cell 0, h1.cell 1, h1.cell 2, fun _ _ => h2.lt, fun p x hx => ?_, fun k s hs => ?_, h1.lt⟩
  · have hl := (List.getElem?_eq_some_iff.1 hx).1
    have hc := fun b => h5.cells (g := b)
    rcases h5.2 with ⟨he, h0⟩ | ⟨bp, cap, cur, he, -, hg, -⟩
    · omega
    · injection he with he1 he2 he3
      subst he1
      refine ⟨bp, rfl, (Array.getElem?_eq_some_iff.1 hg).1, ?_⟩
      have := hc bp rfl p (.int .i64 x.lit) (by simp [litsOf, hx])
      rwa [addr_add, Nat.zero_add] at this
  · have hl := (List.getElem?_eq_some_iff.1 hs).1
    have hc := fun b => h6.cells (g := b)
    rcases h6.2 with ⟨he, h0⟩ | ⟨bp, cap, cur, he, -, hg, -⟩
    · omega
    · injection he with he1 he2 he3
      subst he1
      refine ⟨bp, rfl, (Array.getElem?_eq_some_iff.1 hg).1, ?_⟩
      have := hc bp rfl k (.int .i64 (s : Nat)) (by simp [stI, hs])
      rwa [addr_add, Nat.zero_add] at this
set_option maxHeartbeats 400000 in
theorem now_tr (w : World) (h : Trl K w g nv its st) : Calls Try.prog 15 #[.pointer (some ⟨g, 0, none⟩)] w fun e w' => e = .returned (.int .i64 (st.length : Nat)) ∧ w = w' := by
  have HA := Lib.hid h
  obtain ⟨b, Ap, As, cp, cs, hc0, hc1, hc2, -⟩ := h.cells
  clear h
  go_enter Try.func15, Try.ntmps15
  go_wp2_with (go_at_call 41; refine (orEmpty_tr _ HA.out).mono ?_; rintro e w' ⟨rfl, rfl⟩)
  go_ret
  exact ⟨rfl, rfl⟩
set_option maxHeartbeats 400000 in
theorem len_tr (w : World) (h : Trl K w g nv its st) : Calls Try.prog 18 #[.pointer (some ⟨g, 0, none⟩)] w fun e w' => e = .returned (.int .i64 (its.length : Nat)) ∧ w = w' := by
  have HA := Lib.hid h
  obtain ⟨b, Ap, As, cp, cs, hc0, hc1, hc2, -⟩ := h.cells
  clear h
  go_enter Try.func18, Try.ntmps18
  go_wp2_with (go_at_call 41; refine (orEmpty_tr _ HA.out).mono ?_; rintro e w' ⟨rfl, rfl⟩)
  go_ret
  exact ⟨rfl, rfl⟩
def levE (now : Nat) (v : Int) : Int := if 0 ≤ v ∧ v ≤ now then 0 else 42
set_option maxHeartbeats 1000000 in
theorem check_tr (v : Int) (w : World) (h : Trl K w g nv its st) : Calls Try.prog 43 #[.pointer (some ⟨g, 0, none⟩), .int .i64 v] w fun e w' => e = .returned (.int .i64 (levE st.length v)) ∧ w = w' := by
  have HA := Lib.hid h; clear h
  unfold levE
  rcases Int.lt_or_le v 0 with h0 | h0
  · rw [if_neg (by omega)]
    go_enter Try.func43, Try.ntmps43
    go_wp2_with (first
      | (go_at_call 39; refine (exists_tr _ HA.out).mono ?_; rintro e w' ⟨rfl, rfl⟩)
      | (go_at_call 15; refine (now_tr _ HA.out).mono ?_; rintro e w' ⟨rfl, rfl⟩))
    go_ret
    exact ⟨rfl, rfl⟩
  · by_cases h1 : v ≤ (st.length : Nat)
    · rw [if_pos ⟨h0, h1⟩]
      go_enter Try.func43, Try.ntmps43
      go_wp2_with (first
        | (go_at_call 39; refine (exists_tr _ HA.out).mono ?_; rintro e w' ⟨rfl, rfl⟩)
        | (go_at_call 15; refine (now_tr _ HA.out).mono ?_; rintro e w' ⟨rfl, rfl⟩))
      go_ret
      exact ⟨rfl, rfl⟩
    · rw [if_neg (by omega)]
      go_enter Try.func43, Try.ntmps43
      go_wp2_with (first
        | (go_at_call 39; refine (exists_tr _ HA.out).mono ?_; rintro e w' ⟨rfl, rfl⟩)
        | (go_at_call 15; refine (now_tr _ HA.out).mono ?_; rintro e w' ⟨rfl, rfl⟩))
      go_ret
      exact ⟨rfl, rfl⟩
set_option maxHeartbeats 1000000 in
theorem at_in {p : Nat} {x : It} (hx : its[p]? = some x) (w : World) (h : Trl K w g nv its st) : Calls Try.prog 19 #[.pointer (some ⟨g, 0, none⟩), .int .i64 (p : Nat)] w fun e w' => e = .returned (.tuple #[.int .i64 x.lit, .int .i64 0]) ∧ w = w' := by
  have HA := Lib.hid h
  have hl := (List.getElem?_eq_some_iff.1 hx).1
  obtain ⟨b, Ap, As, cp, cs, hc0, hc1, hc2, -, hp, -, hg⟩ := h.cells
  obtain ⟨bp, rfl, hbl, hcx⟩ := hp p x hx
  clear h hp hx
  obtain ⟨y, hy⟩ : ∃ y, x.lit = y := ⟨_, rfl⟩
  rw [hy] at hcx ⊢
  clear hy
  go_enter Try.func19, Try.ntmps19
  go_wp2_with (first
    | (go_at_call 39; refine (exists_tr _ HA.out).mono ?_; rintro e w' ⟨rfl, rfl⟩)
    | (go_at_call 18; refine (len_tr _ HA.out).mono ?_; rintro e w' ⟨rfl, rfl⟩))
  go_ret2
  exact ⟨rfl, rfl⟩
set_option maxHeartbeats 1000000 in
theorem at_out {v : Int} (hv : v < 0 ∨ (its.length : Int) ≤ v) (w : World) (h : Trl K w g nv its st) : Calls Try.prog 19 #[.pointer (some ⟨g, 0, none⟩), .int .i64 v] w fun e w' => e = .returned (.tuple #[.int .i64 0, .int .i64 2]) ∧ w = w' := by
  have HA := Lib.hid h; clear h
  rcases Int.lt_or_le v 0 with h0 | h0
  all_goals
    first | have hv' : (its.length : Int) ≤ v := by omega | skip
    clear hv
    go_enter Try.func19, Try.ntmps19
    go_wp2_with (first
      | (go_at_call 39; refine (exists_tr _ HA.out).mono ?_; rintro e w' ⟨rfl, rfl⟩)
      | (go_at_call 18; refine (len_tr _ HA.out).mono ?_; rintro e w' ⟨rfl, rfl⟩))
    go_ret2
    exact ⟨rfl, rfl⟩
/-- Where a level begins. -/
def startI (st : List Nat) (v : Int) : Int := if v = 0 then 0 else (stI st)[(v - 1).toNat]?.getD 0
set_option maxHeartbeats 1000000 in
theorem start_tr (v : Int) (h0 : 0 ≤ v) (h1 : v ≤ (st.length : Nat)) (w : World) (h : Trl K w g nv its st) : Calls Try.prog 20 #[.pointer (some ⟨g, 0, none⟩), .int .i64 v] w fun e w' => e = .returned (.tuple #[.int .i64 (startI st v), .int .i64 0]) ∧ w = w' := by
  have HA := Lib.hid h
  have hck := check_tr v w h
  have hnw := h.good.now
  rw [show levE st.length v = 0 from if_pos ⟨h0, h1⟩] at hck
  have HC := Lib.hid hck
  clear hck
  obtain ⟨b, Ap, As, cp, cs, hc0, hc1, hc2, -, -, hs, hg⟩ := h.cells
  unfold startI
  by_cases hv : v = 0
  · subst hv
    rw [if_pos rfl]
    clear h hs
    go_enter Try.func20, Try.ntmps20
    go_wp2_with (go_at_call 43; refine (HC.out).mono ?_; rintro e w' ⟨rfl, rfl⟩)
    go_ret2
    exact ⟨rfl, rfl⟩
  · rw [if_neg hv]
    obtain ⟨k, rfl⟩ : ∃ k : Nat, v = (k : Int) + 1 := ⟨(v - 1).toNat, by omega⟩
    have hk : k < st.length := by omega
    obtain ⟨bs, rfl, hbl, hcx⟩ := hs k st[k] (List.getElem?_eq_getElem hk)
    have hr : (stI st)[((k : Int) + 1 - 1).toNat]?.getD 0 = (st[k] : Int) := by
      rw [show ((k : Int) + 1 - 1).toNat = k by omega]
      simp [stI, hk]
    rw [hr]
    obtain ⟨y, hy⟩ : ∃ y, (st[k] : Int) = y := ⟨_, rfl⟩
    rw [hy] at hcx ⊢
    have s1 : (k : Int) + 1 - 1 = (k : Int) := by omega
    clear hy h hs hr
    go_enter Try.func20, Try.ntmps20
    go_wp2_with (go_at_call 43; refine (HC.out).mono ?_; rintro e w' ⟨rfl, rfl⟩)
    go_ret2
    exact ⟨rfl, rfl⟩
set_option maxHeartbeats 1000000 in
theorem start_no (v : Int) (h0 : v < 0 ∨ (st.length : Int) < v) (w : World) (h : Trl K w g nv its st) : Calls Try.prog 20 #[.pointer (some ⟨g, 0, none⟩), .int .i64 v] w fun e w' => e = .returned (.tuple #[.int .i64 0, .int .i64 42]) ∧ w = w' := by
  have hck := check_tr v w h
  rw [show levE st.length v = 42 from if_neg (by omega)] at hck
  have HC := Lib.hid hck
  clear hck h h0
  go_enter Try.func20, Try.ntmps20
  go_wp2_with (go_at_call 43; refine (HC.out).mono ?_; rintro e w' ⟨rfl, rfl⟩)
  go_ret2
  exact ⟨rfl, rfl⟩
end
end Go.Proofs.Ytdeedmfofjdbjaa
