/- What every law's proof ends with, over a row that lists no tables: arguments that nothing has turned read as they did; slices of integers that come in. -/
/- The laws' Clause and Ints: a list of numbers as a clause, and back. -/
/- The laws' Made and Model. -/
import Derived.Test.YticcgmegimiegaaGreatDoorRows
import Derived.Test.YticcgmegimiegaaGreatDoorLists
import Derived.WalkKit
import Derived.ProofKit
import Derived.OpenShut
import Derived.Carry
import Derived.Test.YticcgmegimiegaaGreatDoorRight
namespace Go.Proofs.YticcgmegimiegaaGreatDoor
open Go.ChangeShapes Go.WideShapes Go.ChangeAt Go.RowKit

theorem own : ownKnob Tryz.prog.godebug = none := by kernel_rfl
theorem laidOut : laidOutB Tryz.prog = true := by kernel_rfl

section
variable {H : Type} {enc : TypeId × Value → H} {P : Program}
theorem all_stay (hl : laidOutB P = true) {W W' : World} (hb : Below W.heap.size W W') : ∀ {ts : List TypeId} {vs : List Value} {ds : List (DataW H)} {ps : List MemPlace}, (∀ t ∈ ts, P.readableRec t = true ∧ t < P.types.size) →
    DataW.TrodAll enc P W 0 (fun _ => true) true ts vs ds ps → (∀ x ∈ ps, x.block < W.heap.size) → DataW.TrodAll enc P W' 0 (fun b => decide (b < W.heap.size)) true ts vs ds ps
  | [], [], [], _, _, h, _ => h
  | [], _ :: _, _, _, _, h, _ => h.elim
  | [], [], _ :: _, _, _, h, _ => h.elim
  | _ :: _, [], _, _, _, h, _ => h.elim
  | _ :: _, _ :: _, [], _, _, h, _ => h.elim
  | t :: ts, v :: vs, d :: ds, ps, ht, ⟨p, q, h1, h2, e⟩, hlt => by
    subst e
    obtain ⟨r1, r2⟩ := ht t (by simp)
    exact ⟨p, q, Below.trod hl r1 r2 h1 hb (fun x hx => hlt x (by simp [hx])), all_stay hl hb (fun t' ht' => ht t' (by simp [ht'])) h2 (fun x hx => hlt x (by simp [hx])), rfl⟩
/-- The law has returned true, and below the heap's old size nothing has turned. -/
theorem law_post (hl : laidOutB P = true) {f : Func} {s : ChangeSpec} {W W' : World} {args : Array Value} {ds gs : List (DataW H)} {before : List MemPlace} (hW : DataW.Whole enc P f.params.toList s.vars false W args.toList ds gs before)
    (hv : s.vars = []) (hf : s.fn H ds = { results := [.lit (.bool true)], args := ds }) {tb : TypeId} (hr : f.resultTypes = #[tb]) (htb : P.underlying tb = some .bool)
    (hp : ∀ t ∈ f.params.toList, P.readableRec t = true ∧ t < P.types.size) (hb : Below W.heap.size W W') : s.post enc P f false true false false W args (.bool true) W' := by
  have hlt : ∀ x ∈ before, x.block < W.heap.size := fun x hx => hW.lt x hx
  have hW' := hW
  obtain ⟨p, q, hA, hV, rfl, -, -⟩ := hW
  obtain ⟨nm, vars, fn⟩ := s
  obtain rfl : vars = [] := hv
  obtain ⟨rfl, rfl⟩ := trodVars_none hV
  have hf' : fn H (ds ++ []) = { results := [.lit (.bool true)], args := ds } := by rw [List.append_nil]; exact hf
  refine ⟨ds, [], _, [], p, [], hW', ?_, ?_, ?_, ?_, fun h => by cases h⟩
  · show DataW.TrodAll enc P W' _ _ _ f.resultTypes.toList _ (fn H (ds ++ [])).results []
    rw [hf', hr]
    exact trodAll_cons_mk (shut_bool htb true) trodAll_mk0
  · show DataW.TrodAll enc P W' _ _ _ f.params.toList _ (fn H (ds ++ [])).args p
    rw [hf']
    exact all_stay hl hb hp hA (fun x hx => hlt x (by simp [hx]))
  · show DataW.TrodVars enc P W' _ [] (fn H (ds ++ [])).vars []
    rw [hf']
    rfl
  · exact World.keptBut_mono (fun x hx => ⟨hx, .inr (.inl (by simpa using hx))⟩) (hb.frame (· ∈ p ++ []))
end
theorem params_ok {P : Program} {a : Array TypeId} (h : (a.toList.all fun t => P.readableRec t && decide (t < P.types.size)) = true) : ∀ t ∈ a.toList, P.readableRec t = true ∧ t < P.types.size := fun t ht => by
  have := List.all_eq_true.1 h t ht
  simpa using this

theorem ints_of {H : Type} {enc : TypeId × Value → H} {P : Program} {W : World} {r : Reach} {base b0 : Nat} {sp : Nat → Bool} {hd : Bool} {t e : TypeId} {k : IntKind} {v : Value} {d : DataW H} {ps : List MemPlace} (ht : P.underlying t = some (.slice e)) (he : P.underlying e = some (.int k)) (hc : P.cellsOf e = 1)
    (hval : Value.okWide P W r b0 t v) (h : DataW.Trod enc P W base sp hd t v d ps) : ∃ zs, IntsK k W.heap.size W v zs ∧ zs.length ≤ maxLen ∧ ∀ x ∈ zs, (Lit.int k x).wf = true := by
  obtain ⟨a0, len, cap, rfl⟩ := okWide_slice ht hval
  obtain ⟨fuel, hf⟩ := h
  rcases open_ints ht he hc hf with ⟨hcs, -⟩ | ⟨a, len', cap', zs, hcs, -, hl, hm, hz, -, hcell, hwz⟩
  · simp [Value.cells] at hcs
    obtain ⟨rfl, rfl, rfl⟩ := hcs
    exact ⟨[], .inl ⟨_, _, rfl, fun _ => rfl, rfl⟩, Nat.zero_le _, fun x hx => by cases hx⟩
  · simp [Value.cells] at hcs
    obtain ⟨rfl, rfl, rfl⟩ := hcs
    have hlz : len ≤ zs.length := by rw [hz]; split <;> omega
    refine ⟨zs.take len, ?_, by rw [List.length_take]; omega, fun x hx => hwz x (List.mem_of_mem_take hx)⟩
    have hlt : (zs.take len).length = len := by rw [List.length_take]; omega
    by_cases h0 : len = 0
    · subst h0
      exact .inl ⟨_, _, rfl, (fun e => by cases e), by simp⟩
    · obtain ⟨b, off, sp'⟩ := a
      have h0' := hcell 0 (by omega)
      have hpl : sp' = none := by simpa [Addr.add] using World.cell?_spot h0'
      subst hpl
      have hadd : ∀ j, (⟨b, off, none⟩ : Addr).add j = ⟨b, off + j, none⟩ := fun j => addr_add b off j
      have hb := World.block_lt_of_cell? W _ h0'
      rw [hadd] at hb
      refine .inr ⟨b, off, cap, by rw [hlt], hb, fun j hj => ?_⟩
      rw [hlt] at hj
      rw [← hadd j, hcell j (by omega), List.getElem?_take_of_lt hj]
      rfl
/-- A slice that comes in has no more numbers than room. -/
def Fits (sv : Value) : Prop := ∀ A n c, sv = .slice A n c → n ≤ c
theorem fits_of {H : Type} {enc : TypeId × Value → H} {P : Program} {W : World} {base : Nat} {sp : Nat → Bool} {hd : Bool} {t e : TypeId} {k : IntKind} {v : Value} {d : DataW H} {ps : List MemPlace} (ht : P.underlying t = some (.slice e)) (he : P.underlying e = some (.int k)) (hc : P.cellsOf e = 1)
    (h : DataW.Trod enc P W base sp hd t v d ps) : Fits v := by
  rintro A n c rfl
  obtain ⟨fuel, hf⟩ := h
  rcases open_ints ht he hc hf with ⟨hcs, -⟩ | ⟨a, len', cap', zs, hcs, -, hl, -⟩
  · simp [Value.cells] at hcs
    omega
  · simp [Value.cells] at hcs
    omega
end Go.Proofs.YticcgmegimiegaaGreatDoor
namespace Go.Proofs.YticcgmegimiegaaGreatDoor
open Go.ChangeShapes Go.WideShapes Go.ChangeAt Go.RowKit Go.Shelf Go.Sort

def ConvRel (e : TypeId) (w : World) (zs : List Int) (own i : Value) (wr : World) : Prop :=
  ∃ (k : Nat) (o : Value), o = own ∧ k ≤ zs.length ∧ i = .int .i64 k ∧ wr.ownsRow w.heap.size e 1 o k ((zs.take k).map (Value.int .i64)) ∧ Below w.heap.size w wr
/-- A slice of the call's own holds the numbers zs. -/
def GivesE (e : TypeId) (w : World) (zs : List Int) (r : Ending) (w' : World) : Prop :=
  ∃ v, r = .returned v ∧ w'.ownsRow w.heap.size e 1 v zs.length (zs.map (Value.int .i64)) ∧ Below w.heap.size w w'

set_option maxRecDepth 100000 in
set_option maxHeartbeats 2000000 in
theorem clause_any (B : Nat) (sv : Value) (zs : List Int) (hz : zs.length ≤ 1000000) (w : World) (hB : B ≤ w.heap.size) (hI : Ints B w sv zs) : Calls Tryz.prog 39 #[sv] w (GivesE 39 w zs) := by
  obtain ⟨i0, hi, hz0, hz1, hz2⟩ := info_parts infoLit
  obtain ⟨A, cap, rfl, hc⟩ := ints_shape hI
  have HC := Lib.hid hc; clear hc hI
  go_enter Tryz.func39, Tryz.ntmps39
  go_wp2_with fail
  go_loopw [3, 8] (fun own i wr => ConvRel 39 w zs own i wr) (fun _ i _ => zs.length - (intOf i).toNat)
  case atStart => exact ⟨0, _, rfl, by omega, rfl, World.ownsRow_nil _ _ _ _, Below.refl _ _⟩
  case round =>
    obtain ⟨k, own, rfl, hk, rfl, hrow, hbw⟩ := hrel
    by_cases hlt : k < zs.length
    · obtain ⟨b, off, rfl, hb, hck⟩ := HC.out k hlt
      have hck : wr.cell? ⟨b, off + k, none⟩ = some (.int .i64 (zs[k]?.getD 0)) := (hbw.cell (p := ⟨b, off + k, none⟩) (Nat.lt_of_lt_of_le hb hB)).trans hck
      have htk := take_one zs hlt
      obtain ⟨x, hx⟩ : ∃ x, zs[k]?.getD 0 = x := ⟨_, rfl⟩
      rw [hx] at hck htk
      clear hx
      have HR := Lib.hid hrow; have HT := Lib.hid htk; clear hrow htk
      go_wp2_with (at_builtin; refine wpList_append_own _ rfl _ _ 38 rfl w.heap.size 39 i0 (.int .i64 0) 1 8 Tryz.underlying38 hi hz0 hz1 hz2 rfl (by decide) _ _ _ rfl (HR.out.alloc _) ⟨wr.heap.size, 0, none⟩ 1 1 [.int .i64 x] rfl rfl (cell_one_new _ _ _) (by simp [Value.oneCell']) (by unfold maxLen; omega) (by omega) (by have := hbw.size; simp; omega) ?_; intro v' w2 hown' hgrow _)
      have hbn : Below w.heap.size w w2 := by
        refine (hbw.alloc hbw.size _).grown hgrow (by have := hbw.size; simp; omega) (fun k e => ?_)
        exact (HR.out.lt k e).1
      refine ⟨⟨k + 1, _, rfl, by omega, by go_num, ?_, hbn⟩, ?_⟩
      · rw [HT.out, List.map_append]; exact hown'
      · simp [intOf]; omega
    · obtain rfl : k = zs.length := by omega
      rw [List.take_length] at hrow
      have HR := Lib.hid hrow; clear hrow
      go_wp2_with fail
      go_ret
      exact ⟨own, rfl, HR.out, hbw⟩

set_option maxRecDepth 100000 in
set_option maxHeartbeats 2000000 in
theorem intsOf_any (B : Nat) (sv : Value) (zs : List Int) (hz : zs.length ≤ 1000000) (w : World) (hB : B ≤ w.heap.size) (hI : Ints B w sv zs) : Calls Tryz.prog 73 #[sv] w (GivesE 3 w zs) := by
  obtain ⟨i0, hi, hz0, hz1, hz2⟩ := info_parts infoInt
  obtain ⟨A, cap, rfl, hc⟩ := ints_shape hI
  have HC := Lib.hid hc; clear hc hI
  go_enter Tryz.func73, Tryz.ntmps73
  go_wp2_with fail
  go_loopw [3, 8] (fun own i wr => ConvRel 3 w zs own i wr) (fun _ i _ => zs.length - (intOf i).toNat)
  case atStart => exact ⟨0, _, rfl, by omega, rfl, World.ownsRow_nil _ _ _ _, Below.refl _ _⟩
  case round =>
    obtain ⟨k, own, rfl, hk, rfl, hrow, hbw⟩ := hrel
    by_cases hlt : k < zs.length
    · obtain ⟨b, off, rfl, hb, hck⟩ := HC.out k hlt
      have hck : wr.cell? ⟨b, off + k, none⟩ = some (.int .i64 (zs[k]?.getD 0)) := (hbw.cell (p := ⟨b, off + k, none⟩) (Nat.lt_of_lt_of_le hb hB)).trans hck
      have htk := take_one zs hlt
      obtain ⟨x, hx⟩ : ∃ x, zs[k]?.getD 0 = x := ⟨_, rfl⟩
      rw [hx] at hck htk
      clear hx
      have HR := Lib.hid hrow; have HT := Lib.hid htk; clear hrow htk
      go_wp2_with (at_builtin; refine wpList_append_own _ rfl _ _ 30 rfl w.heap.size 3 i0 (.int .i64 0) 1 8 Tryz.underlying30 hi hz0 hz1 hz2 rfl (by decide) _ _ _ rfl (HR.out.alloc _) ⟨wr.heap.size, 0, none⟩ 1 1 [.int .i64 x] rfl rfl (cell_one_new _ _ _) (by simp [Value.oneCell']) (by unfold maxLen; omega) (by omega) (by have := hbw.size; simp; omega) ?_; intro v' w2 hown' hgrow _)
      have hbn : Below w.heap.size w w2 := by
        refine (hbw.alloc hbw.size _).grown hgrow (by have := hbw.size; simp; omega) (fun k e => ?_)
        exact (HR.out.lt k e).1
      refine ⟨⟨k + 1, _, rfl, by omega, by go_num, ?_, hbn⟩, ?_⟩
      · rw [HT.out, List.map_append]; exact hown'
      · simp [intOf]; omega
    · obtain rfl : k = zs.length := by omega
      rw [List.take_length] at hrow
      have HR := Lib.hid hrow; clear hrow
      go_wp2_with fail
      go_ret
      exact ⟨own, rfl, HR.out, hbw⟩
end Go.Proofs.YticcgmegimiegaaGreatDoor
namespace Go.Proofs.YticcgmegimiegaaGreatDoor
open Go.ChangeShapes Go.WideShapes Go.ChangeAt Go.RowKit

/-- The literal that a number makes. -/
def madeU (n : Int) : Int := if n % 2 = 1 then -(1 + n / 2 % 8) else 1 + n / 2 % 8
theorem madeU_is (n : Int) : ∃ v : Int, 1 ≤ v ∧ v ≤ 8 ∧ (madeU n = v ∨ madeU n = -v) := by
  refine ⟨1 + n / 2 % 8, by omega, by omega, ?_⟩
  unfold madeU
  split
  · exact .inr rfl
  · exact .inl rfl
def madeL (zs : List Int) : List Int := (zs.take 20).map madeU
def MadeRel (n : Nat) (w : World) (zs : List Int) (o i : Value) (wr : World) : Prop :=
  ∃ (k : Nat) (v : Value), v = o ∧ k ≤ n ∧ i = .int .i64 k ∧ RowKit.Below w.heap.size w wr ∧ wr.ownsRow w.heap.size 39 1 v k (((zs.take k).map madeU).map (Value.int .i64))

theorem u8_wf {x : Int} (h : (Lit.int .u8 x).wf = true) : 0 ≤ x ∧ x ≤ 255 := by
  have : IntKind.u8.min ≤ x ∧ x ≤ IntKind.u8.max := by simpa [Lit.wf] using h
  exact this
theorem intsK_shape {k : IntKind} {B : Nat} {w : World} {sv : Value} {zs : List Int} (h : IntsK k B w sv zs) : ∃ A cap, sv = .slice A zs.length cap ∧ ∀ j, j < zs.length → ∃ b off, A = some ⟨b, off, none⟩ ∧ b < B ∧ w.cell? ⟨b, off + j, none⟩ = some (.int k (zs[j]?.getD 0)) := by
  rcases h with ⟨A, c, rfl, -, rfl⟩ | ⟨b, off, cap, rfl, hb, hc⟩
  · exact ⟨A, c, rfl, fun k hk => absurd hk (Nat.not_lt_zero _)⟩
  · exact ⟨_, cap, rfl, fun k hk => ⟨b, off, rfl, hb, hc k hk⟩⟩
theorem made_yes {r v : Int} (h : r % 2 = 1) (hv : 1 + r / 2 % 8 = v) : madeU r = -v := by unfold madeU; rw [if_pos h, hv]
theorem made_no {r v : Int} (h : ¬ r % 2 = 1) (hv : 1 + r / 2 % 8 = v) : madeU r = v := by unfold madeU; rw [if_neg h, hv]

set_option maxRecDepth 100000 in
set_option maxHeartbeats 2000000 in
theorem made_any (B : Nat) (sv : Value) (zs : List Int) (hm : zs.length ≤ 9223372036854775807) (hw : ∀ x ∈ zs, (Lit.int .u8 x).wf = true) (hF : Fits sv) (w : World) (hB : B ≤ w.heap.size) (hI : IntsK .u8 B w sv zs) :
    Calls Tryz.prog 56 #[sv] w (GivesE 39 w (madeL zs)) := by
  obtain ⟨i0, hi, hz0, hz1, hz2⟩ := info_parts infoLit
  rcases hI with ⟨A, c, rfl, -, rfl⟩ | ⟨b, off, cap, rfl, hb, hc⟩
  · go_enter Tryz.func56, Tryz.ntmps56
    go_wp2_with fail
    go_loop [3, 13] (fun o i => o = .slice none 0 0 ∧ i = .int .i64 0) (fun _ _ => 0)
    case atStart => exact ⟨rfl, rfl⟩
    case round =>
      obtain ⟨rfl, rfl⟩ := hrel
      go_wp2_with fail
      go_ret
      exact ⟨.slice none 0 0, rfl, World.ownsRow_nil _ _ _ _, RowKit.Below.refl _ _⟩
  · have hcap := hF _ _ _ rfl
    clear hF
    have HWf := Lib.hid hw; clear hw
    by_cases h20 : 20 < zs.length
    · have hte : zs.take 20 = zs.take 20 := rfl
      have hte' : (zs.take 20).length = 20 := by rw [List.length_take]; omega
      have hmx : max (20 : Int) 0 = 20 := by omega
      have HTe := Lib.hid hte; have HTe' := Lib.hid hte'; clear hte hte'
      go_enter Tryz.func56, Tryz.ntmps56
      go_wp2_with fail
      clear hmx
      have HC := Lib.hid hc; clear hc
      go_loopw [3, 13] (fun o i wr => MadeRel 20 w zs o i wr) (fun _ i _ => 20 - (intOf i).toNat)
      case atStart => exact ⟨0, _, rfl, by omega, rfl, RowKit.Below.refl _ _, World.ownsRow_nil _ _ _ _⟩
      case round =>
        obtain ⟨k, v, rfl, hk, rfl, hbw, hrow⟩ := hrel
        have HR := Lib.hid hrow; clear hrow
        by_cases hlt : k < 20
        · have hkz : k < zs.length := by omega
          have hk20 : k < 20 := by omega
          have hck : wr.cell? ⟨b, off + k, none⟩ = some (.int .u8 (zs[k]?.getD 0)) := (hbw.cell (p := ⟨b, off + k, none⟩) (Nat.lt_of_lt_of_le hb hB)).trans (HC.out k hkz)
          have hwx := u8_wf (HWf.out (zs[k]?.getD 0) (by rw [List.getElem?_eq_getElem hkz]; exact List.getElem_mem hkz))
          have htk := take_one zs hkz
          obtain ⟨x, hx⟩ : ∃ x, zs[k]?.getD 0 = x := ⟨_, rfl⟩
          rw [hx] at hck htk hwx
          clear hx
          have HT := Lib.hid htk; clear htk
          obtain ⟨hw0, hw1⟩ := hwx
          by_cases h2 : x % 2 = 1
          all_goals
            first | (have hq : (x % 2 == 1) = true := by rw [beq_iff_eq]; exact h2) | (have hq : (x % 2 == 1) = false := by rw [beq_eq_false_iff_ne]; exact h2)
            first | have hmu := made_yes h2 rfl | have hmu := made_no h2 rfl
            have HM := Lib.hid hmu; clear hmu h2
            go_wp2_with (at_builtin; refine wpList_append_own _ rfl _ _ 38 rfl w.heap.size 39 i0 (.int .i64 0) 1 8 Tryz.underlying38 hi hz0 hz1 hz2 rfl (by decide) _ _ _ rfl (HR.out.alloc _) ⟨wr.heap.size, 0, none⟩ 1 1 [.int .i64 (madeU x)] rfl rfl (by rw [HM.out]; exact cell_one_new _ _ _) (by simp [Value.oneCell']) (by unfold maxLen; omega) (by omega) (by have := hbw.size; simp; omega) ?_; intro v' w2 hown' hgrow _)
            have hbn : RowKit.Below w.heap.size w w2 := by
              refine (hbw.alloc hbw.size _).grown hgrow (by have := hbw.size; simp; omega) (fun k e => ?_)
              exact (HR.out.lt k e).1
            refine ⟨⟨k + 1, _, rfl, by omega, by go_num, hbn, ?_⟩, by simp [intOf]; omega⟩
            rw [HT.out, List.map_append, List.map_append]
            exact hown'
        · obtain rfl : k = 20 := by omega
          rw [show ((20 : Nat) : Int) = 20 from rfl]
          have hr := HR.out
          have HR' := Lib.hid hr; clear hr
          go_wp2_with fail
          go_ret
          refine ⟨v, rfl, ?_, hbw⟩
          have hlen : (madeL zs).length = 20 := by unfold madeL; rw [List.length_map, HTe'.out]
          rw [hlen]
          exact HR'.out
    · have hte : zs.take zs.length = zs.take 20 := by rw [List.take_length, List.take_of_length_le (by omega)]
      have hte' : (zs.take 20).length = zs.length := by rw [List.length_take]; omega
      have HTe := Lib.hid hte; have HTe' := Lib.hid hte'; clear hte hte'
      go_enter Tryz.func56, Tryz.ntmps56
      go_wp2_with fail
      have HC := Lib.hid hc; clear hc
      go_loopw [3, 13] (fun o i wr => MadeRel zs.length w zs o i wr) (fun _ i _ => zs.length - (intOf i).toNat)
      case atStart => exact ⟨0, _, rfl, by omega, rfl, RowKit.Below.refl _ _, World.ownsRow_nil _ _ _ _⟩
      case round =>
        obtain ⟨k, v, rfl, hk, rfl, hbw, hrow⟩ := hrel
        have HR := Lib.hid hrow; clear hrow
        by_cases hlt : k < zs.length
        · have hkz : k < zs.length := by omega
          have hk20 : k < 20 := by omega
          have hck : wr.cell? ⟨b, off + k, none⟩ = some (.int .u8 (zs[k]?.getD 0)) := (hbw.cell (p := ⟨b, off + k, none⟩) (Nat.lt_of_lt_of_le hb hB)).trans (HC.out k hkz)
          have hwx := u8_wf (HWf.out (zs[k]?.getD 0) (by rw [List.getElem?_eq_getElem hkz]; exact List.getElem_mem hkz))
          have htk := take_one zs hkz
          obtain ⟨x, hx⟩ : ∃ x, zs[k]?.getD 0 = x := ⟨_, rfl⟩
          rw [hx] at hck htk hwx
          clear hx
          have HT := Lib.hid htk; clear htk
          obtain ⟨hw0, hw1⟩ := hwx
          by_cases h2 : x % 2 = 1
          all_goals
            first | (have hq : (x % 2 == 1) = true := by rw [beq_iff_eq]; exact h2) | (have hq : (x % 2 == 1) = false := by rw [beq_eq_false_iff_ne]; exact h2)
            first | have hmu := made_yes h2 rfl | have hmu := made_no h2 rfl
            have HM := Lib.hid hmu; clear hmu h2
            go_wp2_with (at_builtin; refine wpList_append_own _ rfl _ _ 38 rfl w.heap.size 39 i0 (.int .i64 0) 1 8 Tryz.underlying38 hi hz0 hz1 hz2 rfl (by decide) _ _ _ rfl (HR.out.alloc _) ⟨wr.heap.size, 0, none⟩ 1 1 [.int .i64 (madeU x)] rfl rfl (by rw [HM.out]; exact cell_one_new _ _ _) (by simp [Value.oneCell']) (by unfold maxLen; omega) (by omega) (by have := hbw.size; simp; omega) ?_; intro v' w2 hown' hgrow _)
            have hbn : RowKit.Below w.heap.size w w2 := by
              refine (hbw.alloc hbw.size _).grown hgrow (by have := hbw.size; simp; omega) (fun k e => ?_)
              exact (HR.out.lt k e).1
            refine ⟨⟨k + 1, _, rfl, by omega, by go_num, hbn, ?_⟩, by simp [intOf]; omega⟩
            rw [HT.out, List.map_append, List.map_append]
            exact hown'
        · obtain rfl : k = zs.length := by omega
          have hr := HR.out
          rw [HTe.out] at hr
          have HR' := Lib.hid hr; clear hr
          go_wp2_with fail
          go_ret
          refine ⟨v, rfl, ?_, hbw⟩
          have hlen : (madeL zs).length = zs.length := by unfold madeL; rw [List.length_map, HTe'.out]
          rw [hlen]
          exact HR'.out

/-- The bit of a number at a place. -/
def mbit (n : Int) (k : Nat) : Bool := bits BinOp.and IntKind.u8 (n / 2 ^ k) 1 == 1
def mlit (n : Int) (k : Nat) : Int := if mbit n k then -((k : Int) + 1) else (k : Int) + 1
def modelL (n : Int) : List Int := (List.range 8).map (mlit n)
def ModelRel (n : Int) (w : World) (o i : Value) (wr : World) : Prop :=
  ∃ (k : Nat) (v : Value), v = o ∧ k ≤ 8 ∧ i = .int .i64 k ∧ RowKit.Below w.heap.size w wr ∧ wr.ownsRow w.heap.size 39 1 v k (((List.range k).map (mlit n)).map (Value.int .i64))
theorem mlit_yes {n : Int} {k : Nat} (h : (bits BinOp.and IntKind.u8 (n / 2 ^ k) 1 == 1) = true) : mlit n k = -((k : Int) + 1) := by unfold mlit; rw [if_pos (show mbit n k = true from h)]
theorem mlit_no {n : Int} {k : Nat} (h : (bits BinOp.and IntKind.u8 (n / 2 ^ k) 1 == 1) = false) : mlit n k = (k : Int) + 1 := by unfold mlit; rw [if_neg (by rw [show mbit n k = false from h]; decide)]

end Go.Proofs.YticcgmegimiegaaGreatDoor
