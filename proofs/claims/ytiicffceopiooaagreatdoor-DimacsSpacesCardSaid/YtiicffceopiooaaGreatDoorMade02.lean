/- The laws' Made and Model. -/
import Derived.Test.YtiicffceopiooaaGreatDoorPlain
import Derived.Test.YtiicffceopiooaaGreatDoorConv
namespace Go.Proofs.YtiicffceopiooaaGreatDoor
open Go.ChangeShapes Go.WideShapes Go.ChangeAt Go.RowKit

/-- The literal that a number makes. -/
def madeU (n : Int) : Int := if n % 2 = 1 then -(1 + n / 2 % 8) else 1 + n / 2 % 8
theorem madeU_is (n : Int) : ∃ v : Int, 1 ≤ v ∧ v ≤ 8 ∧ (madeU n = v ∨ madeU n = -v) := by
  refine ⟨1 + n / 2 % 8, by omega, by omega, ?_⟩
  unfold madeU
  split
  · exact .inr rfl
  · exact .inl rfl
def madeL (zs : List Int) : List Int := (zs.take 20).map madeU
def MadeRel (n : Nat) (w : World) (zs : List Int) (o i : Value) (wr : World) : Prop :=
  ∃ (k : Nat) (v : Value), v = o ∧ k ≤ n ∧ i = .int .i64 k ∧ RowKit.Below w.heap.size w wr ∧ wr.ownsRow w.heap.size 39 1 v k (((zs.take k).map madeU).map (Value.int .i64))

theorem u8_wf {x : Int} (h : (Lit.int .u8 x).wf = true) : 0 ≤ x ∧ x ≤ 255 := by
  have : IntKind.u8.min ≤ x ∧ x ≤ IntKind.u8.max := by simpa [Lit.wf] using h
  exact this
theorem intsK_shape {k : IntKind} {B : Nat} {w : World} {sv : Value} {zs : List Int} (h : IntsK k B w sv zs) : ∃ A cap, sv = .slice A zs.length cap ∧ ∀ j, j < zs.length → ∃ b off, A = some ⟨b, off, none⟩ ∧ b < B ∧ w.cell? ⟨b, off + j, none⟩ = some (.int k (zs[j]?.getD 0)) := by
  rcases h with ⟨A, c, rfl, -, rfl⟩ | ⟨b, off, cap, rfl, hb, hc⟩
  · exact ⟨A, c, rfl, fun k hk => absurd hk (Nat.not_lt_zero _)⟩
  · exact ⟨_, cap, rfl, fun k hk => ⟨b, off, rfl, hb, hc k hk⟩⟩
theorem made_yes {r v : Int} (h : r % 2 = 1) (hv : 1 + r / 2 % 8 = v) : madeU r = -v := by unfold madeU; rw [if_pos h, hv]
theorem made_no {r v : Int} (h : ¬ r % 2 = 1) (hv : 1 + r / 2 % 8 = v) : madeU r = v := by unfold madeU; rw [if_neg h, hv]

set_option maxRecDepth 100000 in
set_option maxHeartbeats 2000000 in
theorem made_any (B : Nat) (sv : Value) (zs : List Int) (hm : zs.length ≤ 9223372036854775807) (hw : ∀ x ∈ zs, (Lit.int .u8 x).wf = true) (hF : Fits sv) (w : World) (hB : B ≤ w.heap.size) (hI : IntsK .u8 B w sv zs) :
    Calls Tryz.prog 56 #[sv] w (GivesE 39 w (madeL zs)) := by
  obtain ⟨i0, hi, hz0, hz1, hz2⟩ := info_parts infoLit
  rcases hI with ⟨A, c, rfl, -, rfl⟩ | ⟨b, off, cap, rfl, hb, hc⟩
  · go_enter Tryz.func56, Tryz.ntmps56
    go_wp2_with fail
    go_loop [3, 13] (fun o i => o = .slice none 0 0 ∧ i = .int .i64 0) (fun _ _ => 0)
    case atStart => exact ⟨rfl, rfl⟩
    case round =>
      obtain ⟨rfl, rfl⟩ := hrel
      go_wp2_with fail
      go_ret
      exact ⟨.slice none 0 0, rfl, World.ownsRow_nil _ _ _ _, RowKit.Below.refl _ _⟩
  · have hcap := hF _ _ _ rfl
    clear hF
    have HWf := Lib.hid hw; clear hw
    by_cases h20 : 20 < zs.length
    · have hte : zs.take 20 = zs.take 20 := rfl
      have hte' : (zs.take 20).length = 20 := by rw [List.length_take]; omega
      have hmx : max (20 : Int) 0 = 20 := by omega
      have HTe := Lib.hid hte; have HTe' := Lib.hid hte'; clear hte hte'
      go_enter Tryz.func56, Tryz.ntmps56
      go_wp2_with fail
      clear hmx
      have HC := Lib.hid hc; clear hc
      go_loopw [3, 13] (fun o i wr => MadeRel 20 w zs o i wr) (fun _ i _ => 20 - (intOf i).toNat)
      case atStart => exact ⟨0, _, rfl, by omega, rfl, RowKit.Below.refl _ _, World.ownsRow_nil _ _ _ _⟩
      case round =>
        obtain ⟨k, v, rfl, hk, rfl, hbw, hrow⟩ := hrel
        have HR := Lib.hid hrow; clear hrow
        by_cases hlt : k < 20
        · have hkz : k < zs.length := by omega
          have hk20 : k < 20 := by omega
          have hck : wr.cell? ⟨b, off + k, none⟩ = some (.int .u8 (zs[k]?.getD 0)) := (hbw.cell (p := ⟨b, off + k, none⟩) (Nat.lt_of_lt_of_le hb hB)).trans (HC.out k hkz)
          have hwx := u8_wf (HWf.out (zs[k]?.getD 0) (by rw [List.getElem?_eq_getElem hkz]; exact List.getElem_mem hkz))
          have htk := take_one zs hkz
          obtain ⟨x, hx⟩ : ∃ x, zs[k]?.getD 0 = x := ⟨_, rfl⟩
          rw [hx] at hck htk hwx
          clear hx
          have HT := Lib.hid htk; clear htk
          obtain ⟨hw0, hw1⟩ := hwx
          by_cases h2 : x % 2 = 1
          all_goals
            first | (have hq : (x % 2 == 1) = true := by rw [beq_iff_eq]; exact h2) | (have hq : (x % 2 == 1) = false := by rw [beq_eq_false_iff_ne]; exact h2)
            first | have hmu := made_yes h2 rfl | have hmu := made_no h2 rfl
            have HM := Lib.hid hmu; clear hmu h2
            go_wp2_with (at_builtin; refine wpList_append_own _ rfl _ _ 38 rfl w.heap.size 39 i0 (.int .i64 0) 1 8 Tryz.underlying38 hi hz0 hz1 hz2 rfl (by decide) _ _ _ rfl (HR.out.alloc _) ⟨wr.heap.size, 0, none⟩ 1 1 [.int .i64 (madeU x)] rfl rfl (by rw [HM.out]; exact cell_one_new _ _ _) (by simp [Value.oneCell']) (by unfold maxLen; omega) (by omega) (by have := hbw.size; simp; omega) ?_; intro v' w2 hown' hgrow _)
            have hbn : RowKit.Below w.heap.size w w2 := by
              refine (hbw.alloc hbw.size _).grown hgrow (by have := hbw.size; simp; omega) (fun k e => ?_)
              exact (HR.out.lt k e).1
            refine ⟨⟨k + 1, _, rfl, by omega, by go_num, hbn, ?_⟩, by simp [intOf]; omega⟩
            rw [HT.out, List.map_append, List.map_append]
            exact hown'
        · obtain rfl : k = 20 := by omega
          rw [show ((20 : Nat) : Int) = 20 from rfl]
          have hr := HR.out
          have HR' := Lib.hid hr; clear hr
          go_wp2_with fail
          go_ret
          refine ⟨v, rfl, ?_, hbw⟩
          have hlen : (madeL zs).length = 20 := by unfold madeL; rw [List.length_map, HTe'.out]
          rw [hlen]
          exact HR'.out
    · have hte : zs.take zs.length = zs.take 20 := by rw [List.take_length, List.take_of_length_le (by omega)]
      have hte' : (zs.take 20).length = zs.length := by rw [List.length_take]; omega
      have HTe := Lib.hid hte; have HTe' := Lib.hid hte'; clear hte hte'
      go_enter Tryz.func56, Tryz.ntmps56
      go_wp2_with fail
      have HC := Lib.hid hc; clear hc
      go_loopw [3, 13] (fun o i wr => MadeRel zs.length w zs o i wr) (fun _ i _ => zs.length - (intOf i).toNat)
      case atStart => exact ⟨0, _, rfl, by omega, rfl, RowKit.Below.refl _ _, World.ownsRow_nil _ _ _ _⟩
      case round =>
        obtain ⟨k, v, rfl, hk, rfl, hbw, hrow⟩ := hrel
        have HR := Lib.hid hrow; clear hrow
        by_cases hlt : k < zs.length
        · have hkz : k < zs.length := by omega
          have hk20 : k < 20 := by omega
          have hck : wr.cell? ⟨b, off + k, none⟩ = some (.int .u8 (zs[k]?.getD 0)) := (hbw.cell (p := ⟨b, off + k, none⟩) (Nat.lt_of_lt_of_le hb hB)).trans (HC.out k hkz)
          have hwx := u8_wf (HWf.out (zs[k]?.getD 0) (by rw [List.getElem?_eq_getElem hkz]; exact List.getElem_mem hkz))
          have htk := take_one zs hkz
          obtain ⟨x, hx⟩ : ∃ x, zs[k]?.getD 0 = x := ⟨_, rfl⟩
          rw [hx] at hck htk hwx
          clear hx
          have HT := Lib.hid htk; clear htk
          obtain ⟨hw0, hw1⟩ := hwx
          by_cases h2 : x % 2 = 1
          all_goals
            first | (have hq : (x % 2 == 1) = true := by rw [beq_iff_eq]; exact h2) | (have hq : (x % 2 == 1) = false := by rw [beq_eq_false_iff_ne]; exact h2)
            first | have hmu := made_yes h2 rfl | have hmu := made_no h2 rfl
            have HM := Lib.hid hmu; clear hmu h2
            go_wp2_with (at_builtin; refine wpList_append_own _ rfl _ _ 38 rfl w.heap.size 39 i0 (.int .i64 0) 1 8 Tryz.underlying38 hi hz0 hz1 hz2 rfl (by decide) _ _ _ rfl (HR.out.alloc _) ⟨wr.heap.size, 0, none⟩ 1 1 [.int .i64 (madeU x)] rfl rfl (by rw [HM.out]; exact cell_one_new _ _ _) (by simp [Value.oneCell']) (by unfold maxLen; omega) (by omega) (by have := hbw.size; simp; omega) ?_; intro v' w2 hown' hgrow _)
            have hbn : RowKit.Below w.heap.size w w2 := by
              refine (hbw.alloc hbw.size _).grown hgrow (by have := hbw.size; simp; omega) (fun k e => ?_)
              exact (HR.out.lt k e).1
            refine ⟨⟨k + 1, _, rfl, by omega, by go_num, hbn, ?_⟩, by simp [intOf]; omega⟩
            rw [HT.out, List.map_append, List.map_append]
            exact hown'
        · obtain rfl : k = zs.length := by omega
          have hr := HR.out
          rw [HTe.out] at hr
          have HR' := Lib.hid hr; clear hr
          go_wp2_with fail
          go_ret
          refine ⟨v, rfl, ?_, hbw⟩
          have hlen : (madeL zs).length = zs.length := by unfold madeL; rw [List.length_map, HTe'.out]
          rw [hlen]
          exact HR'.out

/-- The bit of a number at a place. -/
def mbit (n : Int) (k : Nat) : Bool := bits BinOp.and IntKind.u8 (n / 2 ^ k) 1 == 1
def mlit (n : Int) (k : Nat) : Int := if mbit n k then -((k : Int) + 1) else (k : Int) + 1
def modelL (n : Int) : List Int := (List.range 8).map (mlit n)
def ModelRel (n : Int) (w : World) (o i : Value) (wr : World) : Prop :=
  ∃ (k : Nat) (v : Value), v = o ∧ k ≤ 8 ∧ i = .int .i64 k ∧ RowKit.Below w.heap.size w wr ∧ wr.ownsRow w.heap.size 39 1 v k (((List.range k).map (mlit n)).map (Value.int .i64))
theorem mlit_yes {n : Int} {k : Nat} (h : (bits BinOp.and IntKind.u8 (n / 2 ^ k) 1 == 1) = true) : mlit n k = -((k : Int) + 1) := by unfold mlit; rw [if_pos (show mbit n k = true from h)]
theorem mlit_no {n : Int} {k : Nat} (h : (bits BinOp.and IntKind.u8 (n / 2 ^ k) 1 == 1) = false) : mlit n k = (k : Int) + 1 := by unfold mlit; rw [if_neg (by rw [show mbit n k = false from h]; decide)]

end Go.Proofs.YtiicffceopiooaaGreatDoor
