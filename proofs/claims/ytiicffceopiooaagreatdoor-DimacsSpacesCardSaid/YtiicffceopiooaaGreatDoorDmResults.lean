/- Results that lie in boxes. -/
import Derived.Test.YtiicffceopiooaaGreatDoorDmWordsIter
import Derived.Test.YtiicffceopiooaaGreatDoorDmParse
import Derived.Laws.Rows
import Derived.Laws.ResultCell
namespace Go.Proofs.YtiicffceopiooaaGreatDoor
open Go.RowKit Go.ChangeAt Go.ChangeShapes Go.WideShapes Go.Shelf Go.Sort

theorem load_int {P : Program} {w : World} {t : TypeId} {k : IntKind} {g : Nat} {v : Value} (ht : P.underlying t = some (.int k)) (hc : w.cell? ⟨g, 0, none⟩ = some v) : (loadVar t ⟨g, 0, none⟩).run P w = .ok v w := by
  have ha : (isAgg t).run P w = .ok false w := run_isAgg_plain ht rfl w
  simp [loadVar, Sem.run_bind, ha, hc, Result.andThen, go_sem]
theorem results_ints4 {P : Program} {fn : Func} {p1 p2 p3 p4 : Tmp} {t1 t2 t3 t4 : TypeId} {k1 k2 k3 k4 : IntKind} {g1 g2 g3 g4 : Nat} {v1 v2 v3 v4 : Value} {w : World} {tmps : Array Value} (h : fn.results = #[.cell p1 t1, .cell p2 t2, .cell p3 t3, .cell p4 t4])
    (u1 : P.underlying t1 = some (.int k1)) (u2 : P.underlying t2 = some (.int k2)) (u3 : P.underlying t3 = some (.int k3)) (u4 : P.underlying t4 = some (.int k4))
    (h1 : tmps.getD p1 undef = .pointer (some ⟨g1, 0, none⟩)) (h2 : tmps.getD p2 undef = .pointer (some ⟨g2, 0, none⟩)) (h3 : tmps.getD p3 undef = .pointer (some ⟨g3, 0, none⟩)) (h4 : tmps.getD p4 undef = .pointer (some ⟨g4, 0, none⟩))
    (c1 : w.cell? ⟨g1, 0, none⟩ = some v1) (c2 : w.cell? ⟨g2, 0, none⟩ = some v2) (c3 : w.cell? ⟨g3, 0, none⟩ = some v3) (c4 : w.cell? ⟨g4, 0, none⟩ = some v4) :
    (results fn tmps).run P w = .ok (.tuple #[v1, v2, v3, v4]) w := by
  have l1 := load_int u1 c1
  have l2 := load_int u2 c2
  have l3 := load_int u3 c3
  have l4 := load_int u4 c4
  have h1 : tmps[p1]?.getD undef = .pointer (some ⟨g1, 0, none⟩) := by simpa using h1
  have h2 : tmps[p2]?.getD undef = .pointer (some ⟨g2, 0, none⟩) := by simpa using h2
  have h3 : tmps[p3]?.getD undef = .pointer (some ⟨g3, 0, none⟩) := by simpa using h3
  have h4 : tmps[p4]?.getD undef = .pointer (some ⟨g4, 0, none⟩) := by simpa using h4
  simp [results, h, h1, h2, h3, h4, asAddr, Sem.run_bind, l1, l2, l3, l4, Result.andThen]
theorem results_row_tmp2 {P : Program} {fn : Func} {p q r : Tmp} {ty : TypeId} (h : fn.results = #[.cell p ty, .tmp q, .tmp r]) (tmps : Array Value) (w : World) (g : Nat) (t : TypeId) (cs : Array Value) (fr : Nat × Nat) (d : TypeDesc)
    (hp : tmps.getD p undef = .pointer (some ⟨g, 0, none⟩)) (hg : w.heap[g]? = some (.cells cs t fr))
    (hu : P.underlying ty = some d) (hd : (match d with | .struct _ | .array _ _ => true | _ => false) = true) (hi : (P.info? ty).map (·.size) = some cs.size) :
    (results fn tmps).run P w = .ok (.tuple #[.agg cs, tmps.getD q undef, tmps.getD r undef]) w := by
  have hp' : tmps[p]?.getD undef = .pointer (some ⟨g, 0, none⟩) := by simpa using hp
  simp [results, h, hp', asAddr, run_loadVar_row w g t ty cs fr d hg hu hd hi, Result.andThen]
/-- The line behind a text. -/
def behindN (s : List UInt8) : Nat := s.count 10 + 2
theorem behind_any (s : List UInt8) (hs : s.length ≤ 4000000000) (w : World) : Calls Tryz.prog 55 #[str s] w fun e w' => e = .returned (.int .i64 (behindN s : Nat)) ∧ w' = w := by
  have hc := fun W => Tryz.strings_Count_one_f96 ⟨s.toArray⟩ 10 W
  dsimp only at hc
  have hcl : s.count 10 ≤ 4000000000 := Nat.le_trans List.count_le_length hs
  unfold behindN
  have e : (Lib.countByte s 10) = s.count 10 := rfl
  obtain ⟨n, hn⟩ : ∃ n, s.count 10 = n := ⟨_, rfl⟩
  have hc : ∀ W, Calls Tryz.prog 96 #[str s, .string ⟨#[10]⟩] W fun e w' => e = .returned (.int .i64 (n : Nat)) ∧ w' = W := fun W => (hc W).mono fun e' w' ⟨h1, h2⟩ => ⟨by rw [h1, e, hn], h2⟩
  rw [hn] at hcl ⊢
  have hni : (n : Int) ≤ 4000000000 := by omega
  have HC := Lib.hid hc
  clear hc e hn
  go_enter Tryz.func55, Tryz.ntmps55
  go_wp2_with fail
  refine (HC.out _).mono ?_
  rintro e w' ⟨rfl, rfl⟩
  go_wp2_with fail
  go_ret
  exact ⟨by simp, rfl⟩
end Go.Proofs.YtiicffceopiooaaGreatDoor
