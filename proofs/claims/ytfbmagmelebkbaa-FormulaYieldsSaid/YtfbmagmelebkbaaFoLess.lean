/- salvorlaw05.less. -/
import Derived.Test.YtfbmagmelebkbaaFoSteps
namespace Go.Proofs.Ytfbmagmelebkbaa
open Go.RowKit Go.ChangeAt Go.ChangeShapes Go.WideShapes Go.Shelf Go.Sort

theorem less_any {C : Nat} {v v' : Value} {L L' : List Bool} (w : World) (hn : L.length ≤ 1000000000) (hl : L.length = L'.length) (hL : Bools C w v L) (hL' : Bools C w v' L') :
    Calls Try.prog 23 #[v, v'] w fun e w' => e = .returned (.bool (lexB L L')) ∧ ∃ q, w' = w.drewN q := by
  obtain ⟨A, cap, rfl, hat⟩ := bools_shape hL
  obtain ⟨A', cap', rfl, hat'⟩ := bools_shape hL'
  have hmin : min (L.length : Int) (L.length : Int) = (L.length : Int) := by omega
  have HAt := Lib.hid hat; have HAt' := Lib.hid hat'; have HLn := Lib.hid hl
  rw [← hl]
  clear hat hat' hL hL' hl
  go_enter Try.func23, Try.ntmps23
  go_wp2_with fail
  go_loopw [11] (fun i wr => ∃ k q : Nat, k ≤ L.length ∧ i = .int .i64 k ∧ wr = w.drewN q ∧ lexB L L' = lexB (L.drop k) (L'.drop k)) (fun i _ => L.length - (intOf i).toNat)
  case atStart => exact ⟨0, 0, Nat.zero_le _, rfl, rfl, rfl⟩
  case round =>
    obtain ⟨k, q, hk, rfl, rfl, hdr⟩ := hrel
    by_cases hlt : k < L.length
    · have hlt' : k < L'.length := by have := HLn.out; omega
      obtain ⟨b, hx⟩ : ∃ b, L[k]? = some b := ⟨_, List.getElem?_eq_getElem hlt⟩
      obtain ⟨c, hy⟩ : ∃ c, L'[k]? = some c := ⟨_, List.getElem?_eq_getElem hlt'⟩
      obtain ⟨b1, o1, rfl, -, hc⟩ := HAt.out k hlt
      obtain ⟨b2, o2, rfl, -, hc'⟩ := HAt'.out k hlt'
      rw [hx, Option.getD_some] at hc
      rw [hy, Option.getD_some] at hc'
      have e1 : L.drop k = b :: L.drop (k + 1) := by
        rw [List.drop_eq_getElem_cons hlt]; congr 1
        rw [List.getElem?_eq_getElem hlt] at hx; exact Option.some.inj hx
      have e2 : L'.drop k = c :: L'.drop (k + 1) := by
        rw [List.drop_eq_getElem_cons hlt']; congr 1
        rw [List.getElem?_eq_getElem hlt'] at hy; exact Option.some.inj hy
      rw [e1, e2, lexB] at hdr
      have hki : (k : Int) < (L.length : Int) := by omega
      have HNx := Lib.hid hlt; have HD := Lib.hid hdr
      clear hx hy e1 e2 HAt HAt' hlt hlt' hdr
      cases b <;> cases c
      all_goals
        go_upto_region 4 with fail
        go_quiet (fail)
        go_wp2_with fail
        first
          | (go_ret
             exact ⟨by rw [HD.out]; rfl, q + nq, by first | rfl | exact World.drewN_drewN _ _ _⟩)
          | (go_roundw
             case rel => exact ⟨k + 1, q + nq, HNx.out, by go_num, by first | rfl | exact World.drewN_drewN _ _ _, by rw [HD.out]; rfl⟩
             case measure => simp [intOf]; have := HNx.out; omega)
    · obtain rfl : k = L.length := by omega
      rw [List.drop_length, HLn.out, List.drop_length] at hdr
      have HD := Lib.hid hdr
      clear hdr HAt HAt'
      go_wp2_with fail
      go_ret
      exact ⟨by rw [HD.out]; simp [lexB], _, rfl⟩
end Go.Proofs.Ytfbmagmelebkbaa
