/- slices.IndexFunc, slices.ContainsFunc at lists of models, with any function that is known. -/
import Derived.Test.YtmghmmkljplnfaaGreatFoEv
namespace Go.Proofs.YtmghmmkljplnfaaGreat
open Go.RowKit Go.ChangeAt Go.ChangeShapes Go.WideShapes Go.Shelf Go.Sort

def IxRel (w : World) (fs : List (Value × List (List Int))) (ms : List (Value × List Bool)) (rs : List (Value × List (List Bool))) (ss : List (Nat × TypeId × Array Value)) (ds : List Nat) (p : List Bool → Bool) (l : List (List Bool)) (i : Value) (wr : World) : Prop := ∃ k : Nat, k ≤ l.length ∧ i = .int .i64 k ∧ (l.take k).any p = false ∧ Ev w wr fs ms rs ss ds
theorem any_find {α : Type} {p : α → Bool} {l : List α} {k : Nat} {x : α} (hx : l[k]? = some x) (hp : p x = true) : l.any p = true := List.any_eq_true.2 ⟨x, List.mem_of_getElem? hx, hp⟩
set_option maxRecDepth 100000 in
set_option maxHeartbeats 1000000 in
theorem indexF_any {w W : World} {fs : List (Value × List (List Int))} {ms : List (Value × List Bool)} {rs : List (Value × List (List Bool))} {ss : List (Nat × TypeId × Array Value)} {ds : List Nat} {A : Option Addr} {K c : Nat} {l : List (List Bool)} (F : Nat) (env : Array Value) (p : List Bool → Bool) (h : Ev w W fs ms rs ss ds) (hp : (Value.slice A K c, l) ∈ rs) (hK : l.length = K) (hK2 : K ≤ 1000000) (hen : ∀ args w, (callFunc F args).run Tryz.prog w = .ok (.enter F args) w)
    (hF : ∀ W v x, Ev w W fs ms rs ss ds → Bools W.heap.size W v x → x ∈ l → Calls Tryz.prog F (#[v] ++ env) W fun e w' => e = .returned (.bool (p x)) ∧ Ev w w' fs ms rs ss ds) :
    Calls Tryz.prog 59 #[.slice A K c, .func (.func F) #[] env] W fun e w' => ∃ i : Int, e = .returned (.int .i64 i) ∧ decide (0 ≤ i) = l.any p ∧ Ev w w' fs ms rs ss ds := by
  have H := Lib.hid h; have HF := Lib.hid hF; have HP := Lib.hid hp; have HK := Lib.hid hK
  clear h hF hp hK
  go_enter Tryz.func59, Tryz.ntmps59
  go_wp2_with fail
  go_loopw [8] (fun i wr => IxRel w fs ms rs ss ds p l i wr) (fun i _ => K - (intOf i).toNat)
  case atStart => exact ⟨0, Nat.zero_le _, rfl, rfl, H.out⟩
  case round =>
    obtain ⟨k, hk, rfl, htk, hev⟩ := hrel
    by_cases hlt : k < K
    · obtain ⟨x, hx⟩ : ∃ x, l[k]? = some x := ⟨_, List.getElem?_eq_getElem (by have := HK.out; omega)⟩
      obtain ⟨b, off, As, cs, e1, hc, hbl⟩ := ev_at (Aa := A) (K := K) (ca := c) hev HP.out hx
      subst e1
      have hcl := HF.out wr (.slice As x.length cs) x hev hbl (List.mem_of_getElem? hx)
      have hone : (l.take (k + 1)).any p = p x := by rw [List.take_add_one, hx, List.any_append, htk]; simp
      have hki : (k : Int) < (K : Int) := by omega
      have HCl := Lib.hid hcl; have HNx := Lib.hid hlt; have HX := Lib.hid hx; have HOn := Lib.hid hone
      clear hcl hev hx hlt hbl htk hone
      obtain ⟨t, ht⟩ : ∃ t, p x = t := ⟨_, rfl⟩
      have HT := Lib.hid ht
      rw [ht] at HCl HOn
      clear ht H
      cases t
      · go_wp2_with fail
        refine HCl.out.mono ?_
        rintro e w1 ⟨rfl, h1⟩
        have H1 := Lib.hid h1
        clear h1
        go_wp2_with fail
        go_roundw
        case rel => exact ⟨k + 1, by have := HNx.out; have := HK.out; omega, by go_num, HOn.out, H1.out⟩
        case measure => simp [intOf]; have := HNx.out; omega
      · go_wp2_with fail
        refine HCl.out.mono ?_
        rintro e w1 ⟨rfl, h1⟩
        have H1 := Lib.hid h1
        clear h1
        go_wp2_with fail
        go_ret
        exact ⟨k, rfl, by rw [any_find HX.out HT.out]; exact decide_eq_true (Int.natCast_nonneg k), H1.out⟩
    · obtain rfl : k = K := by have := HK.out; omega
      have hall : l.any p = false := by rw [← htk, List.take_of_length_le (by have := HK.out; omega)]
      have HAll := Lib.hid hall; have HEv := Lib.hid hev
      clear hall htk hev H
      go_wp2_with fail
      go_ret
      exact ⟨-1, rfl, by rw [HAll.out]; rfl, HEv.out⟩
set_option maxRecDepth 100000 in
set_option maxHeartbeats 1000000 in
theorem containsF_any {w W : World} {fs : List (Value × List (List Int))} {ms : List (Value × List Bool)} {rs : List (Value × List (List Bool))} {ss : List (Nat × TypeId × Array Value)} {ds : List Nat} {A : Option Addr} {K c : Nat} {l : List (List Bool)} (F : Nat) (env : Array Value) (p : List Bool → Bool) (h : Ev w W fs ms rs ss ds) (hp : (Value.slice A K c, l) ∈ rs) (hK : l.length = K) (hK2 : K ≤ 1000000) (hen : ∀ args w, (callFunc F args).run Tryz.prog w = .ok (.enter F args) w)
    (hF : ∀ W v x, Ev w W fs ms rs ss ds → Bools W.heap.size W v x → x ∈ l → Calls Tryz.prog F (#[v] ++ env) W fun e w' => e = .returned (.bool (p x)) ∧ Ev w w' fs ms rs ss ds) :
    Calls Tryz.prog 23 #[.slice A K c, .func (.func F) #[] env] W fun e w' => e = .returned (.bool (l.any p)) ∧ Ev w w' fs ms rs ss ds := by
  have hix := indexF_any F env p h hp hK hK2 hen hF
  have HIx := Lib.hid hix
  clear hix h hp hK hF hen
  go_enter Tryz.func23, Tryz.ntmps23
  go_wp2_with fail
  refine HIx.out.mono ?_
  rintro e w1 ⟨i, rfl, hi, h1⟩
  have H1 := Lib.hid h1; have HI := Lib.hid hi
  clear h1 hi
  go_wp2_with fail
  go_ret
  exact ⟨by rw [← HI.out]; rfl, H1.out⟩
end Go.Proofs.YtmghmmkljplnfaaGreat
