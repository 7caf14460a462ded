/- The laws' lists of calls that come in: three numbers each. -/
import Derived.Test.YtdeedmfofjdbjaaPlain
import Derived.Test.YtdeedmfofjdbjaaRefTr
import Derived.Deep.Matrix
import Derived.Deep.Slices
import Derived.Deep.Fields
import Derived.ChangeSame
import Derived.SizedLaws
namespace Go.Proofs.Ytdeedmfofjdbjaa
open Go.ChangeShapes Go.WideShapes Go.ChangeAt Go.RowKit Go.Deep

section
variable {H : Type} {enc : TypeId × Value → H} {P : Program} {w : World} {base : Nat} {spare : Nat → Bool} {held : Bool}
theorem open_slice_fields {t e : TypeId} {fs : Array Field} {fuel : Nat} {cs : List Value} {x : DataW H × List MemPlace} (ht : P.underlying t = some (.slice e)) (he : P.underlying e = some (.struct fs))
    (hone : oneCellFields P fs = true) (hC : P.cellsOf e = fs.size) (h : DataW.trod enc P w base spare held fuel t cs = some x) :
    (cs = [.slice none 0 0] ∧ x = (.nil, [])) ∨
    ∃ (a : Addr) (len cap m : Nat) (elems rest : List (DataW H)), cs = [.slice (some a) len cap] ∧ base ≤ a.block ∧ len ≤ cap ∧ cap ≤ maxLen ∧ m = (if spare a.block then cap else len) ∧ x.1 = .slice elems rest ∧
      ∀ i, i < m → ∃ (n : Nat) (d : List (DataW H)), (i < len → .agg d ∈ elems) ∧ ∀ (j : Nat) (f : Field), fs[j]? = some f → ∃ (v : Value) (y : DataW H × List MemPlace), w.cell? (a.add (i * fs.size + j)) = some v ∧ d[j]? = some y.1 ∧ DataW.trod enc P w base spare held n f.type [v] = some y := by
  rcases open_slice ht h with h0 | ⟨a, len, cap, m, n, D, Pl, hcs, hb, hl, hm, hmm, hx, hi⟩
  · exact .inl h0
  · refine .inr ⟨a, len, cap, m, _, _, hcs, hb, hl, hm, hmm, by rw [hx], fun i him => ?_⟩
    obtain ⟨cs', hc, ht'⟩ := hi i him
    rw [hC] at hc
    obtain ⟨ys, n', -, hy, hlen, hyl, hf⟩ := DataW.trod_struct he ht'
    obtain ⟨_, hcl, hat⟩ := World.cells?_some hc
    simp only [Prod.mk.injEq] at hy
    refine ⟨n', ys.map (·.1), fun hil => by rw [← hy.1]; exact List.mem_map.2 ⟨i, List.mem_range.2 hil, rfl⟩, fun j f hj => ?_⟩
    obtain ⟨ho, hk⟩ := hone_of hone j f hj
    have hjl : j < fs.size := (Array.getElem?_eq_some_iff.1 hj).1
    have hcell := hat j hjl
    have hv : cs'[j]? = some (cs'[j]'(by omega)) := List.getElem?_eq_getElem (by omega)
    have h1 := hf j f hj
    rw [ho, hk] at h1
    have hone' : (cs'.drop j).take 1 = [cs'[j]'(by omega)] := by
      rw [List.drop_eq_getElem_cons (by omega)]
      rfl
    rw [hone'] at h1
    have hys : ys[j]? = some (ys[j]'(by omega)) := List.getElem?_eq_getElem (by omega)
    refine ⟨_, _, ?_, by rw [List.getElem?_map, hys]; rfl, h1.trans hys⟩
    rw [← Go.Deep.add_add, hcell, hv]
end

/-- A call: its kind, its number, its reason. -/
abbrev Act4 := Int × Int × Int
/-- A slice of calls holds the list l; all lies below B. -/
def Acts (B : Nat) (W : World) (v : Value) (l : List Act4) : Prop :=
  (∃ A c, v = .slice A 0 c ∧ (A = none → c = 0) ∧ l = []) ∨ ∃ b off cap, v = .slice (some ⟨b, off, none⟩) l.length cap ∧ l.length ≤ cap ∧ b < B ∧
    ∀ j x, l[j]? = some x → W.cell? ⟨b, off + j * 3, none⟩ = some (.int .u8 x.1) ∧ W.cell? ⟨b, off + j * 3 + 1, none⟩ = some (.int .i64 x.2.1) ∧ W.cell? ⟨b, off + j * 3 + 2, none⟩ = some (.int .i64 x.2.2)
theorem Acts.below {B : Nat} {X Y : World} (h : Below B X Y) {v : Value} {l : List Act4} : Acts B X v l → Acts B Y v l
  | .inl e => .inl e
  | .inr ⟨b, off, cap, e, hc, hb, hj⟩ => .inr ⟨b, off, cap, e, hc, hb, fun j x hx => by
      obtain ⟨h1, h2, h3⟩ := hj j x hx
      exact ⟨(h.cell (p := ⟨b, off + j * 3, none⟩) hb).trans h1, (h.cell (p := ⟨b, off + j * 3 + 1, none⟩) hb).trans h2, (h.cell (p := ⟨b, off + j * 3 + 2, none⟩) hb).trans h3⟩⟩
theorem Acts.more {B B' : Nat} (h : B ≤ B') {W : World} {v : Value} {l : List Act4} : Acts B W v l → Acts B' W v l
  | .inl e => .inl e
  | .inr ⟨b, off, cap, e, hc, hb, hj⟩ => .inr ⟨b, off, cap, e, hc, Nat.lt_of_lt_of_le hb h, hj⟩
theorem Acts.shape {B : Nat} {W : World} {v : Value} {l : List Act4} (h : Acts B W v l) : ∃ A cap, v = .slice A l.length cap ∧ (A = none → cap = 0) ∧ l.length ≤ cap ∧
    ∀ j x, l[j]? = some x → ∃ b off, A = some ⟨b, off, none⟩ ∧ b < B ∧ W.cell? ⟨b, off + j * 3, none⟩ = some (.int .u8 x.1) ∧ W.cell? ⟨b, off + j * 3 + 1, none⟩ = some (.int .i64 x.2.1) ∧ W.cell? ⟨b, off + j * 3 + 2, none⟩ = some (.int .i64 x.2.2) := by
  rcases h with ⟨A, c, rfl, hA, rfl⟩ | ⟨b, off, cap, rfl, hc, hb, hj⟩
  · exact ⟨A, c, rfl, hA, Nat.zero_le _, fun j x hj => by simp at hj⟩
  · exact ⟨_, cap, rfl, (fun e => by cases e), hc, fun j x hlt => by
      obtain ⟨h1, h2, h3⟩ := hj j x hlt
      exact ⟨b, off, rfl, hb, h1, h2, h3⟩⟩
/-- What holds of each call that comes in. -/
def ActOk (x : Act4) : Prop := (Lit.int .u8 x.1).wf = true ∧ (Lit.int .i64 x.2.1).wf = true ∧ (Lit.int .i64 x.2.2).wf = true
theorem acts_of {H : Type} {enc : TypeId × Value → H} {W : World} {r : Reach} {base b0 : Nat} {hd : Bool} {v : Value} {d : DataW H} {ps : List MemPlace}
    (hval : Value.okWide Try.prog W r b0 22 v) (h : DataW.Trod enc Try.prog W base (fun _ => true) hd 22 v d ps) (_hsz : ∀ n ∈ d.weights Try.prog 22, n ≤ reachBytes) : ∃ l, Acts W.heap.size W v l ∧ l.length ≤ maxLen ∧ ∀ x ∈ l, ActOk x := by
  obtain ⟨a0, len, cap, rfl⟩ := okWide_slice Try.underlying22 hval
  obtain ⟨fuel, hf⟩ := h
  rcases open_slice_fields Try.underlying22 Try.underlying26 (by kernel_rfl) (by kernel_rfl) hf with ⟨hcs, -⟩ | ⟨a, len', cap', m, elems, rest, hcs, -, hl, hm, hmm, hx, hr⟩
  · simp [Value.cells] at hcs
    obtain ⟨rfl, rfl, rfl⟩ := hcs
    exact ⟨[], .inl ⟨_, _, rfl, fun _ => rfl, rfl⟩, Nat.zero_le _, fun x hx => by cases hx⟩
  · simp [Value.cells] at hcs
    obtain ⟨rfl, rfl, rfl⟩ := hcs
    simp only [if_true] at hmm
    subst hmm
    have hone : ∀ i, i < len → ∃ (x : Act4), W.cell? (a.add (i * 3 + 0)) = some (.int .u8 x.1) ∧ W.cell? (a.add (i * 3 + 1)) = some (.int .i64 x.2.1) ∧ W.cell? (a.add (i * 3 + 2)) = some (.int .i64 x.2.2) ∧ ActOk x := fun i hi => by
      obtain ⟨n, ds, hin, hj⟩ := hr i (by omega)
      obtain ⟨v0, y0, c0, -, t0⟩ := hj 0 _ rfl
      obtain ⟨v1, y1, c1, -, t1⟩ := hj 1 _ rfl
      obtain ⟨v2, y2, c2, -, t2⟩ := hj 2 _ rfl
      obtain ⟨k0, e0, -, w0⟩ := DataW.trod_int Try.underlying5 t0
      obtain ⟨k1, e1, -, w1⟩ := DataW.trod_int Try.underlying3 t1
      obtain ⟨k2, e2, -, w2⟩ := DataW.trod_int Try.underlying3 t2
      obtain rfl : v0 = _ := by simpa using e0
      obtain rfl : v1 = _ := by simpa using e1
      obtain rfl : v2 = _ := by simpa using e2
      exact ⟨(k0, k1, k2), c0, c1, c2, w0, w1, w2⟩
    obtain ⟨f, hf⟩ := choose_lt (n := len) hone
    refine ⟨(List.range len).map f, ?_, by simp; omega, fun x hx => ?_⟩
    · by_cases h0 : len = 0
      · subst h0
        exact .inl ⟨_, _, rfl, (fun e => by cases e), rfl⟩
      · obtain ⟨b, off, sp⟩ := a
        obtain ⟨c0, -⟩ := hf 0 (by omega)
        have hpl : sp = none := by simpa [Addr.add] using World.cell?_spot c0
        subst hpl
        have hadd : ∀ j, (⟨b, off, none⟩ : Addr).add j = ⟨b, off + j, none⟩ := fun j => addr_add b off j
        have hb := World.block_lt_of_cell? W _ c0
        rw [hadd] at hb
        refine .inr ⟨b, off, m, by simp, by simpa using hl, hb, fun j x hj => ?_⟩
        have hj' : j < len := by simpa using (List.getElem?_eq_some_iff.1 hj).1
        obtain rfl : x = f j := by
          have := (List.getElem?_eq_some_iff.1 hj).2
          simpa using this.symm
        obtain ⟨c0, c1, c2, -⟩ := hf j (by omega)
        rw [hadd] at c0 c1 c2
        exact ⟨c0, c1, c2⟩
    · obtain ⟨j, hj, rfl⟩ := List.mem_map.1 hx
      exact (hf j (List.mem_range.1 hj)).2.2.2
end Go.Proofs.Ytdeedmfofjdbjaa
