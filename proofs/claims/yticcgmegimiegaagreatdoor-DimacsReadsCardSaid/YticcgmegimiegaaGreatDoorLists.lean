/- Slices of numbers: what a slice value holds. -/
import Derived.Test.YticcgmegimiegaaGreatDoorOrd
import Derived.RangeFuncBox
import Derived.RangeFuncNested
import Derived.RangeFuncLeaves
import Derived.Shelf.Abstract
import Derived.Shelf.AbstractIn
import Derived.OwnWalkIn
import Derived.TacticsInMore
import Derived.LoopNIn
import Derived.LoopIn
import Derived.Maps.OwnIn
import Derived.Maps.AppendAt
import Derived.OwnWalk
import Derived.ChangeSlices
import Derived.Sort.Row
import Derived.Laws.AppendOwnNone
namespace Go.Proofs.YticcgmegimiegaaGreatDoor
open Go.ChangeShapes Go.WideShapes Go.ChangeAt Go.RowKit Go.Shelf Go.Sort

theorem infoLit : (Tryz.prog.info? 39).map (fun i => (i.zero, i.size, i.bytes)) = some (some (.int .i64 0), 1, 8) := by kernel_rfl
theorem infoInt : (Tryz.prog.info? 3).map (fun i => (i.zero, i.size, i.bytes)) = some (some (.int .i64 0), 1, 8) := by kernel_rfl

/-- The slice value sv holds the numbers zs of kind k, in a block below B. -/
def IntsK (k : IntKind) (B : Nat) (W : World) (sv : Value) (zs : List Int) : Prop :=
  (∃ A c, sv = .slice A 0 c ∧ (A = none → c = 0) ∧ zs = []) ∨ ∃ b off cap, sv = .slice (some ⟨b, off, none⟩) zs.length cap ∧ b < B ∧ ∀ j, j < zs.length → W.cell? ⟨b, off + j, none⟩ = some (.int k (zs[j]?.getD 0))
abbrev Ints := IntsK .i64
theorem IntsK.below {k : IntKind} {B : Nat} {X Y : World} (h : Below B X Y) {sv : Value} {zs : List Int} : IntsK k B X sv zs → IntsK k B Y sv zs
  | .inl e => .inl e
  | .inr ⟨b, off, cap, e, hb, hc⟩ => .inr ⟨b, off, cap, e, hb, fun j hj => (h.cell (p := ⟨b, off + j, none⟩) hb).trans (hc j hj)⟩
theorem IntsK.more {k : IntKind} {B B' : Nat} (h : B ≤ B') {X : World} {sv : Value} {zs : List Int} : IntsK k B X sv zs → IntsK k B' X sv zs
  | .inl e => .inl e
  | .inr ⟨b, off, cap, e, hb, hc⟩ => .inr ⟨b, off, cap, e, by omega, hc⟩
/-- .. and none of its cells is frozen. -/
def Lits (B : Nat) (W : World) (sv : Value) (zs : List Int) : Prop :=
  (∃ A c, sv = .slice A 0 c ∧ (A = none → c = 0) ∧ zs = []) ∨ ∃ b off cap, sv = .slice (some ⟨b, off, none⟩) zs.length cap ∧ b < B ∧ Holds (Value.int .i64) W b off zs.toArray
theorem bang_get (zs : List Int) (j : Nat) : zs.toArray[j]! = zs[j]?.getD 0 := by
  rw [Array.getElem!_eq_getD, Array.getD_eq_getD_getElem?, List.getElem?_toArray]; rfl
theorem Lits.ints {B : Nat} {W : World} {sv : Value} {zs : List Int} : Lits B W sv zs → Ints B W sv zs
  | .inl e => .inl e
  | .inr ⟨b, off, cap, e, hb, hc⟩ => .inr ⟨b, off, cap, e, hb, fun j hj => by rw [(hc j (by simpa using hj)).1, bang_get]⟩
theorem Lits.below {B : Nat} {X Y : World} (h : Below B X Y) {sv : Value} {zs : List Int} : Lits B X sv zs → Lits B Y sv zs
  | .inl e => .inl e
  | .inr ⟨b, off, cap, e, hb, hc⟩ => .inr ⟨b, off, cap, e, hb, fun j hj => ⟨(h.cell (p := ⟨b, off + j, none⟩) hb).trans (hc j hj).1, (h.frozen (p := ⟨b, off + j, none⟩) hb).trans (hc j hj).2⟩⟩
theorem Lits.more {B B' : Nat} (h : B ≤ B') {X : World} {sv : Value} {zs : List Int} : Lits B X sv zs → Lits B' X sv zs
  | .inl e => .inl e
  | .inr ⟨b, off, cap, e, hb, hc⟩ => .inr ⟨b, off, cap, e, by omega, hc⟩
/-- One word for both: on to a later world. -/
theorem Lits.on {W W' : World} (h : Below W.heap.size W W') {sv : Value} {zs : List Int} (k : Lits W.heap.size W sv zs) : Lits W'.heap.size W' sv zs := (k.below h).more h.size
theorem IntsK.on {k : IntKind} {W W' : World} (h : Below W.heap.size W W') {sv : Value} {zs : List Int} (c : IntsK k W.heap.size W sv zs) : IntsK k W'.heap.size W' sv zs := (c.below h).more h.size
theorem lits_own {W : World} {base : Nat} {e : TypeId} {v : Value} {n : Nat} {xs : List Int} (h : W.ownsRow base e 1 v n (xs.map (Value.int .i64))) : Lits W.heap.size W v xs := by
  have hl : xs.length = n := by simpa using h.1
  rcases h.2 with ⟨rfl, h0⟩ | ⟨g, cap, cur, rfl, hb, hg, hn, hm, hs, ht⟩
  · subst h0
    exact .inl ⟨_, _, rfl, fun _ => rfl, List.eq_nil_of_length_eq_zero hl⟩
  · refine .inr ⟨g, 0, cap, by rw [hl], (h.lt g rfl).2, fun j hj => ?_⟩
    have hj' : j < xs.length := by simpa using hj
    rw [Nat.zero_add, bang_get]
    refine ⟨?_, h.frozenAt j⟩
    rw [h.cellAt j (by omega), List.getElem?_map]
    simp [hj']
theorem ints_own {W : World} {base : Nat} {e : TypeId} {v : Value} {n : Nat} {xs : List Int} (h : W.ownsRow base e 1 v n (xs.map (Value.int .i64))) : Ints W.heap.size W v xs := (lits_own h).ints
theorem owns_mono {W : World} {base base' : Nat} {e : TypeId} {k n : Nat} {v : Value} {xs : List Value} (h : W.ownsRow base e k v n xs) (hb : base' ≤ base) : W.ownsRow base' e k v n xs := by
  refine ⟨h.1, ?_⟩
  rcases h.2 with h0 | ⟨g, cap, cur, h1, h2, r⟩
  · exact .inl h0
  · exact .inr ⟨g, cap, cur, h1, Nat.le_trans hb h2, r⟩
/-- What is handed back: a slice of the call's own, of element type e. -/
def OwnsE (e : TypeId) (w : World) (zs : List Int) (v : Value) (w' : World) : Prop :=
  w'.ownsRow w.heap.size e 1 v zs.length (zs.map (Value.int .i64)) ∧ (v = .slice none 0 0 ↔ zs = []) ∧ Below w.heap.size w w'
theorem ints_shape {B : Nat} {w : World} {sv : Value} {zs : List Int} (h : Ints B w sv zs) : ∃ A cap, sv = .slice A zs.length cap ∧ ∀ k, k < zs.length → ∃ b off, A = some ⟨b, off, none⟩ ∧ b < B ∧ w.cell? ⟨b, off + k, none⟩ = some (.int .i64 (zs[k]?.getD 0)) := by
  rcases h with ⟨A, c, rfl, -, rfl⟩ | ⟨b, off, cap, rfl, hb, hc⟩
  · exact ⟨A, c, rfl, fun k hk => absurd hk (Nat.not_lt_zero _)⟩
  · exact ⟨_, cap, rfl, fun k hk => ⟨b, off, rfl, hb, hc k hk⟩⟩
theorem addr_add (b off j : Nat) : (⟨b, off, none⟩ : Addr).add j = ⟨b, off + j, none⟩ := by
  unfold Addr.add
  split
  · subst_vars; rfl
  · rfl
/-- As the source of an append: nil, or cells in order. -/
theorem IntsK.src {k : IntKind} {B : Nat} {W : World} {v : Value} {xs : List Int} (h : IntsK k B W v xs) : (v = .slice none 0 0 ∧ xs = []) ∨ ∃ ad c, v = .slice (some ad) xs.length c ∧ ∀ (j : Nat) (u : Value), (xs.map (Value.int k))[j]? = some u → W.cell? (ad.add j) = some u := by
  rcases h with ⟨A, c, rfl, h0, rfl⟩ | ⟨b, off, cap, rfl, hb, hc⟩
  · cases A with
    | none => rw [h0 rfl]; exact .inl ⟨rfl, rfl⟩
    | some ad => exact .inr ⟨ad, c, rfl, fun j u hu => by simp at hu⟩
  · refine .inr ⟨_, cap, rfl, fun j u hu => ?_⟩
    rw [List.getElem?_map] at hu
    cases hx : xs[j]? with
    | none => rw [hx] at hu; cases hu
    | some x =>
      have hj : j < xs.length := (List.getElem?_eq_some_iff.1 hx).1
      rw [addr_add, hc j hj, hx]
      rw [hx] at hu
      exact hu
theorem news_one (k : IntKind) (xs : List Int) : ∀ u ∈ xs.map (Value.int k), u.oneCell' = true := by
  intro u hu
  obtain ⟨x, -, rfl⟩ := List.mem_map.1 hu
  simp [Value.oneCell']
theorem take_one (zs : List Int) {k : Nat} (h : k < zs.length) : zs.take (k + 1) = zs.take k ++ [zs[k]?.getD 0] := take_snoc2 zs h
/-- append of a slice of numbers, nil, empty or not, to a slice of the call's own. -/
theorem wpList_append_ints {P : Program} {w : World} {ops : Array Oper} {rest : List Oper} {o : Oper} {a : Act} {Q : Exit → Act → World → Prop} (hgd : o.guard = none) (s x : Operand) (t : TypeId)
    (ho : o.op = .call { callee := .builtin .append, args := #[s, x], argTypes := #[t, t] })
    (base : Nat) (e : TypeId) (i : TypeInfo) (z : Value) (bytes : Nat) (ht : P.underlying t = some (.slice e)) (hi : P.info? e = some i) (hz : i.zero = some z)
    (hsize : i.size = 1) (hby : i.bytes = bytes) (hzs : z.cells.size = 1)
    (v : Value) (n : Nat) (l : List Value) (hs : a.eval s = v) (hown : w.ownsRow base e 1 v n l)
    (k : IntKind) (B : Nat) (xv : Value) (xs : List Int) (hx : a.eval x = xv) (hI : IntsK k B w xv xs)
    (h63 : n + xs.length ≤ maxLen) (hbytes : (n + xs.length) * bytes ≤ 140737488355328) (hbase : base ≤ w.heap.size)
    (h : ∀ v' w', w'.ownsRow base e 1 v' (n + xs.length) (l ++ xs.map (Value.int k)) → Below base w w' → wpList P ops Q rest (a.put o.dst v') w') : wpList P ops Q (o :: rest) a w := by
  rcases hI.src with ⟨rfl, rfl⟩ | ⟨ad, c, rfl, hnew⟩
  · exact wpList_append_own_none hgd s x t ho base e i 1 ht hi v n l hs hown hx (h v w (by simpa using hown) (Below.refl _ _))
  · exact wpList_append_own w hgd s x t ho base e i z 1 bytes ht hi hz hsize hby hzs (by decide) v n l hs hown ad xs.length c (xs.map (Value.int k)) hx (by simp) hnew (news_one k xs) h63 hbytes hbase
      fun v' w' h1 h2 _ => h v' w' h1 ((Below.refl _ _).grown h2 hbase fun j e => (hown.lt j e).1)
/-- A literal row that the code has just laid. -/
theorem lits_laid (w : World) (xs : List Int) (T : TypeId) : Lits (w.alloc (.cells ((xs.map (Value.int .i64)).toArray) T)).heap.size (w.alloc (.cells ((xs.map (Value.int .i64)).toArray) T)) (.slice (some ⟨w.heap.size, 0, none⟩) xs.length xs.length) xs := by
  refine .inr ⟨_, _, _, rfl, by simp, fun j hj => ?_⟩
  have hj' : j < xs.length := by simpa using hj
  rw [bang_get]
  constructor
  · rw [cell_of_row _ _ (0 + j) _ _ (0, 0) (World.alloc_heap_new w _)]
    simp [hj']
  · rw [Nat.zero_add]
    unfold World.frozen?
    rw [World.alloc_heap_new w]
    rfl
end Go.Proofs.YticcgmegimiegaaGreatDoor
