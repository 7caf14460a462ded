/- append of a slice of numbers to a row of the call's own, where the two bear different types; where the new row lies. -/
import Derived.Test.YticcgmegimiegaaGreatDoorObj
import Derived.Maps.AppendAt
namespace Go.Proofs.YticcgmegimiegaaGreatDoor
open Go.RowKit Go.Sort

theorem append_types {P : Program} {t tx e : TypeId} (ht : P.underlying t = some (.slice e)) (hx : P.underlying tx = some (.slice e)) {i : TypeInfo} (hi : P.info? e = some i) (ty : TypeId) (A' : Option Addr) (n d : Nat) (A : Option Addr) (m c : Nat) (w : World) :
    (Builtin.append_ #[t, tx] ty #[.slice A' n d, .slice A m c]).run P w = (Builtin.append_ #[t, t] ty #[.slice A' n d, .slice A m c]).run P w := by
  simp [Builtin.append_, run_underlying ht, run_underlying hx, sizeOf, typeInfo, hi, Result.andThen, Builtin.lenOf]
theorem own_shape0 {w : World} {base : Nat} {e : TypeId} {size n : Nat} {v : Value} {xs : List Value} (h : w.ownsRow base e size v n xs) : ∃ A c, v = .slice A n c := by
  rcases h.2 with ⟨rfl, rfl⟩ | ⟨g, cap, cur, rfl, -⟩
  · exact ⟨_, _, rfl⟩
  · exact ⟨_, _, rfl⟩
/-- Behind such an append: the row, and where it lies. -/
theorem run_append2 {P : Program} {w : World} (t tx ty e : TypeId) (i : TypeInfo) (z : Value) (bytes : Nat) (ht : P.underlying t = some (.slice e)) (htx : P.underlying tx = some (.slice e)) (hi : P.info? e = some i) (hz : i.zero = some z)
    (hsize : i.size = 1) (hby : i.bytes = bytes) (hzs : z.cells.size = 1) (base : Nat) (v : Value) (n : Nat) (l : List Value) (hown : w.ownsRow base e 1 v n l)
    (k : IntKind) (B : Nat) (xv : Value) (xs : List Int) (hI : IntsK k B w xv xs) (h63 : n + xs.length ≤ maxLen) (hbytes : (n + xs.length) * bytes ≤ 140737488355328) (hbase : base ≤ w.heap.size) :
    ∃ v' w', (Builtin.append_ #[t, tx] ty #[v, xv]).run P w = .ok v' w' ∧ w'.ownsRow base e 1 v' (n + xs.length) (l ++ xs.map (Value.int k)) ∧ w.grownBy w' v.ownBlock ∧ (v'.ownBlock = v.ownBlock ∨ v'.ownBlock = some w.heap.size) := by
  obtain ⟨A', d, rfl⟩ := own_shape0 hown
  rcases hI.src with ⟨rfl, rfl⟩ | ⟨ad, c, rfl, hnew⟩
  · have hrun := run_append_owned_none (P := P) (w := w) base t ty e i 1 ht hi _ n l hown
    rw [← append_types ht htx hi] at hrun
    exact ⟨_, w, hrun, by simpa using hown, ⟨rfl, rfl, rfl, Nat.le_refl _, fun _ _ _ => rfl⟩, .inl rfl⟩
  · obtain ⟨v', w', hrun, h2, h3, _, h5⟩ := run_append_own_at (P := P) w base t ty e i z 1 bytes ht hi hz hsize hby hzs (by decide) _ n l hown ad xs.length c (xs.map (Value.int k)) (by simp) hnew (news_one k xs) h63 hbytes hbase
    rw [← append_types ht htx hi] at hrun
    exact ⟨v', w', hrun, h2, h3, h5⟩
theorem wp_append2 {P : Program} {w : World} {o : Oper} {a : Act} {K : Act → World → Prop} {Q : Exit → Act → World → Prop} (s x : Operand) (t tx : TypeId)
    (ho : o.op = .call { callee := .builtin .append, args := #[s, x], argTypes := #[t, tx] }) (e : TypeId) (i : TypeInfo) (z : Value) (bytes : Nat) (ht : P.underlying t = some (.slice e)) (htx : P.underlying tx = some (.slice e)) (hi : P.info? e = some i) (hz : i.zero = some z)
    (hsize : i.size = 1) (hby : i.bytes = bytes) (hzs : z.cells.size = 1) (base : Nat) (v : Value) (n : Nat) (l : List Value) (hs : a.eval s = v) (hown : w.ownsRow base e 1 v n l)
    (k : IntKind) (B : Nat) (xv : Value) (xs : List Int) (hx : a.eval x = xv) (hI : IntsK k B w xv xs) (h63 : n + xs.length ≤ maxLen) (hbytes : (n + xs.length) * bytes ≤ 140737488355328) (hbase : base ≤ w.heap.size)
    (h : ∀ v' w', w'.ownsRow base e 1 v' (n + xs.length) (l ++ xs.map (Value.int k)) → w.grownBy w' v.ownBlock → (v'.ownBlock = v.ownBlock ∨ v'.ownBlock = some w.heap.size) → K (a.put o.dst v') w') : o.wp P a w K Q := by
  obtain ⟨v', w', hr, h2, h3, h4⟩ := run_append2 (P := P) t tx o.type e i z bytes ht htx hi hz hsize hby hzs base v n l hown k B xv xs hI h63 hbytes hbase
  unfold Oper.wp execOp
  simp only [ho, resolve, invoke, builtin, Sem.run_bind, Sem.run_pure, Result.andThen_ok, List.map_toArray, List.map_cons, List.map_nil, hs, hx, hr]
  exact h v' w' h2 h3 h4
theorem wpList_append2 {P : Program} {w : World} {ops : Array Oper} {rest : List Oper} {o : Oper} {a : Act} {Q : Exit → Act → World → Prop} (hgd : o.guard = none) (s x : Operand) (t tx : TypeId)
    (ho : o.op = .call { callee := .builtin .append, args := #[s, x], argTypes := #[t, tx] }) (e : TypeId) (i : TypeInfo) (z : Value) (bytes : Nat) (ht : P.underlying t = some (.slice e)) (htx : P.underlying tx = some (.slice e)) (hi : P.info? e = some i) (hz : i.zero = some z)
    (hsize : i.size = 1) (hby : i.bytes = bytes) (hzs : z.cells.size = 1) (base : Nat) (v : Value) (n : Nat) (l : List Value) (hs : a.eval s = v) (hown : w.ownsRow base e 1 v n l)
    (k : IntKind) (B : Nat) (xv : Value) (xs : List Int) (hx : a.eval x = xv) (hI : IntsK k B w xv xs) (h63 : n + xs.length ≤ maxLen) (hbytes : (n + xs.length) * bytes ≤ 140737488355328) (hbase : base ≤ w.heap.size)
    (h : ∀ v' w', w'.ownsRow base e 1 v' (n + xs.length) (l ++ xs.map (Value.int k)) → w.grownBy w' v.ownBlock → (v'.ownBlock = v.ownBlock ∨ v'.ownBlock = some w.heap.size) → wpList P ops Q rest (a.put o.dst v') w') : wpList P ops Q (o :: rest) a w :=
  wpList_plain hgd fun _ hK => wp_append2 s x t tx ho e i z bytes ht htx hi hz hsize hby hzs base v n l hs hown k B xv xs hx hI h63 hbytes hbase fun v' w' h2 h3 h4 => hK _ _ (h v' w' h2 h3 h4)

theorem grownBy_set (W : World) (g i : Nat) (u : Value) : W.grownBy (W.setCell ⟨g, i, none⟩ u) (some g) :=
  ⟨rfl, rfl, rfl, by simp [World.setCell], fun k _ hk => Below.heap_setCell _ _ _ _ (fun e => hk (by rw [e]))⟩
/-- One step of an object at once: block g and row, or what is new, may have been written. -/
theorem Turn.grown {K K' : Nat → Prop} {a w w' : World} (h : Turn K a K' w) {row : Option Nat} (hg : w.grownBy w' row) (hr : ∀ r, row = some r → K' r ∨ w.heap.size ≤ r) : Turn K a K' w' :=
  ⟨h.1.grown hg (fun r e => by
    rcases hr r e with x | x
    · exact h.2 r x
    · exact .inr (Nat.le_trans h.1.size x)), h.2⟩
theorem Turn.more {K K' K2 : Nat → Prop} {a w : World} (h : Turn K a K' w) (hk : ∀ i, K2 i → K' i ∨ a.heap.size ≤ i) : Turn K a K2 w :=
  ⟨h.1, fun i x => by
    rcases hk i x with y | y
    · exact h.2 i y
    · exact .inr y⟩
end Go.Proofs.YticcgmegimiegaaGreatDoor
