/- The arena in memory. -/
import Derived.Test.YtjkhhnfmefbohaaObj
import Derived.Test.YtjkhhnfmefbohaaArMath
import Derived.Maps.OwnSet
import Derived.WalkSpells
import Derived.WalkLawsBesides
namespace Go.Proofs.Ytjkhhnfmefbohaa
open Go.RowKit Go.ChangeAt Go.ChangeShapes Go.WideShapes

theorem infoEnt : (Try.prog.info? 77).map (fun i => (i.zero, i.size, i.bytes)) = some (some (.agg #[.int .i64 0, .int .i64 0, .int .i64 0]), 3, 24) := by kernel_rfl
theorem zeroInt (w : World) : (zeroValue 3).run Try.prog w = .ok (.int .i64 0) w := by kernel_rfl
/-- The arena's own cells. -/
def arC (sv ev : Value) (m : Nat) (used last : Int) : Array Value := #[sv, ev, .map (some m), .int .i64 used, .int .i64 last]
/-- Block g is an arena with these entries; all its blocks are in K. -/
def Arena (K : Nat → Prop) (w : World) (g : Nat) (es : List Ent) (last : Int) : Prop :=
  ∃ (sv ev : Value) (m n : Nat) (D : DataW Unit), Whole w g 40 (arC sv ev m (sumL (clO es) : Nat) last) ∧
    w.ownsRow 0 30 1 sv (stO es).length ((stO es).map (Value.int .i64)) ∧ w.ownsRow 0 77 3 ev es.length (entV 0 es) ∧
    w.ownsMap Try.prog 3 (plainElem (H := Unit) Try.prog 3) m n D ∧ (n : Int) ≤ last ∧ IdxE D es ∧ GoodE es last ∧
    K g ∧ K m ∧ (∀ b, sv.ownBlock = some b → K b) ∧ (∀ b, ev.ownBlock = some b → K b) ∧ KOk K w
theorem Arena.good {K : Nat → Prop} {w : World} {g : Nat} {es : List Ent} {last : Int} (h : Arena K w g es last) : GoodE es last := by
  obtain ⟨sv, ev, m, n, D, -, -, -, -, -, -, hg, -⟩ := h
  exact hg
theorem Arena.kok {K : Nat → Prop} {w : World} {g : Nat} {es : List Ent} {last : Int} (h : Arena K w g es last) : KOk K w := by
  obtain ⟨sv, ev, m, n, D, -, -, -, -, -, -, -, -, -, -, -, hk⟩ := h
  exact hk
theorem Arena.on {K : Nat → Prop} {w w' : World} {g : Nat} {es : List Ent} {last : Int} (h : Arena K w g es last) (hb : Below w.heap.size w w') : Arena K w' g es last := by
  obtain ⟨sv, ev, m, n, D, h1, h2, h3, h4, h5, h6, h7, h8, h9, h10, h11, h12⟩ := h
  have hg : w.grownBy w' none := ⟨hb.os, hb.tape, hb.output, hb.size, fun k hk _ => hb.block k hk⟩
  exact ⟨sv, ev, m, n, D, h1.same (hb.block g h1.lt), h2.kept hg (by cases sv.ownBlock <;> simp), h3.kept hg (by cases ev.ownBlock <;> simp), h4.kept hg (by simp), h5, h6, h7, h8, h9, h10, h11, h12.on hb⟩
/-- An object that is none: as its zero value. -/
def NoArena (w : World) (p : Option Addr) : Prop := p = none ∨ ∃ g, p = some ⟨g, 0, none⟩ ∧ Whole w g 40 #[.slice none 0 0, .slice none 0 0, .map none, .int .i64 0, .int .i64 0]

set_option maxHeartbeats 400000 in
theorem exists_yes {K : Nat → Prop} {g : Nat} {es : List Ent} {last : Int} (w : World) (h : Arena K w g es last) : Calls Try.prog 35 #[.pointer (some ⟨g, 0, none⟩)] w fun e w' => e = .returned (.bool true) ∧ w = w' := by
  obtain ⟨sv, ev, m, n, D, hw, -⟩ := h
  have h2 : w.cell? ⟨g, 2, none⟩ = some (.map (some m)) := hw.cell 2
  have hm := fun W => run_neq_map_nil (P := Try.prog) W 38 _ _ (some m) Try.underlying38
  clear hw
  go_enter Try.func35, Try.ntmps35
  go_wp2
  go_ret
  exact ⟨rfl, rfl⟩

theorem Arena.cells {K : Nat → Prop} {w : World} {g : Nat} {es : List Ent} {last : Int} (h : Arena K w g es last) : ∃ (sv ev : Value) (m n : Nat) (D : DataW Unit),
    (w.cell? ⟨g, 0, none⟩ = some sv ∧ w.cell? ⟨g, 1, none⟩ = some ev ∧ w.cell? ⟨g, 2, none⟩ = some (.map (some m)) ∧ w.cell? ⟨g, 3, none⟩ = some (.int .i64 (sumL (clO es) : Nat)) ∧ w.cell? ⟨g, 4, none⟩ = some (.int .i64 last)) ∧ (∀ i, w.frozen? ⟨g, i, none⟩ = false) ∧ g < w.heap.size ∧
    w.ownsRow 0 30 1 sv (stO es).length ((stO es).map (Value.int .i64)) ∧ w.ownsRow 0 77 3 ev es.length (entV 0 es) ∧
    w.ownsMap Try.prog 3 (plainElem (H := Unit) Try.prog 3) m n D ∧ (n : Int) ≤ last ∧ IdxE D es := by
  obtain ⟨sv, ev, m, n, D, h1, h2, h3, h4, h5, h6, -⟩ := h
  exact ⟨sv, ev, m, n, D, ⟨h1.cell 0, h1.cell 1, h1.cell 2, h1.cell 3, h1.cell 4⟩, h1.frozen, h1.lt, h2, h3, h4, h5, h6⟩
/-- The cells of an entry. -/
theorem ent_cells {w : World} {ev : Value} {es : List Ent} {k : Nat} {e : Ent} (h : w.ownsRow 0 77 3 ev es.length (entV 0 es)) (hk : es[k]? = some e) : ∃ b cap, ev = .slice (some ⟨b, 0, none⟩) es.length cap ∧ b < w.heap.size ∧
    w.cell? ⟨b, k * 3, none⟩ = some (.int .i64 e.id) ∧ w.cell? ⟨b, k * 3 + 1, none⟩ = some (.int .i64 (offE es k : Nat)) ∧ w.cell? ⟨b, k * 3 + 2, none⟩ = some (.int .i64 (e.ls.length : Nat)) := by
  have hlt : k < es.length := (List.getElem?_eq_some_iff.1 hk).1
  obtain ⟨a0, a1, a2⟩ := entV_at hk
  have hb := fun b => h.cells (g := b)
  rcases h.2 with ⟨-, h0⟩ | ⟨b, cap, cur, rfl, -, hg, -⟩
  · omega
  · have hc : ∀ j u, (entV 0 es)[j]? = some u → w.cell? ⟨b, j, none⟩ = some u := fun j u hj => by
      have := hb b rfl j u hj
      rwa [addr_add, Nat.zero_add] at this
    exact ⟨b, cap, rfl, (Array.getElem?_eq_some_iff.1 hg).1, hc _ _ a0, hc _ _ a1, hc _ _ a2⟩
theorem keyI (i : Int) (h : (Lit.int .i64 i).wf = true) : keyOf Try.prog 3 (.int .i64 i) = some (li i) := Maps.keyOf_int_mk Try.underlying3 h
abbrev below1a (w : World) (o : Obj) : Below w.heap.size w (w.alloc o) := (Below.refl _ _).alloc (Nat.le_refl _) _

set_option maxHeartbeats 1000000 in
theorem find_yes {K : Nat → Prop} {g : Nat} {es : List Ent} {last : Int} {k : Nat} {e : Ent} (w : World) (h : Arena K w g es last) (hk : es[k]? = some e) (ho : e.on = true) : Calls Try.prog 37 #[.pointer (some ⟨g, 0, none⟩), .int .i64 e.id] w fun r w' =>
    r = .returned (.tuple #[.agg #[.int .i64 e.id, .int .i64 (offE es k : Nat), .int .i64 (e.ls.length : Nat)], .int .i64 0]) ∧ Below w.heap.size w w' := by
  have HA := Lib.hid h
  have hgd := h.good
  obtain ⟨sv, ev, m, n, D, ⟨hc0, hc1, hc2, hc3, hc4⟩, hfz, hlt, hs, he, hm, hn, hi⟩ := h.cells
  obtain ⟨b, cap, rfl, hbl, e0, e1, e2⟩ := ent_cells he hk
  have hlen := hgd.len_le
  have hkl : k < es.length := (List.getElem?_eq_some_iff.1 hk).1
  have hid := hgd.lo e (List.mem_of_getElem? hk)
  have hl1 := hgd.last1
  have hkey := keyI e.id (by simp only [Lit.wf]; exact WalkArith.wf_i64 (by omega))
  have hhas : Maps.has D (li e.id) = true := by
    rw [hi.has, List.any_eq_true]
    exact ⟨e, List.mem_of_getElem? hk, by simp [ho]⟩
  have hat := hi.at_ k e hk ho
  have HM := Lib.hid hm; have HK := Lib.hid hk; have HKey := Lib.hid hkey; have HH := Lib.hid hhas; have HAt := Lib.hid hat
  clear h hm hk hkey hhas hat hs he hi ho hgd
  obtain ⟨id, hID⟩ : ∃ i, e.id = i := ⟨_, rfl⟩
  obtain ⟨of, hOf⟩ : ∃ i, offE es k = i := ⟨_, rfl⟩
  obtain ⟨ln, hLn⟩ : ∃ i, e.ls.length = i := ⟨_, rfl⟩
  rw [hID] at e0 hid HKey HH HAt ⊢
  rw [hOf] at e1 ⊢
  rw [hLn] at e2 ⊢
  clear hID hOf hLn
  go_enter Try.func37, Try.ntmps37
  go_wp2_with (first
    | (go_at_call 35; refine (exists_yes _ (HA.out.on (below1a _ _))).mono ?_; rintro e w' ⟨rfl, rfl⟩)
    | (at_lookup; refine wpList_lookup_own_ok_int _ rfl _ _ 38 rfl 3 3 .i64 (Maps.int_keyed Try.underlying3) Try.underlying38 Try.underlying3 (zeroInt _) m n D rfl (HM.out.alloc _) _ _ rfl HKey.out ?_; intro c hcat hwc; rw [HAt.out] at hcat; rw [HH.out]; obtain rfl : (k : Int) = c := by (injection hcat with hcat; injection hcat)))
  exact bodyPost_ret (v := .tuple #[.agg #[.int .i64 id, .int .i64 (of : Nat), .int .i64 (ln : Nat)], .int .i64 0]) (by simp [results, Try.results37, go_sem]) rfl ⟨rfl, (Below.refl _ _).alloc (Nat.le_refl _) _⟩
end Go.Proofs.Ytjkhhnfmefbohaa
