/- The arena's New, and Add. -/
import Derived.Test.YtjkhhnfmefbohaaArRead
import Derived.Test.YtjkhhnfmefbohaaAppend2
import Derived.StillTailTactics
import Derived.Deep.AppendLies
import Derived.Deep.RegionLaw
import Derived.BigRegion
import Derived.Deep.RegionHeld3
namespace Go.Proofs.Ytjkhhnfmefbohaa
open Go.RowKit Go.ChangeAt Go.ChangeShapes Go.WideShapes

set_option maxHeartbeats 400000 in
theorem new_any (w : World) : Calls Try.prog 13 #[] w fun r w' => ∃ g K, r = .returned (.pointer (some ⟨g, 0, none⟩)) ∧ Arena K w' g [] 0 ∧ (∀ i, K i → w.heap.size ≤ i) ∧ Below w.heap.size w w' := by
  have hmm := @run_makeMap Try.prog
  go_enter Try.func13, Try.ntmps13
  go_wp2
  go_ret
  have hb : Below w.heap.size w ((w.alloc (.map #[] 0)).alloc (.cells (arC (.slice none 0 0) (.slice none 0 0) w.heap.size (0 : Nat) 0) 40)) := ((Below.refl _ _).alloc (Nat.le_refl _) _).alloc (by simp) _
  have h1 : Whole ((w.alloc (.map #[] 0)).alloc (.cells (arC (.slice none 0 0) (.slice none 0 0) w.heap.size (0 : Nat) 0) 40)) (w.heap.size + 1) 40 (arC (.slice none 0 0) (.slice none 0 0) w.heap.size (0 : Nat) 0) := by
    have := Whole.made (w.alloc (.map #[] 0)) 40 (arC (.slice none 0 0) (.slice none 0 0) w.heap.size (0 : Nat) 0)
    rwa [World.size_alloc] at this
  have h2 := (World.ownsMap_made w Try.prog 3 (plainElem (H := Unit) Try.prog 3)).alloc (.cells (arC (.slice none 0 0) (.slice none 0 0) w.heap.size (0 : Nat) 0) 40)
  refine ⟨w.heap.size + 1, fun i => i = w.heap.size ∨ i = w.heap.size + 1, rfl, ⟨.slice none 0 0, .slice none 0 0, w.heap.size, 0, .map [], h1, World.ownsRow_nil _ _ _ _, World.ownsRow_nil _ _ _ _, h2, (by omega), idx_new, good_new, .inr rfl, .inl rfl, (fun b e => by cases e), (fun b e => by cases e), fun i hi => ?_⟩, (fun i hi => by omega), hb⟩
  rcases hi with rfl | rfl
  · obtain ⟨es, ck, hh⟩ := map_block h2
    exact ⟨_, hh, rfl⟩
  · exact ⟨_, h1, rfl⟩

/-- What lies behind the store of a new entry. -/
theorem after_entry {K : Nat → Prop} {w2 w3 : World} {g m n : Nat} {D : DataW Unit} {es : List Ent} {sv ev V : Value} {u l : Int} {o : Obj} {gg cap : Nat} {xs : List Value}
    (hw : Whole w2 g 40 (arC sv ev m u l)) (hs : w2.ownsRow 0 30 1 sv (stO es).length ((stO es).map (Value.int .i64))) (he : w2.ownsRow 0 77 3 ev es.length (entV 0 es))
    (hm : w2.ownsMap Try.prog 3 (plainElem (H := Unit) Try.prog 3) m n D) (hg : (w2.alloc o).grownBy w3 ev.ownBlock) (hV : V = .slice (some ⟨gg, 0, none⟩) (es.length + 1) cap) (hr : w3.ownsRow 0 77 3 V (es.length + 1) xs) (hat : ev.ownBlock = some gg ∨ gg = w2.heap.size + 1) (hKg : K g) (hKe : ∀ b, ev.ownBlock = some b → K b) :
    Whole (w3.setCell ⟨g, 1, none⟩ V) g 40 (arC sv V m u l) ∧ (w3.setCell ⟨g, 1, none⟩ V).ownsRow 0 30 1 sv (stO es).length ((stO es).map (Value.int .i64)) ∧ (w3.setCell ⟨g, 1, none⟩ V).ownsRow 0 77 3 V (es.length + 1) xs ∧
      (w3.setCell ⟨g, 1, none⟩ V).ownsMap Try.prog 3 (plainElem (H := Unit) Try.prog 3) m n D ∧ Turn K w2 (fun i => K i ∨ i = gg) (w3.setCell ⟨g, 1, none⟩ V) := by
  have hw' : Whole (w2.alloc o) g 40 (arC sv ev m u l) := hw.same ((below1a w2 o).block g hw.lt)
  have hs' := hs.alloc o
  have he' := he.alloc o
  have hm' := hm.alloc o
  have hw3 : Whole w3 g 40 (arC sv ev m u l) := hw'.same (hg.block g hw'.lt (fun e => hw'.row_ne he' (by decide) e.symm))
  have hs3 := hs'.kept hg (rows_ne hs' he' (by decide))
  have hm3 := hm'.kept hg (fun e => row_map_ne he' hm' e.symm)
  have hgs := grownBy_set w3 g 1 V
  refine ⟨hw3.store 1 V, hs3.kept hgs (.inr (hw3.row_ne hs3 (by decide))), hr.kept hgs (.inr (hw3.row_ne hr (by decide))), hm3.kept hgs (fun e => hw3.map_ne hm3 (by injection e with e; exact e.symm)), ?_⟩
  have h1 : Turn K w2 K w3 := (Turn.of_below (below1a w2 o)).grown hg (fun r e => .inl (hKe r e))
  refine (h1.grown hgs (fun r e => by cases e; exact .inl hKg)).more (fun i x => ?_)
  rcases x with x | rfl
  · exact .inl x
  · rcases hat with e | e
    · exact .inl (hKe _ e)
    · exact .inr (by omega)
/-- .. and behind the store of a new row of literals. -/
theorem after_store {K : Nat → Prop} {w2 w3 : World} {g m n ne : Nat} {D : DataW Unit} {sv ev V : Value} {u l : Int} {ns ns' : Nat} {xs ys zs : List Value}
    (hw : Whole w2 g 40 (arC sv ev m u l)) (hs : w2.ownsRow 0 30 1 sv ns xs) (he : w2.ownsRow 0 77 3 ev ne ys)
    (hm : w2.ownsMap Try.prog 3 (plainElem (H := Unit) Try.prog 3) m n D) (hg : w2.grownBy w3 sv.ownBlock) (hr : w3.ownsRow 0 30 1 V ns' zs) (hat : V.ownBlock = sv.ownBlock ∨ V.ownBlock = some w2.heap.size) (hKg : K g) (hKs : ∀ b, sv.ownBlock = some b → K b) :
    Whole (w3.setCell ⟨g, 0, none⟩ V) g 40 (arC V ev m u l) ∧ (w3.setCell ⟨g, 0, none⟩ V).ownsRow 0 30 1 V ns' zs ∧ (w3.setCell ⟨g, 0, none⟩ V).ownsRow 0 77 3 ev ne ys ∧
      (w3.setCell ⟨g, 0, none⟩ V).ownsMap Try.prog 3 (plainElem (H := Unit) Try.prog 3) m n D ∧ Turn K w2 (fun i => K i ∨ V.ownBlock = some i) (w3.setCell ⟨g, 0, none⟩ V) := by
  have hw3 : Whole w3 g 40 (arC sv ev m u l) := hw.same (hg.block g hw.lt (fun e => hw.row_ne hs (by decide) e.symm))
  have he3 := he.kept hg (rows_ne he hs (by decide))
  have hm3 := hm.kept hg (fun e => row_map_ne hs hm e.symm)
  have hgs := grownBy_set w3 g 0 V
  refine ⟨hw3.store 0 V, hr.kept hgs (.inr (hw3.row_ne hr (by decide))), he3.kept hgs (.inr (hw3.row_ne he3 (by decide))), hm3.kept hgs (fun e => hw3.map_ne hm3 (by injection e with e; exact e.symm)), ?_⟩
  have h1 : Turn K w2 K w3 := (Turn.refl K w2).grown hg (fun r e => .inl (hKs r e))
  refine (h1.grown hgs (fun r e => by cases e; exact .inl hKg)).more (fun i x => ?_)
  rcases x with x | e1
  · exact .inl x
  · rcases hat with e | e
    · exact .inl (hKs i (by rw [← e]; exact e1))
    · rw [e] at e1; cases e1; exact .inr (Nat.le_refl _)
/-- A number of the arena's is stored. -/
theorem after_num {K : Nat → Prop} {w2 : World} {g m n ne : Nat} {D : DataW Unit} {sv ev : Value} {cs : Array Value} {ns : Nat} {xs ys : List Value} (i : Nat) (V : Value)
    (hw : Whole w2 g 40 cs) (hs : w2.ownsRow 0 30 1 sv ns xs) (he : w2.ownsRow 0 77 3 ev ne ys) (hm : w2.ownsMap Try.prog 3 (plainElem (H := Unit) Try.prog 3) m n D) (hKg : K g) :
    Whole (w2.setCell ⟨g, i, none⟩ V) g 40 (cs.setIfInBounds i V) ∧ (w2.setCell ⟨g, i, none⟩ V).ownsRow 0 30 1 sv ns xs ∧ (w2.setCell ⟨g, i, none⟩ V).ownsRow 0 77 3 ev ne ys ∧
      (w2.setCell ⟨g, i, none⟩ V).ownsMap Try.prog 3 (plainElem (H := Unit) Try.prog 3) m n D ∧ Turn K w2 K (w2.setCell ⟨g, i, none⟩ V) := by
  have hgs := grownBy_set w2 g i V
  exact ⟨hw.store i V, hs.kept hgs (.inr (hw.row_ne hs (by decide))), he.kept hgs (.inr (hw.row_ne he (by decide))), hm.kept hgs (fun e => hw.map_ne hm (by injection e with e; exact e.symm)), (Turn.refl K w2).grown hgs (fun r e => by cases e; exact .inl hKg)⟩

theorem row_plain {w : World} {base : Nat} {e : TypeId} {size n : Nat} {v : Value} {xs : List Value} (h : w.ownsRow base e size v n xs) {b : Nat} (hb : v.ownBlock = some b) : ∃ o : Obj, w.heap[b]? = some o ∧ Obj.plain o = true := by
  rcases h.2 with ⟨rfl, -⟩ | ⟨g, cap, cur, rfl, -, hh, -⟩
  · simp [Value.ownBlock] at hb
  · obtain rfl : g = b := by simpa [Value.ownBlock] using hb
    exact ⟨_, hh, rfl⟩
/-- An arena out of its parts. -/
theorem arena_of {K Kx : Nat → Prop} {w w5 : World} {g m n : Nat} {D : DataW Unit} {es : List Ent} {sv ev : Value} {last : Int}
    (hw : Whole w5 g 40 (arC sv ev m (sumL (clO es) : Nat) last)) (hs : w5.ownsRow 0 30 1 sv (stO es).length ((stO es).map (Value.int .i64)))
    (he : w5.ownsRow 0 77 3 ev es.length (entV 0 es)) (hm : w5.ownsMap Try.prog 3 (plainElem (H := Unit) Try.prog 3) m n D)
    (hn : (n : Int) ≤ last) (hi : IdxE D es) (hg : GoodE es last) (t : Turn K w Kx w5) (kg : Kx g) (km : Kx m) (ks : ∀ b, sv.ownBlock = some b → Kx b) (ke : ∀ b, ev.ownBlock = some b → Kx b) :
    ∃ K', Arena K' w5 g es last ∧ Turn K w K' w5 := by
  refine ⟨fun i => i = g ∨ i = m ∨ sv.ownBlock = some i ∨ ev.ownBlock = some i, ⟨sv, ev, m, n, D, hw, hs, he, hm, hn, hi, hg, .inl rfl, .inr (.inl rfl), (fun b e => .inr (.inr (.inl e))), (fun b e => .inr (.inr (.inr e))), fun i h => ?_⟩, t.more fun i h => .inl ?_⟩
  · rcases h with rfl | rfl | e | e
    · exact ⟨_, hw, rfl⟩
    · obtain ⟨es', ck, hh⟩ := map_block hm
      exact ⟨_, hh, rfl⟩
    · exact row_plain hs e
    · exact row_plain he e
  · rcases h with rfl | rfl | e | e
    · exact kg
    · exact km
    · exact ks i e
    · exact ke i e
theorem clO_snoc (es : List Ent) (id : Int) (c : List Int) : sumL (clO (es ++ [⟨id, c, true⟩])) = sumL (clO es) + c.length := by rw [clO_app, clO_on, sumL_app]; simp [sumL]
theorem entV_snoc (es : List Ent) (id : Int) (c : List Int) : entV 0 (es ++ [⟨id, c, true⟩]) = entV 0 es ++ [.int .i64 id, .int .i64 ((stO es).length : Nat), .int .i64 (c.length : Nat)] := by rw [entV_app, Nat.zero_add]; rfl
theorem stO_snoc (es : List Ent) (id : Int) (c : List Int) : stO (es ++ [⟨id, c, true⟩]) = stO es ++ c := by rw [stO_app, stO_one]
/-- .. behind an Add. -/
theorem add_done {K Kx : Nat → Prop} {w w5 : World} {g m n : Nat} {D : DataW Unit} {es : List Ent} {sv ev : Value} {last id : Int} {c : List Int}
    (hw : Whole w5 g 40 (arC sv ev m ((sumL (clO es) : Nat) + (c.length : Nat) : Int) id)) (hs : w5.ownsRow 0 30 1 sv ((stO es).length + c.length) ((stO es).map (Value.int .i64) ++ c.map (Value.int .i64)))
    (he : w5.ownsRow 0 77 3 ev (es.length + 1) (entV 0 es ++ [.int .i64 id, .int .i64 ((stO es).length : Nat), .int .i64 (c.length : Nat)])) (hm : w5.ownsMap Try.prog 3 (plainElem (H := Unit) Try.prog 3) m (n + 1) (D.put (li id) (dn es.length)))
    (hn : (n : Int) ≤ last) (hi : IdxE D es) (hg : GoodE es last) (h1 : last < id) (h2 : id ≤ 1073741824) (h3 : sumL (clO es) + c.length ≤ 1048576) (h4 : (stO es).length + c.length ≤ 2097216) (t : Turn K w Kx w5) (kg : Kx g) (km : Kx m) (ks : ∀ b, sv.ownBlock = some b → Kx b) (ke : ∀ b, ev.ownBlock = some b → Kx b) :
    ∃ K', Arena K' w5 g (es ++ [⟨id, c, true⟩]) id ∧ Turn K w K' w5 := by
  refine arena_of (D := D.put (li id) (dn es.length)) (n := n + 1) ?_ ?_ ?_ hm (by omega) (hi.add (fun e he => (hg.lo e he).2) h1) (hg.add h1 h2 h3 h4) t kg km ks ke
  · rw [clO_snoc, Int.natCast_add]; exact hw
  · rw [stO_snoc, List.length_append, List.map_append]; exact hs
  · rw [entV_snoc, List.length_append]; exact he

def addE (L : List (Int × List Int)) (last id : Int) (c : List Int) : Int :=
  if rightB c then (if last < id ∧ id ≤ 1073741824 then (if sumL L + c.length ≤ 1048576 then 0 else 4) else 30) else 20
end Go.Proofs.Ytjkhhnfmefbohaa
