/- The arena: what its entries come to, as lists. -/
import Derived.Maps.Views
import Derived.Below
namespace Go.Proofs.Ytjkhhnfmefbohaa
open Go.RowKit

/-- An entry: a clause with its number, and whether it is there. -/
structure Ent where
  id : Int
  ls : List Int
  on : Bool
/-- The store: the literals of all entries, one behind the other. -/
def stO (es : List Ent) : List Int := es.flatMap Ent.ls
def liveO (es : List Ent) : List Ent := es.filter Ent.on
def clE (e : Ent) : Int × List Int := (e.id, e.ls)
/-- The clauses that are there. -/
def clO (es : List Ent) : List (Int × List Int) := (liveO es).map clE
def sumL (L : List (Int × List Int)) : Nat := (L.map fun p => p.2.length).sum
/-- The cells of the entries, the first of which begins at o. -/
def entV : Nat → List Ent → List Value
  | _, [] => []
  | o, e :: r => .int .i64 e.id :: .int .i64 (o : Nat) :: .int .i64 (e.ls.length : Nat) :: entV (o + e.ls.length) r

theorem stO_app (a b : List Ent) : stO (a ++ b) = stO a ++ stO b := List.flatMap_append
theorem stO_one (e : Ent) : stO [e] = e.ls := by simp [stO]
theorem stO_cons (e : Ent) (r : List Ent) : stO (e :: r) = e.ls ++ stO r := by simp [stO]
theorem entV_app : ∀ (a b : List Ent) (o : Nat), entV o (a ++ b) = entV o a ++ entV (o + (stO a).length) b
  | [], b, o => by simp [entV, stO]
  | e :: r, b, o => by
    have := entV_app r b (o + e.ls.length)
    simp only [List.cons_append, entV, this, stO_cons, List.length_append, Nat.add_assoc]
theorem entV_len : ∀ (a : List Ent) (o : Nat), (entV o a).length = a.length * 3
  | [], _ => rfl
  | e :: r, o => by simp only [entV, List.length_cons, entV_len r]; omega
theorem entV_one (o : Nat) (e : Ent) : entV o [e] = [.int .i64 e.id, .int .i64 (o : Nat), .int .i64 (e.ls.length : Nat)] := rfl
/-- Where the literals of entry k begin. -/
def offE (es : List Ent) (k : Nat) : Nat := (stO (es.take k)).length
theorem split_at {es : List Ent} {k : Nat} {e : Ent} (h : es[k]? = some e) : es = es.take k ++ e :: es.drop (k + 1) := by
  obtain ⟨hk, rfl⟩ := List.getElem?_eq_some_iff.1 h
  rw [← List.drop_eq_getElem_cons hk, List.take_append_drop]
theorem entV_at {es : List Ent} {k : Nat} {e : Ent} (h : es[k]? = some e) : (entV 0 es)[k * 3]? = some (.int .i64 e.id) ∧ (entV 0 es)[k * 3 + 1]? = some (.int .i64 (offE es k : Nat)) ∧ (entV 0 es)[k * 3 + 2]? = some (.int .i64 (e.ls.length : Nat)) := by
  have hk : k < es.length := (List.getElem?_eq_some_iff.1 h).1
  have hl : (entV 0 (es.take k)).length = k * 3 := by rw [entV_len, List.length_take]; omega
  have hs : entV 0 es = entV 0 (es.take k) ++ entV (offE es k) (e :: es.drop (k + 1)) := by
    conv => lhs; rw [split_at h, entV_app, Nat.zero_add]
    rfl
  rw [hs]
  refine ⟨?_, ?_, ?_⟩
  · rw [List.getElem?_append_right (by omega), hl, show k * 3 - k * 3 = 0 by omega]; rfl
  · rw [List.getElem?_append_right (by omega), hl, show k * 3 + 1 - k * 3 = 1 by omega]; rfl
  · rw [List.getElem?_append_right (by omega), hl, show k * 3 + 2 - k * 3 = 2 by omega]; rfl
theorem stO_at {es : List Ent} {k : Nat} {e : Ent} (h : es[k]? = some e) : ((stO es).drop (offE es k)).take e.ls.length = e.ls ∧ offE es k + e.ls.length ≤ (stO es).length := by
  have hs : stO es = stO (es.take k) ++ (e.ls ++ stO (es.drop (k + 1))) := by
    conv => lhs; rw [split_at h, stO_app, stO_cons]
  have h2 : (stO es).length = offE es k + (e.ls.length + (stO (es.drop (k + 1))).length) := by rw [hs]; simp [offE]
  refine ⟨?_, by omega⟩
  rw [hs]
  show List.take _ (List.drop (stO (es.take k)).length _) = _
  rw [List.drop_left, List.take_left]

/-! ### the clauses that are there -/
theorem liveO_app (a b : List Ent) : liveO (a ++ b) = liveO a ++ liveO b := List.filter_append ..
theorem clO_app (a b : List Ent) : clO (a ++ b) = clO a ++ clO b := by unfold clO; rw [liveO_app, List.map_append]
theorem clO_on (id : Int) (ls : List Int) : clO [⟨id, ls, true⟩] = [(id, ls)] := rfl
theorem clO_live (es : List Ent) : clO (liveO es) = clO es := by unfold clO liveO; rw [List.filter_filter]; simp
theorem sumL_app (a b : List (Int × List Int)) : sumL (a ++ b) = sumL a + sumL b := by simp [sumL]
theorem stO_live (es : List Ent) : (stO (liveO es)).length = sumL (clO es) := by
  unfold sumL clO stO
  rw [List.map_map, List.length_flatMap]
  rfl
theorem len_le_sum {L : List (Int × List Int)} {p : Int × List Int} (h : p ∈ L) : p.2.length ≤ sumL L := by
  induction L with
  | nil => cases h
  | cons x r ih =>
    simp only [sumL, List.map_cons, List.sum_cons]
    rcases List.mem_cons.1 h with rfl | h
    · omega
    · have := ih h
      unfold sumL at this
      omega
theorem sum_le_store : ∀ es : List Ent, sumL (clO es) ≤ (stO es).length
  | [] => Nat.le_refl _
  | e :: r => by
    have := sum_le_store r
    rw [stO_cons, List.length_append]
    cases h : e.on
    · have : clO (e :: r) = clO r := by simp [clO, liveO, h]
      rw [this]; omega
    · have : clO (e :: r) = clE e :: clO r := by simp [clO, liveO, h]
      rw [this]
      simp only [sumL, List.map_cons, List.sum_cons, clE] at *
      omega
theorem cl_le (es : List Ent) : (clO es).length ≤ es.length := by unfold clO liveO; rw [List.length_map]; exact List.length_filter_le _ _
/-- A clause is taken away. -/
def offI (id : Int) (es : List Ent) : List Ent := es.map fun e => if e.id = id then { e with on := false } else e
theorem offI_len (id : Int) (es : List Ent) : (offI id es).length = es.length := List.length_map _
theorem offI_st (id : Int) : ∀ es : List Ent, stO (offI id es) = stO es
  | [] => rfl
  | e :: r => by
    have := offI_st id r
    show stO ((if e.id = id then { e with on := false } else e) :: offI id r) = _
    rw [stO_cons, stO_cons, this]
    split <;> rfl
theorem offI_ent (id : Int) : ∀ (es : List Ent) (o : Nat), entV o (offI id es) = entV o es
  | [], _ => rfl
  | e :: r, o => by
    show entV o ((if e.id = id then { e with on := false } else e) :: offI id r) = _
    by_cases h : e.id = id
    · rw [if_pos h]; simp only [entV, offI_ent id r]
    · rw [if_neg h]; simp only [entV, offI_ent id r]
theorem offI_ids (id : Int) (es : List Ent) : (offI id es).map Ent.id = es.map Ent.id := by
  unfold offI
  rw [List.map_map]
  refine List.map_congr_left fun e _ => ?_
  simp only [Function.comp]
  split <;> rfl
theorem offI_cl (id : Int) : ∀ es : List Ent, clO (offI id es) = (clO es).filter fun p => decide (p.1 ≠ id)
  | [] => rfl
  | e :: r => by
    have ih := offI_cl id r
    show clO ((if e.id = id then { e with on := false } else e) :: offI id r) = _
    by_cases h : e.id = id
    · rw [if_pos h]
      cases ho : e.on
      · have h1 : clO (e :: r) = clO r := by simp [clO, liveO, ho]
        have h2 : clO ({ e with on := false } :: offI id r) = clO (offI id r) := by simp [clO, liveO]
        rw [h1, h2, ih]
      · have h1 : clO (e :: r) = clE e :: clO r := by simp [clO, liveO, ho]
        have h2 : clO ({ e with on := false } :: offI id r) = clO (offI id r) := by simp [clO, liveO]
        rw [h1, h2, ih, List.filter_cons_of_neg (by simp [clE, h])]
    · rw [if_neg h]
      cases ho : e.on
      · have h1 : clO (e :: r) = clO r := by simp [clO, liveO, ho]
        have h2 : clO (e :: offI id r) = clO (offI id r) := by simp [clO, liveO, ho]
        rw [h1, h2, ih]
      · have h1 : clO (e :: r) = clE e :: clO r := by simp [clO, liveO, ho]
        have h2 : clO (e :: offI id r) = clE e :: clO (offI id r) := by simp [clO, liveO, ho]
        rw [h1, h2, ih, List.filter_cons_of_pos (by simp [clE, h])]

/-! ### what is right of the entries -/
structure GoodE (es : List Ent) (last : Int) : Prop where
  inc : es.Pairwise fun a b => a.id < b.id
  lo : ∀ e ∈ es, 1 ≤ e.id ∧ e.id ≤ last
  last0 : 0 ≤ last
  last1 : last ≤ 1073741824
  used : sumL (clO es) ≤ 1048576
  held : (stO es).length ≤ 2097216
theorem inc_len (es : List Ent) (lo hi : Int) (h : es.Pairwise fun a b => a.id < b.id) (hl : ∀ e ∈ es, lo < e.id ∧ e.id ≤ hi) (hlh : lo ≤ hi) : (es.length : Int) ≤ hi - lo := by
  induction es generalizing lo with
  | nil => simp; omega
  | cons e r ih =>
    obtain ⟨h1, h2⟩ := List.pairwise_cons.1 h
    obtain ⟨a, b⟩ := hl e (by simp)
    have := ih e.id h2 (fun x hx => ⟨h1 x hx, (hl x (by simp [hx])).2⟩) b
    rw [List.length_cons]
    omega
theorem GoodE.len {es : List Ent} {last : Int} (g : GoodE es last) : (es.length : Int) ≤ last := by
  have := inc_len es 0 last g.inc (fun e he => ⟨by have := (g.lo e he).1; omega, (g.lo e he).2⟩) g.last0
  omega
theorem GoodE.len_le {es : List Ent} {last : Int} (g : GoodE es last) : es.length ≤ 1073741824 := by have := g.len; have := g.last1; omega
theorem GoodE.st_le {es : List Ent} {last : Int} (g : GoodE es last) : (stO es).length ≤ 2097216 := g.held
theorem GoodE.ls_le {es : List Ent} {last : Int} {k : Nat} {e : Ent} (g : GoodE es last) (hk : es[k]? = some e) (ho : e.on = true) : e.ls.length ≤ 1048576 :=
  Nat.le_trans (len_le_sum (p := clE e) (List.mem_map.2 ⟨e, List.mem_filter.2 ⟨List.mem_of_getElem? hk, ho⟩, rfl⟩)) g.used
theorem good_new : GoodE [] 0 := ⟨List.Pairwise.nil, (by simp), by omega, by omega, by simp [sumL, clO, liveO], by simp [stO]⟩
theorem GoodE.add {es : List Ent} {last id : Int} {ls : List Int} (g : GoodE es last) (h : last < id) (h1 : id ≤ 1073741824) (hu : sumL (clO es) + ls.length ≤ 1048576) (hh : (stO es).length + ls.length ≤ 2097216) : GoodE (es ++ [⟨id, ls, true⟩]) id := by
  have hc : sumL (clO (es ++ [⟨id, ls, true⟩])) = sumL (clO es) + ls.length := by rw [clO_app, clO_on, sumL_app]; simp [sumL]
  refine ⟨List.pairwise_append.2 ⟨g.inc, List.pairwise_singleton _ _, fun a ha b hb => ?_⟩, fun e he => ?_, by have := g.last0; omega, h1, by rw [hc]; exact hu, ?_⟩
  · obtain rfl : b = ⟨id, ls, true⟩ := by simpa using hb
    have := (g.lo a ha).2
    show a.id < id
    omega
  · rcases List.mem_append.1 he with he | he
    · have := g.lo e he; exact ⟨this.1, by omega⟩
    · obtain rfl : e = ⟨id, ls, true⟩ := by simpa using he
      have := g.last0
      exact ⟨by show 1 ≤ id; omega, Int.le_refl _⟩
  · rw [stO_app, stO_one, List.length_append]
    exact hh
theorem pw_ids {es fs : List Ent} (h : fs.map Ent.id = es.map Ent.id) (p : es.Pairwise fun a b => a.id < b.id) : fs.Pairwise fun a b => a.id < b.id := by
  have h1 : (es.map Ent.id).Pairwise (· < ·) := List.pairwise_map.2 p
  rw [← h] at h1
  exact List.pairwise_map.1 h1
theorem mem_ids {es fs : List Ent} (h : fs.map Ent.id = es.map Ent.id) {e : Ent} (he : e ∈ fs) : ∃ e' ∈ es, e'.id = e.id := by
  have : e.id ∈ fs.map Ent.id := List.mem_map.2 ⟨e, he, rfl⟩
  rw [h] at this
  exact List.mem_map.1 this
theorem sum_filter_le (L : List (Int × List Int)) (p : Int × List Int → Bool) : sumL (L.filter p) ≤ sumL L := by
  induction L with
  | nil => exact Nat.le_refl _
  | cons x r ih =>
    rw [List.filter_cons]
    split
    · simp only [sumL, List.map_cons, List.sum_cons] at *; omega
    · simp only [sumL, List.map_cons, List.sum_cons] at *; omega
theorem GoodE.off {es : List Ent} {last id : Int} (g : GoodE es last) : GoodE (offI id es) last := by
  refine ⟨pw_ids (offI_ids id es) g.inc, fun e he => ?_, g.last0, g.last1, ?_, by rw [offI_st]; exact g.held⟩
  · obtain ⟨e', he', h⟩ := mem_ids (offI_ids id es) he
    rw [← h]
    exact g.lo e' he'
  · rw [offI_cl]
    exact Nat.le_trans (sum_filter_le _ _) g.used
/-- Behind a move. -/
theorem good_moved {es : List Ent} {last : Int} (hi : es.Pairwise fun a b => a.id < b.id) (hl : ∀ e ∈ es, 1 ≤ e.id ∧ e.id ≤ last) (h0 : 0 ≤ last) (h1 : last ≤ 1073741824) (hu : sumL (clO es) ≤ 1048576) : GoodE (liveO es) last :=
  ⟨hi.filter _, fun e he => hl e (List.mem_filter.1 he).1, h0, h1, by rw [clO_live]; exact hu, by rw [stO_live]; omega⟩

/-! ### the index -/

def li (i : Int) : Lit := .int .i64 i
def dn (k : Nat) : DataW Unit := .lit (.int .i64 (k : Nat))
/-- The index knows just the entries that are there, and where they are. -/
structure IdxE (D : DataW Unit) (es : List Ent) : Prop where
  tidy : Maps.Tidy D
  has : ∀ id : Int, Maps.has D (li id) = es.any fun e => e.on && decide (e.id = id)
  at_ : ∀ (k : Nat) (e : Ent), es[k]? = some e → e.on = true → D.atKey (li e.id) (.lit (.int .i64 0)) = dn k
  size : Maps.size D = (clO es).length
theorem key_lit (i : Int) : WideAt.IsKeyLit (li i) := by unfold li; exact trivial
theorem li_ne {i j : Int} (h : i ≠ j) : li i ≠ li j := by intro e; unfold li at e; injection e with _ e; exact h e
theorem idx_new : IdxE (.map []) [] := ⟨Maps.tidy_empty, fun _ => rfl, fun k e h => by simp at h, rfl⟩
theorem any_off {es : List Ent} {last id : Int} (hl : ∀ e ∈ es, e.id ≤ last) (h : last < id) : (es.any fun e => e.on && decide (e.id = id)) = false := by
  rw [List.any_eq_false]
  intro e he
  have := hl e he
  have : e.id ≠ id := by omega
  simp [this]
theorem IdxE.add {D : DataW Unit} {es : List Ent} {last id : Int} {ls : List Int} (h : IdxE D es) (hl : ∀ e ∈ es, e.id ≤ last) (hi : last < id) : IdxE (D.put (li id) (dn es.length)) (es ++ [⟨id, ls, true⟩]) := by
  have hno : Maps.has D (li id) = false := by rw [h.has]; exact any_off hl hi
  refine ⟨h.tidy.put (key_lit id) _, fun j => ?_, fun k e hk ho => ?_, ?_⟩
  · rw [List.any_append]
    by_cases e : j = id
    · subst e
      rw [Maps.has_put_same h.tidy.isMap (key_lit j)]
      simp
    · rw [Maps.has_put_other (li_ne e), h.has]
      have : id ≠ j := fun x => e x.symm
      simp [this]
  · rw [List.getElem?_append] at hk
    split at hk
    · have hm : e ∈ es := List.mem_of_getElem? hk
      have := hl e hm
      rw [Maps.atKey_put_other (li_ne (by omega)), h.at_ k e hk ho]
    · rename_i hge
      have h0 : k - es.length = 0 := by
        rcases Nat.eq_zero_or_pos (k - es.length) with q | q
        · exact q
        · rw [List.getElem?_eq_none (by simp; omega)] at hk; cases hk
      rw [h0] at hk
      obtain rfl : (⟨id, ls, true⟩ : Ent) = e := by simpa using hk
      rw [Maps.atKey_put_same h.tidy.isMap (key_lit _), show es.length = k by omega]
  · rw [Maps.size_put h.tidy, hno, h.size, clO_app, clO_on]
    simp
theorem offI_at {id : Int} {es : List Ent} {k : Nat} {e : Ent} (h : (offI id es)[k]? = some e) (ho : e.on = true) : es[k]? = some e ∧ e.id ≠ id := by
  unfold offI at h
  rw [List.getElem?_map] at h
  cases hx : es[k]? with
  | none => rw [hx] at h; cases h
  | some x =>
    rw [hx] at h
    simp only [Option.map_some, Option.some.injEq] at h
    by_cases e' : x.id = id
    · rw [if_pos e'] at h
      rw [← h] at ho
      cases ho
    · rw [if_neg e'] at h
      subst h
      exact ⟨rfl, e'⟩
theorem offI_any (id j : Int) (es : List Ent) : ((offI id es).any fun e => e.on && decide (e.id = j)) = if j = id then false else es.any fun e => e.on && decide (e.id = j) := by
  induction es with
  | nil => simp [offI]
  | cons e r ih =>
    show (List.any ((if e.id = id then { e with on := false } else e) :: offI id r) _) = _
    rw [List.any_cons, ih, List.any_cons]
    by_cases h : j = id
    · subst h
      by_cases h' : e.id = j
      · simp [h']
      · simp [h']
    · by_cases h' : e.id = id
      · have : id ≠ j := fun x => h x.symm
        simp [h, h', this]
      · simp [h, h']
theorem IdxE.off {D : DataW Unit} {es : List Ent} {id : Int} (h : IdxE D es) (hp : es.Pairwise fun a b => a.id < b.id) : IdxE (D.del (li id)) (offI id es) := by
  refine ⟨h.tidy.del _, fun j => ?_, fun k e hk ho => ?_, ?_⟩
  · rw [offI_any]
    by_cases e : j = id
    · subst e; rw [Maps.has_del_same, if_pos rfl]
    · rw [Maps.has_del_other (li_ne e), h.has, if_neg e]
  · obtain ⟨h1, h2⟩ := offI_at hk ho
    rw [Maps.atKey_del_other (li_ne h2), h.at_ k e h1 ho]
  · have hd := Maps.size_del (k := li id) h.tidy
    rw [h.size, h.has] at hd
    have hc : (clO (offI id es)).length + (if (es.any fun e => e.on && decide (e.id = id)) = true then 1 else 0) = (clO es).length := by
      clear hd h
      induction es with
      | nil => rfl
      | cons e r ih =>
        obtain ⟨p1, p2⟩ := List.pairwise_cons.1 hp
        have ih := ih p2
        show (clO ((if e.id = id then { e with on := false } else e) :: offI id r)).length + _ = _
        rw [List.any_cons]
        by_cases h' : e.id = id
        · have hr : (r.any fun e => e.on && decide (e.id = id)) = false := by
            rw [List.any_eq_false]
            intro x hx
            have := p1 x hx
            have : x.id ≠ id := by omega
            simp [this]
          rw [hr] at ih ⊢
          rw [if_pos h']
          cases ho : e.on
          · have h1 : clO (e :: r) = clO r := by simp [clO, liveO, ho]
            have h2 : clO ({ e with on := false } :: offI id r) = clO (offI id r) := by simp [clO, liveO]
            rw [h1, h2]
            simpa using ih
          · have h1 : clO (e :: r) = clE e :: clO r := by simp [clO, liveO, ho]
            have h2 : clO ({ e with on := false } :: offI id r) = clO (offI id r) := by simp [clO, liveO]
            rw [h1, h2, List.length_cons]
            simp [h'] at ih ⊢
            exact ih
        · rw [if_neg h']
          cases ho : e.on
          · have h1 : clO (e :: r) = clO r := by simp [clO, liveO, ho]
            have h2 : clO (e :: offI id r) = clO (offI id r) := by simp [clO, liveO, ho]
            rw [h1, h2]
            simpa using ih
          · have h1 : clO (e :: r) = clE e :: clO r := by simp [clO, liveO, ho]
            have h2 : clO (e :: offI id r) = clE e :: clO (offI id r) := by simp [clO, liveO, ho]
            rw [h1, h2, List.length_cons, List.length_cons]
            simp [h'] at ih ⊢
            omega
    omega
/-- An entry that is there, by its number. -/
theorem any_live {es : List Ent} {id : Int} (h : (es.any fun e => e.on && decide (e.id = id)) = true) : ∃ (k : Nat) (e : Ent), es[k]? = some e ∧ e.on = true ∧ e.id = id := by
  obtain ⟨e, he, h⟩ := List.any_eq_true.1 h
  obtain ⟨k, hk⟩ := List.mem_iff_getElem?.1 he
  simp at h
  exact ⟨k, e, hk, h.1, h.2⟩
end Go.Proofs.Ytjkhhnfmefbohaa
