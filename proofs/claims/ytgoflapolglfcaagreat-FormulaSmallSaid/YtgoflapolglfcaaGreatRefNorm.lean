/- The reference's Norm: the least literal, and then always the least that is greater. -/
import Derived.Test.YtgoflapolglfcaaGreatRef02
import Derived.Test.YtgoflapolglfcaaGreatConv
namespace Go.Proofs.YtgoflapolglfcaaGreat
open Go.ChangeShapes Go.WideShapes Go.ChangeAt Go.RowKit Go.Shelf Go.Sort

theorem at_idx {a : Int} (h : litB a = true) : atI (idxI a) = a := by
  have hb := litB_of h
  rw [idxI, if_pos h]
  by_cases h0 : a < 0
  · rw [if_pos h0, atI, if_neg (by omega), show (2 * -a - 1) / 2 + 1 = -a by omega, ofI, if_pos (by omega), decide_eq_true (by omega), if_pos rfl]
    omega
  · rw [if_neg h0, atI, if_neg (by omega), show (2 * a - 2) / 2 + 1 = a by omega, ofI, if_pos (by omega), decide_eq_false (by omega), if_neg (by decide)]
theorem ltI_idx {a b : Int} (ha : litB a = true) (hb : litB b = true) (h : idxI a < idxI b) : ltI a b = true := ltI_iff.2 (.inr (.inr ⟨ha, hb, h⟩))
/-- The least number beyond another one, and -1 if there is none. -/
def bestN (lst : Int) (zs : List Int) : Int := zs.foldl (fun b x => if lst < idxI x ∧ (b < 0 ∨ idxI x < b) then idxI x else b) (-1)
theorem bestN_snoc (lst : Int) (zs : List Int) (x : Int) : bestN lst (zs ++ [x]) = if lst < idxI x ∧ (bestN lst zs < 0 ∨ idxI x < bestN lst zs) then idxI x else bestN lst zs := by
  unfold bestN; rw [List.foldl_append]; rfl
theorem bestN_is (lst : Int) (h0 : -1 ≤ lst) (zs : List Int) : (bestN lst zs = -1 ∧ ∀ x ∈ zs, idxI x ≤ lst) ∨ ((∃ x ∈ zs, idxI x = bestN lst zs) ∧ lst < bestN lst zs ∧ ∀ x ∈ zs, lst < idxI x → bestN lst zs ≤ idxI x) := by
  suffices hs : ∀ r : List Int, (bestN lst r.reverse = -1 ∧ ∀ x ∈ r.reverse, idxI x ≤ lst) ∨ ((∃ x ∈ r.reverse, idxI x = bestN lst r.reverse) ∧ lst < bestN lst r.reverse ∧ ∀ x ∈ r.reverse, lst < idxI x → bestN lst r.reverse ≤ idxI x) by
    have := hs zs.reverse; rwa [List.reverse_reverse] at this
  intro r
  induction r with
  | nil => exact .inl ⟨rfl, (fun v hv => by cases hv)⟩
  | cons x r ih =>
    rw [List.reverse_cons, bestN_snoc]
    obtain ⟨b, hb⟩ : ∃ b, bestN lst r.reverse = b := ⟨_, rfl⟩
    rw [hb] at ih ⊢
    by_cases hc : lst < idxI x ∧ (b < 0 ∨ idxI x < b)
    · rw [if_pos hc]
      refine .inr ⟨⟨x, by simp, rfl⟩, hc.1, fun v hv hlv => ?_⟩
      rcases List.mem_append.1 hv with hv | hv
      · rcases ih with ⟨_, h2⟩ | ⟨_, _, h2⟩
        · have := h2 v hv; omega
        · have := h2 v hv hlv; omega
      · obtain rfl : v = x := List.mem_singleton.1 hv
        exact Int.le_refl _
    · rw [if_neg hc]
      rcases ih with ⟨h1, h2⟩ | ⟨⟨y, hy, e⟩, h2, h3⟩
      · refine .inl ⟨h1, fun v hv => ?_⟩
        rcases List.mem_append.1 hv with hv | hv
        · exact h2 v hv
        · obtain rfl : v = x := List.mem_singleton.1 hv
          omega
      · refine .inr ⟨⟨y, List.mem_append.2 (.inl hy), e⟩, h2, fun v hv hlv => ?_⟩
        rcases List.mem_append.1 hv with hv | hv
        · exact h3 v hv hlv
        · obtain rfl : v = x := List.mem_singleton.1 hv
          omega
/-- What has been found when all literals up to a number are. -/
def Upto (zs o : List Int) (lst : Int) : Prop := Inc o ∧ (∀ x ∈ o, x ∈ zs ∧ idxI x ≤ lst) ∧ ∀ v ∈ zs, idxI v ≤ lst → v ∈ o
theorem Upto.start {zs : List Int} (hl : ∀ x ∈ zs, litB x = true) : Upto zs [] (-1) := ⟨List.Pairwise.nil, (fun x hx => by cases hx), fun v hv h => by have := idx_nonneg (hl v hv); omega⟩
theorem Upto.next {zs o : List Int} {lst b : Int} (hl : ∀ x ∈ zs, litB x = true) (h : Upto zs o lst) (h1 : ∃ x ∈ zs, idxI x = b) (h2 : lst < b) (h3 : ∀ v ∈ zs, lst < idxI v → b ≤ idxI v) : Upto zs (o ++ [atI b]) b := by
  obtain ⟨s1, s2, s3⟩ := h
  obtain ⟨y, hy, rfl⟩ := h1
  rw [at_idx (hl y hy)]
  refine ⟨List.pairwise_append.2 ⟨s1, List.pairwise_singleton _ _, fun x hx z hz => ?_⟩, fun x hx => ?_, fun v hv hle => ?_⟩
  · obtain rfl : z = y := List.mem_singleton.1 hz
    have h4 := s2 x hx
    exact ltI_idx (hl x h4.1) (hl z hy) (by omega)
  · rcases List.mem_append.1 hx with hx | hx
    · exact ⟨(s2 x hx).1, by have := (s2 x hx).2; omega⟩
    · obtain rfl : x = y := List.mem_singleton.1 hx
      exact ⟨hy, Int.le_refl _⟩
  · by_cases hlv : idxI v ≤ lst
    · exact List.mem_append.2 (.inl (s3 v hv hlv))
    · have := h3 v hv (by omega)
      exact List.mem_append.2 (.inr (List.mem_singleton.2 (idxI_lt (hl v hv) (hl y hy) (by omega))))
theorem Upto.all {zs o : List Int} {lst : Int} (h : Upto zs o lst) (h1 : ∀ v ∈ zs, idxI v ≤ lst) : o = normL zs :=
  (norm_unique h.1 fun x => ⟨fun hx => (h.2.1 x hx).1, fun hx => h.2.2 x hx (h1 x hx)⟩).symm

def NRel (w : World) (zs : List Int) (out last : Value) (wr : World) : Prop :=
  ∃ (o : List Int) (lst : Int), last = .int .i64 lst ∧ -1 ≤ lst ∧ lst ≤ 2097151 ∧ wr.ownsRow w.heap.size 3 1 out o.length (o.map (Value.int .i64)) ∧ Below w.heap.size w wr ∧ Upto zs o lst ∧ (o.length : Int) ≤ lst + 1
def MRel (lst : Int) (zs : List Int) (best i : Value) : Prop := ∃ k : Nat, k ≤ zs.length ∧ i = .int .i64 k ∧ best = .int .i64 (bestN lst (zs.take k))
theorem bestN_bd {lst : Int} (h0 : -1 ≤ lst) {zs : List Int} (hl : ∀ x ∈ zs, litB x = true) : -1 ≤ bestN lst zs ∧ bestN lst zs ≤ 2097151 := by
  rcases bestN_is lst h0 zs with ⟨h, -⟩ | ⟨⟨x, hx, h⟩, -, -⟩
  · omega
  · have := idx_nonneg (hl x hx); omega
theorem refIdx_lit {x : Int} (h : litB x = true) : refIdx x = idxI x := by rw [refIdx, if_pos h]

set_option maxRecDepth 100000 in
set_option maxHeartbeats 4000000 in
theorem ref_norm (B : Nat) (sv : Value) (zs : List Int) (hz : zs.length ≤ 9223372036854775807) (hl : ∀ x ∈ zs, litB x = true) (w : World) (hB : B ≤ w.heap.size) (hI : Ints B w sv zs) : Calls Tryz.prog 57 #[sv] w (GivesE 3 w (normL zs)) := by
  obtain ⟨i0, hi, hz0, hz1, hz2⟩ := info_parts infoInt
  obtain ⟨A, cap, rfl, hc⟩ := ints_shape hI
  have HC := Lib.hid hc; have HL := Lib.hid hl; clear hc hI hl
  go_enter Tryz.func57, Tryz.ntmps57
  go_wp2_with fail
  go_loopw [3, 4] (fun out last wr => NRel w zs out last wr) (fun _ last _ => (2097152 - intOf last).toNat)
  case atStart => exact ⟨[], -1, rfl, by omega, by omega, World.ownsRow_nil _ _ _ _, Below.refl _ _, Upto.start HL.out, by simp⟩
  case round =>
    obtain ⟨o, lst, rfl, l0, l1, hrow, hbw, hso, hol⟩ := hrel
    obtain ⟨wo, rfl⟩ : ∃ wo : World, wo = wr := ⟨_, rfl⟩
    have HR := Lib.hid hrow; have HS := Lib.hid hso; clear hrow hso
    go_wp2_with fail
    go_loop [5, 6] (fun best i => MRel lst zs best i) (fun _ i => zs.length - (intOf i).toNat)
    case atStart => exact ⟨0, Nat.zero_le _, rfl, rfl⟩
    case round =>
      obtain ⟨k, hk, rfl, rfl⟩ := hrel
      by_cases hlt : k < zs.length
      · obtain ⟨b, off, rfl, hb, hck⟩ := HC.out k hlt
        have hck : wo.cell? ⟨b, off + k, none⟩ = some (.int .i64 (zs[k]?.getD 0)) := (hbw.cell (p := ⟨b, off + k, none⟩) (Nat.lt_of_lt_of_le hb hB)).trans hck
        have hst := bestN_snoc lst (zs.take k) (zs[k]?.getD 0)
        rw [← take_one zs hlt] at hst
        have hbd := bestN_bd l0 (zs := zs.take k) (fun x hx => HL.out x (List.mem_of_mem_take hx))
        have hlx := HL.out _ (get_mem hlt)
        obtain ⟨x, hx⟩ : ∃ x, zs[k]?.getD 0 = x := ⟨_, rfl⟩
        obtain ⟨m, hm⟩ : ∃ m, bestN lst (zs.take k) = m := ⟨_, rfl⟩
        rw [hx] at hck hlx
        rw [hx, hm] at hst
        rw [hm] at hbd ⊢
        have hnn := idx_nonneg hlx
        have hrx := refIdx_lit hlx
        obtain ⟨v, hv⟩ : ∃ v, idxI x = v := ⟨_, rfl⟩
        rw [hv] at hst hnn hrx
        have H1 := Lib.hid hst; have HV := Lib.hid hrx; clear hst hx hm hv hrx hlx
        go_wp2_with (go_at_call 76; refine (ref_index _ _).mono ?_; rintro e w' ⟨rfl, rfl⟩; rw [HV.out])
        all_goals
          first
          | (have hnew : MRel lst zs (.int .i64 v) (.int .i64 ((k : Int) + 1)) := ⟨k + 1, by omega, by go_num, by rw [H1.out, if_pos (by omega)]⟩
             go_round
             case rel => exact hnew
             case measure => simp [intOf]; omega)
          | (have hnew : MRel lst zs (.int .i64 m) (.int .i64 ((k : Int) + 1)) := ⟨k + 1, by omega, by go_num, by rw [H1.out, if_neg (by omega)]⟩
             go_round
             case rel => exact hnew
             case measure => simp [intOf]; omega)
      · obtain rfl : k = zs.length := by omega
        obtain ⟨bb, hbb⟩ : ∃ bb, bestN lst (zs.take zs.length) = bb := ⟨_, rfl⟩
        have hb2 : bestN lst zs = bb := by rw [← hbb, List.take_length]
        rw [hbb]
        have his := bestN_is lst l0 zs
        rw [hb2] at his
        clear hbb hb2
        rcases his with ⟨rfl, hall⟩ | ⟨hm, hlb, hle⟩
        · have hov := HS.out.all hall
          clear hall
          have HO := Lib.hid hov; clear hov
          go_wp2_with fail
          go_ret
          exact ⟨_, rfl, by rw [← HO.out]; exact HR.out, hbw⟩
        · have hbd : 0 ≤ bb ∧ bb ≤ 2097151 := by
            obtain ⟨x, hx, e⟩ := hm
            have := idx_nonneg (HL.out x hx); omega
          have hnx := HS.out.next HL.out hm hlb hle
          obtain ⟨l, hl⟩ : ∃ l, atI bb = l := ⟨_, rfl⟩
          rw [hl] at hnx
          have HX := Lib.hid hnx; have HA := Lib.hid hl; clear hnx hm hle hl
          go_wp2_with (first
            | (go_at_call 77; refine (ref_at _ _).mono ?_; rintro e w' ⟨rfl, rfl⟩; rw [HA.out])
            | (at_builtin; refine wpList_append_own _ rfl _ _ 22 rfl w.heap.size 3 i0 (.int .i64 0) 1 8 Tryz.underlying22 hi hz0 hz1 hz2 rfl (by decide) _ _ _ rfl (HR.out.alloc _) ⟨wo.heap.size, 0, none⟩ 1 1 [.int .i64 l] rfl rfl (cell_one_new _ _ _) (by simp [Value.oneCell']) (by unfold maxLen; omega) (by omega) (by have := hbw.size; simp; omega) ?_; intro v' w2 hown' hgrow _))
          have hbn : Below w.heap.size w w2 := by
            refine (hbw.alloc hbw.size _).grown hgrow (by have := hbw.size; simp; omega) (fun k e => ?_)
            exact (HR.out.lt k e).1
          have hlen : (o ++ [l]).length = o.length + 1 := by simp
          refine ⟨⟨o ++ [l], bb, rfl, by omega, hbd.2, ?_, hbn, HX.out, by rw [hlen]; omega⟩, ?_⟩
          · rw [hlen, List.map_append]
            exact hown'
          · simp [intOf]; omega
end Go.Proofs.YtgoflapolglfcaaGreat
