/- The laws' awake: the examples of the chapter. -/
import Derived.Test.YtdeedmfofjdbjaaTrUse
namespace Go.Proofs.Ytdeedmfofjdbjaa
open Go.RowKit Go.ChangeAt Go.ChangeShapes Go.WideShapes

set_option maxRecDepth 100000 in
set_option maxHeartbeats 4000000 in
theorem trawake_any (w : World) : Calls Try.prog 11 #[] w fun e w' => e = .returned (.bool true) ∧ Below w.heap.size w w' := by
  go_enter Try.func11, Try.ntmps11
  go_wp2_with fail
  refine (ts_new 4 (by decide) w w (Below.refl _ _)).mono ?_
  rintro r W ⟨g, rfl, h⟩
  have H := Lib.hid h; clear h
  go_wp2_with fail
  refine (ts_assign H.out (2) 0 (by decide) (by decide) (by decide) (by decide) (by decide)).mono ?_
  rintro r W ⟨rfl, h⟩
  have hs : TS w W g 4 [⟨2, 0, 0⟩] [] := h
  have H := Lib.hid hs; clear hs h
  go_wp2_with fail
  refine (ts_push H.out (by decide)).mono ?_
  rintro r W ⟨rfl, h⟩
  have hs : TS w W g 4 [⟨2, 0, 0⟩] [1] := h
  have H := Lib.hid hs; clear hs h
  go_wp2_with fail
  refine (ts_assign H.out (-3) 5 (by decide) (by decide) (by decide) (by decide) (by decide)).mono ?_
  rintro r W ⟨rfl, h⟩
  have hs : TS w W g 4 [⟨2, 0, 0⟩, ⟨-3, 1, 5⟩] [1] := h
  have H := Lib.hid hs; clear hs h
  go_wp2_with fail
  refine (ts_assign H.out (1) 6 (by decide) (by decide) (by decide) (by decide) (by decide)).mono ?_
  rintro r W ⟨rfl, h⟩
  have hs : TS w W g 4 [⟨2, 0, 0⟩, ⟨-3, 1, 5⟩, ⟨1, 1, 6⟩] [1] := h
  have H := Lib.hid hs; clear hs h
  go_wp2_with fail
  refine (ts_push H.out (by decide)).mono ?_
  rintro r W ⟨rfl, h⟩
  have hs : TS w W g 4 [⟨2, 0, 0⟩, ⟨-3, 1, 5⟩, ⟨1, 1, 6⟩] [1, 3] := h
  have H := Lib.hid hs; clear hs h
  go_wp2_with fail
  refine (ts_assign H.out (-4) 0 (by decide) (by decide) (by decide) (by decide) (by decide)).mono ?_
  rintro r W ⟨rfl, h⟩
  have hs : TS w W g 4 [⟨2, 0, 0⟩, ⟨-3, 1, 5⟩, ⟨1, 1, 6⟩, ⟨-4, 2, 0⟩] [1, 3] := h
  have H := Lib.hid hs; clear hs h
  go_wp2_with fail
  refine (ts_now H.out).mono ?_
  rintro r W ⟨rfl, rfl⟩
  go_wp2_with fail
  refine (ts_len H.out).mono ?_
  rintro r W ⟨rfl, rfl⟩
  go_wp2_with fail
  refine (ts_value H.out (3) (-1) (by decide)).mono ?_
  rintro r W ⟨rfl, h⟩
  have hs : TS w W g 4 [⟨2, 0, 0⟩, ⟨-3, 1, 5⟩, ⟨1, 1, 6⟩, ⟨-4, 2, 0⟩] [1, 3] := h
  have H := Lib.hid hs; clear hs h
  go_wp2_with fail
  refine (ts_level H.out 1 (some (2, ⟨1, 1, 6⟩)) (oat_hit H.out.good rfl)).mono ?_
  rintro r W ⟨rfl, h⟩
  have hs : TS w W g 4 [⟨2, 0, 0⟩, ⟨-3, 1, 5⟩, ⟨1, 1, 6⟩, ⟨-4, 2, 0⟩] [1, 3] := h
  have H := Lib.hid hs; clear hs h
  go_wp2_with fail
  refine (ts_place H.out 1 (some (2, ⟨1, 1, 6⟩)) (oat_hit H.out.good rfl)).mono ?_
  rintro r W ⟨rfl, h⟩
  have hs : TS w W g 4 [⟨2, 0, 0⟩, ⟨-3, 1, 5⟩, ⟨1, 1, 6⟩, ⟨-4, 2, 0⟩] [1, 3] := h
  have H := Lib.hid hs; clear hs h
  go_wp2_with fail
  refine (ts_reason H.out 1 (some (2, ⟨1, 1, 6⟩)) (oat_hit H.out.good rfl)).mono ?_
  rintro r W ⟨rfl, h⟩
  have hs : TS w W g 4 [⟨2, 0, 0⟩, ⟨-3, 1, 5⟩, ⟨1, 1, 6⟩, ⟨-4, 2, 0⟩] [1, 3] := h
  have H := Lib.hid hs; clear hs h
  go_wp2_with fail
  refine (ts_start H.out 2 (by decide) (by decide) 3 (by decide)).mono ?_
  rintro r W ⟨rfl, rfl⟩
  go_wp2_with fail
  refine (ts_back H.out 1 (by decide)).mono ?_
  rintro r W ⟨rfl, h⟩
  have hs : TS w W g 4 [⟨2, 0, 0⟩, ⟨-3, 1, 5⟩, ⟨1, 1, 6⟩] [1] := h
  have H := Lib.hid hs; clear hs h
  go_wp2_with fail
  refine (ts_len H.out).mono ?_
  rintro r W ⟨rfl, rfl⟩
  go_wp2_with fail
  refine (ts_value H.out (4) (0) (by decide)).mono ?_
  rintro r W ⟨rfl, h⟩
  have hs : TS w W g 4 [⟨2, 0, 0⟩, ⟨-3, 1, 5⟩, ⟨1, 1, 6⟩] [1] := h
  have H := Lib.hid hs; clear hs h
  go_wp2_with fail
  refine (ts_back H.out 0 (by decide)).mono ?_
  rintro r W ⟨rfl, h⟩
  have hs : TS w W g 4 [⟨2, 0, 0⟩] [] := h
  have H := Lib.hid hs; clear hs h
  go_wp2_with fail
  refine (ts_len H.out).mono ?_
  rintro r W ⟨rfl, rfl⟩
  go_wp2_with fail
  refine (ts_assign_no H.out (-2) 0 41 (by decide) (by decide)).mono ?_
  rintro r W ⟨rfl, h⟩
  have hs : TS w W g 4 [⟨2, 0, 0⟩] [] := h
  have H := Lib.hid hs; clear hs h
  go_wp2_with fail
  refine (ts_assign_no H.out (5) 0 40 (by decide) (by decide)).mono ?_
  rintro r W ⟨rfl, h⟩
  have hs : TS w W g 4 [⟨2, 0, 0⟩] [] := h
  have H := Lib.hid hs; clear hs h
  go_wp2_with fail
  go_ret
  exact ⟨rfl, H.out.below⟩
end Go.Proofs.Ytdeedmfofjdbjaa
