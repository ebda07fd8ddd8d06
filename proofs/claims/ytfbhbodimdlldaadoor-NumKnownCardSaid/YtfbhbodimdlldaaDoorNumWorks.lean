/- The laws' 'works': it answers true, in whatever world the library's table and sentinel stand. -/
import Derived.Test.YtfbhbodimdlldaaDoorNumParse
namespace Go.Proofs.YtfbhbodimdlldaaDoor
open Go.RowKit
theorem parse12 : Lib.parseIntB 64 [45, 49, 50] = .ok (-12) := by decide
theorem parse12t : isTextL [45, 49, 50] = true := by decide
theorem itoa12 : (⟨(Lib.itoa (-12)).toArray⟩ : ByteArray) = ⟨#[45, 49, 50]⟩ := by
  simp [Lib.itoa, Lib.decDigits]
set_option maxHeartbeats 400000 in
theorem works_true (w : World) (hE : Env w) :
    Calls Tryd.prog 15 #[] w fun e w' => e = .returned (.bool true) ∧ Below w.heap.size w w' := by
  have P := Lib.hid (Parse_ok ⟨#[45, 49, 50]⟩ (-12) w (by decide) parse12t parse12 hE)
  have E := Lib.hid hE
  clear hE
  have D1 := Lib.hid (fun w => do_any 3 (-7) 2 w (by omega) (by omega))
  have D2 := Lib.hid (fun w => do_any 4 (-7) 2 w (by omega) (by omega))
  have D3 := Lib.hid (fun w => do_any 8 1 3 w (by omega) (by omega))
  rw [show doF 3 (-7) 2 = -4 by decide +kernel] at D1
  rw [show doF 4 (-7) 2 = 1 by decide +kernel] at D2
  rw [show doF 8 1 3 = 8 by decide +kernel] at D3
  go_enter Tryd.func15, Tryd.ntmps15
  go_wp2_with (go_at_call 18; refine P.out.mono ?_; rintro e w1 ⟨rfl, hb⟩)
  have B := Lib.hid hb
  have T := Text_any (-12) (by omega) (by omega) w1 (E.out.below hb)
  rw [itoa12] at T
  have T := Lib.hid T
  clear hb
  go_wp2_with (first | (go_at_call 24; (first | (with_reducible refine (D1.out _).mono ?_) | (with_reducible refine (D2.out _).mono ?_) | (with_reducible refine (D3.out _).mono ?_)); rintro e w' ⟨rfl, hq⟩; obtain rfl := hq.symm) | (go_at_call 16; refine T.out.mono ?_; rintro e w2 ⟨rfl, hb2⟩))
  go_ret
  exact ⟨rfl, B.out.trans (hb2.mono B.out.size)⟩
end Go.Proofs.YtfbhbodimdlldaaDoor
