/- The contracts of the document's own way to reckon (tallowref01): sums, products, quotients over 64 bits. Each leaves the world as it is. -/
import Derived.Test.YteoccfmhpakplaaGreatDoorBase
import Derived.Test.YteoccfmhpakplaaGreatDoorNumDo
import Derived.Test.YteoccfmhpakplaaGreatDoorRefMath
import Derived.Deep.LoopGhost
namespace Go.Proofs.YteoccfmhpakplaaGreatDoor
set_option maxRecDepth 20000
open Go.RowKit

set_option maxHeartbeats 400000 in
theorem sum_rel (a b s : Nat) (w : World) (h : SumRel s 64 a b) :
    Calls Tryz.prog 100 #[.int .u64 a, .int .u64 b] w fun e w' => e = .returned (.int .u64 s) ∧ w' = w := by
  go_enter Tryz.func100, Tryz.ntmps100
  go_wp2
  go_loopg [0, 1] 64 (fun g p q wr => wr = w ∧ ∃ x y : Nat, p = .int .u64 x ∧ q = .int .u64 y ∧ SumRel s g x y)
  case atStart => exact ⟨rfl, a, b, rfl, rfl, h⟩
  case round =>
    obtain ⟨rfl, x, y, rfl, rfl, hr⟩ := hrel
    by_cases hy : y = 0
    · have hy' : ((y : Int) != 0) = false := by simp [hy]
      have H := Lib.hid hy
      clear hy
      go_wp2
      go_ret
      have hy := H.out
      subst hy
      exact ⟨ret_int (congrArg Nat.cast hr.stop), rfl⟩
    · have hy' : ((y : Int) != 0) = true := by simp [hy]
      have H := Lib.hid hy
      have X := xor_u64 hr.la hr.lb
      have A := and_u64 hr.la hr.lb
      have D := dbl_u64 (andN x y)
      have M := Lib.hid (hr.more hy)
      clear hy
      go_wp2
      go_roundg (gk - 1)
      case measure => have := M.out; omega
      case rel => exact ⟨rfl, xorN x y, dblN (andN x y), rfl, rfl, hr.step H.out⟩
/-- tallowref01.sum. -/
theorem sum_any (a b : Nat) (w : World) (la : a < 18446744073709551616) (lb : b < 18446744073709551616) :
    Calls Tryz.prog 100 #[.int .u64 a, .int .u64 b] w fun e w' => e = .returned (.int .u64 ((a + b) % 18446744073709551616 : Nat)) ∧ w' = w :=
  sum_rel a b _ w (SumRel.start la lb)
def negN (a : Nat) : Nat := (18446744073709551616 - a) % 18446744073709551616
set_option maxHeartbeats 400000 in
/-- tallowref01.less0. -/
theorem less0_any (a : Nat) (w : World) (la : a < 18446744073709551616) :
    Calls Tryz.prog 88 #[.int .u64 a] w fun e w' => e = .returned (.int .u64 (negN a : Nat)) ∧ w' = w := by
  have X := not_u64 la
  have C := fun w => sum_any (18446744073709551615 - a) 1 w (by omega) (by omega)
  rw [show (18446744073709551615 - a + 1) % 18446744073709551616 = negN a by unfold negN; omega] at C
  generalize 18446744073709551615 - a = c at X C
  rw [show ((1 : Nat) : Int) = (1 : Int) from rfl] at C
  have C := Lib.hid C
  clear la
  go_enter Tryz.func88, Tryz.ntmps88
  go_wp2_with (go_at_call 100; (with_reducible refine (C.out _).mono ?_); rintro e w' ⟨rfl, hq⟩; obtain rfl := hq.symm)
  go_ret
  exact ⟨rfl, rfl⟩
end Go.Proofs.YteoccfmhpakplaaGreatDoor
