/- The contracts of the document's own way to reckon (tallowref01): sums, products, quotients over 64 bits. Each leaves the world as it is. -/
import Derived.Test.YtfbhbodimdlldaaDoorNumDo
import Derived.Test.YtfbhbodimdlldaaDoorRefMath
import Derived.Deep.LoopGhost
namespace Go.Proofs.YtfbhbodimdlldaaDoor
open Go.RowKit

set_option maxHeartbeats 400000 in
theorem sum_rel (a b s : Nat) (w : World) (h : SumRel s 64 a b) :
    Calls Tryd.prog 27 #[.int .u64 a, .int .u64 b] w fun e w' => e = .returned (.int .u64 s) ∧ w' = w := by
  go_enter Tryd.func27, Tryd.ntmps27
  go_wp2
  go_loopg [0, 1] 64 (fun g p q wr => wr = w ∧ ∃ x y : Nat, p = .int .u64 x ∧ q = .int .u64 y ∧ SumRel s g x y)
  case atStart => exact ⟨rfl, a, b, rfl, rfl, h⟩
  case round =>
    obtain ⟨rfl, x, y, rfl, rfl, hr⟩ := hrel
    by_cases hy : y = 0
    · have hy' : ((y : Int) != 0) = false := by simp [hy]
      have H := Lib.hid hy
      clear hy
      go_wp2
      go_ret
      have hy := H.out
      subst hy
      exact ⟨ret_int (congrArg Nat.cast hr.stop), rfl⟩
    · have hy' : ((y : Int) != 0) = true := by simp [hy]
      have H := Lib.hid hy
      have X := xor_u64 hr.la hr.lb
      have A := and_u64 hr.la hr.lb
      have D := dbl_u64 (andN x y)
      have M := Lib.hid (hr.more hy)
      clear hy
      go_wp2
      go_roundg (gk - 1)
      case measure => have := M.out; omega
      case rel => exact ⟨rfl, xorN x y, dblN (andN x y), rfl, rfl, hr.step H.out⟩
/-- tallowref01.sum. -/
theorem sum_any (a b : Nat) (w : World) (la : a < 18446744073709551616) (lb : b < 18446744073709551616) :
    Calls Tryd.prog 27 #[.int .u64 a, .int .u64 b] w fun e w' => e = .returned (.int .u64 ((a + b) % 18446744073709551616 : Nat)) ∧ w' = w :=
  sum_rel a b _ w (SumRel.start la lb)
def negN (a : Nat) : Nat := (18446744073709551616 - a) % 18446744073709551616
set_option maxHeartbeats 400000 in
/-- tallowref01.less0. -/
theorem less0_any (a : Nat) (w : World) (la : a < 18446744073709551616) :
    Calls Tryd.prog 28 #[.int .u64 a] w fun e w' => e = .returned (.int .u64 (negN a : Nat)) ∧ w' = w := by
  have X := not_u64 la
  have C := fun w => sum_any (18446744073709551615 - a) 1 w (by omega) (by omega)
  rw [show (18446744073709551615 - a + 1) % 18446744073709551616 = negN a by unfold negN; omega] at C
  generalize 18446744073709551615 - a = c at X C
  rw [show ((1 : Nat) : Int) = (1 : Int) from rfl] at C
  have C := Lib.hid C
  clear la
  go_enter Tryd.func28, Tryd.ntmps28
  go_wp2_with (go_at_call 27; (with_reducible refine (C.out _).mono ?_); rintro e w' ⟨rfl, hq⟩; obtain rfl := hq.symm)
  go_ret
  exact ⟨rfl, rfl⟩
set_option maxHeartbeats 400000 in
/-- tallowref01.size. -/
theorem size_any (a : Int) (w : World) (a0 : -9223372036854775808 ≤ a) (a1 : a ≤ 9223372036854775807) :
    Calls Tryd.prog 34 #[.int .i64 a] w fun e w' => e = .returned (.int .u64 (a.natAbs : Nat)) ∧ w' = w := by
  by_cases h : a < 0
  · have e : IntKind.u64.wrap a = (((18446744073709551616 - a.natAbs) : Nat) : Int) := by rw [IntKind.wrap_u64]; omega
    have C := fun w => less0_any (18446744073709551616 - a.natAbs) w (by omega)
    rw [show negN (18446744073709551616 - a.natAbs) = a.natAbs by unfold negN; omega] at C
    generalize 18446744073709551616 - a.natAbs = c at e C
    have C := Lib.hid C
    go_enter Tryd.func34, Tryd.ntmps34
    go_wp2_with (go_at_call 28; refine (C.out _).mono ?_; rintro e w' ⟨rfl, hq⟩; obtain rfl := hq.symm)
    go_ret
    exact ⟨rfl, rfl⟩
  · go_enter Tryd.func34, Tryd.ntmps34
    go_wp2
    go_ret
    exact ⟨ret_int (by first | omega | (rw [IntKind.wrap_u64]; omega)), rfl⟩
set_option maxHeartbeats 400000 in
/-- tallowref01.product. -/
theorem product_any (a b : Nat) (w : World) (lb : b < 18446744073709551616) :
    Calls Tryd.prog 29 #[.int .u64 a, .int .u64 b] w fun e w' => e = .returned (.int .u64 (prodN a b 64 : Nat)) ∧ w' = w := by
  have P0 := Lib.hid (prod_start a b)
  have LB := Lib.hid lb
  clear lb
  go_enter Tryd.func29, Tryd.ntmps29
  go_wp2
  go_loop [5, 6] (fun o i => ∃ k : Nat, k ≤ 64 ∧ i = .int .i64 k ∧ o = .int .u64 (prodN a b k : Nat)) (fun _ i => 64 - (intOf i).toNat)
  case atStart => exact ⟨0, by omega, rfl, by rw [P0.out]; rfl⟩
  case round =>
    obtain ⟨k, hk, rfl, rfl⟩ := hrel
    by_cases hlt : k < 64
    · have B := bit_u64 (k := k) LB.out
      have S := sh_u64 a k
      rcases Nat.mod_two_eq_zero_or_one (b / 2 ^ k) with h | h
      · rw [h] at B
        have N := Lib.hid (prod_none (a := a) h)
        have B1 : (bits BinOp.and IntKind.u64 (↑b / 2 ^ k) 1 == 1) = false := by rw [B]; rfl
        clear h B
        go_wp2
        go_round
        case rel => exact ⟨k + 1, by omega, by go_num, by rw [N.out]⟩
        case measure => simp [intOf]; omega
      · rw [h] at B
        have N := Lib.hid (prod_one (a := a) h)
        have B1 : (bits BinOp.and IntKind.u64 (↑b / 2 ^ k) 1 == 1) = true := by rw [B]; rfl
        have C := fun w => sum_any (prodN a b k) (shN a k) w (prodN_lt _ _ _) (shN_lt _ _)
        rw [N.out] at C
        have C := Lib.hid C
        clear h B
        go_wp2_with (go_at_call 27; refine (C.out _).mono ?_; rintro e w' ⟨rfl, hq⟩; obtain rfl := hq.symm)
        go_round
        case rel => exact ⟨k + 1, by omega, by go_num, rfl⟩
        case measure => simp [intOf]; omega
    · obtain rfl : k = 64 := by omega
      go_wp2
      go_ret
      exact ⟨rfl, rfl⟩
set_option maxHeartbeats 1000000 in
/-- tallowref01.parts. -/
theorem parts_any (a b : Nat) (w : World) (la : a < 18446744073709551616) (hb : 0 < b) (hb1 : b ≤ 9223372036854775808) :
    Calls Tryd.prog 50 #[.int .u64 a, .int .u64 b] w fun e w' => e = .returned (.tuple #[.int .u64 (a / b : Nat), .int .u64 (a % b : Nat)]) ∧ w' = w := by
  have P0 := Lib.hid (parts_start (b := b) la)
  have PE := Lib.hid (parts_end a b)
  have LA := Lib.hid la
  have LB := Lib.hid hb1
  clear la hb1
  go_enter Tryd.func50, Tryd.ntmps50
  go_wp2
  go_loop [6, 7, 8] (fun q r i => ∃ k : Nat, k ≤ 64 ∧ i = .int .i64 ((k : Int) - 1) ∧ q = .int .u64 (qN a b k : Nat) ∧ r = .int .u64 (rN a b k : Nat)) (fun _ _ i => (intOf i + 1).toNat)
  case atStart => exact ⟨64, by omega, rfl, by rw [P0.out.1]; rfl, by rw [P0.out.2]; rfl⟩
  case round =>
    obtain ⟨k, hk, rfl, rfl, rfl⟩ := hrel
    cases k with
    | zero =>
      go_wp2
      go_ret2
      exact ⟨ret_pair (congrArg Nat.cast PE.out.1) (congrArg Nat.cast PE.out.2), rfl⟩
    | succ k =>
      have H1 : (((rN a b (k + 1) : Nat) : Int) / 9223372036854775808 == 1) = false := by
        have := rN_lt (a := a) (k := k + 1) hb; have := LB.out; simp; omega
      have T := t_u64 (k := k) hb LB.out LA.out
      by_cases ht : b ≤ tN a b k
      · have Y := Lib.hid (parts_yes hb ht)
        have Q := q_u64 (a := a) (b := b) (k := k) (by omega) LA.out
        have t0 : (b : Int) ≤ ((tN a b k : Nat) : Int) := by omega
        have t1 : ((tN a b k : Nat) : Int) ≤ 18446744073709551615 := by have := tN_lt (a := a) (k := k) hb; have := LB.out; omega
        clear ht
        go_wp2
        go_round
        case rel => exact ⟨k, by omega, by go_num, by rw [Y.out.2, Int.natCast_add, Int.natCast_pow]; rfl, by rw [Y.out.1]; congr 1; omega⟩
        case measure => simp [intOf]
      · have Y := Lib.hid (parts_no (a := a) (b := b) (k := k) (by omega))
        have t0 : ((tN a b k : Nat) : Int) < (b : Int) := by omega
        clear ht
        go_wp2
        go_round
        case rel => exact ⟨k, by omega, by go_num, by rw [Y.out.2], by rw [Y.out.1]⟩
        case measure => simp [intOf]
end Go.Proofs.YtfbhbodimdlldaaDoor
