/- Plain facts on 64-bit arithmetic: wrapping, quotients rounded down, shifts and bits over the integers. No walk, no program. -/
import Derived.Test.YteoccfmhpakplaaGreatDoorBase
import Derived.WalkKit
namespace Go.Proofs.YteoccfmhpakplaaGreatDoor
set_option maxRecDepth 20000
open Go.RowKit

def quo (a b : Int) : Int := wrap64 (a.fdiv b)
/-- a's 64 bits b places up (b from 0 on), or down. -/
def upF (a : Int) (n : Nat) : Int := wrap64 (a * 2 ^ min n 64)
def downF (a : Int) (n : Nat) : Int := wrap64 ((a % 18446744073709551616) / 2 ^ min n 64)
def shlF (a b : Int) : Int := if 0 ≤ b then upF a b.toNat else downF a (-b).toNat
def shrF (a b : Int) : Int := if b < 0 then upF a (-b).toNat else downF a b.toNat
def valF (op a b : Int) : Int :=
  if op = 0 then wrap64 (a + b) else if op = 1 then wrap64 (a - b) else if op = 2 then wrap64 (a * b) else
  if op = 3 then quo a b else if op = 4 then wrap64 (a - wrap64 (b * quo a b)) else
  if op = 5 then bits .and .i64 a b else if op = 6 then bits .or .i64 a b else if op = 7 then bits .xor .i64 a b else
  if op = 8 then shlF a b else shrF a b
/-- The error's number. -/
def errF (op b : Int) : Int := if op < 0 ∨ 9 < op then 2 else if (op = 3 ∨ op = 4) ∧ b = 0 then 8 else 0
/-- What 'do' of the laws answers. -/
def doF (op a b : Int) : Int := if errF op b = 0 then valF op a b else -987654321

theorem wrap64_eq (n : Int) : wrap64 n = (n + 9223372036854775808) % 18446744073709551616 - 9223372036854775808 := by unfold wrap64; omega
theorem wrap64_cong {m n : Int} (h : m % 18446744073709551616 = n % 18446744073709551616) : wrap64 m = wrap64 n := by unfold wrap64; omega
theorem wrap64_mod (n : Int) : wrap64 n % 18446744073709551616 = n % 18446744073709551616 := by unfold wrap64; omega
theorem wrap64_id {n : Int} (h0 : -9223372036854775808 ≤ n) (h1 : n ≤ 9223372036854775807) : wrap64 n = n := by unfold wrap64; omega
theorem wrap64_lo (n : Int) : -9223372036854775808 ≤ wrap64 n := by unfold wrap64; omega
theorem wrap64_hi (n : Int) : wrap64 n ≤ 9223372036854775807 := by unfold wrap64; omega
theorem wrap64_add_l (a b : Int) : wrap64 (wrap64 a + b) = wrap64 (a + b) := by unfold wrap64; omega
theorem wrap64_add_r (a b : Int) : wrap64 (a + wrap64 b) = wrap64 (a + b) := by unfold wrap64; omega
theorem wrap64_sub_l (a b : Int) : wrap64 (wrap64 a - b) = wrap64 (a - b) := by unfold wrap64; omega
theorem wrap64_sub_r (a b : Int) : wrap64 (a - wrap64 b) = wrap64 (a - b) := by unfold wrap64; omega
theorem wrap64_mul_l (a b : Int) : wrap64 (wrap64 a * b) = wrap64 (a * b) := wrap64_cong (by rw [Int.mul_emod, wrap64_mod, ← Int.mul_emod])
theorem wrap64_mul_r (a b : Int) : wrap64 (a * wrap64 b) = wrap64 (a * b) := wrap64_cong (by rw [Int.mul_emod, wrap64_mod, ← Int.mul_emod])

theorem quo_same {a b : Int} (h : ¬ (a.tmod b ≠ 0 ∧ (decide (a < 0) != decide (b < 0)) = true)) : wrap64 (a.tdiv b) = quo a b := by
  unfold quo
  congr 1
  rw [Int.fdiv_eq_tdiv]
  by_cases hd : b ∣ a
  · simp [hd]
  · have ht : a.tmod b ≠ 0 := fun e => hd (Int.dvd_of_tmod_eq_zero e)
    have hs : (decide (a < 0) != decide (b < 0)) = false := by
      cases hx : (decide (a < 0) != decide (b < 0)) with
      | false => rfl
      | true => exact absurd ⟨ht, hx⟩ h
    have hs : decide (a < 0) = decide (b < 0) := by simpa using hs
    have hs : a < 0 ↔ b < 0 := by simpa using hs
    rw [if_neg hd]
    by_cases ha : 0 ≤ a
    · rw [if_pos ha, if_pos (by omega)]; omega
    · rw [if_neg ha, if_neg (by omega)]
      have : b.sign = -1 := Int.sign_eq_neg_one_of_neg (by omega)
      omega
theorem quo_less {a b : Int} (hb : b ≠ 0) (ht : a.tmod b ≠ 0) (hs : (decide (a < 0) != decide (b < 0)) = true) : wrap64 (wrap64 (a.tdiv b) - 1) = quo a b := by
  rw [wrap64_sub_l]
  unfold quo
  congr 1
  rw [Int.fdiv_eq_tdiv]
  have hd : ¬ b ∣ a := fun e => ht (Int.tmod_eq_zero_of_dvd e)
  have hs : ¬ (a < 0 ↔ b < 0) := by simpa using hs
  rw [if_neg hd]
  by_cases ha : 0 ≤ a
  · rw [if_pos ha, if_neg (by omega)]
  · rw [if_neg ha, if_pos (by omega)]
    have : b.sign = 1 := Int.sign_eq_one_of_pos (by omega)
    omega
theorem wrap_i64_lo (n : Int) : -9223372036854775808 ≤ IntKind.i64.wrap n := by rw [IntKind.wrap_i64]; omega
theorem wrap_i64_hi (n : Int) : IntKind.i64.wrap n ≤ 9223372036854775807 := by rw [IntKind.wrap_i64]; omega
theorem valF_lo (op a b : Int) : -9223372036854775808 ≤ valF op a b := by
  unfold valF quo bits shlF shrF upF downF
  repeat' split
  all_goals first | exact wrap64_lo _ | exact wrap_i64_lo _
theorem valF_hi (op a b : Int) : valF op a b ≤ 9223372036854775807 := by
  unfold valF quo bits shlF shrF upF downF
  repeat' split
  all_goals first | exact wrap64_hi _ | exact wrap_i64_hi _
theorem doF_lo (op a b : Int) : -9223372036854775808 ≤ doF op a b := by
  unfold doF; split
  · exact valF_lo _ _ _
  · omega
theorem doF_hi (op a b : Int) : doF op a b ≤ 9223372036854775807 := by
  unfold doF; split
  · exact valF_hi _ _ _
  · omega
end Go.Proofs.YteoccfmhpakplaaGreatDoor
