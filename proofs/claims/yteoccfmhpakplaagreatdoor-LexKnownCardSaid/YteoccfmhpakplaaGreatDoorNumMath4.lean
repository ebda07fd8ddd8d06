/- Plain facts on shifts: up is a product with a power of 2, down a quotient; one behind the other is both at once; up and down again keeps the low bits. No walk. -/
import Derived.Test.YteoccfmhpakplaaGreatDoorBase
import Derived.Test.YteoccfmhpakplaaGreatDoorNumMath3
namespace Go.Proofs.YteoccfmhpakplaaGreatDoor
set_option maxRecDepth 20000
open Go.RowKit

/-- 2 to the k, told modulo 2^64. -/
def pw (k : Nat) : Int := wrap64 (2 ^ k)
theorem pw_succ (k : Nat) : doF 2 (pw k) 2 = pw (k + 1) := by
  rw [doF_mul]; unfold pw; rw [wrap64_mul_l, Int.pow_succ]
theorem pow_split {m n : Nat} (h : m ≤ n) : (2 : Int) ^ n = 2 ^ m * 2 ^ (n - m) := by rw [← Int.pow_add]; congr 1; omega
theorem two64 : (2 : Int) ^ 64 = 18446744073709551616 := by decide
theorem upF_eq (a : Int) (x : Nat) : upF a x = wrap64 (a * 2 ^ x) := by
  unfold upF
  by_cases h : x ≤ 64
  · rw [Nat.min_eq_left h]
  · rw [Nat.min_eq_right (by omega)]
    apply wrap64_cong
    rw [pow_split (show 64 ≤ x by omega), two64, ← Int.mul_assoc, Int.mul_right_comm]
    omega
theorem shl_nat (a : Int) (x : Nat) : doF 8 a x = upF a x := by
  rw [doF_shl]; unfold shlF; rw [if_pos (by omega)]; congr 1
theorem shr_nat (a : Int) (x : Nat) : doF 9 a x = downF a x := by
  rw [doF_shr]; unfold shrF; rw [if_neg (by omega)]; congr 1
theorem upF_zero (a : Int) (a0 : -9223372036854775808 ≤ a) (a1 : a ≤ 9223372036854775807) : upF a 0 = a := by
  rw [upF_eq, Int.pow_zero, Int.mul_one, wrap64_id a0 a1]
theorem downF_zero (a : Int) (a0 : -9223372036854775808 ≤ a) (a1 : a ≤ 9223372036854775807) : downF a 0 = a := by
  unfold downF
  rw [Nat.min_eq_left (by omega), Int.pow_zero, Int.ediv_one, wrap64_cong (n := a) (by omega), wrap64_id a0 a1]
theorem shr_neg (a : Int) (x : Nat) (a0 : -9223372036854775808 ≤ a) (a1 : a ≤ 9223372036854775807) : doF 9 a (-(x : Int)) = upF a x := by
  rw [doF_shr]; unfold shrF
  by_cases h : x = 0
  · subst h; rw [if_neg (by omega), upF_zero a a0 a1]; exact downF_zero a a0 a1
  · rw [if_pos (by omega)]; congr 1; omega
theorem shl_neg (a : Int) (x : Nat) (a0 : -9223372036854775808 ≤ a) (a1 : a ≤ 9223372036854775807) : doF 8 a (-(x : Int)) = downF a x := by
  rw [doF_shl]; unfold shlF
  by_cases h : x = 0
  · subst h; rw [if_pos (by omega), downF_zero a a0 a1]; exact upF_zero a a0 a1
  · rw [if_neg (by omega)]; congr 1; omega
theorem up_up (a : Int) (x y : Nat) : upF (upF a x) y = upF a (x + y) := by
  rw [upF_eq a, upF_eq, upF_eq, wrap64_mul_l, Int.mul_assoc, Int.pow_add]
theorem down_mod (A : Int) (m : Nat) (h0 : 0 ≤ A) (h1 : A < 18446744073709551616) : wrap64 (A / 2 ^ m) % 18446744073709551616 = A / 2 ^ m := by
  rw [wrap64_mod]
  have hp : (0 : Int) < 2 ^ m := Int.pow_pos (by decide)
  have h2 : 0 ≤ A / 2 ^ m := Int.ediv_nonneg h0 (by omega)
  have h3 : A / 2 ^ m ≤ A := Int.ediv_le_self _ h0
  exact Int.emod_eq_of_lt h2 (by omega)
theorem down_far (A : Int) (m : Nat) (h0 : 0 ≤ A) (h1 : A < 18446744073709551616) (hm : 64 ≤ m) : A / 2 ^ m = 0 := by
  apply Int.ediv_eq_zero_of_lt h0
  have hp : (0 : Int) < 2 ^ (m - 64) := Int.pow_pos (by decide)
  rw [pow_split hm, two64]
  omega
theorem down_down (a : Int) (x y : Nat) : downF (downF a x) y = downF a (x + y) := by
  unfold downF
  have h0 : 0 ≤ a % 18446744073709551616 := Int.emod_nonneg _ (by decide)
  have h1 : a % 18446744073709551616 < 18446744073709551616 := Int.emod_lt_of_pos _ (by decide)
  generalize a % 18446744073709551616 = A at h0 h1 ⊢
  rw [down_mod A _ h0 h1]
  congr 1
  rw [Int.ediv_ediv_of_nonneg (Int.le_of_lt (Int.pow_pos (by decide))), ← Int.pow_add]
  by_cases h : x + y ≤ 64
  · rw [Nat.min_eq_left (show x ≤ 64 by omega), Nat.min_eq_left (show y ≤ 64 by omega), Nat.min_eq_left h]
  · rw [down_far A _ h0 h1 (by omega), down_far A _ h0 h1 (by omega)]
theorem down_up (a : Int) (x : Nat) : downF (upF a x) x = wrap64 (a % 2 ^ (64 - min x 64)) := by
  unfold downF upF
  congr 1
  rw [wrap64_mod]
  have hm : min x 64 ≤ 64 := Nat.min_le_right _ _
  generalize min x 64 = m at hm ⊢
  have hp : (0 : Int) < 2 ^ m := Int.pow_pos (by decide)
  rw [← two64, pow_split hm, Int.mul_comm a, Int.mul_emod_mul_of_pos _ _ hp, Int.mul_ediv_cancel_left _ (by omega)]
theorem ones (x : Nat) : downF (-1) x = wrap64 (2 ^ (64 - min x 64) - 1) := by
  unfold downF
  congr 1
  have hm : min x 64 ≤ 64 := Nat.min_le_right _ _
  generalize min x 64 = m at hm ⊢
  have hp : (0 : Int) < 2 ^ m := Int.pow_pos (by decide)
  have hs : (2 : Int) ^ m * 2 ^ (64 - m) = 18446744073709551616 := by rw [← pow_split hm, two64]
  have e : (-1 : Int) % 18446744073709551616 = (2 ^ m - 1) + 2 ^ m * (2 ^ (64 - m) - 1) := by
    rw [Int.mul_sub, hs, Int.mul_one]; omega
  rw [e, Int.add_mul_ediv_left _ _ (by omega), Int.ediv_eq_zero_of_lt (by omega) (by omega), Int.zero_add]
theorem low_bits (a : Int) (x : Nat) : doF 5 a (downF (-1) x) = wrap64 (a % 2 ^ (64 - min x 64)) := by
  rw [ones, and_eq, ofInt_wrap64, ← wrap_toNat]
  congr 1
  have hm : 64 - min x 64 ≤ 64 := by omega
  generalize 64 - min x 64 = m at hm ⊢
  rw [BitVec.toNat_and]
  have e1 : (BitVec.ofInt 64 (2 ^ m - 1)).toNat = 2 ^ m - 1 := by
    have hle : (2 : Nat) ^ m ≤ 2 ^ 64 := Nat.pow_le_pow_right (by decide) hm
    have hp : 0 < (2 : Nat) ^ m := Nat.pow_pos (by decide)
    have e : ((2 : Int) ^ m - 1) = ((2 ^ m - 1 : Nat) : Int) := by
      rw [Int.natCast_sub hp, Int.natCast_pow]; rfl
    rw [e, BitVec.ofInt_natCast, BitVec.toNat_ofNat, Nat.mod_eq_of_lt (by omega)]
  rw [e1, Nat.and_two_pow_sub_one_eq_mod, BitVec.toNat_ofInt]
  have h0 : 0 ≤ a % ((2 ^ 64 : Nat) : Int) := Int.emod_nonneg _ (by decide)
  rw [Int.natCast_emod, Int.toNat_of_nonneg h0, Int.natCast_pow]
  apply Int.emod_emod_of_dvd
  rw [Int.natCast_pow]
  exact ⟨2 ^ (64 - m), pow_split hm⟩
end Go.Proofs.YteoccfmhpakplaaGreatDoor
