/- What 'do' answers of sums, products and differences, and that they are a ring's modulo 2^64. No walk. -/
import Derived.Test.YteoccfmhpakplaaGreatDoorBase
import Derived.Test.YteoccfmhpakplaaGreatDoorNumMath
namespace Go.Proofs.YteoccfmhpakplaaGreatDoor
set_option maxRecDepth 20000
open Go.RowKit
theorem doF_add (a b : Int) : doF 0 a b = wrap64 (a + b) := by simp [doF, errF, valF]
theorem doF_sub (a b : Int) : doF 1 a b = wrap64 (a - b) := by simp [doF, errF, valF]
theorem doF_mul (a b : Int) : doF 2 a b = wrap64 (a * b) := by simp [doF, errF, valF]
theorem doF_and (a b : Int) : doF 5 a b = bits .and .i64 a b := by simp [doF, errF, valF]
theorem doF_or (a b : Int) : doF 6 a b = bits .or .i64 a b := by simp [doF, errF, valF]
theorem doF_xor (a b : Int) : doF 7 a b = bits .xor .i64 a b := by simp [doF, errF, valF]
theorem doF_shl (a b : Int) : doF 8 a b = shlF a b := by simp [doF, errF, valF]
theorem doF_shr (a b : Int) : doF 9 a b = shrF a b := by simp [doF, errF, valF]
theorem ring_add_comm (a b : Int) : doF 0 a b = doF 0 b a := by rw [doF_add, doF_add, Int.add_comm]
theorem ring_add_assoc (a b c : Int) : doF 0 (doF 0 a b) c = doF 0 a (doF 0 b c) := by
  simp only [doF_add, wrap64_add_l, wrap64_add_r, Int.add_assoc]
theorem ring_sub (a b : Int) (h0 : -9223372036854775808 ≤ a) (h1 : a ≤ 9223372036854775807) : doF 1 (doF 0 a b) b = a := by
  rw [doF_sub, doF_add, wrap64_sub_l, Int.add_sub_cancel, wrap64_id h0 h1]
theorem ring_zero (a : Int) (h0 : -9223372036854775808 ≤ a) (h1 : a ≤ 9223372036854775807) : doF 0 a 0 = a := by
  rw [doF_add, Int.add_zero, wrap64_id h0 h1]
theorem ring_mul_comm (a b : Int) : doF 2 a b = doF 2 b a := by rw [doF_mul, doF_mul, Int.mul_comm]
theorem ring_mul_assoc (a b c : Int) : doF 2 (doF 2 a b) c = doF 2 a (doF 2 b c) := by
  simp only [doF_mul, wrap64_mul_l, wrap64_mul_r, Int.mul_assoc]
theorem ring_one (a : Int) (h0 : -9223372036854775808 ≤ a) (h1 : a ≤ 9223372036854775807) : doF 2 a 1 = a := by
  rw [doF_mul, Int.mul_one, wrap64_id h0 h1]
theorem ring_dist (a b c : Int) : doF 2 a (doF 0 b c) = doF 0 (doF 2 a b) (doF 2 a c) := by
  simp only [doF_mul, doF_add, wrap64_mul_r, wrap64_add_l, wrap64_add_r, Int.mul_add]
theorem neq_false {a b : Int} (h : a = b) : (a != b) = false := by simp [h]
theorem beq_true {a b : Int} (h : a = b) : (a == b) = true := by simp [h]
end Go.Proofs.YteoccfmhpakplaaGreatDoor
