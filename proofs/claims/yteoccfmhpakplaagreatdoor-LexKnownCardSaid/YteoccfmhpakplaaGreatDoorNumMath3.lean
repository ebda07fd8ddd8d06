/- Plain facts: quotient and rest, bits over 64-bit vectors, shifts as products and quotients. No walk. -/
import Derived.Test.YteoccfmhpakplaaGreatDoorBase
import Derived.Test.YteoccfmhpakplaaGreatDoorNumMath2
namespace Go.Proofs.YteoccfmhpakplaaGreatDoor
set_option maxRecDepth 20000
open Go.RowKit

/-! ### Quotient and rest -/
theorem fmod_range (a b : Int) : (0 < b → 0 ≤ a.fmod b ∧ a.fmod b < b) ∧ (b < 0 → a.fmod b ≤ 0 ∧ b < a.fmod b) := by
  constructor
  · intro h
    exact ⟨Int.fmod_nonneg_of_pos a h, Int.fmod_lt_of_pos a h⟩
  · intro h
    have e : a.fmod b = -((-a).fmod (-b)) := by
      have := Int.neg_fmod_neg a b
      omega
    have h1 := Int.fmod_nonneg_of_pos (-a) (show 0 < -b by omega)
    have h2 := Int.fmod_lt_of_pos (-a) (show 0 < -b by omega)
    omega
theorem rest_eq {a b : Int} (hb : b ≠ 0) (b0 : -9223372036854775808 ≤ b) (b1 : b ≤ 9223372036854775807) : valF 4 a b = a.fmod b := by
  have e : valF 4 a b = wrap64 (a - wrap64 (b * quo a b)) := by simp [valF]
  rw [e]
  unfold quo
  rw [wrap64_mul_r, wrap64_sub_r, ← Int.fmod_def]
  have := fmod_range a b
  exact wrap64_id (by omega) (by omega)
theorem parts_back {a b : Int} (a0 : -9223372036854775808 ≤ a) (a1 : a ≤ 9223372036854775807) (hb : b ≠ 0) (b0 : -9223372036854775808 ≤ b) (b1 : b ≤ 9223372036854775807) :
    doF 0 (doF 2 (valF 3 a b) b) (valF 4 a b) = a := by
  rw [rest_eq hb b0 b1, doF_add, doF_mul]
  have e : valF 3 a b = wrap64 (a.fdiv b) := by simp [valF, quo]
  rw [e, wrap64_mul_l, wrap64_add_l, Int.mul_comm, Int.mul_fdiv_add_fmod, wrap64_id a0 a1]

/-! ### Bits -/
theorem wrap_i64_eq (n : Int) : IntKind.i64.wrap n = wrap64 n := by rw [IntKind.wrap_i64]; unfold wrap64; omega
theorem toInt_ofInt64 (n : Int) : (BitVec.ofInt 64 n).toInt = wrap64 n := by
  rw [BitVec.toInt_ofInt]
  unfold wrap64 Int.bmod
  simp only []
  split <;> omega
theorem wrap_toNat (x : BitVec 64) : wrap64 (x.toNat : Int) = x.toInt := by
  rw [← toInt_ofInt64]
  congr 1
  rw [BitVec.ofInt_natCast, BitVec.ofNat_toNat, BitVec.setWidth_eq]
theorem ofInt_toInt64 (x : BitVec 64) : BitVec.ofInt 64 x.toInt = x := BitVec.ofInt_toInt
theorem ofInt_wrap64 (n : Int) : BitVec.ofInt 64 (wrap64 n) = BitVec.ofInt 64 n := by rw [← toInt_ofInt64, ofInt_toInt64]
theorem and_eq (a b : Int) : doF 5 a b = (BitVec.ofInt 64 a &&& BitVec.ofInt 64 b).toInt := by
  rw [doF_and, ← wrap_toNat, ← wrap_i64_eq]; rfl
theorem or_eq (a b : Int) : doF 6 a b = (BitVec.ofInt 64 a ||| BitVec.ofInt 64 b).toInt := by
  rw [doF_or, ← wrap_toNat, ← wrap_i64_eq]; rfl
theorem xor_eq (a b : Int) : doF 7 a b = (BitVec.ofInt 64 a ^^^ BitVec.ofInt 64 b).toInt := by
  rw [doF_xor, ← wrap_toNat, ← wrap_i64_eq]; rfl
theorem add_eq (a b : Int) : doF 0 a b = (BitVec.ofInt 64 a + BitVec.ofInt 64 b).toInt := by
  rw [doF_add, ← BitVec.ofInt_add, toInt_ofInt64]
theorem sub_eq (a b : Int) : doF 1 a b = (BitVec.ofInt 64 a - BitVec.ofInt 64 b).toInt := by
  rw [doF_sub, ← toInt_ofInt64]
  congr 1
  rw [Int.sub_eq_add_neg, BitVec.ofInt_add, BitVec.ofInt_neg, BitVec.sub_eq_add_neg]
theorem vec_or (A B : BitVec 64) : (A &&& B) ||| (A ^^^ B) = A ||| B := by
  apply BitVec.eq_of_getLsbD_eq; intro i hi
  simp only [BitVec.getLsbD_or, BitVec.getLsbD_and, BitVec.getLsbD_xor]
  cases A.getLsbD i <;> cases B.getLsbD i <;> rfl
theorem vec_none (A B : BitVec 64) : (A &&& B) &&& (A ^^^ B) = 0#64 := by
  apply BitVec.eq_of_getLsbD_eq; intro i hi
  simp only [BitVec.getLsbD_and, BitVec.getLsbD_xor, BitVec.getLsbD_zero]
  cases A.getLsbD i <;> cases B.getLsbD i <;> rfl
theorem vec_sum (A B : BitVec 64) : (A &&& B) + (A ||| B) = A + B := by
  have d1 : (A &&& B) &&& (A &&& ~~~B) = 0#64 := by
    apply BitVec.eq_of_getLsbD_eq; intro i hi
    simp only [BitVec.getLsbD_and, BitVec.getLsbD_not, BitVec.getLsbD_zero, hi, decide_true, Bool.true_and]
    cases A.getLsbD i <;> cases B.getLsbD i <;> rfl
  have d2 : B &&& (A &&& ~~~B) = 0#64 := by
    apply BitVec.eq_of_getLsbD_eq; intro i hi
    simp only [BitVec.getLsbD_and, BitVec.getLsbD_not, BitVec.getLsbD_zero, hi, decide_true, Bool.true_and]
    cases A.getLsbD i <;> cases B.getLsbD i <;> rfl
  have e1 : (A &&& B) ||| (A &&& ~~~B) = A := by
    apply BitVec.eq_of_getLsbD_eq; intro i hi
    simp only [BitVec.getLsbD_or, BitVec.getLsbD_and, BitVec.getLsbD_not, hi, decide_true, Bool.true_and]
    cases A.getLsbD i <;> cases B.getLsbD i <;> rfl
  have e2 : B ||| (A &&& ~~~B) = A ||| B := by
    apply BitVec.eq_of_getLsbD_eq; intro i hi
    simp only [BitVec.getLsbD_or, BitVec.getLsbD_and, BitVec.getLsbD_not, hi, decide_true, Bool.true_and]
    cases A.getLsbD i <;> cases B.getLsbD i <;> rfl
  have s1 := BitVec.add_eq_or_of_and_eq_zero _ _ d1
  have s2 := BitVec.add_eq_or_of_and_eq_zero _ _ d2
  rw [e1] at s1
  rw [e2] at s2
  rw [← s2, BitVec.add_comm B, ← BitVec.add_assoc, s1]
theorem vec_back (A B : BitVec 64) : (A ^^^ B) ^^^ B = A := by
  apply BitVec.eq_of_getLsbD_eq; intro i hi
  simp only [BitVec.getLsbD_xor]
  cases A.getLsbD i <;> cases B.getLsbD i <;> rfl
theorem vec_not (A : BitVec 64) : A ^^^ BitVec.ofInt 64 (-1) = 0#64 - A - 1#64 := by
  have e : BitVec.ofInt 64 (-1) = BitVec.allOnes 64 := by decide
  rw [e, BitVec.xor_allOnes, BitVec.zero_sub, BitVec.neg_eq_not_add, BitVec.add_sub_cancel]
theorem bits_or (a b : Int) : doF 6 (doF 5 a b) (doF 7 a b) = doF 6 a b := by
  rw [and_eq, xor_eq, or_eq, or_eq, ofInt_toInt64, ofInt_toInt64, vec_or]
theorem bits_none (a b : Int) : doF 5 (doF 5 a b) (doF 7 a b) = 0 := by
  rw [and_eq a b, xor_eq, and_eq, ofInt_toInt64, ofInt_toInt64, vec_none]; rfl
theorem bits_sum (a b : Int) : doF 0 (doF 5 a b) (doF 6 a b) = doF 0 a b := by
  rw [and_eq, or_eq, add_eq, add_eq, ofInt_toInt64, ofInt_toInt64, vec_sum]
theorem bits_back (a b : Int) (a0 : -9223372036854775808 ≤ a) (a1 : a ≤ 9223372036854775807) : doF 7 (doF 7 a b) b = a := by
  rw [xor_eq a b, xor_eq, ofInt_toInt64, vec_back, toInt_ofInt64, wrap64_id a0 a1]
theorem bits_not (a : Int) : doF 7 a (-1) = doF 1 (doF 1 0 a) 1 := by
  rw [xor_eq, sub_eq 0 a, sub_eq, ofInt_toInt64, vec_not]; rfl
end Go.Proofs.YteoccfmhpakplaaGreatDoor
