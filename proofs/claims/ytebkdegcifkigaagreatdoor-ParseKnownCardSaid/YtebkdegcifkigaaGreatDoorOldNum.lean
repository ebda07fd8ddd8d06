/- NumMath: Plain facts on 64-bit arithmetic: wrapping, quotients rounded down, shifts and bits over the integers. No walk, no program. | NumMath2: What 'do' answers of sums, products and differences, and that they are a ring's modulo 2^64. No walk. | NumMath3: Plain facts: quotient and rest, bits over 64-bit vectors, shifts as products and quotients. No walk. | NumMath4: Plain facts on shifts: up is a product with a power of 2, down a quotient; one behind the other is both at once; up and down again keeps the low bits. No walk. | NumDo: The contracts of num.Do and of the laws' 'do': for every operation and any two numbers they answer what valF, errF and doF say, and leave the world as it is. | NumIs: errors.Is by its contracts, at what num.Parse asks: no error, and a *strconv.NumError that wraps the sentinel itself. The world stays as it is. | NumParse: num.isText, num.Parse and num.Text by their contracts: what a text is read as, and how a number is written, for every text and every number. | RefMath: Plain facts on the document's own way to reckon: sums by carries, products and quotients bit by bit, over numbers below 2^64. No walk. | RefDo: The contracts of the document's own way to reckon (tallowref01): sums, products, quotients over 64 bits. Each leaves the world as it is. | RefText: The contracts of the document's own digits and text of a number: they are Lib.decDigits and Lib.itoa; what lay below stands. | TextMath: Plain facts on decimal texts: what a text is read as, that a number's text is read as that number, and that a text that is read is that number's. No walk. | RefParse: The contract of the document's own reading of a number (tallowref01.Parse): at every text it answers what parseV and parseE say, as num.Parse does. The world stays as it is. -/
import Derived.Test.YtebkdegcifkigaaGreatDoorBase
import Derived.WalkKit
import Derived.Test.YtebkdegcifkigaaGreatDoorRows
import Derived.WalkSpells
import Derived.WalkLawsBesides
import Derived.Lib.Hide
import Derived.Test.YtebkdegcifkigaaGreatDoorChecked
import Derived.LaidEql
import Derived.Stop.Asserts
import Derived.RowKitTokens
import Derived.Handy
import Derived.Test.YtebkdegcifkigaaGreatDoorShelfNum
import Derived.Lib.AppendIntMem
import Derived.Lib.ParseIntBTie
import Derived.Lib.AtoiErrMem
import Derived.WalkSmall
import Derived.Deep.LoopGhost
import Derived.Lib.ItoaNum
import Derived.BigQuiet
import Derived.Deep.QuietTactic
namespace Go.Proofs.YtebkdegcifkigaaGreatDoor
set_option maxRecDepth 20000
open Go.RowKit

def quo (a b : Int) : Int := wrap64 (a.fdiv b)
/-- a's 64 bits b places up (b from 0 on), or down. -/
def upF (a : Int) (n : Nat) : Int := wrap64 (a * 2 ^ min n 64)
def downF (a : Int) (n : Nat) : Int := wrap64 ((a % 18446744073709551616) / 2 ^ min n 64)
def shlF (a b : Int) : Int := if 0 ≤ b then upF a b.toNat else downF a (-b).toNat
def shrF (a b : Int) : Int := if b < 0 then upF a (-b).toNat else downF a b.toNat
def valF (op a b : Int) : Int :=
  if op = 0 then wrap64 (a + b) else if op = 1 then wrap64 (a - b) else if op = 2 then wrap64 (a * b) else
  if op = 3 then quo a b else if op = 4 then wrap64 (a - wrap64 (b * quo a b)) else
  if op = 5 then bits .and .i64 a b else if op = 6 then bits .or .i64 a b else if op = 7 then bits .xor .i64 a b else
  if op = 8 then shlF a b else shrF a b
/-- The error's number. -/
def errF (op b : Int) : Int := if op < 0 ∨ 9 < op then 2 else if (op = 3 ∨ op = 4) ∧ b = 0 then 8 else 0
/-- What 'do' of the laws answers. -/
def doF (op a b : Int) : Int := if errF op b = 0 then valF op a b else -987654321

theorem wrap64_eq (n : Int) : wrap64 n = (n + 9223372036854775808) % 18446744073709551616 - 9223372036854775808 := by unfold wrap64; omega
theorem wrap64_cong {m n : Int} (h : m % 18446744073709551616 = n % 18446744073709551616) : wrap64 m = wrap64 n := by unfold wrap64; omega
theorem wrap64_mod (n : Int) : wrap64 n % 18446744073709551616 = n % 18446744073709551616 := by unfold wrap64; omega
theorem wrap64_id {n : Int} (h0 : -9223372036854775808 ≤ n) (h1 : n ≤ 9223372036854775807) : wrap64 n = n := by unfold wrap64; omega
theorem wrap64_lo (n : Int) : -9223372036854775808 ≤ wrap64 n := by unfold wrap64; omega
theorem wrap64_hi (n : Int) : wrap64 n ≤ 9223372036854775807 := by unfold wrap64; omega
theorem wrap64_add_l (a b : Int) : wrap64 (wrap64 a + b) = wrap64 (a + b) := by unfold wrap64; omega
theorem wrap64_add_r (a b : Int) : wrap64 (a + wrap64 b) = wrap64 (a + b) := by unfold wrap64; omega
theorem wrap64_sub_l (a b : Int) : wrap64 (wrap64 a - b) = wrap64 (a - b) := by unfold wrap64; omega
theorem wrap64_sub_r (a b : Int) : wrap64 (a - wrap64 b) = wrap64 (a - b) := by unfold wrap64; omega
theorem wrap64_mul_l (a b : Int) : wrap64 (wrap64 a * b) = wrap64 (a * b) := wrap64_cong (by rw [Int.mul_emod, wrap64_mod, ← Int.mul_emod])
theorem wrap64_mul_r (a b : Int) : wrap64 (a * wrap64 b) = wrap64 (a * b) := wrap64_cong (by rw [Int.mul_emod, wrap64_mod, ← Int.mul_emod])

theorem quo_same {a b : Int} (h : ¬ (a.tmod b ≠ 0 ∧ (decide (a < 0) != decide (b < 0)) = true)) : wrap64 (a.tdiv b) = quo a b := by
  unfold quo
  congr 1
  rw [Int.fdiv_eq_tdiv]
  by_cases hd : b ∣ a
  · simp [hd]
  · have ht : a.tmod b ≠ 0 := fun e => hd (Int.dvd_of_tmod_eq_zero e)
    have hs : (decide (a < 0) != decide (b < 0)) = false := by
      cases hx : (decide (a < 0) != decide (b < 0)) with
      | false => rfl
      | true => exact absurd ⟨ht, hx⟩ h
    have hs : decide (a < 0) = decide (b < 0) := by simpa using hs
    have hs : a < 0 ↔ b < 0 := by simpa using hs
    rw [if_neg hd]
    by_cases ha : 0 ≤ a
    · rw [if_pos ha, if_pos (by omega)]; omega
    · rw [if_neg ha, if_neg (by omega)]
      have : b.sign = -1 := Int.sign_eq_neg_one_of_neg (by omega)
      omega
theorem quo_less {a b : Int} (hb : b ≠ 0) (ht : a.tmod b ≠ 0) (hs : (decide (a < 0) != decide (b < 0)) = true) : wrap64 (wrap64 (a.tdiv b) - 1) = quo a b := by
  rw [wrap64_sub_l]
  unfold quo
  congr 1
  rw [Int.fdiv_eq_tdiv]
  have hd : ¬ b ∣ a := fun e => ht (Int.tmod_eq_zero_of_dvd e)
  have hs : ¬ (a < 0 ↔ b < 0) := by simpa using hs
  rw [if_neg hd]
  by_cases ha : 0 ≤ a
  · rw [if_pos ha, if_neg (by omega)]
  · rw [if_neg ha, if_pos (by omega)]
    have : b.sign = 1 := Int.sign_eq_one_of_pos (by omega)
    omega
theorem wrap_i64_lo (n : Int) : -9223372036854775808 ≤ IntKind.i64.wrap n := by rw [IntKind.wrap_i64]; omega
theorem wrap_i64_hi (n : Int) : IntKind.i64.wrap n ≤ 9223372036854775807 := by rw [IntKind.wrap_i64]; omega
theorem valF_lo (op a b : Int) : -9223372036854775808 ≤ valF op a b := by
  unfold valF quo bits shlF shrF upF downF
  repeat' split
  all_goals first | exact wrap64_lo _ | exact wrap_i64_lo _
theorem valF_hi (op a b : Int) : valF op a b ≤ 9223372036854775807 := by
  unfold valF quo bits shlF shrF upF downF
  repeat' split
  all_goals first | exact wrap64_hi _ | exact wrap_i64_hi _
theorem doF_lo (op a b : Int) : -9223372036854775808 ≤ doF op a b := by
  unfold doF; split
  · exact valF_lo _ _ _
  · omega
theorem doF_hi (op a b : Int) : doF op a b ≤ 9223372036854775807 := by
  unfold doF; split
  · exact valF_hi _ _ _
  · omega
end Go.Proofs.YtebkdegcifkigaaGreatDoor
namespace Go.Proofs.YtebkdegcifkigaaGreatDoor
set_option maxRecDepth 20000
open Go.RowKit
theorem doF_add (a b : Int) : doF 0 a b = wrap64 (a + b) := by simp [doF, errF, valF]
theorem doF_sub (a b : Int) : doF 1 a b = wrap64 (a - b) := by simp [doF, errF, valF]
theorem doF_mul (a b : Int) : doF 2 a b = wrap64 (a * b) := by simp [doF, errF, valF]
theorem doF_and (a b : Int) : doF 5 a b = bits .and .i64 a b := by simp [doF, errF, valF]
theorem doF_or (a b : Int) : doF 6 a b = bits .or .i64 a b := by simp [doF, errF, valF]
theorem doF_xor (a b : Int) : doF 7 a b = bits .xor .i64 a b := by simp [doF, errF, valF]
theorem doF_shl (a b : Int) : doF 8 a b = shlF a b := by simp [doF, errF, valF]
theorem doF_shr (a b : Int) : doF 9 a b = shrF a b := by simp [doF, errF, valF]
theorem ring_add_comm (a b : Int) : doF 0 a b = doF 0 b a := by rw [doF_add, doF_add, Int.add_comm]
theorem ring_add_assoc (a b c : Int) : doF 0 (doF 0 a b) c = doF 0 a (doF 0 b c) := by
  simp only [doF_add, wrap64_add_l, wrap64_add_r, Int.add_assoc]
theorem ring_sub (a b : Int) (h0 : -9223372036854775808 ≤ a) (h1 : a ≤ 9223372036854775807) : doF 1 (doF 0 a b) b = a := by
  rw [doF_sub, doF_add, wrap64_sub_l, Int.add_sub_cancel, wrap64_id h0 h1]
theorem ring_zero (a : Int) (h0 : -9223372036854775808 ≤ a) (h1 : a ≤ 9223372036854775807) : doF 0 a 0 = a := by
  rw [doF_add, Int.add_zero, wrap64_id h0 h1]
theorem ring_mul_comm (a b : Int) : doF 2 a b = doF 2 b a := by rw [doF_mul, doF_mul, Int.mul_comm]
theorem ring_mul_assoc (a b c : Int) : doF 2 (doF 2 a b) c = doF 2 a (doF 2 b c) := by
  simp only [doF_mul, wrap64_mul_l, wrap64_mul_r, Int.mul_assoc]
theorem ring_one (a : Int) (h0 : -9223372036854775808 ≤ a) (h1 : a ≤ 9223372036854775807) : doF 2 a 1 = a := by
  rw [doF_mul, Int.mul_one, wrap64_id h0 h1]
theorem ring_dist (a b c : Int) : doF 2 a (doF 0 b c) = doF 0 (doF 2 a b) (doF 2 a c) := by
  simp only [doF_mul, doF_add, wrap64_mul_r, wrap64_add_l, wrap64_add_r, Int.mul_add]
theorem neq_false {a b : Int} (h : a = b) : (a != b) = false := by simp [h]
theorem beq_true {a b : Int} (h : a = b) : (a == b) = true := by simp [h]
end Go.Proofs.YtebkdegcifkigaaGreatDoor
namespace Go.Proofs.YtebkdegcifkigaaGreatDoor
set_option maxRecDepth 20000
open Go.RowKit

/-! ### Quotient and rest -/
theorem fmod_range (a b : Int) : (0 < b → 0 ≤ a.fmod b ∧ a.fmod b < b) ∧ (b < 0 → a.fmod b ≤ 0 ∧ b < a.fmod b) := by
  constructor
  · intro h
    exact ⟨Int.fmod_nonneg_of_pos a h, Int.fmod_lt_of_pos a h⟩
  · intro h
    have e : a.fmod b = -((-a).fmod (-b)) := by
      have := Int.neg_fmod_neg a b
      omega
    have h1 := Int.fmod_nonneg_of_pos (-a) (show 0 < -b by omega)
    have h2 := Int.fmod_lt_of_pos (-a) (show 0 < -b by omega)
    omega
theorem rest_eq {a b : Int} (hb : b ≠ 0) (b0 : -9223372036854775808 ≤ b) (b1 : b ≤ 9223372036854775807) : valF 4 a b = a.fmod b := by
  have e : valF 4 a b = wrap64 (a - wrap64 (b * quo a b)) := by simp [valF]
  rw [e]
  unfold quo
  rw [wrap64_mul_r, wrap64_sub_r, ← Int.fmod_def]
  have := fmod_range a b
  exact wrap64_id (by omega) (by omega)
theorem parts_back {a b : Int} (a0 : -9223372036854775808 ≤ a) (a1 : a ≤ 9223372036854775807) (hb : b ≠ 0) (b0 : -9223372036854775808 ≤ b) (b1 : b ≤ 9223372036854775807) :
    doF 0 (doF 2 (valF 3 a b) b) (valF 4 a b) = a := by
  rw [rest_eq hb b0 b1, doF_add, doF_mul]
  have e : valF 3 a b = wrap64 (a.fdiv b) := by simp [valF, quo]
  rw [e, wrap64_mul_l, wrap64_add_l, Int.mul_comm, Int.mul_fdiv_add_fmod, wrap64_id a0 a1]

/-! ### Bits -/
theorem wrap_i64_eq (n : Int) : IntKind.i64.wrap n = wrap64 n := by rw [IntKind.wrap_i64]; unfold wrap64; omega
theorem toInt_ofInt64 (n : Int) : (BitVec.ofInt 64 n).toInt = wrap64 n := by
  rw [BitVec.toInt_ofInt]
  unfold wrap64 Int.bmod
  simp only []
  split <;> omega
theorem wrap_toNat (x : BitVec 64) : wrap64 (x.toNat : Int) = x.toInt := by
  rw [← toInt_ofInt64]
  congr 1
  rw [BitVec.ofInt_natCast, BitVec.ofNat_toNat, BitVec.setWidth_eq]
theorem ofInt_toInt64 (x : BitVec 64) : BitVec.ofInt 64 x.toInt = x := BitVec.ofInt_toInt
theorem ofInt_wrap64 (n : Int) : BitVec.ofInt 64 (wrap64 n) = BitVec.ofInt 64 n := by rw [← toInt_ofInt64, ofInt_toInt64]
theorem and_eq (a b : Int) : doF 5 a b = (BitVec.ofInt 64 a &&& BitVec.ofInt 64 b).toInt := by
  rw [doF_and, ← wrap_toNat, ← wrap_i64_eq]; rfl
theorem or_eq (a b : Int) : doF 6 a b = (BitVec.ofInt 64 a ||| BitVec.ofInt 64 b).toInt := by
  rw [doF_or, ← wrap_toNat, ← wrap_i64_eq]; rfl
theorem xor_eq (a b : Int) : doF 7 a b = (BitVec.ofInt 64 a ^^^ BitVec.ofInt 64 b).toInt := by
  rw [doF_xor, ← wrap_toNat, ← wrap_i64_eq]; rfl
theorem add_eq (a b : Int) : doF 0 a b = (BitVec.ofInt 64 a + BitVec.ofInt 64 b).toInt := by
  rw [doF_add, ← BitVec.ofInt_add, toInt_ofInt64]
theorem sub_eq (a b : Int) : doF 1 a b = (BitVec.ofInt 64 a - BitVec.ofInt 64 b).toInt := by
  rw [doF_sub, ← toInt_ofInt64]
  congr 1
  rw [Int.sub_eq_add_neg, BitVec.ofInt_add, BitVec.ofInt_neg, BitVec.sub_eq_add_neg]
theorem vec_or (A B : BitVec 64) : (A &&& B) ||| (A ^^^ B) = A ||| B := by
  apply BitVec.eq_of_getLsbD_eq; intro i hi
  simp only [BitVec.getLsbD_or, BitVec.getLsbD_and, BitVec.getLsbD_xor]
  cases A.getLsbD i <;> cases B.getLsbD i <;> rfl
theorem vec_none (A B : BitVec 64) : (A &&& B) &&& (A ^^^ B) = 0#64 := by
  apply BitVec.eq_of_getLsbD_eq; intro i hi
  simp only [BitVec.getLsbD_and, BitVec.getLsbD_xor, BitVec.getLsbD_zero]
  cases A.getLsbD i <;> cases B.getLsbD i <;> rfl
theorem vec_sum (A B : BitVec 64) : (A &&& B) + (A ||| B) = A + B := by
  have d1 : (A &&& B) &&& (A &&& ~~~B) = 0#64 := by
    apply BitVec.eq_of_getLsbD_eq; intro i hi
    simp only [BitVec.getLsbD_and, BitVec.getLsbD_not, BitVec.getLsbD_zero, hi, decide_true, Bool.true_and]
    cases A.getLsbD i <;> cases B.getLsbD i <;> rfl
  have d2 : B &&& (A &&& ~~~B) = 0#64 := by
    apply BitVec.eq_of_getLsbD_eq; intro i hi
    simp only [BitVec.getLsbD_and, BitVec.getLsbD_not, BitVec.getLsbD_zero, hi, decide_true, Bool.true_and]
    cases A.getLsbD i <;> cases B.getLsbD i <;> rfl
  have e1 : (A &&& B) ||| (A &&& ~~~B) = A := by
    apply BitVec.eq_of_getLsbD_eq; intro i hi
    simp only [BitVec.getLsbD_or, BitVec.getLsbD_and, BitVec.getLsbD_not, hi, decide_true, Bool.true_and]
    cases A.getLsbD i <;> cases B.getLsbD i <;> rfl
  have e2 : B ||| (A &&& ~~~B) = A ||| B := by
    apply BitVec.eq_of_getLsbD_eq; intro i hi
    simp only [BitVec.getLsbD_or, BitVec.getLsbD_and, BitVec.getLsbD_not, hi, decide_true, Bool.true_and]
    cases A.getLsbD i <;> cases B.getLsbD i <;> rfl
  have s1 := BitVec.add_eq_or_of_and_eq_zero _ _ d1
  have s2 := BitVec.add_eq_or_of_and_eq_zero _ _ d2
  rw [e1] at s1
  rw [e2] at s2
  rw [← s2, BitVec.add_comm B, ← BitVec.add_assoc, s1]
theorem vec_back (A B : BitVec 64) : (A ^^^ B) ^^^ B = A := by
  apply BitVec.eq_of_getLsbD_eq; intro i hi
  simp only [BitVec.getLsbD_xor]
  cases A.getLsbD i <;> cases B.getLsbD i <;> rfl
theorem vec_not (A : BitVec 64) : A ^^^ BitVec.ofInt 64 (-1) = 0#64 - A - 1#64 := by
  have e : BitVec.ofInt 64 (-1) = BitVec.allOnes 64 := by decide
  rw [e, BitVec.xor_allOnes, BitVec.zero_sub, BitVec.neg_eq_not_add, BitVec.add_sub_cancel]
theorem bits_or (a b : Int) : doF 6 (doF 5 a b) (doF 7 a b) = doF 6 a b := by
  rw [and_eq, xor_eq, or_eq, or_eq, ofInt_toInt64, ofInt_toInt64, vec_or]
theorem bits_none (a b : Int) : doF 5 (doF 5 a b) (doF 7 a b) = 0 := by
  rw [and_eq a b, xor_eq, and_eq, ofInt_toInt64, ofInt_toInt64, vec_none]; rfl
theorem bits_sum (a b : Int) : doF 0 (doF 5 a b) (doF 6 a b) = doF 0 a b := by
  rw [and_eq, or_eq, add_eq, add_eq, ofInt_toInt64, ofInt_toInt64, vec_sum]
theorem bits_back (a b : Int) (a0 : -9223372036854775808 ≤ a) (a1 : a ≤ 9223372036854775807) : doF 7 (doF 7 a b) b = a := by
  rw [xor_eq a b, xor_eq, ofInt_toInt64, vec_back, toInt_ofInt64, wrap64_id a0 a1]
theorem bits_not (a : Int) : doF 7 a (-1) = doF 1 (doF 1 0 a) 1 := by
  rw [xor_eq, sub_eq 0 a, sub_eq, ofInt_toInt64, vec_not]; rfl
end Go.Proofs.YtebkdegcifkigaaGreatDoor
namespace Go.Proofs.YtebkdegcifkigaaGreatDoor
set_option maxRecDepth 20000
open Go.RowKit

/-- 2 to the k, told modulo 2^64. -/
def pw (k : Nat) : Int := wrap64 (2 ^ k)
theorem pw_succ (k : Nat) : doF 2 (pw k) 2 = pw (k + 1) := by
  rw [doF_mul]; unfold pw; rw [wrap64_mul_l, Int.pow_succ]
theorem pow_split {m n : Nat} (h : m ≤ n) : (2 : Int) ^ n = 2 ^ m * 2 ^ (n - m) := by rw [← Int.pow_add]; congr 1; omega
theorem two64 : (2 : Int) ^ 64 = 18446744073709551616 := by decide
theorem upF_eq (a : Int) (x : Nat) : upF a x = wrap64 (a * 2 ^ x) := by
  unfold upF
  by_cases h : x ≤ 64
  · rw [Nat.min_eq_left h]
  · rw [Nat.min_eq_right (by omega)]
    apply wrap64_cong
    rw [pow_split (show 64 ≤ x by omega), two64, ← Int.mul_assoc, Int.mul_right_comm]
    omega
theorem shl_nat (a : Int) (x : Nat) : doF 8 a x = upF a x := by
  rw [doF_shl]; unfold shlF; rw [if_pos (by omega)]; congr 1
theorem shr_nat (a : Int) (x : Nat) : doF 9 a x = downF a x := by
  rw [doF_shr]; unfold shrF; rw [if_neg (by omega)]; congr 1
theorem upF_zero (a : Int) (a0 : -9223372036854775808 ≤ a) (a1 : a ≤ 9223372036854775807) : upF a 0 = a := by
  rw [upF_eq, Int.pow_zero, Int.mul_one, wrap64_id a0 a1]
theorem downF_zero (a : Int) (a0 : -9223372036854775808 ≤ a) (a1 : a ≤ 9223372036854775807) : downF a 0 = a := by
  unfold downF
  rw [Nat.min_eq_left (by omega), Int.pow_zero, Int.ediv_one, wrap64_cong (n := a) (by omega), wrap64_id a0 a1]
theorem shr_neg (a : Int) (x : Nat) (a0 : -9223372036854775808 ≤ a) (a1 : a ≤ 9223372036854775807) : doF 9 a (-(x : Int)) = upF a x := by
  rw [doF_shr]; unfold shrF
  by_cases h : x = 0
  · subst h; rw [if_neg (by omega), upF_zero a a0 a1]; exact downF_zero a a0 a1
  · rw [if_pos (by omega)]; congr 1; omega
theorem shl_neg (a : Int) (x : Nat) (a0 : -9223372036854775808 ≤ a) (a1 : a ≤ 9223372036854775807) : doF 8 a (-(x : Int)) = downF a x := by
  rw [doF_shl]; unfold shlF
  by_cases h : x = 0
  · subst h; rw [if_pos (by omega), downF_zero a a0 a1]; exact upF_zero a a0 a1
  · rw [if_neg (by omega)]; congr 1; omega
theorem up_up (a : Int) (x y : Nat) : upF (upF a x) y = upF a (x + y) := by
  rw [upF_eq a, upF_eq, upF_eq, wrap64_mul_l, Int.mul_assoc, Int.pow_add]
theorem down_mod (A : Int) (m : Nat) (h0 : 0 ≤ A) (h1 : A < 18446744073709551616) : wrap64 (A / 2 ^ m) % 18446744073709551616 = A / 2 ^ m := by
  rw [wrap64_mod]
  have hp : (0 : Int) < 2 ^ m := Int.pow_pos (by decide)
  have h2 : 0 ≤ A / 2 ^ m := Int.ediv_nonneg h0 (by omega)
  have h3 : A / 2 ^ m ≤ A := Int.ediv_le_self _ h0
  exact Int.emod_eq_of_lt h2 (by omega)
theorem down_far (A : Int) (m : Nat) (h0 : 0 ≤ A) (h1 : A < 18446744073709551616) (hm : 64 ≤ m) : A / 2 ^ m = 0 := by
  apply Int.ediv_eq_zero_of_lt h0
  have hp : (0 : Int) < 2 ^ (m - 64) := Int.pow_pos (by decide)
  rw [pow_split hm, two64]
  omega
theorem down_down (a : Int) (x y : Nat) : downF (downF a x) y = downF a (x + y) := by
  unfold downF
  have h0 : 0 ≤ a % 18446744073709551616 := Int.emod_nonneg _ (by decide)
  have h1 : a % 18446744073709551616 < 18446744073709551616 := Int.emod_lt_of_pos _ (by decide)
  generalize a % 18446744073709551616 = A at h0 h1 ⊢
  rw [down_mod A _ h0 h1]
  congr 1
  rw [Int.ediv_ediv_of_nonneg (Int.le_of_lt (Int.pow_pos (by decide))), ← Int.pow_add]
  by_cases h : x + y ≤ 64
  · rw [Nat.min_eq_left (show x ≤ 64 by omega), Nat.min_eq_left (show y ≤ 64 by omega), Nat.min_eq_left h]
  · rw [down_far A _ h0 h1 (by omega), down_far A _ h0 h1 (by omega)]
theorem down_up (a : Int) (x : Nat) : downF (upF a x) x = wrap64 (a % 2 ^ (64 - min x 64)) := by
  unfold downF upF
  congr 1
  rw [wrap64_mod]
  have hm : min x 64 ≤ 64 := Nat.min_le_right _ _
  generalize min x 64 = m at hm ⊢
  have hp : (0 : Int) < 2 ^ m := Int.pow_pos (by decide)
  rw [← two64, pow_split hm, Int.mul_comm a, Int.mul_emod_mul_of_pos _ _ hp, Int.mul_ediv_cancel_left _ (by omega)]
theorem ones (x : Nat) : downF (-1) x = wrap64 (2 ^ (64 - min x 64) - 1) := by
  unfold downF
  congr 1
  have hm : min x 64 ≤ 64 := Nat.min_le_right _ _
  generalize min x 64 = m at hm ⊢
  have hp : (0 : Int) < 2 ^ m := Int.pow_pos (by decide)
  have hs : (2 : Int) ^ m * 2 ^ (64 - m) = 18446744073709551616 := by rw [← pow_split hm, two64]
  have e : (-1 : Int) % 18446744073709551616 = (2 ^ m - 1) + 2 ^ m * (2 ^ (64 - m) - 1) := by
    rw [Int.mul_sub, hs, Int.mul_one]; omega
  rw [e, Int.add_mul_ediv_left _ _ (by omega), Int.ediv_eq_zero_of_lt (by omega) (by omega), Int.zero_add]
theorem low_bits (a : Int) (x : Nat) : doF 5 a (downF (-1) x) = wrap64 (a % 2 ^ (64 - min x 64)) := by
  rw [ones, and_eq, ofInt_wrap64, ← wrap_toNat]
  congr 1
  have hm : 64 - min x 64 ≤ 64 := by omega
  generalize 64 - min x 64 = m at hm ⊢
  rw [BitVec.toNat_and]
  have e1 : (BitVec.ofInt 64 (2 ^ m - 1)).toNat = 2 ^ m - 1 := by
    have hle : (2 : Nat) ^ m ≤ 2 ^ 64 := Nat.pow_le_pow_right (by decide) hm
    have hp : 0 < (2 : Nat) ^ m := Nat.pow_pos (by decide)
    have e : ((2 : Int) ^ m - 1) = ((2 ^ m - 1 : Nat) : Int) := by
      rw [Int.natCast_sub hp, Int.natCast_pow]; rfl
    rw [e, BitVec.ofInt_natCast, BitVec.toNat_ofNat, Nat.mod_eq_of_lt (by omega)]
  rw [e1, Nat.and_two_pow_sub_one_eq_mod, BitVec.toNat_ofInt]
  have h0 : 0 ≤ a % ((2 ^ 64 : Nat) : Int) := Int.emod_nonneg _ (by decide)
  rw [Int.natCast_emod, Int.toNat_of_nonneg h0, Int.natCast_pow]
  apply Int.emod_emod_of_dvd
  rw [Int.natCast_pow]
  exact ⟨2 ^ (64 - m), pow_split hm⟩
end Go.Proofs.YtebkdegcifkigaaGreatDoor
namespace Go.Proofs.YtebkdegcifkigaaGreatDoor
set_option maxRecDepth 20000
open Go.RowKit





end Go.Proofs.YtebkdegcifkigaaGreatDoor
namespace Go.Proofs.YtebkdegcifkigaaGreatDoor
set_option maxRecDepth 20000
open Go.RowKit Go.Extern.Stop Go.Stop Go.Extern
/-- What 'TypeOf(target).Comparable()' makes at a sentinel. -/
theorem isFacts : ∃ b : Addr, (∀ (v : Value) (w : World), (callFunc 31 #[.iface 191 v]).run Tryz.prog w = .ok (.value (.iface 106 (.agg #[.pointer (some b)]))) w) ∧
    ∀ w : World, (callFunc 212 #[.agg #[.pointer (some b)]]).run Tryz.prog w = .ok (.value (.bool true)) w :=
  ⟨⟨Tryz.prog.globals.size, 191, none⟩, fun v w => by kernel_rfl, fun w => by kernel_rfl⟩
theorem isComp : (Tryz.prog.info? 191).map (·.comparable) = some true := by kernel_rfl
theorem isSize : (Tryz.prog.info? 193).map (·.size) = some 1 := by kernel_rfl
theorem noIsN (v : Value) (xT : TypeId) (w : World) : (Instr.typeAssert (.iface 179 v) xT 108 true).run Tryz.prog w = .ok (.tuple #[.nilIface, .bool false]) w := run_typeAssert_lacksB Tryz.underlying108 (by kernel_rfl) (by kernel_rfl) v xT w
theorem hasUnwrapN (v : Value) (xT : TypeId) (w : World) : (Instr.typeAssert (.iface 179 v) xT 111 true).run Tryz.prog w = .ok (.tuple #[.iface 179 v, .bool true]) w := run_typeAssert_hasB Tryz.underlying111 (by kernel_rfl) v xT w
/-- errors.Is(nil, x). -/
theorem is_nil (b : Addr) (w : World) :
    Calls Tryz.prog 15 #[.nilIface, .iface 191 (.pointer (some b))] w fun e w' => e = .returned (.bool false) ∧ w' = w := by
  have hn := run_eql_iface_nil_left (P := Tryz.prog) w 191 (.pointer (some b)) Tryz.underlying26
  go_enter Tryz.func15, Tryz.ntmps15
  go_wp2
  go_ret
  exact ⟨rfl, rfl⟩
theorem is_num_same (pb po : Nat) (b : Addr) (w : World) (h1 : w.cell? ⟨pb, po + 2, none⟩ = some (.iface 191 (.pointer (some b)))) :
    Calls Tryz.prog 15 #[.iface 179 (.pointer (some ⟨pb, po, none⟩)), .iface 191 (.pointer (some b))] w fun e w' => e = .returned (.bool true) ∧ w' = w := by
  obtain ⟨i, hi, hcmp⟩ := Option.map_eq_some_iff.1 isComp
  obtain ⟨j, hj, hjs⟩ := Option.map_eq_some_iff.1 isSize
  obtain ⟨b0, tT, cT⟩ := isFacts
  have nW := noIsN
  have uW := hasUnwrapN
  have heq := run_eql_iface_ptr_same (P := Tryz.prog) w b Tryz.underlying26 Tryz.underlying191 hi hcmp hj
  have hty := run_eql_iface_types (P := Tryz.prog) 179 191 (.pointer (some ⟨pb, po, none⟩)) (.pointer (some b)) Tryz.underlying26 (by decide) w
  go_enter Tryz.func15, Tryz.ntmps15
  go_wp2
  refine wp_loop_rounds 2 ?_
  rw [rounds_succ]
  go_wp2
  rw [rounds_succ]
  go_wp2
  go_ret
  exact ⟨rfl, rfl⟩
end Go.Proofs.YtebkdegcifkigaaGreatDoor
namespace Go.Proofs.YtebkdegcifkigaaGreatDoor
set_option maxRecDepth 20000
open Go.RowKit
def digitB (c : UInt8) : Bool := decide (48 ≤ c.toNat ∧ c.toNat ≤ 57)
def isTextL (l : List UInt8) : Bool :=
  if Lib.trimPrefix l [45] = [] then false else
  if (Lib.trimPrefix l [45]).head? = some 48 then l == [48] else (Lib.trimPrefix l [45]).all digitB
theorem isText_any (s : ByteArray) (w : World) (hs : s.size ≤ 9223372036854775807) :
    Calls Tryz.prog 98 #[.string s] w fun e w' => e = .returned (.bool (isTextL s.data.toList)) ∧ w' = w := by
  obtain ⟨d, hd⟩ : ∃ d : ByteArray, (⟨(Lib.trimPrefix s.data.toList [45]).toArray⟩ : ByteArray) = d := ⟨_, rfl⟩
  have C := Tryz.strings_TrimPrefix s ⟨#[45]⟩ w
  rw [show (⟨(Lib.trimPrefix s.data.toList (ByteArray.mk #[45]).data.toList).toArray⟩ : ByteArray) = d from hd] at C
  have C := Lib.hid C
  have hl : Lib.trimPrefix s.data.toList [45] = d.data.toList := by rw [← hd]
  have hsz : d.size = d.data.toList.length := Lib.size_eq d
  have hds : d.size ≤ 9223372036854775807 := by
    have : d.data.toList.length ≤ s.data.toList.length := by rw [← hl]; unfold Lib.trimPrefix; split <;> simp
    rw [hsz]; rw [Lib.size_eq] at hs; omega
  have R : Hid (isTextL s.data.toList = if d.data.toList = [] then false else if d.data.toList.head? = some 48 then s.toList == [48] else d.data.toList.all digitB) := by
    unfold isTextL Hid; rw [hl, Lib.toList_data]
  have HD := Lib.hid hd
  have HL := Lib.hid hl
  have HSZ := Lib.hid hsz
  clear hd hl hsz
  by_cases he : d.data.toList = []
  · have he' : d.toList.isEmpty = true := by rw [Lib.toList_data, he]; rfl
    rw [if_pos he] at R
    have HE := Lib.hid he
    clear he
    go_enter Tryz.func98, Tryz.ntmps98
    go_wp2_with (go_at_call 128; refine C.out.mono ?_; rintro e w' ⟨rfl, rfl⟩)
    go_ret
    exact ⟨ret_bool R.out.symm, rfl⟩
  · have he' : d.toList.isEmpty = false := by rw [Lib.toList_data]; simpa using he
    have hpos : 0 < d.size := by rw [HSZ.out]; exact List.length_pos_iff.2 he
    have hhd : d.data.toList.head? = some d[0] := by
      rw [List.head?_eq_getElem?]; rw [List.getElem?_eq_getElem (by rw [← HSZ.out]; exact hpos)]; rfl
    rw [if_neg he, hhd] at R
    have HE := Lib.hid he
    have HH := Lib.hid hhd
    clear he hhd
    by_cases h0 : d[0].toNat = 48
    · have h0' : ((d[0].toNat : Int) == 48) = true := by simp [h0]
      have R2 : Hid (isTextL s.data.toList = (s.toList == [48])) := by
        rw [Hid, R.out, if_pos (congrArg some (UInt8.toNat_inj.1 (show d[0].toNat = (48 : UInt8).toNat from h0)))]
      have H0 := Lib.hid h0
      clear R h0
      go_enter Tryz.func98, Tryz.ntmps98
      go_wp2_with (go_at_call 128; refine C.out.mono ?_; rintro e w' ⟨rfl, rfl⟩)
      go_ret
      exact ⟨ret_bool R2.out.symm, rfl⟩
    · have h0' : ((d[0].toNat : Int) == 48) = false := by simp; omega
      have R2 : Hid (isTextL s.data.toList = d.data.toList.all digitB) := by
        rw [Hid, R.out, if_neg (fun e => h0 (by have := Option.some.inj e; rw [this]; rfl))]
      have H0 := Lib.hid h0
      clear R h0
      go_enter Tryz.func98, Tryz.ntmps98
      go_wp2_with (go_at_call 128; refine C.out.mono ?_; rintro e w' ⟨rfl, rfl⟩)
      go_loop [4, 16] (fun _ i => ∃ k : Nat, k ≤ d.size ∧ i = .int .i64 k ∧ (d.data.toList.take k).all digitB = true) (fun _ i => d.size - (intOf i).toNat)
      case atStart => exact ⟨0, Nat.zero_le _, rfl, rfl⟩
      case round =>
        obtain ⟨k, hk, rfl, hall⟩ := hrel
        have HA := Lib.hid hall
        clear hall
        by_cases hlt : k < d.size
        · have hget : d.data.toList[k]? = some d[k] := by
            rw [List.getElem?_eq_getElem (by rw [← HSZ.out]; exact hlt)]; rfl
          have G := Lib.hid hget
          clear hget
          by_cases c1 : d[k].toNat < 48
          · have F : Hid (d.data.toList.all digitB = false) := by
              rw [Hid, List.all_eq_false]
              exact ⟨d[k], List.mem_of_getElem? G.out, by simp [digitB]; omega⟩
            go_wp2
            go_ret
            exact ⟨ret_bool (R2.out.trans F.out).symm, rfl⟩
          · by_cases c2 : 57 < d[k].toNat
            · have F : Hid (d.data.toList.all digitB = false) := by
                rw [Hid, List.all_eq_false]
                exact ⟨d[k], List.mem_of_getElem? G.out, by simp [digitB]; omega⟩
              go_wp2
              go_ret
              exact ⟨ret_bool (R2.out.trans F.out).symm, rfl⟩
            · have F : Hid ((d.data.toList.take (k + 1)).all digitB = true) := by
                rw [Hid, List.take_add_one, List.all_append, HA.out, G.out]; simp [digitB]; omega
              go_wp2
              go_round
              case rel => exact ⟨k + 1, by omega, by go_num, F.out⟩
              case measure => simp [intOf]; omega
        · have F : Hid (d.data.toList.all digitB = true) := by
            have := HA.out; rw [List.take_of_length_le (by rw [← HSZ.out]; omega)] at this; exact this
          go_wp2
          go_ret
          exact ⟨ret_bool (R2.out.trans F.out).symm, rfl⟩

/-- How a text ends that is a number's text: read, or beyond 64 bits. -/
def parseV (l : List UInt8) : Int := if isTextL l = true then (match Lib.parseIntB 64 l with | .ok v => v | _ => 0) else 0
def parseE (l : List UInt8) : Int := if isTextL l = true then (match Lib.parseIntB 64 l with | .ok _ => 0 | _ => 15) else 4

/-- An end of the reading that is no fault of the form. -/
def wellB {α : Type} : Lib.NumEnd α → Bool
  | .ok _ => true
  | .range => true
  | _ => false
theorem digits_well (M : Nat) : ∀ (l : List UInt8) (acc : Nat), l.all digitB = true → wellB (Lib.parseUintM M acc l) = true
  | [], _, _ => by simp [Lib.parseUintM, wellB]
  | c :: r, acc, h => by
    simp only [List.all_cons, Bool.and_eq_true] at h
    have hc : 48 ≤ c.toNat ∧ c.toNat ≤ 57 := by simpa [digitB] using h.1
    unfold Lib.parseUintM
    rw [if_pos hc]
    split
    · simp [wellB]
    · split
      · simp [wellB]
      · exact digits_well M r _ h.2
theorem isText_digits {l : List UInt8} (h : isTextL l = true) : Lib.trimPrefix l [45] ≠ [] ∧ (Lib.trimPrefix l [45]).all digitB = true := by
  unfold isTextL at h
  split at h
  · cases h
  · rename_i hne
    refine ⟨hne, ?_⟩
    split at h
    · have e : l = [48] := by simpa using h
      subst e; decide
    · exact h
theorem trim_minus (r : List UInt8) : Lib.trimPrefix (45 :: r) [45] = r := by simp [Lib.trimPrefix, Lib.hasPrefix, List.isPrefixOf]
theorem trim_other {c : UInt8} (r : List UInt8) (h : c ≠ 45) : Lib.trimPrefix (c :: r) [45] = c :: r := by
  simp [Lib.trimPrefix, Lib.hasPrefix, List.isPrefixOf, Ne.symm h]
theorem parseUintB_well {l : List UInt8} (hne : l ≠ []) (h : l.all digitB = true) : wellB (Lib.parseUintB 64 l) = true := by
  unfold Lib.parseUintB; rw [if_neg hne]; exact digits_well _ l 0 h
theorem isText_well {l : List UInt8} (h : isTextL l = true) : wellB (Lib.parseIntB 64 l) = true := by
  obtain ⟨hne, hd⟩ := isText_digits h
  match l with
  | [] => exact absurd (by decide) hne
  | c :: r =>
    by_cases hc : c = 45
    · subst hc
      rw [trim_minus] at hne hd
      have hs := parseUintB_well hne hd
      simp only [Lib.parseIntB]
      rw [if_pos (Or.inr (by decide))]
      generalize Lib.parseUintB 64 r = u at hs ⊢
      cases u
      all_goals first | (simp [wellB] at hs; done) | (simp [wellB]; done) | (simp only []; split <;> (try split) <;> simp [wellB])
    · rw [trim_other r hc] at hne hd
      have hs := parseUintB_well hne hd
      have hdc : 48 ≤ c.toNat ∧ c.toNat ≤ 57 := by
        simp only [List.all_cons, Bool.and_eq_true] at hd
        simpa [digitB] using hd.1
      simp only [Lib.parseIntB]
      rw [if_neg (by omega)]
      generalize Lib.parseUintB 64 (c :: r) = u at hs ⊢
      cases u
      all_goals first | (simp [wellB] at hs; done) | (simp [wellB]; done) | (simp only []; split <;> (try split) <;> simp [wellB])
theorem well_cases {α : Type} {u : Lib.NumEnd α} (h : wellB u = true) : (∃ v, u = .ok v) ∨ u = .range := by
  cases u
  all_goals first | (simp [wellB] at h; done) | exact Or.inr rfl | exact Or.inl ⟨_, rfl⟩

/-- What a call of this layer asks of the world: the library's table of powers and its sentinel stand as they were laid. -/
def Env (w : World) : Prop := Lib.TabIs Tryz.prog w "internal/strconv.uint64pow10" .u64 Lib.pow10Tab ∧ ∃ a : Addr, w.var? Tryz.prog "strconv.ErrRange" = some #[.iface 191 (.pointer (some a))]
theorem gPow : Tryz.prog.globalNamed "internal/strconv.uint64pow10" = some 5 := by kernel_rfl
theorem gRange : Tryz.prog.globalNamed "strconv.ErrRange" = some 3 := by kernel_rfl
theorem Env.below {w w' : World} (h : Env w) (hb : Below w.heap.size w w') : Env w' := by
  obtain ⟨h1, a, h2⟩ := h
  exact ⟨var?_below hb gPow (lt_of_var gPow h1) h1, a, var?_below hb gRange (lt_of_var gRange h2) h2⟩

/-- num.Parse: a text that is none. -/
theorem Parse_form (s : ByteArray) (w : World) (hs : s.size ≤ 9223372036854775806) (h : isTextL s.data.toList = false) :
    Calls Tryz.prog 61 #[.string s] w fun e w' => e = .returned (.tuple #[.int .i64 0, .int .i64 4]) ∧ w' = w := by
  have C := isText_any s w (by omega)
  rw [h] at C
  have C := Lib.hid C
  clear h
  go_enter Tryz.func61, Tryz.ntmps61
  go_wp2_with (go_at_call 98; refine C.out.mono ?_; rintro e w' ⟨rfl, rfl⟩)
  go_ret2
  exact ⟨rfl, rfl⟩
/-- num.Parse: a number within 64 bits. -/
theorem Parse_ok (s : ByteArray) (v : Int) (w : World) (hs : s.size ≤ 9223372036854775806) (h : isTextL s.data.toList = true) (hv : Lib.parseIntB 64 s.data.toList = .ok v) (hE : Env w) :
    Calls Tryz.prog 61 #[.string s] w fun e w' => e = .returned (.tuple #[.int .i64 v, .int .i64 0]) ∧ Below w.heap.size w w' := by
  have C := isText_any s w (by omega)
  rw [h] at C
  have C := Lib.hid C
  have D := Lib.hid (fun w => Tryz.strconv_ParseInt_10_at64_ok s hs v hv w)
  have E := Lib.hid hE
  clear h hv hE
  go_enter Tryz.func61, Tryz.ntmps61
  go_wp2_with (go_at_call 98; refine C.out.mono ?_; rintro e w' ⟨rfl, hq⟩; obtain rfl := hq.symm)
  refine (D.out _).mono ?_
  rintro e w1 ⟨rfl, hW⟩
  have hb1 : Below w.heap.size w w1 := by
    rcases hW with rfl | ⟨t, rfl⟩
    · exact Below.refl _ _
    · exact Lib.bytesWorld_below _ _ _
  obtain ⟨_, a, hvar⟩ := E.out.below hb1
  have hcell : w1.cell? ⟨3, 0, none⟩ = some (.iface 191 (.pointer (some a))) := by
    have h0 := World.var?_cell gRange hvar 0; simpa using h0
  clear hW hvar
  have I := Lib.hid (fun w => is_nil a w)
  go_wp2_with (go_at_call 15; refine (I.out _).mono ?_; rintro e w' ⟨rfl, hq⟩; obtain rfl := hq.symm)
  go_ret2
  exact ⟨rfl, hb1⟩
/-- num.Parse: a number beyond 64 bits. -/
theorem Parse_over (s : ByteArray) (w : World) (hs : s.size ≤ 281474976710656) (h : isTextL s.data.toList = true) (hv : Lib.parseIntB 64 s.data.toList = .range) (hE : Env w) :
    Calls Tryz.prog 61 #[.string s] w fun e w' => e = .returned (.tuple #[.int .i64 0, .int .i64 15]) ∧ Below w.heap.size w w' := by
  have C := isText_any s w (by omega)
  rw [h] at C
  have C := Lib.hid C
  obtain ⟨a, hvar0⟩ := hE.2
  have D := Lib.hid (Tryz.strconv_ParseInt_10_at64_range_var s hs hv _ _ w hvar0)
  have E := Lib.hid hE
  have V0 := Lib.hid hvar0
  clear h hv hE hvar0
  generalize Lib.intSat 64 s.data.toList = sat at *
  go_enter Tryz.func61, Tryz.ntmps61
  go_wp2_with (go_at_call 98; refine C.out.mono ?_; rintro e w' ⟨rfl, hq⟩; obtain rfl := hq.symm)
  refine D.out.mono ?_
  rintro e w1 ⟨N, rfl, hN, hblk, hb1⟩
  have hvar := var?_below hb1 gRange (lt_of_var gRange V0.out) V0.out
  have hcell : w1.cell? ⟨3, 0, none⟩ = some (.iface 191 (.pointer (some a))) := by
    have h0 := World.var?_cell gRange hvar 0; simpa using h0
  have herr : w1.cell? ⟨N, 0 + 2, none⟩ = some (.iface 191 (.pointer (some a))) := by
    simp [World.cell?, hblk]
  have B := Lib.hid hb1
  have I := Lib.hid (is_num_same N 0 a w1 herr)
  clear hvar hblk herr hN hb1
  go_wp2_with (go_at_call 15; refine I.out.mono ?_; rintro e w' ⟨rfl, hq⟩; obtain rfl := hq.symm)
  go_ret2
  exact ⟨rfl, B.out⟩
theorem parseV_bounds {l : List UInt8} : -9223372036854775808 ≤ parseV l ∧ parseV l ≤ 9223372036854775807 := by
  unfold parseV
  split
  · rename_i ht
    rcases well_cases (isText_well ht) with ⟨v, h⟩ | h
    · have := Lib.parseIntB_bounds (B := 64) h; simp at this; simp only [h]; omega
    · simp [h]
  · simp
/-- num.Parse, at every text. -/
theorem Parse_any (s : ByteArray) (w : World) (hs : s.size ≤ 281474976710656) (hE : Env w) :
    Calls Tryz.prog 61 #[.string s] w fun e w' => e = .returned (.tuple #[.int .i64 (parseV s.data.toList), .int .i64 (parseE s.data.toList)]) ∧ Below w.heap.size w w' := by
  cases h : isTextL s.data.toList with
  | false => exact (Parse_form s w (by omega) h).mono fun e w' g => ⟨g.1.trans (ret_pair (by simp [parseV, h]) (by simp [parseE, h])), by rw [g.2]; exact Below.refl _ _⟩
  | true =>
    rcases well_cases (isText_well h) with ⟨v, hv⟩ | hv
    · exact (Parse_ok s v w (by omega) h hv hE).mono fun e w' g => ⟨g.1.trans (ret_pair (by simp [parseV, h, hv]) (by simp [parseE, h, hv])), g.2⟩
    · exact (Parse_over s w hs h hv hE).mono fun e w' g => ⟨g.1.trans (ret_pair (by simp [parseV, h, hv]) (by simp [parseE, h, hv])), g.2⟩
end Go.Proofs.YtebkdegcifkigaaGreatDoor
namespace Go.Proofs.YtebkdegcifkigaaGreatDoor
set_option maxRecDepth 20000
open Go.RowKit

def andN (a b : Nat) : Nat := a &&& b
def xorN (a b : Nat) : Nat := a ^^^ b
def dblN (a : Nat) : Nat := (a * 2) % 18446744073709551616
structure SumRel (s g a b : Nat) : Prop where
  la : a < 18446744073709551616
  lb : b < 18446744073709551616
  le : g ≤ 64
  sum : (a + b) % 18446744073709551616 = s
  dvd : 2 ^ (64 - g) ∣ b
theorem two64N : (2 : Nat) ^ 64 = 18446744073709551616 := by decide
theorem SumRel.start {a b : Nat} (la : a < 18446744073709551616) (lb : b < 18446744073709551616) : SumRel ((a + b) % 18446744073709551616) 64 a b :=
  ⟨la, lb, Nat.le_refl _, rfl, ⟨b, by simp⟩⟩
theorem SumRel.stop {s g a : Nat} (h : SumRel s g a 0) : a = s := by
  have := h.sum; have := h.la; rw [Nat.add_zero, Nat.mod_eq_of_lt h.la] at *; assumption
theorem SumRel.more {s g a b : Nat} (h : SumRel s g a b) (hb : b ≠ 0) : 0 < g := by
  rcases Nat.eq_zero_or_pos g with rfl | hg
  · obtain ⟨c, hc⟩ := h.dvd
    have := h.lb
    rw [Nat.sub_zero, two64N] at hc
    omega
  · exact hg
theorem vec_carry (A B : BitVec 64) : (A ^^^ B) + ((A &&& B) + (A &&& B)) = A + B := by
  have d : (A &&& B) &&& (A ^^^ B) = 0#64 := vec_none A B
  have s := BitVec.add_eq_or_of_and_eq_zero _ _ d
  rw [vec_or] at s
  rw [← vec_sum A B, ← s, BitVec.add_comm (A ^^^ B), BitVec.add_assoc]
theorem carry_sum (a b : Nat) (la : a < 18446744073709551616) (lb : b < 18446744073709551616) : (xorN a b + dblN (andN a b)) % 18446744073709551616 = (a + b) % 18446744073709551616 := by
  have h := congrArg BitVec.toNat (vec_carry (BitVec.ofNat 64 a) (BitVec.ofNat 64 b))
  have ea : (BitVec.ofNat 64 a).toNat = a := by rw [BitVec.toNat_ofNat]; exact Nat.mod_eq_of_lt (by rw [two64N]; exact la)
  have eb : (BitVec.ofNat 64 b).toNat = b := by rw [BitVec.toNat_ofNat]; exact Nat.mod_eq_of_lt (by rw [two64N]; exact lb)
  simp only [BitVec.toNat_add, BitVec.toNat_xor, BitVec.toNat_and, ea, eb, two64N] at h
  unfold xorN dblN andN
  rw [← h, Nat.mul_two]
theorem SumRel.step {s g a b : Nat} (h : SumRel s g a b) (hb : b ≠ 0) : SumRel s (g - 1) (xorN a b) (dblN (andN a b)) := by
  have hg := h.more hb
  have hle := h.le
  refine ⟨?_, Nat.mod_lt _ (by decide), by omega, by rw [carry_sum a b h.la h.lb]; exact h.sum, ?_⟩
  · have := Nat.xor_lt_two_pow (n := 64) (x := a) (y := b) (by rw [two64N]; exact h.la) (by rw [two64N]; exact h.lb)
    rw [two64N] at this; exact this
  · have d1 : 2 ^ (64 - g) ∣ andN a b := by
      apply Nat.dvd_of_mod_eq_zero
      unfold andN
      rw [Nat.and_mod_two_pow, Nat.mod_eq_zero_of_dvd h.dvd, Nat.and_zero]
    have e : 64 - (g - 1) = (64 - g) + 1 := by omega
    rw [e]
    obtain ⟨c, hc⟩ := d1
    unfold dblN
    have d2 : 2 ^ (64 - g + 1) ∣ 18446744073709551616 := ⟨2 ^ (64 - (64 - g + 1)), by rw [← Nat.pow_add, ← two64N]; congr 1; omega⟩
    refine (Nat.dvd_mod_iff d2).2 ⟨c, ?_⟩
    rw [hc, Nat.pow_succ, Nat.mul_right_comm]
theorem xor_u64 {a b : Nat} (la : a < 18446744073709551616) (lb : b < 18446744073709551616) : bits .xor .u64 (a : Int) (b : Int) = ((xorN a b : Nat) : Int) := bits_xor_u64_nat a b la lb
theorem and_u64 {a b : Nat} (la : a < 18446744073709551616) (lb : b < 18446744073709551616) : bits .and .u64 (a : Int) (b : Int) = ((andN a b : Nat) : Int) := bits_and_u64_nat a b la lb
theorem dbl_u64 (a : Nat) : IntKind.u64.wrap ((a : Int) * 2) = ((dblN a : Nat) : Int) := by
  rw [IntKind.wrap_u64]; unfold dblN; omega
theorem not_u64 {a : Nat} (la : a < 18446744073709551616) : bits .xor .u64 IntKind.u64.max (a : Int) = ((18446744073709551615 - a : Nat) : Int) := by
  have e : IntKind.u64.max = ((18446744073709551615 : Nat) : Int) := rfl
  rw [e, bits_xor_u64_nat _ _ (by decide) la]
  congr 1
  have h : BitVec.allOnes 64 ^^^ BitVec.ofNat 64 a = ~~~ (BitVec.ofNat 64 a) := by rw [BitVec.xor_comm, BitVec.xor_allOnes]
  have h := congrArg BitVec.toNat h
  rw [BitVec.toNat_xor, BitVec.toNat_not, BitVec.toNat_ofNat, BitVec.toNat_allOnes, two64N, Nat.mod_eq_of_lt la] at h
  exact h

/-! ### Products -/
def shN (a k : Nat) : Nat := a * 2 ^ k % 18446744073709551616
def prodN (a b k : Nat) : Nat := a * (b % 2 ^ k) % 18446744073709551616
theorem sh_u64 (a k : Nat) : IntKind.u64.wrap ((a : Int) * 2 ^ k) = ((shN a k : Nat) : Int) := by
  rw [IntKind.wrap_u64]; unfold shN
  rw [Int.natCast_emod, Int.natCast_mul, Int.natCast_pow]; rfl
theorem bit_u64 {b k : Nat} (lb : b < 18446744073709551616) : bits .and .u64 ((b : Int) / 2 ^ k) 1 = ((b / 2 ^ k % 2 : Nat) : Int) := by
  have e : ((b : Int) / 2 ^ k) = ((b / 2 ^ k : Nat) : Int) := by rw [Int.natCast_ediv, Int.natCast_pow]; rfl
  have l : b / 2 ^ k < 18446744073709551616 := Nat.lt_of_le_of_lt (Nat.div_le_self _ _) lb
  rw [e]
  have h := bits_and_u64_nat (b / 2 ^ k) 1 l (by decide)
  rw [Nat.and_one_is_mod] at h
  exact h
theorem mod_succ (b k : Nat) : b % 2 ^ (k + 1) = b % 2 ^ k + 2 ^ k * (b / 2 ^ k % 2) := by
  rw [Nat.pow_succ, Nat.mod_mul]
theorem prod_one {a b k : Nat} (h : b / 2 ^ k % 2 = 1) : (prodN a b k + shN a k) % 18446744073709551616 = prodN a b (k + 1) := by
  unfold prodN shN
  rw [mod_succ, h, Nat.mul_one, Nat.mul_add, ← Nat.add_mod]
theorem prod_none {a b k : Nat} (h : b / 2 ^ k % 2 = 0) : prodN a b k = prodN a b (k + 1) := by
  unfold prodN
  rw [mod_succ, h, Nat.mul_zero, Nat.add_zero]
theorem prodN_lt (a b k : Nat) : prodN a b k < 18446744073709551616 := Nat.mod_lt _ (by decide)
theorem shN_lt (a k : Nat) : shN a k < 18446744073709551616 := Nat.mod_lt _ (by decide)
theorem prod_end {a b : Nat} (lb : b < 18446744073709551616) : prodN a b 64 = a * b % 18446744073709551616 := by
  unfold prodN; rw [two64N, Nat.mod_eq_of_lt lb]
theorem prod_start (a b : Nat) : prodN a b 0 = 0 := by unfold prodN; rw [Nat.pow_zero, Nat.mod_one, Nat.mul_zero, Nat.zero_mod]

/-! ### Quotients -/
/-- The bits from k on: so often b goes into them, and what is left. -/
def qN (a b k : Nat) : Nat := a / 2 ^ k / b * 2 ^ k
def rN (a b k : Nat) : Nat := a / 2 ^ k % b
def tN (a b k : Nat) : Nat := 2 * rN a b (k + 1) + a / 2 ^ k % 2
theorem div_step (a k : Nat) : a / 2 ^ k = 2 * (a / 2 ^ (k + 1)) + a / 2 ^ k % 2 := by
  rw [Nat.pow_succ, ← Nat.div_div_eq_div_mul]; omega
theorem parts_t (a b k : Nat) : a / 2 ^ k = b * (2 * (a / 2 ^ (k + 1) / b)) + tN a b k := by
  have h := div_step a k
  have d := Nat.div_add_mod (a / 2 ^ (k + 1)) b
  unfold tN rN
  generalize a / 2 ^ (k + 1) = A at *
  generalize a / 2 ^ k % 2 = c at *
  rw [h]
  have e : b * (2 * (A / b)) = 2 * (b * (A / b)) := by rw [Nat.mul_left_comm]
  omega
theorem tN_lt {a b k : Nat} (hb : 0 < b) : tN a b k < 2 * b := by
  have h := Nat.mod_lt (a / 2 ^ (k + 1)) hb
  unfold tN rN
  omega
theorem parts_yes {a b k : Nat} (hb : 0 < b) (h : b ≤ tN a b k) : rN a b k = tN a b k - b ∧ qN a b k = qN a b (k + 1) + 2 ^ k := by
  have e := parts_t a b k
  have l := tN_lt (a := a) (k := k) hb
  have e2 : a / 2 ^ k = (tN a b k - b) + b * (2 * (a / 2 ^ (k + 1) / b) + 1) := by rw [Nat.mul_add, Nat.mul_one]; omega
  constructor
  · unfold rN
    rw [e2, Nat.add_mul_mod_self_left, Nat.mod_eq_of_lt (by omega)]
  · unfold qN
    rw [e2, Nat.add_mul_div_left _ _ hb, Nat.div_eq_of_lt (by omega), Nat.zero_add, Nat.add_mul, Nat.one_mul, Nat.pow_succ, Nat.mul_assoc, Nat.mul_left_comm, Nat.mul_comm 2 (2 ^ k)]
theorem parts_no {a b k : Nat} (h : tN a b k < b) : rN a b k = tN a b k ∧ qN a b k = qN a b (k + 1) := by
  have hb : 0 < b := by omega
  have e2 : a / 2 ^ k = tN a b k + b * (2 * (a / 2 ^ (k + 1) / b)) := by rw [Nat.add_comm]; exact parts_t a b k
  constructor
  · unfold rN
    rw [e2, Nat.add_mul_mod_self_left, Nat.mod_eq_of_lt h]
  · unfold qN
    rw [e2, Nat.add_mul_div_left _ _ hb, Nat.div_eq_of_lt h, Nat.zero_add, Nat.pow_succ, Nat.mul_assoc, Nat.mul_left_comm, Nat.mul_comm 2 (2 ^ k)]
theorem rN_lt {a b k : Nat} (hb : 0 < b) : rN a b k < b := Nat.mod_lt _ hb
theorem t_u64 {a b k : Nat} (hb : 0 < b) (hb1 : b ≤ 9223372036854775808) (la : a < 18446744073709551616) :
    bits .or .u64 (IntKind.u64.wrap ((rN a b (k + 1) : Int) * 2)) (bits .and .u64 ((a : Int) / 2 ^ k) 1) = ((tN a b k : Nat) : Int) := by
  have h := rN_lt (a := a) (k := k + 1) hb
  rw [bit_u64 la]
  have e : IntKind.u64.wrap ((rN a b (k + 1) : Int) * 2) = ((2 ^ 1 * rN a b (k + 1) : Nat) : Int) := by rw [IntKind.wrap_u64]; omega
  have hbit : a / 2 ^ k % 2 < 2 := Nat.mod_lt _ (by decide)
  rw [e, bits_or_u64_nat _ _ (by omega) (by omega), ← Nat.two_pow_add_eq_or_of_lt (by omega)]
  rfl
theorem qN_le (a b k : Nat) : qN a b k ≤ a := by
  unfold qN
  rw [Nat.div_div_eq_div_mul, Nat.mul_comm (2 ^ k) b, ← Nat.div_div_eq_div_mul]
  exact Nat.le_trans (Nat.div_mul_le_self _ _) (Nat.div_le_self _ _)
theorem q_u64 {a b k : Nat} (hk : k < 64) (la : a < 18446744073709551616) :
    bits .or .u64 ((qN a b (k + 1) : Nat) : Int) (IntKind.u64.wrap (2 ^ k)) = ((qN a b (k + 1) + 2 ^ k : Nat) : Int) := by
  have hp : (2 : Nat) ^ k < 18446744073709551616 := by rw [← two64N]; exact Nat.pow_lt_pow_right (by decide) hk
  have e : IntKind.u64.wrap (2 ^ k) = ((2 ^ k : Nat) : Int) := by
    rw [IntKind.wrap_u64]
    have e1 : ((2 : Int) ^ k) = ((2 ^ k : Nat) : Int) := by rw [Int.natCast_pow]; rfl
    rw [e1]; exact Int.emod_eq_of_lt (Int.natCast_nonneg _) (Int.ofNat_lt.2 hp)
  rw [e, bits_or_u64_nat _ _ (Nat.lt_of_le_of_lt (qN_le _ _ _) la) hp]
  congr 1
  unfold qN
  rw [Nat.mul_comm, ← Nat.two_pow_add_eq_or_of_lt (Nat.pow_lt_pow_right (by decide) (by omega))]
theorem parts_start {a b : Nat} (la : a < 18446744073709551616) : qN a b 64 = 0 ∧ rN a b 64 = 0 := by
  have e : a / 2 ^ 64 = 0 := Nat.div_eq_of_lt (by rw [two64N]; exact la)
  unfold qN rN; rw [e]; simp
theorem parts_end (a b : Nat) : qN a b 0 = a / b ∧ rN a b 0 = a % b := by
  unfold qN rN; simp
end Go.Proofs.YtebkdegcifkigaaGreatDoor
namespace Go.Proofs.YtebkdegcifkigaaGreatDoor
set_option maxRecDepth 20000
open Go.RowKit

set_option maxHeartbeats 400000 in
theorem sum_rel (a b s : Nat) (w : World) (h : SumRel s 64 a b) :
    Calls Tryz.prog 164 #[.int .u64 a, .int .u64 b] w fun e w' => e = .returned (.int .u64 s) ∧ w' = w := by
  go_enter Tryz.func164, Tryz.ntmps164
  go_wp2
  go_loopg [0, 1] 64 (fun g p q wr => wr = w ∧ ∃ x y : Nat, p = .int .u64 x ∧ q = .int .u64 y ∧ SumRel s g x y)
  case atStart => exact ⟨rfl, a, b, rfl, rfl, h⟩
  case round =>
    obtain ⟨rfl, x, y, rfl, rfl, hr⟩ := hrel
    by_cases hy : y = 0
    · have hy' : ((y : Int) != 0) = false := by simp [hy]
      have H := Lib.hid hy
      clear hy
      go_wp2
      go_ret
      have hy := H.out
      subst hy
      exact ⟨ret_int (congrArg Nat.cast hr.stop), rfl⟩
    · have hy' : ((y : Int) != 0) = true := by simp [hy]
      have H := Lib.hid hy
      have X := xor_u64 hr.la hr.lb
      have A := and_u64 hr.la hr.lb
      have D := dbl_u64 (andN x y)
      have M := Lib.hid (hr.more hy)
      clear hy
      go_wp2
      go_roundg (gk - 1)
      case measure => have := M.out; omega
      case rel => exact ⟨rfl, xorN x y, dblN (andN x y), rfl, rfl, hr.step H.out⟩
/-- tallowref01.sum. -/
theorem sum_any (a b : Nat) (w : World) (la : a < 18446744073709551616) (lb : b < 18446744073709551616) :
    Calls Tryz.prog 164 #[.int .u64 a, .int .u64 b] w fun e w' => e = .returned (.int .u64 ((a + b) % 18446744073709551616 : Nat)) ∧ w' = w :=
  sum_rel a b _ w (SumRel.start la lb)
def negN (a : Nat) : Nat := (18446744073709551616 - a) % 18446744073709551616
set_option maxHeartbeats 400000 in
/-- tallowref01.less0. -/
theorem less0_any (a : Nat) (w : World) (la : a < 18446744073709551616) :
    Calls Tryz.prog 144 #[.int .u64 a] w fun e w' => e = .returned (.int .u64 (negN a : Nat)) ∧ w' = w := by
  have X := not_u64 la
  have C := fun w => sum_any (18446744073709551615 - a) 1 w (by omega) (by omega)
  rw [show (18446744073709551615 - a + 1) % 18446744073709551616 = negN a by unfold negN; omega] at C
  generalize 18446744073709551615 - a = c at X C
  rw [show ((1 : Nat) : Int) = (1 : Int) from rfl] at C
  have C := Lib.hid C
  clear la
  go_enter Tryz.func144, Tryz.ntmps144
  go_wp2_with (go_at_call 164; (with_reducible refine (C.out _).mono ?_); rintro e w' ⟨rfl, hq⟩; obtain rfl := hq.symm)
  go_ret
  exact ⟨rfl, rfl⟩
end Go.Proofs.YtebkdegcifkigaaGreatDoor
namespace Go.Proofs.YtebkdegcifkigaaGreatDoor
set_option maxRecDepth 20000
open Go.RowKit

theorem conv_byte (w : World) (n : Int) (T : TypeId) : (convert 22 9 (.slice (some ⟨w.heap.size, 0, none⟩) 1 1)).run Tryz.prog (w.alloc (.cells #[.int .u8 n] T)) = .ok (.string ⟨#[UInt8.ofNat n.toNat]⟩) (w.alloc (.cells #[.int .u8 n] T)) := by
  rw [run_convert_bytes_string _ 22 9 5 _ _ _ Tryz.underlying22 Tryz.underlying5 Tryz.underlying9]
  rw [run_bytesToString _ ⟨w.heap.size, 0, none⟩ 1 1 [n] (by simp [go_sem])]
  simp
  rfl
theorem decDigits_small {n : Nat} (h : n < 10) : Lib.decDigits n = [UInt8.ofNat (48 + n)] := by rw [Lib.decDigits, dif_pos h]
theorem decDigits_big {n : Nat} (h : ¬ n < 10) : Lib.decDigits n = Lib.decDigits (n / 10) ++ Lib.decDigits (n % 10) := by
  rw [Lib.decDigits, dif_neg h, decDigits_small (Nat.mod_lt _ (by decide))]
theorem decDigits_len : ∀ (k n : Nat), 0 < k → n < 10 ^ k → (Lib.decDigits n).length ≤ k
  | 0, _, h, _ => by omega
  | 1, n, _, h => by rw [decDigits_small (by omega)]; simp
  | k + 2, n, _, h => by
    by_cases hn : n < 10
    · rw [decDigits_small hn]; simp
    · rw [decDigits_big hn, List.length_append, decDigits_small (Nat.mod_lt n (by decide))]
      have := decDigits_len (k + 1) (n / 10) (by omega) (by rw [Nat.pow_succ] at h; omega)
      simp only [List.length_singleton]
      omega
theorem decDigits_bound {n : Nat} (h : n < 18446744073709551616) : (Lib.decDigits n).length ≤ 20 := decDigits_len 20 n (by omega) (by omega)
theorem ret_str {a b : ByteArray} (h : a = b) : Ending.returned (.string a) = .returned (.string b) := by rw [h]

end Go.Proofs.YtebkdegcifkigaaGreatDoor
namespace Go.Proofs.YtebkdegcifkigaaGreatDoor
set_option maxRecDepth 20000
open Go.RowKit

/-- What digits spell, behind others that spell acc. -/
def valA (acc : Nat) (l : List UInt8) : Nat := l.foldl (fun a c => a * 10 + (c.toNat - 48)) acc
theorem valA_cons (acc : Nat) (c : UInt8) (r : List UInt8) : valA acc (c :: r) = valA (acc * 10 + (c.toNat - 48)) r := by unfold valA; rw [List.foldl_cons]
theorem valA_append (acc : Nat) (l r : List UInt8) : valA acc (l ++ r) = valA (valA acc l) r := by simp only [valA, List.foldl_append]
theorem valA_ge : ∀ (l : List UInt8) (acc : Nat), acc ≤ valA acc l
  | [], _ => Nat.le_refl _
  | c :: r, acc => by rw [valA_cons]; have := valA_ge r (acc * 10 + (c.toNat - 48)); omega
theorem digitB_iff {c : UInt8} : digitB c = true ↔ 48 ≤ c.toNat ∧ c.toNat ≤ 57 := by simp [digitB]
theorem parseUintM_val : ∀ (l : List UInt8) (acc : Nat), l.all digitB = true → acc ≤ 18446744073709551615 →
    Lib.parseUintM 18446744073709551615 acc l = if valA acc l ≤ 18446744073709551615 then .ok (valA acc l) else .range
  | [], acc, _, h => by rw [show valA acc [] = acc from rfl, if_pos h]; rfl
  | c :: r, acc, ha, h => by
    simp only [List.all_cons, Bool.and_eq_true] at ha
    have hc := digitB_iff.1 ha.1
    have hg := valA_ge r (acc * 10 + (c.toNat - 48))
    rw [valA_cons]
    unfold Lib.parseUintM
    rw [if_pos hc]
    by_cases h1 : 1844674407370955162 ≤ acc
    · rw [if_pos h1, if_neg (by omega)]
    · rw [if_neg h1]
      by_cases h2 : 18446744073709551615 < acc * 10 + (c.toNat - 48)
      · rw [if_pos h2, if_neg (by omega)]
      · rw [if_neg h2]
        exact parseUintM_val r _ ha.2 (by omega)
theorem parseUintB_val {l : List UInt8} (hne : l ≠ []) (ha : l.all digitB = true) :
    Lib.parseUintB 64 l = if valA 0 l ≤ 18446744073709551615 then .ok (valA 0 l) else .range := by
  unfold Lib.parseUintB
  rw [if_neg hne]
  exact parseUintM_val l 0 ha (by omega)

theorem decDigits_ne (n : Nat) : Lib.decDigits n ≠ [] := by
  by_cases h : n < 10
  · rw [decDigits_small h]; simp
  · rw [decDigits_big h, decDigits_small (Nat.mod_lt n (by decide))]; simp
theorem toNat_digit {d : Nat} (h : d < 10) : (UInt8.ofNat (48 + d)).toNat = 48 + d := by
  rw [UInt8.toNat_ofNat']; omega
theorem digit_ofNat {d : Nat} (h : d < 10) : digitB (UInt8.ofNat (48 + d)) = true := digitB_iff.2 (by rw [toNat_digit h]; omega)
theorem decDigits_all (n : Nat) : (Lib.decDigits n).all digitB = true := by
  induction n using Nat.strongRecOn with
  | ind n ih =>
    by_cases h : n < 10
    · rw [decDigits_small h]; simp only [List.all_cons, List.all_nil, digit_ofNat h, Bool.and_true]
    · have hm := Nat.mod_lt n (show 0 < 10 by decide)
      rw [decDigits_big h, decDigits_small hm, List.all_append, ih _ (by omega)]
      simp only [List.all_cons, List.all_nil, digit_ofNat hm, Bool.and_true]
theorem decDigits_valA (n : Nat) : valA 0 (Lib.decDigits n) = n := by
  induction n using Nat.strongRecOn with
  | ind n ih =>
    by_cases h : n < 10
    · rw [decDigits_small h, valA_cons, toNat_digit h]; simp [valA]
    · have hm := Nat.mod_lt n (show 0 < 10 by decide)
      rw [decDigits_big h, decDigits_small hm, valA_append, ih _ (by omega), valA_cons, toNat_digit hm]
      simp [valA]; omega
theorem decDigits_head {n : Nat} (h0 : 0 < n) : (Lib.decDigits n).head? ≠ some 48 := by
  induction n using Nat.strongRecOn with
  | ind n ih =>
    by_cases h : n < 10
    · rw [decDigits_small h]
      intro e
      have e1 := congrArg UInt8.toNat (Option.some.inj e)
      rw [toNat_digit h] at e1
      have : (48 : UInt8).toNat = 48 := rfl
      omega
    · rw [decDigits_big h, List.head?_append]
      have h1 := ih (n / 10) (by omega) (by omega)
      have h2 := decDigits_ne (n / 10)
      cases hd : Lib.decDigits (n / 10) with
      | nil => exact absurd hd h2
      | cons c r => rw [hd] at h1; simpa using h1
theorem digit_back {c : UInt8} (h : digitB c = true) : UInt8.ofNat (48 + (c.toNat - 48)) = c := by
  have := digitB_iff.1 h
  rw [show 48 + (c.toNat - 48) = c.toNat by omega]
  exact UInt8.ofNat_toNat
theorem decDigits_more : ∀ (l : List UInt8) (acc : Nat), l.all digitB = true → 0 < acc → Lib.decDigits (valA acc l) = Lib.decDigits acc ++ l
  | [], acc, _, _ => by simp [valA]
  | c :: r, acc, ha, h => by
    simp only [List.all_cons, Bool.and_eq_true] at ha
    have hc := digitB_iff.1 ha.1
    rw [valA_cons, decDigits_more r _ ha.2 (by omega), decDigits_big (n := acc * 10 + (c.toNat - 48)) (by omega)]
    rw [show (acc * 10 + (c.toNat - 48)) / 10 = acc by omega, show (acc * 10 + (c.toNat - 48)) % 10 = c.toNat - 48 by omega, decDigits_small (n := c.toNat - 48) (by omega), digit_back ha.1]
    simp
/-- Digits without noughts ahead are the text of what they spell. -/
theorem decDigits_of {l : List UInt8} (hne : l ≠ []) (ha : l.all digitB = true) (hh : l.head? = some 48 → l = [48]) : Lib.decDigits (valA 0 l) = l := by
  match l, hne with
  | c :: r, _ =>
    by_cases h48 : c = 48
    · subst h48
      have := hh rfl
      rw [this]
      rw [decDigits_small (by decide)]; rfl
    · simp only [List.all_cons, Bool.and_eq_true] at ha
      have hc := digitB_iff.1 ha.1
      have hne48 : c.toNat ≠ 48 := fun e => h48 (UInt8.toNat_inj.1 e)
      rw [valA_cons, decDigits_more r _ ha.2 (by omega), Nat.zero_mul, Nat.zero_add, decDigits_small (by omega), digit_back ha.1]
      rfl
theorem val_pos {l : List UInt8} (hne : l ≠ []) (ha : l.all digitB = true) (hh : l.head? ≠ some 48) : 0 < valA 0 l := by
  match l, hne with
  | c :: r, _ =>
    simp only [List.all_cons, Bool.and_eq_true] at ha
    have hc := digitB_iff.1 ha.1
    have h48 : c.toNat ≠ 48 := fun e => hh (by rw [List.head?_cons]; exact congrArg some (UInt8.toNat_inj.1 e))
    have := valA_ge r (0 * 10 + (c.toNat - 48))
    rw [valA_cons]
    omega

/-- A text of a number, by its parts: -, or nothing; digits without noughts ahead; 0 alone. -/
theorem isText_cases {l : List UInt8} (h : isTextL l = true) :
    (∃ r, l = 45 :: r ∧ r ≠ [] ∧ r.all digitB = true ∧ r.head? ≠ some 48) ∨ (l.head? ≠ some 45 ∧ l ≠ [] ∧ l.all digitB = true ∧ (l.head? = some 48 → l = [48])) := by
  obtain ⟨hne, hd⟩ := isText_digits h
  match l with
  | [] => exact absurd (by decide) hne
  | c :: r =>
    by_cases hc : c = 45
    · subst hc
      refine Or.inl ⟨r, rfl, ?_⟩
      unfold isTextL at h
      rw [trim_minus] at h hne hd
      refine ⟨hne, hd, fun hh => ?_⟩
      rw [if_neg hne, if_pos hh] at h
      simp at h
    · refine Or.inr ⟨by simpa using hc, by simp, ?_⟩
      unfold isTextL at h
      rw [trim_other r hc] at h hne hd
      refine ⟨hd, fun hh => ?_⟩
      rw [if_neg hne, if_pos hh] at h
      simpa using h
theorem isText_minus {r : List UInt8} (hne : r ≠ []) (ha : r.all digitB = true) (hh : r.head? ≠ some 48) : isTextL (45 :: r) = true := by
  unfold isTextL
  rw [trim_minus, if_neg hne, if_neg hh, ha]
theorem isText_plain {l : List UInt8} (hne : l ≠ []) (ha : l.all digitB = true) (hh : l.head? = some 48 → l = [48]) : isTextL l = true := by
  match l, hne with
  | c :: r, hne =>
    have hc : c ≠ 45 := fun e => by subst e; simp only [List.all_cons] at ha; exact absurd ha (by simp [digitB])
    unfold isTextL
    rw [trim_other r hc, if_neg hne]
    split
    · rename_i h; rw [hh h]; rfl
    · exact ha
theorem parse_minus {r : List UInt8} (hne : r ≠ []) (ha : r.all digitB = true) :
    Lib.parseIntB 64 (45 :: r) = if valA 0 r ≤ 9223372036854775808 then .ok (-(valA 0 r : Int)) else .range := by
  simp only [Lib.parseIntB]
  rw [if_pos (Or.inr (by decide)), parseUintB_val hne ha]
  have e45 : (45 : UInt8).toNat = 45 := rfl
  by_cases h : valA 0 r ≤ 18446744073709551615
  · rw [if_pos h]
    simp only [e45, not_true_eq_false, false_and, if_false, true_and, if_true]
    by_cases h2 : valA 0 r ≤ 9223372036854775808
    · rw [if_neg (by omega), if_pos h2]
    · rw [if_pos (by omega), if_neg h2]
  · rw [if_neg h, if_neg (by omega)]
theorem parse_plain {l : List UInt8} (hne : l ≠ []) (ha : l.all digitB = true) :
    Lib.parseIntB 64 l = if valA 0 l ≤ 9223372036854775807 then .ok (valA 0 l : Int) else .range := by
  match l, hne with
  | c :: r, hne =>
    have hc : 48 ≤ c.toNat ∧ c.toNat ≤ 57 := by simp only [List.all_cons, Bool.and_eq_true] at ha; exact digitB_iff.1 ha.1
    simp only [Lib.parseIntB]
    rw [if_neg (by omega), parseUintB_val hne ha]
    have e : ¬ c.toNat = 45 := by omega
    by_cases h : valA 0 (c :: r) ≤ 18446744073709551615
    · rw [if_pos h]
      simp only [e, not_false_eq_true, true_and, false_and, if_false]
      by_cases h2 : valA 0 (c :: r) ≤ 9223372036854775807
      · rw [if_neg (by omega), if_pos h2]
      · rw [if_pos (by omega), if_neg h2]
    · rw [if_neg h, if_neg (by omega)]
/-- A number's text is read as it is written. -/
theorem parse_itoa (n : Int) (h0 : -9223372036854775808 ≤ n) (h1 : n ≤ 9223372036854775807) : parseV (Lib.itoa n) = n ∧ parseE (Lib.itoa n) = 0 := by
  unfold Lib.itoa
  by_cases h : n < 0
  · rw [if_pos h]
    have ht := isText_minus (decDigits_ne n.natAbs) (decDigits_all _) (decDigits_head (by omega))
    have hp := parse_minus (decDigits_ne n.natAbs) (decDigits_all _)
    rw [decDigits_valA, if_pos (by omega)] at hp
    unfold parseV parseE
    rw [if_pos ht, if_pos ht, hp]
    exact ⟨by simp only []; omega, rfl⟩
  · rw [if_neg h]
    have hh : (Lib.decDigits n.toNat).head? = some 48 → Lib.decDigits n.toNat = [48] := fun e => by
      by_cases h0 : 0 < n.toNat
      · exact absurd e (decDigits_head h0)
      · rw [show n.toNat = 0 by omega, decDigits_small (by decide)]; rfl
    have ht := isText_plain (decDigits_ne n.toNat) (decDigits_all _) hh
    have hp := parse_plain (decDigits_ne n.toNat) (decDigits_all _)
    rw [decDigits_valA, if_pos (by omega)] at hp
    unfold parseV parseE
    rw [if_pos ht, if_pos ht, hp]
    exact ⟨by simp only []; omega, rfl⟩
/-- A text that is read is that number's. -/
theorem itoa_parse {l : List UInt8} (h : parseE l = 0) : Lib.itoa (parseV l) = l := by
  unfold parseE at h
  unfold parseV
  by_cases ht : isTextL l = true
  · rw [if_pos ht] at h ⊢
    rcases isText_cases ht with ⟨r, rfl, hne, ha, hh⟩ | ⟨_, hne, ha, hh⟩
    · rw [parse_minus hne ha] at h ⊢
      by_cases hv : valA 0 r ≤ 9223372036854775808
      · rw [if_pos hv]
        have hp := val_pos hne ha hh
        simp only []
        unfold Lib.itoa
        rw [if_pos (by omega), show (-(valA 0 r : Int)).natAbs = valA 0 r by omega, decDigits_of hne ha (fun e => absurd e hh)]
      · rw [if_neg hv] at h; simp at h
    · rw [parse_plain hne ha] at h ⊢
      by_cases hv : valA 0 l ≤ 9223372036854775807
      · rw [if_pos hv]
        simp only []
        unfold Lib.itoa
        rw [if_neg (by omega), show ((valA 0 l : Int)).toNat = valA 0 l by omega, decDigits_of hne ha hh]
      · rw [if_neg hv] at h; simp at h
  · rw [if_neg ht] at h; simp at h
theorem parse_none {l : List UInt8} (h : parseE l ≠ 0) : parseV l = 0 ∧ (parseE l = 4 ∨ parseE l = 15) := by
  unfold parseE parseV at *
  by_cases ht : isTextL l = true
  · rw [if_pos ht] at h ⊢
    rw [if_pos ht]
    rcases well_cases (isText_well ht) with ⟨v, hv⟩ | hv
    · rw [hv] at h; simp at h
    · rw [hv]; exact ⟨rfl, Or.inr rfl⟩
  · rw [if_neg ht, if_neg ht]; exact ⟨rfl, Or.inl rfl⟩
end Go.Proofs.YtebkdegcifkigaaGreatDoor
namespace Go.Proofs.YtebkdegcifkigaaGreatDoor
set_option maxRecDepth 20000
open Go.RowKit

def ValIs (l : List UInt8) (k : Nat) (v : Int) : Prop := v = ((valA 0 (l.take k) : Nat) : Int)
theorem valA_lt : ∀ (l : List UInt8) (acc : Nat), l.all digitB = true → valA acc l < (acc + 1) * 10 ^ l.length
  | [], acc, _ => by rw [show valA acc [] = acc from rfl]; simp
  | c :: r, acc, ha => by
    simp only [List.all_cons, Bool.and_eq_true] at ha
    have hc := digitB_iff.1 ha.1
    have h := valA_lt r (acc * 10 + (c.toNat - 48)) ha.2
    rw [valA_cons, List.length_cons, Nat.pow_succ]
    have h2 : (acc * 10 + (c.toNat - 48) + 1) * 10 ^ r.length ≤ ((acc + 1) * 10) * 10 ^ r.length := Nat.mul_le_mul_right _ (by omega)
    rw [Nat.mul_comm (10 ^ r.length) 10, ← Nat.mul_assoc]
    omega
theorem ValIs.bounds {l : List UInt8} {k : Nat} {v : Int} (h : ValIs l k v) (ha : l.all digitB = true) (hk : k ≤ 19) : 0 ≤ v ∧ v < 10000000000000000000 := by
  unfold ValIs at h
  have h1 := valA_lt (l.take k) 0 (List.all_eq_true.2 fun x hx => List.all_eq_true.1 ha x (List.mem_of_mem_take hx))
  have h2 : 10 ^ (l.take k).length ≤ 10 ^ 19 := Nat.pow_le_pow_right (by decide) (by rw [List.length_take]; omega)
  have h3 : 10 ^ 19 = 10000000000000000000 := by decide
  omega
theorem ValIs.low {l : List UInt8} {k : Nat} {v : Int} (h : ValIs l k v) (ha : l.all digitB = true) (hk : k ≤ 18) : 0 ≤ v ∧ v < 1000000000000000000 := by
  unfold ValIs at h
  have h1 := valA_lt (l.take k) 0 (List.all_eq_true.2 fun x hx => List.all_eq_true.1 ha x (List.mem_of_mem_take hx))
  have h2 : 10 ^ (l.take k).length ≤ 10 ^ 18 := Nat.pow_le_pow_right (by decide) (by rw [List.length_take]; omega)
  have h3 : 10 ^ 18 = 1000000000000000000 := by decide
  omega
theorem ValIs.start (l : List UInt8) : ValIs l 0 0 := by unfold ValIs; simp [valA]
theorem ValIs.next {l : List UInt8} {k : Nat} {v : Int} {c : UInt8} (h : ValIs l k v) (hc : l[k]? = some c) (hd : 48 ≤ c.toNat) : ValIs l (k + 1) (10 * v + ((c.toNat : Int) - 48)) := by
  unfold ValIs at *
  rw [List.take_add_one, hc, valA_append, Option.toList_some, valA_cons, show ∀ a, valA a [] = a from fun _ => rfl]
  omega
theorem ValIs.all {l : List UInt8} {k : Nat} {v : Int} (h : ValIs l k v) (hk : l.length ≤ k) : v = ((valA 0 l : Nat) : Int) := by
  unfold ValIs at h; rw [List.take_of_length_le hk] at h; exact h
theorem val_big {l : List UInt8} (hne : l ≠ []) (ha : l.all digitB = true) (hh : l.head? ≠ some 48) (hl : 19 < l.length) : 10000000000000000000 ≤ valA 0 l := by
  match l, hne with
  | c :: r, _ =>
    simp only [List.all_cons, Bool.and_eq_true] at ha
    have hc := digitB_iff.1 ha.1
    have h48 : c.toNat ≠ 48 := fun e => hh (by rw [List.head?_cons]; exact congrArg some (UInt8.toNat_inj.1 e))
    have key : ∀ (l : List UInt8) (acc : Nat), acc * 10 ^ l.length ≤ valA acc l := by
      intro l
      induction l with
      | nil => intro acc; rw [show valA acc [] = acc from rfl]; simp
      | cons x xs ih =>
        intro acc
        rw [valA_cons, List.length_cons, Nat.pow_succ]
        have h2 := ih (acc * 10 + (x.toNat - 48))
        have h3 : (acc * 10) * 10 ^ xs.length ≤ (acc * 10 + (x.toNat - 48)) * 10 ^ xs.length := Nat.mul_le_mul_right _ (by omega)
        rw [Nat.mul_comm (10 ^ xs.length) 10, ← Nat.mul_assoc]
        omega
    have h4 := key r (0 * 10 + (c.toNat - 48))
    have h5 : 10 ^ 19 ≤ 10 ^ r.length := Nat.pow_le_pow_right (by decide) (by rw [List.length_cons] at hl; omega)
    have h6 : 10 ^ 19 = 10000000000000000000 := by decide
    have h7 : 1 * 10 ^ r.length ≤ (0 * 10 + (c.toNat - 48)) * 10 ^ r.length := Nat.mul_le_mul_right _ (by omega)
    rw [valA_cons]
    omega
def negI (v : Int) : Int := (18446744073709551616 - v) % 18446744073709551616
theorem less0_int (v : Int) (w : World) (h0 : 0 ≤ v) (h1 : v < 18446744073709551616) :
    Calls Tryz.prog 144 #[.int .u64 v] w fun e w' => e = .returned (.int .u64 (negI v)) ∧ w' = w := by
  have C := less0_any v.toNat w (by omega)
  rw [Int.toNat_of_nonneg h0] at C
  refine C.mono fun e w' h => ⟨h.1.trans (ret_int ?_), h.2⟩
  unfold negN negI; omega
theorem negI_neg {v : Int} (h0 : 0 ≤ v) (h1 : v ≤ 9223372036854775808) : wrap64 (negI v) = -v := by
  unfold wrap64 negI; omega
set_option maxHeartbeats 400000 in
theorem RParse_minus_none (s d : ByteArray) (w : World) (hs : s.size ≤ 281474976710656) (hp : 0 < s.size) (h45 : ((s[0].toNat : Int) == 45) = true) (hd : s.extract 1 s.size = d) (he : d.size = 0) :
    Calls Tryz.prog 115 #[.string s] w fun e w' => e = .returned (.tuple #[.int .i64 0, .int .i64 4]) ∧ w' = w := by
  have z : ((d.size : Int) == 0) = true := by simp [he]
  clear he
  go_enter Tryz.func115, Tryz.ntmps115
  go_wp2_with fail
  go_ret2
  exact ⟨rfl, rfl⟩
set_option maxHeartbeats 400000 in
theorem RParse_minus_nought (s d : ByteArray) (w : World) (hs : s.size ≤ 281474976710656) (hp : 0 < s.size) (h45 : ((s[0].toNat : Int) == 45) = true) (hd : s.extract 1 s.size = d) (hds : d.size ≤ 281474976710656) (hpos : 0 < d.size) (h48 : ((d[0].toNat : Int) == 48) = true) :
    Calls Tryz.prog 115 #[.string s] w fun e w' => e = .returned (.tuple #[.int .i64 0, .int .i64 4]) ∧ w' = w := by
  have z : ((d.size : Int) == 0) = false := beq_eq_false_iff_ne.2 (by omega)
  go_enter Tryz.func115, Tryz.ntmps115
  go_wp2_with fail
  all_goals go_ret2
  all_goals exact ⟨rfl, rfl⟩
set_option maxHeartbeats 1000000 in
theorem RParse_minus_digits (s d : ByteArray) (w : World) (hs : s.size ≤ 281474976710656) (hp : 0 < s.size) (h45 : ((s[0].toNat : Int) == 45) = true) (hd : s.extract 1 s.size = d) (hds : d.size ≤ 281474976710656) (hpos : 0 < d.size) (h48 : ((d[0].toNat : Int) == 48) = false) (V E : Int)
    (NO : Hid (d.data.toList.all digitB = false → (0 : Int) = V ∧ (4 : Int) = E)) (FAR : Hid (d.data.toList.all digitB = true → 19 < d.size → (0 : Int) = V ∧ (15 : Int) = E))
    (BIG : Hid (∀ v : Int, v = ((valA 0 d.data.toList : Nat) : Int) → d.data.toList.all digitB = true → 9223372036854775808 < v → (0 : Int) = V ∧ (15 : Int) = E))
    (YES : Hid (∀ v : Int, v = ((valA 0 d.data.toList : Nat) : Int) → d.data.toList.all digitB = true → v ≤ 9223372036854775808 → -v = V ∧ (0 : Int) = E)) :
    Calls Tryz.prog 115 #[.string s] w fun e w' => e = .returned (.tuple #[.int .i64 V, .int .i64 E]) ∧ w' = w := by
  have z : ((d.size : Int) == 0) = false := beq_eq_false_iff_ne.2 (by omega)
  have SZ := Lib.hid (Lib.size_eq d)
  go_enter Tryz.func115, Tryz.ntmps115
  go_wp2_with fail
  go_loop [5] (fun i => ∃ k : Nat, k ≤ d.size ∧ i = .int .i64 k ∧ Hid ((d.data.toList.take k).all digitB = true)) (fun i => d.size - (intOf i).toNat)
  case atStart => exact ⟨0, Nat.zero_le _, rfl, rfl⟩
  case round =>
    obtain ⟨k, hk, rfl, HA⟩ := hrel
    by_cases hlt : k < d.size
    · have G : Hid (d.data.toList[k]? = some d[k]) := by
        rw [Hid, List.getElem?_eq_getElem (by rw [← SZ.out]; exact hlt)]; rfl
      by_cases c1 : d[k].toNat < 48
      · have F : Hid (d.data.toList.all digitB = false) := by
          rw [Hid, List.all_eq_false]
          exact ⟨d[k], List.mem_of_getElem? G.out, by simp [digitB]; omega⟩
        go_wp2_with fail
        go_ret2
        exact ⟨ret_pair (NO.out F.out).1 (NO.out F.out).2, rfl⟩
      · by_cases c2 : 57 < d[k].toNat
        · have F : Hid (d.data.toList.all digitB = false) := by
            rw [Hid, List.all_eq_false]
            exact ⟨d[k], List.mem_of_getElem? G.out, by simp [digitB]; omega⟩
          go_wp2_with fail
          go_ret2
          exact ⟨ret_pair (NO.out F.out).1 (NO.out F.out).2, rfl⟩
        · have F : Hid ((d.data.toList.take (k + 1)).all digitB = true) := by
            rw [Hid, List.take_add_one, List.all_append, HA.out, G.out]; simp [digitB]; omega
          go_wp2_with fail
          go_round
          case rel => exact ⟨k + 1, by omega, by go_num, F⟩
          case measure => simp [intOf]; omega
    · have F : Hid (d.data.toList.all digitB = true) := by
        have := HA.out; rw [List.take_of_length_le (by rw [← SZ.out]; omega)] at this; exact this
      obtain rfl : k = d.size := by omega
      by_cases h19 : 19 < d.size
      · first
          | (exfalso; omega)
          | (go_wp2_with fail
             go_ret2
             exact ⟨ret_pair (FAR.out F.out h19).1 (FAR.out F.out h19).2, rfl⟩)
      · go_wp2_with fail
        go_loop [6, 7] (fun o i => ∃ (k : Nat) (v : Int), k ≤ d.size ∧ i = .int .i64 k ∧ o = .int .u64 v ∧ ValIs d.data.toList k v) (fun _ i => d.size - (intOf i).toNat)
        case atStart => exact ⟨0, 0, Nat.zero_le _, rfl, rfl, ValIs.start _⟩
        case round =>
          obtain ⟨j, v, hj, rfl, rfl, hv⟩ := hrel
          by_cases hlt2 : j < d.size
          · have G : Hid (d.data.toList[j]? = some d[j]) := by
              rw [Hid, List.getElem?_eq_getElem (by rw [← SZ.out]; exact hlt2)]; rfl
            have hb := hv.low F.out (by omega)
            have hb0 := hb.1
            have hb1 := hb.2
            have hc := digitB_iff.1 (List.all_eq_true.1 F.out _ (List.mem_of_getElem? G.out))
            have hc0 := hc.1
            have hc1 := hc.2
            clear hb hc
            go_wp2_with fail
            go_round
            case rel => exact ⟨j + 1, _, by omega, by go_num, rfl, hv.next G.out hc0⟩
            case measure => simp [intOf]; omega
          · obtain rfl : j = d.size := by omega
            have hb := hv.bounds F.out (by omega)
            have hb0 := hb.1
            have hb1 := hb.2
            have VA := Lib.hid (hv.all (by rw [← SZ.out]; exact Nat.le_refl _))
            clear hb hv
            by_cases hbig : 9223372036854775808 < v
            · go_wp2_with fail
              go_ret2
              exact ⟨ret_pair (BIG.out v VA.out F.out hbig).1 (BIG.out v VA.out F.out hbig).2, rfl⟩
            · have C := Lib.hid (fun w => less0_int v w hb0 (by omega))
              have N := Lib.hid (negI_neg hb0 (by omega))
              go_wp2_with (go_at_call 144; refine (C.out _).mono ?_; rintro e w' ⟨rfl, hq⟩; obtain rfl := hq.symm)
              go_ret2
              exact ⟨ret_pair (N.out.trans (YES.out v VA.out F.out (by omega)).1) (YES.out v VA.out F.out (by omega)).2, rfl⟩
set_option maxHeartbeats 400000 in
theorem RParse_plain_nought (s : ByteArray) (w : World) (hds : s.size ≤ 281474976710656) (hp : 0 < s.size) (h45 : ((s[0].toNat : Int) == 45) = false) (hpos : 0 < s.size) (h48 : ((s[0].toNat : Int) == 48) = true) (h1 : 1 < s.size) :
    Calls Tryz.prog 115 #[.string s] w fun e w' => e = .returned (.tuple #[.int .i64 0, .int .i64 4]) ∧ w' = w := by
  have z : ((s.size : Int) == 0) = false := beq_eq_false_iff_ne.2 (by omega)
  go_enter Tryz.func115, Tryz.ntmps115
  go_wp2_with fail
  all_goals go_ret2
  all_goals exact ⟨rfl, rfl⟩
set_option maxHeartbeats 1000000 in
theorem RParse_plain_digits (s : ByteArray) (w : World) (hds : s.size ≤ 281474976710656) (hp : 0 < s.size) (h45 : ((s[0].toNat : Int) == 45) = false) (hpos : 0 < s.size) (h48 : ((s[0].toNat : Int) == 48) = false ∨ (((s[0].toNat : Int) == 48) = true ∧ s.size ≤ 1)) (V E : Int)
    (NO : Hid (s.data.toList.all digitB = false → (0 : Int) = V ∧ (4 : Int) = E)) (FAR : Hid (s.data.toList.all digitB = true → 19 < s.size → (0 : Int) = V ∧ (15 : Int) = E))
    (BIG : Hid (∀ v : Int, v = ((valA 0 s.data.toList : Nat) : Int) → s.data.toList.all digitB = true → 9223372036854775808 ≤ v → (0 : Int) = V ∧ (15 : Int) = E))
    (YES : Hid (∀ v : Int, v = ((valA 0 s.data.toList : Nat) : Int) → s.data.toList.all digitB = true → v ≤ 9223372036854775807 → v = V ∧ (0 : Int) = E)) :
    Calls Tryz.prog 115 #[.string s] w fun e w' => e = .returned (.tuple #[.int .i64 V, .int .i64 E]) ∧ w' = w := by
  have z : ((s.size : Int) == 0) = false := beq_eq_false_iff_ne.2 (by omega)
  have SZ := Lib.hid (Lib.size_eq s)
  rcases h48 with h48 | ⟨h48, h1⟩
  all_goals
    go_enter Tryz.func115, Tryz.ntmps115
    go_wp2_with fail
    go_loop [5] (fun i => ∃ k : Nat, k ≤ s.size ∧ i = .int .i64 k ∧ Hid ((s.data.toList.take k).all digitB = true)) (fun i => s.size - (intOf i).toNat)
    case atStart => exact ⟨0, Nat.zero_le _, rfl, rfl⟩
    case round =>
      obtain ⟨k, hk, rfl, HA⟩ := hrel
      by_cases hlt : k < s.size
      · have G : Hid (s.data.toList[k]? = some s[k]) := by
          rw [Hid, List.getElem?_eq_getElem (by rw [← SZ.out]; exact hlt)]; rfl
        by_cases c1 : s[k].toNat < 48
        · have F : Hid (s.data.toList.all digitB = false) := by
            rw [Hid, List.all_eq_false]
            exact ⟨s[k], List.mem_of_getElem? G.out, by simp [digitB]; omega⟩
          go_wp2_with fail
          go_ret2
          exact ⟨ret_pair (NO.out F.out).1 (NO.out F.out).2, rfl⟩
        · by_cases c2 : 57 < s[k].toNat
          · have F : Hid (s.data.toList.all digitB = false) := by
              rw [Hid, List.all_eq_false]
              exact ⟨s[k], List.mem_of_getElem? G.out, by simp [digitB]; omega⟩
            go_wp2_with fail
            go_ret2
            exact ⟨ret_pair (NO.out F.out).1 (NO.out F.out).2, rfl⟩
          · have F : Hid ((s.data.toList.take (k + 1)).all digitB = true) := by
              rw [Hid, List.take_add_one, List.all_append, HA.out, G.out]; simp [digitB]; omega
            go_wp2_with fail
            go_round
            case rel => exact ⟨k + 1, by omega, by go_num, F⟩
            case measure => simp [intOf]; omega
      · have F : Hid (s.data.toList.all digitB = true) := by
          have := HA.out; rw [List.take_of_length_le (by rw [← SZ.out]; omega)] at this; exact this
        obtain rfl : k = s.size := by omega
        by_cases h19 : 19 < s.size
        · first
            | (exfalso; omega)
            | (go_wp2_with fail
               go_ret2
               exact ⟨ret_pair (FAR.out F.out h19).1 (FAR.out F.out h19).2, rfl⟩)
        · go_wp2_with fail
          go_loop [6, 7] (fun o i => ∃ (k : Nat) (v : Int), k ≤ s.size ∧ i = .int .i64 k ∧ o = .int .u64 v ∧ ValIs s.data.toList k v) (fun _ i => s.size - (intOf i).toNat)
          case atStart => exact ⟨0, 0, Nat.zero_le _, rfl, rfl, ValIs.start _⟩
          case round =>
            obtain ⟨j, v, hj, rfl, rfl, hv⟩ := hrel
            by_cases hlt2 : j < s.size
            · have G : Hid (s.data.toList[j]? = some s[j]) := by
                rw [Hid, List.getElem?_eq_getElem (by rw [← SZ.out]; exact hlt2)]; rfl
              have hb := hv.low F.out (by omega)
              have hb0 := hb.1
              have hb1 := hb.2
              have hc := digitB_iff.1 (List.all_eq_true.1 F.out _ (List.mem_of_getElem? G.out))
              have hc0 := hc.1
              have hc1 := hc.2
              clear hb hc
              go_wp2_with fail
              go_round
              case rel => exact ⟨j + 1, _, by omega, by go_num, rfl, hv.next G.out hc0⟩
              case measure => simp [intOf]; omega
            · obtain rfl : j = s.size := by omega
              have hb := hv.bounds F.out (by omega)
              have hb0 := hb.1
              have hb1 := hb.2
              have VA := Lib.hid (hv.all (by rw [← SZ.out]; exact Nat.le_refl _))
              clear hb hv
              by_cases hbig : 9223372036854775808 ≤ v
              · go_wp2_with fail
                go_ret2
                exact ⟨ret_pair (BIG.out v VA.out F.out hbig).1 (BIG.out v VA.out F.out hbig).2, rfl⟩
              · go_wp2_with fail
                go_ret2
                exact ⟨ret_pair (YES.out v VA.out F.out (by omega)).1 (YES.out v VA.out F.out (by omega)).2, rfl⟩
theorem bytes_cons {s : ByteArray} (hp : 0 < s.size) : s.data.toList = s[0] :: (s.extract 1 s.size).data.toList := by
  rw [Lib.extract_data, List.take_of_length_le (by rw [List.length_drop, ← Lib.size_eq]; omega)]
  have h0 : s.data.toList[0]? = some s[0] := by rw [List.getElem?_eq_getElem (by rw [← Lib.size_eq]; exact hp)]; rfl
  generalize s.data.toList = l at h0
  cases l with
  | nil => cases h0
  | cons c r => simp at h0; subst h0; rfl
theorem parse_bad {l : List UInt8} (h : isTextL l = false) : parseV l = 0 ∧ parseE l = 4 := by unfold parseV parseE; simp [h]
theorem isText_minus_iff {r : List UInt8} : isTextL (45 :: r) = true ↔ r ≠ [] ∧ r.all digitB = true ∧ r.head? ≠ some 48 := by
  constructor
  · intro h
    rcases isText_cases h with ⟨r', e, h1, h2, h3⟩ | ⟨h1, _⟩
    · have e := (List.cons.inj e).2; subst e; exact ⟨h1, h2, h3⟩
    · exact absurd rfl h1
  · intro h; exact isText_minus h.1 h.2.1 h.2.2
theorem isText_plain_iff {l : List UInt8} (h45 : l.head? ≠ some 45) : isTextL l = true ↔ l ≠ [] ∧ l.all digitB = true ∧ (l.head? = some 48 → l = [48]) := by
  constructor
  · intro h
    rcases isText_cases h with ⟨r', e, _⟩ | ⟨_, h2, h3, h4⟩
    · subst e; exact absurd rfl h45
    · exact ⟨h2, h3, h4⟩
  · intro h; exact isText_plain h.1 h.2.1 h.2.2
theorem not_true {b : Bool} (h : ¬ b = true) : b = false := by simpa using h
/-- tallowref01.Parse, at every text. -/
theorem RParse_any (s : ByteArray) (w : World) (hs : s.size ≤ 281474976710656) :
    Calls Tryz.prog 115 #[.string s] w fun e w' => e = .returned (.tuple #[.int .i64 (parseV s.data.toList), .int .i64 (parseE s.data.toList)]) ∧ w' = w := by
  by_cases hp : 0 < s.size
  · have hc := bytes_cons hp
    by_cases h45 : s[0].toNat = 45
    · have h45' : ((s[0].toNat : Int) == 45) = true := by simp [h45]
      have e45 : s[0] = 45 := UInt8.toNat_inj.1 h45
      obtain ⟨d, hd⟩ : ∃ d, s.extract 1 s.size = d := ⟨_, rfl⟩
      have hds : d.size ≤ 281474976710656 := by rw [← hd, ByteArray.size_extract]; omega
      rw [hd, e45] at hc
      rw [hc]
      have hsz := Lib.size_eq d
      by_cases h0 : d.size = 0
      · have hne : d.data.toList = [] := List.length_eq_zero_iff.1 (by omega)
        have q := parse_bad (not_true (fun h => (isText_minus_iff.1 h).1 hne))
        rw [q.1, q.2]
        exact RParse_minus_none s d w hs hp h45' hd h0
      · have hpd : 0 < d.size := by omega
        have hne : d.data.toList ≠ [] := fun e => h0 (by rw [hsz, e]; rfl)
        have hdc := bytes_cons hpd
        have hhd : d.data.toList.head? = some d[0] := by rw [hdc]; rfl
        by_cases h48 : d[0].toNat = 48
        · have q := parse_bad (not_true (fun h => (isText_minus_iff.1 h).2.2 (by rw [hhd]; exact congrArg some (UInt8.toNat_inj.1 h48))))
          rw [q.1, q.2]
          exact RParse_minus_nought s d w hs hp h45' hd hds hpd (by simp [h48])
        · have hh : d.data.toList.head? ≠ some 48 := fun e => h48 (by rw [hhd] at e; rw [Option.some.inj e]; rfl)
          have yes : d.data.toList.all digitB = true → isTextL (45 :: d.data.toList) = true := fun h => isText_minus_iff.2 ⟨hne, h, hh⟩
          refine RParse_minus_digits s d w hs hp h45' hd hds hpd (beq_eq_false_iff_ne.2 (by omega)) _ _ ?_ ?_ ?_ ?_
          · intro h
            have q := parse_bad (not_true (fun h2 => by rw [(isText_minus_iff.1 h2).2.1] at h; cases h))
            exact ⟨q.1.symm, q.2.symm⟩
          · intro h h19
            have := val_big hne h hh (by omega)
            unfold parseV parseE
            rw [if_pos (yes h), if_pos (yes h), parse_minus hne h, if_neg (by omega)]
            exact ⟨rfl, rfl⟩
          · intro v hv h hb
            unfold parseV parseE
            rw [if_pos (yes h), if_pos (yes h), parse_minus hne h, if_neg (by omega)]
            exact ⟨rfl, rfl⟩
          · intro v hv h hb
            unfold parseV parseE
            rw [if_pos (yes h), if_pos (yes h), parse_minus hne h, if_pos (by omega)]
            exact ⟨by rw [hv], rfl⟩
    · have h45' : ((s[0].toNat : Int) == 45) = false := beq_eq_false_iff_ne.2 (by omega)
      have hsz := Lib.size_eq s
      have hne : s.data.toList ≠ [] := by rw [hc]; simp
      have hhd : s.data.toList.head? = some s[0] := by rw [hc]; rfl
      have n45 : s.data.toList.head? ≠ some 45 := fun e => h45 (by rw [hhd] at e; rw [Option.some.inj e]; rfl)
      have iff := isText_plain_iff n45
      by_cases hbad : s[0].toNat = 48 ∧ 1 < s.size
      · have q := parse_bad (not_true (fun h => by
          have := (iff.1 h).2.2 (by rw [hhd]; exact congrArg some (UInt8.toNat_inj.1 hbad.1))
          have h1 := hbad.2
          rw [hsz, this] at h1
          simp at h1))
        rw [q.1, q.2]
        exact RParse_plain_nought s w hs hp h45' hp (by simp [hbad.1]) hbad.2
      · have hh : s.data.toList.head? = some 48 → s.data.toList = [48] := fun e => by
          rw [hhd] at e
          have e1 : s[0] = 48 := Option.some.inj e
          have e2 : s[0].toNat = 48 := by rw [e1]; rfl
          have e3 : s.size = 1 := by omega
          rw [hc, e1]
          congr 1
          apply List.length_eq_zero_iff.1
          have := congrArg List.length hc
          rw [List.length_cons] at this
          omega
        have yes : s.data.toList.all digitB = true → isTextL s.data.toList = true := fun h => iff.2 ⟨hne, h, hh⟩
        refine RParse_plain_digits s w hs hp h45' hp ?_ _ _ ?_ ?_ ?_ ?_
        · by_cases h48 : s[0].toNat = 48
          · exact Or.inr ⟨by simp [h48], by omega⟩
          · exact Or.inl (beq_eq_false_iff_ne.2 (by omega))
        · intro h
          have q := parse_bad (not_true (fun h2 => by rw [(iff.1 h2).2.1] at h; cases h))
          exact ⟨q.1.symm, q.2.symm⟩
        · intro h h19
          have hh2 : s.data.toList.head? ≠ some 48 := fun e => by have := hh e; rw [hsz, this] at h19; simp at h19
          have := val_big hne h hh2 (by omega)
          unfold parseV parseE
          rw [if_pos (yes h), if_pos (yes h), parse_plain hne h, if_neg (by omega)]
          exact ⟨rfl, rfl⟩
        · intro v hv h hb
          unfold parseV parseE
          rw [if_pos (yes h), if_pos (yes h), parse_plain hne h, if_neg (by omega)]
          exact ⟨rfl, rfl⟩
        · intro v hv h hb
          unfold parseV parseE
          rw [if_pos (yes h), if_pos (yes h), parse_plain hne h, if_pos (by omega)]
          exact ⟨by rw [hv], rfl⟩
  · have e0 : s = ⟨#[]⟩ := by
      obtain ⟨⟨l⟩⟩ := s
      cases l with
      | nil => rfl
      | cons c r => simp [ByteArray.size] at hp
    subst e0
    have q := parse_bad (l := []) (by decide)
    rw [show (ByteArray.mk #[]).data.toList = [] from rfl, q.1, q.2]
    go_enter Tryz.func115, Tryz.ntmps115
    go_wp2_with fail
    go_ret2
    exact ⟨rfl, rfl⟩
end Go.Proofs.YtebkdegcifkigaaGreatDoor
