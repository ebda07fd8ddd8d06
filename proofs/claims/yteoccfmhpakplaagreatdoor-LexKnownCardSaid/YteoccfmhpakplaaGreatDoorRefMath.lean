/- Plain facts on the document's own way to reckon: sums by carries, products and quotients bit by bit, over numbers below 2^64. No walk. -/
import Derived.Test.YteoccfmhpakplaaGreatDoorBase
import Derived.Test.YteoccfmhpakplaaGreatDoorNumMath4
namespace Go.Proofs.YteoccfmhpakplaaGreatDoor
set_option maxRecDepth 20000
open Go.RowKit

def andN (a b : Nat) : Nat := a &&& b
def xorN (a b : Nat) : Nat := a ^^^ b
def dblN (a : Nat) : Nat := (a * 2) % 18446744073709551616
structure SumRel (s g a b : Nat) : Prop where
  la : a < 18446744073709551616
  lb : b < 18446744073709551616
  le : g ≤ 64
  sum : (a + b) % 18446744073709551616 = s
  dvd : 2 ^ (64 - g) ∣ b
theorem two64N : (2 : Nat) ^ 64 = 18446744073709551616 := by decide
theorem SumRel.start {a b : Nat} (la : a < 18446744073709551616) (lb : b < 18446744073709551616) : SumRel ((a + b) % 18446744073709551616) 64 a b :=
  ⟨la, lb, Nat.le_refl _, rfl, ⟨b, by simp⟩⟩
theorem SumRel.stop {s g a : Nat} (h : SumRel s g a 0) : a = s := by
  have := h.sum; have := h.la; rw [Nat.add_zero, Nat.mod_eq_of_lt h.la] at *; assumption
theorem SumRel.more {s g a b : Nat} (h : SumRel s g a b) (hb : b ≠ 0) : 0 < g := by
  rcases Nat.eq_zero_or_pos g with rfl | hg
  · obtain ⟨c, hc⟩ := h.dvd
    have := h.lb
    rw [Nat.sub_zero, two64N] at hc
    omega
  · exact hg
theorem vec_carry (A B : BitVec 64) : (A ^^^ B) + ((A &&& B) + (A &&& B)) = A + B := by
  have d : (A &&& B) &&& (A ^^^ B) = 0#64 := vec_none A B
  have s := BitVec.add_eq_or_of_and_eq_zero _ _ d
  rw [vec_or] at s
  rw [← vec_sum A B, ← s, BitVec.add_comm (A ^^^ B), BitVec.add_assoc]
theorem carry_sum (a b : Nat) (la : a < 18446744073709551616) (lb : b < 18446744073709551616) : (xorN a b + dblN (andN a b)) % 18446744073709551616 = (a + b) % 18446744073709551616 := by
  have h := congrArg BitVec.toNat (vec_carry (BitVec.ofNat 64 a) (BitVec.ofNat 64 b))
  have ea : (BitVec.ofNat 64 a).toNat = a := by rw [BitVec.toNat_ofNat]; exact Nat.mod_eq_of_lt (by rw [two64N]; exact la)
  have eb : (BitVec.ofNat 64 b).toNat = b := by rw [BitVec.toNat_ofNat]; exact Nat.mod_eq_of_lt (by rw [two64N]; exact lb)
  simp only [BitVec.toNat_add, BitVec.toNat_xor, BitVec.toNat_and, ea, eb, two64N] at h
  unfold xorN dblN andN
  rw [← h, Nat.mul_two]
theorem SumRel.step {s g a b : Nat} (h : SumRel s g a b) (hb : b ≠ 0) : SumRel s (g - 1) (xorN a b) (dblN (andN a b)) := by
  have hg := h.more hb
  have hle := h.le
  refine ⟨?_, Nat.mod_lt _ (by decide), by omega, by rw [carry_sum a b h.la h.lb]; exact h.sum, ?_⟩
  · have := Nat.xor_lt_two_pow (n := 64) (x := a) (y := b) (by rw [two64N]; exact h.la) (by rw [two64N]; exact h.lb)
    rw [two64N] at this; exact this
  · have d1 : 2 ^ (64 - g) ∣ andN a b := by
      apply Nat.dvd_of_mod_eq_zero
      unfold andN
      rw [Nat.and_mod_two_pow, Nat.mod_eq_zero_of_dvd h.dvd, Nat.and_zero]
    have e : 64 - (g - 1) = (64 - g) + 1 := by omega
    rw [e]
    obtain ⟨c, hc⟩ := d1
    unfold dblN
    have d2 : 2 ^ (64 - g + 1) ∣ 18446744073709551616 := ⟨2 ^ (64 - (64 - g + 1)), by rw [← Nat.pow_add, ← two64N]; congr 1; omega⟩
    refine (Nat.dvd_mod_iff d2).2 ⟨c, ?_⟩
    rw [hc, Nat.pow_succ, Nat.mul_right_comm]
theorem xor_u64 {a b : Nat} (la : a < 18446744073709551616) (lb : b < 18446744073709551616) : bits .xor .u64 (a : Int) (b : Int) = ((xorN a b : Nat) : Int) := bits_xor_u64_nat a b la lb
theorem and_u64 {a b : Nat} (la : a < 18446744073709551616) (lb : b < 18446744073709551616) : bits .and .u64 (a : Int) (b : Int) = ((andN a b : Nat) : Int) := bits_and_u64_nat a b la lb
theorem dbl_u64 (a : Nat) : IntKind.u64.wrap ((a : Int) * 2) = ((dblN a : Nat) : Int) := by
  rw [IntKind.wrap_u64]; unfold dblN; omega
theorem not_u64 {a : Nat} (la : a < 18446744073709551616) : bits .xor .u64 IntKind.u64.max (a : Int) = ((18446744073709551615 - a : Nat) : Int) := by
  have e : IntKind.u64.max = ((18446744073709551615 : Nat) : Int) := rfl
  rw [e, bits_xor_u64_nat _ _ (by decide) la]
  congr 1
  have h : BitVec.allOnes 64 ^^^ BitVec.ofNat 64 a = ~~~ (BitVec.ofNat 64 a) := by rw [BitVec.xor_comm, BitVec.xor_allOnes]
  have h := congrArg BitVec.toNat h
  rw [BitVec.toNat_xor, BitVec.toNat_not, BitVec.toNat_ofNat, BitVec.toNat_allOnes, two64N, Nat.mod_eq_of_lt la] at h
  exact h

/-! ### Products -/
def shN (a k : Nat) : Nat := a * 2 ^ k % 18446744073709551616
def prodN (a b k : Nat) : Nat := a * (b % 2 ^ k) % 18446744073709551616
theorem sh_u64 (a k : Nat) : IntKind.u64.wrap ((a : Int) * 2 ^ k) = ((shN a k : Nat) : Int) := by
  rw [IntKind.wrap_u64]; unfold shN
  rw [Int.natCast_emod, Int.natCast_mul, Int.natCast_pow]; rfl
theorem bit_u64 {b k : Nat} (lb : b < 18446744073709551616) : bits .and .u64 ((b : Int) / 2 ^ k) 1 = ((b / 2 ^ k % 2 : Nat) : Int) := by
  have e : ((b : Int) / 2 ^ k) = ((b / 2 ^ k : Nat) : Int) := by rw [Int.natCast_ediv, Int.natCast_pow]; rfl
  have l : b / 2 ^ k < 18446744073709551616 := Nat.lt_of_le_of_lt (Nat.div_le_self _ _) lb
  rw [e]
  have h := bits_and_u64_nat (b / 2 ^ k) 1 l (by decide)
  rw [Nat.and_one_is_mod] at h
  exact h
theorem mod_succ (b k : Nat) : b % 2 ^ (k + 1) = b % 2 ^ k + 2 ^ k * (b / 2 ^ k % 2) := by
  rw [Nat.pow_succ, Nat.mod_mul]
theorem prod_one {a b k : Nat} (h : b / 2 ^ k % 2 = 1) : (prodN a b k + shN a k) % 18446744073709551616 = prodN a b (k + 1) := by
  unfold prodN shN
  rw [mod_succ, h, Nat.mul_one, Nat.mul_add, ← Nat.add_mod]
theorem prod_none {a b k : Nat} (h : b / 2 ^ k % 2 = 0) : prodN a b k = prodN a b (k + 1) := by
  unfold prodN
  rw [mod_succ, h, Nat.mul_zero, Nat.add_zero]
theorem prodN_lt (a b k : Nat) : prodN a b k < 18446744073709551616 := Nat.mod_lt _ (by decide)
theorem shN_lt (a k : Nat) : shN a k < 18446744073709551616 := Nat.mod_lt _ (by decide)
theorem prod_end {a b : Nat} (lb : b < 18446744073709551616) : prodN a b 64 = a * b % 18446744073709551616 := by
  unfold prodN; rw [two64N, Nat.mod_eq_of_lt lb]
theorem prod_start (a b : Nat) : prodN a b 0 = 0 := by unfold prodN; rw [Nat.pow_zero, Nat.mod_one, Nat.mul_zero, Nat.zero_mod]

/-! ### Quotients -/
/-- The bits from k on: so often b goes into them, and what is left. -/
def qN (a b k : Nat) : Nat := a / 2 ^ k / b * 2 ^ k
def rN (a b k : Nat) : Nat := a / 2 ^ k % b
def tN (a b k : Nat) : Nat := 2 * rN a b (k + 1) + a / 2 ^ k % 2
theorem div_step (a k : Nat) : a / 2 ^ k = 2 * (a / 2 ^ (k + 1)) + a / 2 ^ k % 2 := by
  rw [Nat.pow_succ, ← Nat.div_div_eq_div_mul]; omega
theorem parts_t (a b k : Nat) : a / 2 ^ k = b * (2 * (a / 2 ^ (k + 1) / b)) + tN a b k := by
  have h := div_step a k
  have d := Nat.div_add_mod (a / 2 ^ (k + 1)) b
  unfold tN rN
  generalize a / 2 ^ (k + 1) = A at *
  generalize a / 2 ^ k % 2 = c at *
  rw [h]
  have e : b * (2 * (A / b)) = 2 * (b * (A / b)) := by rw [Nat.mul_left_comm]
  omega
theorem tN_lt {a b k : Nat} (hb : 0 < b) : tN a b k < 2 * b := by
  have h := Nat.mod_lt (a / 2 ^ (k + 1)) hb
  unfold tN rN
  omega
theorem parts_yes {a b k : Nat} (hb : 0 < b) (h : b ≤ tN a b k) : rN a b k = tN a b k - b ∧ qN a b k = qN a b (k + 1) + 2 ^ k := by
  have e := parts_t a b k
  have l := tN_lt (a := a) (k := k) hb
  have e2 : a / 2 ^ k = (tN a b k - b) + b * (2 * (a / 2 ^ (k + 1) / b) + 1) := by rw [Nat.mul_add, Nat.mul_one]; omega
  constructor
  · unfold rN
    rw [e2, Nat.add_mul_mod_self_left, Nat.mod_eq_of_lt (by omega)]
  · unfold qN
    rw [e2, Nat.add_mul_div_left _ _ hb, Nat.div_eq_of_lt (by omega), Nat.zero_add, Nat.add_mul, Nat.one_mul, Nat.pow_succ, Nat.mul_assoc, Nat.mul_left_comm, Nat.mul_comm 2 (2 ^ k)]
theorem parts_no {a b k : Nat} (h : tN a b k < b) : rN a b k = tN a b k ∧ qN a b k = qN a b (k + 1) := by
  have hb : 0 < b := by omega
  have e2 : a / 2 ^ k = tN a b k + b * (2 * (a / 2 ^ (k + 1) / b)) := by rw [Nat.add_comm]; exact parts_t a b k
  constructor
  · unfold rN
    rw [e2, Nat.add_mul_mod_self_left, Nat.mod_eq_of_lt h]
  · unfold qN
    rw [e2, Nat.add_mul_div_left _ _ hb, Nat.div_eq_of_lt h, Nat.zero_add, Nat.pow_succ, Nat.mul_assoc, Nat.mul_left_comm, Nat.mul_comm 2 (2 ^ k)]
theorem rN_lt {a b k : Nat} (hb : 0 < b) : rN a b k < b := Nat.mod_lt _ hb
theorem t_u64 {a b k : Nat} (hb : 0 < b) (hb1 : b ≤ 9223372036854775808) (la : a < 18446744073709551616) :
    bits .or .u64 (IntKind.u64.wrap ((rN a b (k + 1) : Int) * 2)) (bits .and .u64 ((a : Int) / 2 ^ k) 1) = ((tN a b k : Nat) : Int) := by
  have h := rN_lt (a := a) (k := k + 1) hb
  rw [bit_u64 la]
  have e : IntKind.u64.wrap ((rN a b (k + 1) : Int) * 2) = ((2 ^ 1 * rN a b (k + 1) : Nat) : Int) := by rw [IntKind.wrap_u64]; omega
  have hbit : a / 2 ^ k % 2 < 2 := Nat.mod_lt _ (by decide)
  rw [e, bits_or_u64_nat _ _ (by omega) (by omega), ← Nat.two_pow_add_eq_or_of_lt (by omega)]
  rfl
theorem qN_le (a b k : Nat) : qN a b k ≤ a := by
  unfold qN
  rw [Nat.div_div_eq_div_mul, Nat.mul_comm (2 ^ k) b, ← Nat.div_div_eq_div_mul]
  exact Nat.le_trans (Nat.div_mul_le_self _ _) (Nat.div_le_self _ _)
theorem q_u64 {a b k : Nat} (hk : k < 64) (la : a < 18446744073709551616) :
    bits .or .u64 ((qN a b (k + 1) : Nat) : Int) (IntKind.u64.wrap (2 ^ k)) = ((qN a b (k + 1) + 2 ^ k : Nat) : Int) := by
  have hp : (2 : Nat) ^ k < 18446744073709551616 := by rw [← two64N]; exact Nat.pow_lt_pow_right (by decide) hk
  have e : IntKind.u64.wrap (2 ^ k) = ((2 ^ k : Nat) : Int) := by
    rw [IntKind.wrap_u64]
    have e1 : ((2 : Int) ^ k) = ((2 ^ k : Nat) : Int) := by rw [Int.natCast_pow]; rfl
    rw [e1]; exact Int.emod_eq_of_lt (Int.natCast_nonneg _) (Int.ofNat_lt.2 hp)
  rw [e, bits_or_u64_nat _ _ (Nat.lt_of_le_of_lt (qN_le _ _ _) la) hp]
  congr 1
  unfold qN
  rw [Nat.mul_comm, ← Nat.two_pow_add_eq_or_of_lt (Nat.pow_lt_pow_right (by decide) (by omega))]
theorem parts_start {a b : Nat} (la : a < 18446744073709551616) : qN a b 64 = 0 ∧ rN a b 64 = 0 := by
  have e : a / 2 ^ 64 = 0 := Nat.div_eq_of_lt (by rw [two64N]; exact la)
  unfold qN rN; rw [e]; simp
theorem parts_end (a b : Nat) : qN a b 0 = a / b ∧ rN a b 0 = a % b := by
  unfold qN rN; simp
end Go.Proofs.YteoccfmhpakplaaGreatDoor
