/- The contracts of the document's own operations (tallowref01.Do): whatever it is asked, it answers what valF and errF say, as num.Do does. The world stays as it is. -/
import Derived.Test.YtfbhbodimdlldaaDoorRefDo
namespace Go.Proofs.YtfbhbodimdlldaaDoor
open Go.RowKit

theorem up_step (a : Int) (k : Nat) : wrap64 (IntKind.u64.wrap (IntKind.u64.wrap (upF a k) * 2)) = upF a (k + 1) := by
  rw [upF_eq, upF_eq, Int.pow_succ, ← Int.mul_assoc]
  generalize a * 2 ^ k = x
  apply wrap64_cong
  rw [IntKind.wrap_u64, IntKind.wrap_u64]
  unfold wrap64; omega
theorem down_step (a : Int) {k : Nat} (hk : k < 64) : wrap64 (IntKind.u64.wrap (downF a k) / 2) = downF a (k + 1) := by
  have h0 : 0 ≤ a % 18446744073709551616 := Int.emod_nonneg _ (by decide)
  have h1 : a % 18446744073709551616 < 18446744073709551616 := Int.emod_lt_of_pos _ (by decide)
  unfold downF
  generalize a % 18446744073709551616 = A at h0 h1 ⊢
  rw [IntKind.wrap_u64, Nat.min_eq_left (by omega), Nat.min_eq_left (by omega), down_mod A k h0 h1]
  congr 1
  rw [Int.pow_succ, Int.ediv_ediv_of_nonneg (Int.le_of_lt (Int.pow_pos (by decide)))]
theorem upF_min (a : Int) {n : Int} (h : 0 ≤ n) : upF a (min n 64).toNat = upF a n.toNat := by
  unfold upF; congr 3; omega
theorem downF_min (a : Int) {n : Int} (h : 0 ≤ n) : downF a (min n 64).toNat = downF a n.toNat := by
  unfold downF; congr 3; omega
set_option maxHeartbeats 400000 in
/-- tallowref01.up. -/
theorem up_any (a n : Int) (w : World) (a0 : -9223372036854775808 ≤ a) (a1 : a ≤ 9223372036854775807) (n0 : 0 ≤ n) (n1 : n ≤ 9223372036854775807) :
    Calls Tryd.prog 51 #[.int .i64 a, .int .i64 n] w fun e w' => e = .returned (.int .i64 (upF a n.toNat)) ∧ w' = w := by
  have Z := Lib.hid (upF_zero a a0 a1)
  have S := Lib.hid (up_step a)
  have M := Lib.hid (upF_min a n0)
  go_enter Tryd.func51, Tryd.ntmps51
  go_wp2_with fail
  go_loop [0, 5] (fun o i => ∃ k : Nat, (k : Int) ≤ min n 64 ∧ i = .int .i64 k ∧ o = .int .i64 (upF a k)) (fun _ i => 64 - (intOf i).toNat)
  case atStart => exact ⟨0, by omega, rfl, by rw [Z.out]⟩
  case round =>
    obtain ⟨k, hk, rfl, rfl⟩ := hrel
    by_cases hlt : (k : Int) < min n 64
    · go_wp2_with fail
      go_round
      case rel => exact ⟨k + 1, by omega, by go_num, by rw [S.out]⟩
      case measure => simp [intOf]; omega
    · go_wp2_with fail
      all_goals go_ret
      all_goals exact ⟨ret_int (by rw [← M.out]; congr 1; omega), rfl⟩
set_option maxHeartbeats 400000 in
/-- tallowref01.down. -/
theorem down_any (a n : Int) (w : World) (a0 : -9223372036854775808 ≤ a) (a1 : a ≤ 9223372036854775807) (n0 : 0 ≤ n) (n1 : n ≤ 9223372036854775807) :
    Calls Tryd.prog 52 #[.int .i64 a, .int .i64 n] w fun e w' => e = .returned (.int .i64 (downF a n.toNat)) ∧ w' = w := by
  have Z := Lib.hid (downF_zero a a0 a1)
  have S : Hid (∀ k : Nat, k < 64 → wrap64 (IntKind.u64.wrap (downF a k) / 2) = downF a (k + 1)) := fun k h => down_step a h
  have M := Lib.hid (downF_min a n0)
  go_enter Tryd.func52, Tryd.ntmps52
  go_wp2_with fail
  go_loop [0, 5] (fun o i => ∃ k : Nat, (k : Int) ≤ min n 64 ∧ i = .int .i64 k ∧ o = .int .i64 (downF a k)) (fun _ i => 64 - (intOf i).toNat)
  case atStart => exact ⟨0, by omega, rfl, by rw [Z.out]⟩
  case round =>
    obtain ⟨k, hk, rfl, rfl⟩ := hrel
    by_cases hlt : (k : Int) < min n 64
    · go_wp2_with fail
      go_round
      case rel => exact ⟨k + 1, by omega, by go_num, by rw [← S.out k (by omega)]⟩
      case measure => simp [intOf]; omega
    · go_wp2_with fail
      all_goals go_ret
      all_goals exact ⟨ret_int (by rw [← M.out]; congr 1; omega), rfl⟩
set_option maxHeartbeats 400000 in
/-- tallowref01.moved. -/
theorem moved_any (a n : Int) (up : Bool) (w : World) (a0 : -9223372036854775808 ≤ a) (a1 : a ≤ 9223372036854775807) (n0 : -9223372036854775808 ≤ n) (n1 : n ≤ 9223372036854775807) :
    Calls Tryd.prog 31 #[.int .i64 a, .int .i64 n, .bool up] w fun e w' => e = .returned (.int .i64 (if up then shlF a n else shrF a n)) ∧ w' = w := by
  have U := Lib.hid (fun n w h0 h1 => up_any a n w a0 a1 h0 h1)
  have D := Lib.hid (fun n w h0 h1 => down_any a n w a0 a1 h0 h1)
  by_cases hn : n < 0
  · by_cases hm : n = -9223372036854775808
    · have e1 : Hid (shlF a n = downF a 64) := by
        unfold shlF; rw [Hid, if_neg (by omega), hm]; unfold downF; congr 3
      have e2 : Hid (shrF a n = upF a 64) := by
        unfold shrF; rw [Hid, if_pos (by omega), hm]; unfold upF; congr 3
      have hw : wrap64 (-n) = n := by rw [hm]; decide +kernel
      have m1 : max n 0 = 0 := by omega
      clear hm
      cases up
      · go_enter Tryd.func31, Tryd.ntmps31
        go_wp2_with (first | (go_at_call 51; refine (U.out _ _ (by omega) (by omega)).mono ?_; rintro e w' ⟨rfl, hq⟩; obtain rfl := hq.symm) | (go_at_call 52; refine (D.out _ _ (by omega) (by omega)).mono ?_; rintro e w' ⟨rfl, hq⟩; obtain rfl := hq.symm))
        go_ret
        exact ⟨ret_int e2.out.symm, rfl⟩
      · go_enter Tryd.func31, Tryd.ntmps31
        go_wp2_with (first | (go_at_call 51; refine (U.out _ _ (by omega) (by omega)).mono ?_; rintro e w' ⟨rfl, hq⟩; obtain rfl := hq.symm) | (go_at_call 52; refine (D.out _ _ (by omega) (by omega)).mono ?_; rintro e w' ⟨rfl, hq⟩; obtain rfl := hq.symm))
        go_ret
        exact ⟨ret_int e1.out.symm, rfl⟩
    · have e1 : Hid (shlF a n = downF a (-n).toNat) := by unfold shlF; rw [Hid, if_neg (by omega)]
      have e2 : Hid (shrF a n = upF a (-n).toNat) := by unfold shrF; rw [Hid, if_pos (by omega)]
      have m1 : max (-n) 0 = -n := by omega
      have z : (-n == 0) = false := beq_eq_false_iff_ne.2 (by omega)
      have z2 : (n == 0) = false := beq_eq_false_iff_ne.2 (by omega)
      cases up
      · go_enter Tryd.func31, Tryd.ntmps31
        go_wp2_with (first | (go_at_call 51; refine (U.out _ _ (by omega) (by omega)).mono ?_; rintro e w' ⟨rfl, hq⟩; obtain rfl := hq.symm) | (go_at_call 52; refine (D.out _ _ (by omega) (by omega)).mono ?_; rintro e w' ⟨rfl, hq⟩; obtain rfl := hq.symm))
        go_ret
        exact ⟨ret_int e2.out.symm, rfl⟩
      · go_enter Tryd.func31, Tryd.ntmps31
        go_wp2_with (first | (go_at_call 51; refine (U.out _ _ (by omega) (by omega)).mono ?_; rintro e w' ⟨rfl, hq⟩; obtain rfl := hq.symm) | (go_at_call 52; refine (D.out _ _ (by omega) (by omega)).mono ?_; rintro e w' ⟨rfl, hq⟩; obtain rfl := hq.symm))
        go_ret
        exact ⟨ret_int e1.out.symm, rfl⟩
  · have e1 : Hid (shlF a n = upF a n.toNat) := by unfold shlF; rw [Hid, if_pos (by omega)]
    have e2 : Hid (shrF a n = downF a n.toNat) := by unfold shrF; rw [Hid, if_neg (by omega)]
    cases up
    · go_enter Tryd.func31, Tryd.ntmps31
      go_wp2_with (first | (go_at_call 51; refine (U.out _ _ (by omega) (by omega)).mono ?_; rintro e w' ⟨rfl, hq⟩; obtain rfl := hq.symm) | (go_at_call 52; refine (D.out _ _ (by omega) (by omega)).mono ?_; rintro e w' ⟨rfl, hq⟩; obtain rfl := hq.symm))
      go_ret
      exact ⟨ret_int e2.out.symm, rfl⟩
    · go_enter Tryd.func31, Tryd.ntmps31
      go_wp2_with (first | (go_at_call 51; refine (U.out _ _ (by omega) (by omega)).mono ?_; rintro e w' ⟨rfl, hq⟩; obtain rfl := hq.symm) | (go_at_call 52; refine (D.out _ _ (by omega) (by omega)).mono ?_; rintro e w' ⟨rfl, hq⟩; obtain rfl := hq.symm))
      go_ret
      exact ⟨ret_int e1.out.symm, rfl⟩

/-! ### The quotient -/
theorem tdiv_nat (m n : Nat) : ((m : Int)).tdiv (n : Int) = ((m / n : Nat) : Int) := rfl
theorem tmod_nat (m n : Nat) : ((m : Int)).tmod (n : Int) = ((m % n : Nat) : Int) := rfl
theorem tdiv_abs {a b : Int} : (decide (a < 0) == decide (b < 0)) = true → a.tdiv b = ((a.natAbs / b.natAbs : Nat) : Int) := by
  intro h
  rcases Int.natAbs_eq a with ha | ha <;> rcases Int.natAbs_eq b with hb | hb
  · rw [ha, hb, tdiv_nat, Int.natAbs_natCast, Int.natAbs_natCast]
  · by_cases hz : b = 0
    · subst hz; simp
    · by_cases hy : a = 0
      · subst hy; simp
      · have : ¬ ((a < 0) ↔ (b < 0)) := by omega
        exact absurd (by simpa using h) this
  · by_cases hz : a = 0
    · subst hz; simp
    · by_cases hy : b = 0
      · subst hy; simp
      · have : ¬ ((a < 0) ↔ (b < 0)) := by omega
        exact absurd (by simpa using h) this
  · rw [ha, hb, Int.neg_tdiv, Int.tdiv_neg, Int.neg_neg, tdiv_nat, Int.natAbs_neg, Int.natAbs_neg, Int.natAbs_natCast, Int.natAbs_natCast]
theorem tdiv_abs_neg {a b : Int} (hb0 : b ≠ 0) : (decide (a < 0) == decide (b < 0)) = false → a.tdiv b = -((a.natAbs / b.natAbs : Nat) : Int) := by
  intro h
  have h : ¬ ((a < 0) ↔ (b < 0)) := by simpa using h
  rcases Int.natAbs_eq a with ha | ha <;> rcases Int.natAbs_eq b with hb | hb
  · exfalso; omega
  · rw [ha, hb, Int.tdiv_neg, tdiv_nat, Int.natAbs_neg, Int.natAbs_natCast, Int.natAbs_natCast]
  · rw [ha, hb, Int.neg_tdiv, tdiv_nat, Int.natAbs_neg, Int.natAbs_natCast, Int.natAbs_natCast]
  · by_cases hz : a = 0
    · subst hz; simp
    · exfalso; omega
theorem tmod_abs (a b : Int) : a.tmod b = 0 ↔ a.natAbs % b.natAbs = 0 := by
  constructor
  · intro h; have := Int.natAbs_tmod a b; rw [h] at this; simpa using this.symm
  · intro h; have := Int.natAbs_tmod a b; rw [h] at this; exact Int.natAbs_eq_zero.1 this
theorem negN_wrap {q : Nat} (h : q ≤ 9223372036854775808) : wrap64 ((negN q : Nat) : Int) = wrap64 (-(q : Int)) := by
  unfold negN wrap64; omega
set_option maxHeartbeats 1000000 in
theorem Rquot_any (a b : Int) (w : World) (a0 : -9223372036854775808 ≤ a) (a1 : a ≤ 9223372036854775807) (b0 : -9223372036854775808 ≤ b) (b1 : b ≤ 9223372036854775807) (hb : b ≠ 0) :
    Calls Tryd.prog 30 #[.int .i64 a, .int .i64 b] w fun e w' => e = .returned (.int .i64 (quo a b)) ∧ w' = w := by
  have SA := Lib.hid (fun w => size_any a w a0 a1)
  have SB := Lib.hid (fun w => size_any b w b0 b1)
  have hq := Nat.div_le_self a.natAbs b.natAbs
  have PA := Lib.hid (fun w => parts_any a.natAbs b.natAbs w (by omega) (by omega) (by omega))
  cases hs : (decide (a < 0) == decide (b < 0)) with
  | true =>
    have R : Hid (wrap64 ((a.natAbs / b.natAbs : Nat) : Int) = quo a b) := by
      rw [Hid, ← tdiv_abs hs]
      exact quo_same (fun h => by have h2 := h.2; rw [bne, hs] at h2; cases h2)
    clear hq
    generalize a.natAbs / b.natAbs = Q at PA R
    generalize a.natAbs % b.natAbs = M at PA
    go_enter Tryd.func30, Tryd.ntmps30
    go_wp2_with (first | (go_at_call 34; (first | (with_reducible refine (SA.out _).mono ?_) | (with_reducible refine (SB.out _).mono ?_)); rintro e w' ⟨rfl, hq⟩; obtain rfl := hq.symm) | (go_at_call 50; refine (PA.out _).mono ?_; rintro e w' ⟨rfl, hq⟩; obtain rfl := hq.symm))
    go_ret
    exact ⟨ret_int R.out, rfl⟩
  | false =>
    have td := tdiv_abs_neg hb hs
    have hne : (decide (a < 0) != decide (b < 0)) = true := by rw [bne, hs]; rfl
    by_cases hm : a.natAbs % b.natAbs = 0
    · have L := Lib.hid (fun w => less0_any (a.natAbs / b.natAbs) w (by omega))
      have R : Hid (wrap64 ((negN (a.natAbs / b.natAbs) : Nat) : Int) = quo a b) := by
        rw [Hid, negN_wrap (by omega), ← td]
        exact quo_same (fun h => h.1 ((tmod_abs a b).2 hm))
      rw [hm] at PA
      clear hq td hm hne
      generalize a.natAbs / b.natAbs = Q at PA R L
      generalize negN Q = NQ at R L
      go_enter Tryd.func30, Tryd.ntmps30
      go_wp2_with (first | (go_at_call 34; (first | (with_reducible refine (SA.out _).mono ?_) | (with_reducible refine (SB.out _).mono ?_)); rintro e w' ⟨rfl, hq⟩; obtain rfl := hq.symm) | (go_at_call 50; refine (PA.out _).mono ?_; rintro e w' ⟨rfl, hq⟩; obtain rfl := hq.symm) | (go_at_call 28; refine (L.out _).mono ?_; rintro e w' ⟨rfl, hq⟩; obtain rfl := hq.symm))
      go_ret
      exact ⟨ret_int R.out, rfl⟩
    · have hlt : a.natAbs / b.natAbs < 9223372036854775808 := by
        rcases Nat.lt_or_ge (a.natAbs / b.natAbs) 9223372036854775808 with h | h
        · exact h
        · exfalso
          have ha : a.natAbs = 9223372036854775808 := by omega
          have hb2 : b.natAbs = 1 := by
            rcases Nat.lt_or_ge 1 b.natAbs with h2 | h2
            · have := Nat.div_lt_self (show 0 < a.natAbs by omega) h2; omega
            · omega
          rw [hb2, Nat.mod_one] at hm; exact hm rfl
      have L := Lib.hid (fun w => less0_any (a.natAbs / b.natAbs + 1) w (by omega))
      have R : Hid (wrap64 ((negN (a.natAbs / b.natAbs + 1) : Nat) : Int) = quo a b) := by
        rw [Hid, negN_wrap (by omega), ← quo_less hb (fun h => hm ((tmod_abs a b).1 h)) hne, td]
        unfold wrap64; omega
      have mp : (0 : Int) < ((a.natAbs % b.natAbs : Nat) : Int) := by omega
      have qb : ((a.natAbs / b.natAbs : Nat) : Int) < 9223372036854775808 := by omega
      clear hq td hm hne hlt
      generalize a.natAbs % b.natAbs = M at PA mp
      generalize a.natAbs / b.natAbs = Q at PA R L qb
      generalize negN (Q + 1) = NQ at R L
      rw [show ((Q + 1 : Nat) : Int) = (Q : Int) + 1 from rfl] at L
      have q0 : (0 : Int) ≤ (Q : Int) := by omega
      generalize (Q : Int) = q at PA L qb q0
      generalize (M : Int) = m at PA mp
      generalize (NQ : Int) = nq at R L
      go_enter Tryd.func30, Tryd.ntmps30
      go_wp2_with (first | (go_at_call 34; (first | (with_reducible refine (SA.out _).mono ?_) | (with_reducible refine (SB.out _).mono ?_)); rintro e w' ⟨rfl, hq⟩; obtain rfl := hq.symm) | (go_at_call 50; refine (PA.out _).mono ?_; rintro e w' ⟨rfl, hq⟩; obtain rfl := hq.symm) | (go_at_call 28; refine (L.out _).mono ?_; rintro e w' ⟨rfl, hq⟩; obtain rfl := hq.symm))
      go_ret
      exact ⟨ret_int R.out, rfl⟩
end Go.Proofs.YtfbhbodimdlldaaDoor
