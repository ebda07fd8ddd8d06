/- The contract of the document's own Do (tallowref01.Do): whatever it is asked, it answers what valF and errF say, as num.Do does. The world stays as it is. -/
import Derived.Test.YtfbhbodimdlldaaDoorRefOps
namespace Go.Proofs.YtfbhbodimdlldaaDoor
open Go.RowKit

/-- The bits of a number. -/
def ubits (a : Int) : Nat := (a % 18446744073709551616).toNat
theorem ubits_lt (a : Int) : ubits a < 18446744073709551616 := by unfold ubits; omega
theorem ubits_wrap (a : Int) : IntKind.u64.wrap a = ((ubits a : Nat) : Int) := by rw [IntKind.wrap_u64]; unfold ubits; omega
theorem ubits_mod (a : Int) : ((ubits a : Nat) : Int) % 18446744073709551616 = a % 18446744073709551616 := by unfold ubits; omega
theorem wrap_cast_mod (n : Nat) : wrap64 ((n % 18446744073709551616 : Nat) : Int) = wrap64 (n : Int) := wrap64_cong (by omega)
theorem ref_add (a b : Int) : wrap64 (((ubits a + ubits b) % 18446744073709551616 : Nat) : Int) = valF 0 a b := by
  rw [wrap_cast_mod]
  have e : valF 0 a b = wrap64 (a + b) := by simp [valF]
  rw [e]; apply wrap64_cong; have := ubits_mod a; have := ubits_mod b; omega
theorem ref_sub (a b : Int) : wrap64 (((ubits a + negN (ubits b)) % 18446744073709551616 : Nat) : Int) = valF 1 a b := by
  rw [wrap_cast_mod]
  have e : valF 1 a b = wrap64 (a - b) := by simp [valF]
  rw [e]; apply wrap64_cong; unfold negN; have := ubits_mod a; have := ubits_mod b; have := ubits_lt b; omega
theorem prod_cong (a b : Int) : (((ubits a : Nat) : Int) * ((ubits b : Nat) : Int)) % 18446744073709551616 = (a * b) % 18446744073709551616 := by
  rw [Int.mul_emod, ubits_mod, ubits_mod, ← Int.mul_emod]
theorem ref_mul (a b : Int) : wrap64 ((prodN (ubits a) (ubits b) 64 : Nat) : Int) = valF 2 a b := by
  rw [prod_end (ubits_lt b), wrap_cast_mod]
  have e : valF 2 a b = wrap64 (a * b) := by simp [valF]
  rw [e, Int.natCast_mul]; exact wrap64_cong (prod_cong a b)
theorem ref_mod (a b : Int) : wrap64 (((ubits a + negN (prodN (ubits b) (ubits (quo a b)) 64)) % 18446744073709551616 : Nat) : Int) = valF 4 a b := by
  rw [wrap_cast_mod, prod_end (ubits_lt _)]
  have e : valF 4 a b = wrap64 (a - wrap64 (b * quo a b)) := by simp [valF]
  rw [e, wrap64_sub_r]
  apply wrap64_cong
  have h := prod_cong b (quo a b)
  have h2 := ubits_mod a
  rw [← Int.natCast_mul] at h
  generalize ubits b * ubits (quo a b) = x at h ⊢
  generalize b * quo a b = y at h ⊢
  unfold negN
  omega
set_option maxHeartbeats 1000000 in
theorem RDo_bad (op a b : Int) (w : World) (h : op < 0 ∨ 9 < op) :
    Calls Tryd.prog 14 #[.int .i64 op, .int .i64 a, .int .i64 b] w fun e w' => e = .returned (.tuple #[.int .i64 0, .int .i64 2]) ∧ w' = w := by
  rcases h with h | h
  all_goals
    go_enter Tryd.func14, Tryd.ntmps14
    go_wp2_with fail
    go_ret2
    exact ⟨rfl, rfl⟩
set_option maxHeartbeats 1000000 in
theorem RDo_zero (op a : Int) (w : World) (h : op = 3 ∨ op = 4) :
    Calls Tryd.prog 14 #[.int .i64 op, .int .i64 a, .int .i64 0] w fun e w' => e = .returned (.tuple #[.int .i64 0, .int .i64 8]) ∧ w' = w := by
  rcases h with rfl | rfl
  all_goals
    go_enter Tryd.func14, Tryd.ntmps14
    go_wp2_with fail
    go_ret2
    exact ⟨rfl, rfl⟩
set_option maxHeartbeats 2000000 in
theorem RDo_bits (op a b : Int) (w : World) (h : op = 5 ∨ op = 6 ∨ op = 7) :
    Calls Tryd.prog 14 #[.int .i64 op, .int .i64 a, .int .i64 b] w fun e w' => e = .returned (.tuple #[.int .i64 (valF op a b), .int .i64 0]) ∧ w' = w := by
  rcases h with rfl | rfl | rfl
  all_goals
    by_cases hb : b = 0
    · have hb' : (b == 0) = true := by simp [hb]
      have H := Lib.hid hb
      clear hb
      go_enter Tryd.func14, Tryd.ntmps14
      go_wp2_with fail
      go_ret2
      exact ⟨ret_pair (by simp [valF, H.out]) rfl, rfl⟩
    · have hb' : (b == 0) = false := by simp [hb]
      go_enter Tryd.func14, Tryd.ntmps14
      go_wp2_with fail
      go_ret2
      exact ⟨ret_pair (by simp [valF]) rfl, rfl⟩
set_option maxHeartbeats 2000000 in
theorem RDo_shift (op a b : Int) (w : World) (h : op = 8 ∨ op = 9) (a0 : -9223372036854775808 ≤ a) (a1 : a ≤ 9223372036854775807) (b0 : -9223372036854775808 ≤ b) (b1 : b ≤ 9223372036854775807) :
    Calls Tryd.prog 14 #[.int .i64 op, .int .i64 a, .int .i64 b] w fun e w' => e = .returned (.tuple #[.int .i64 (valF op a b), .int .i64 0]) ∧ w' = w := by
  have e8 : Hid (valF 8 a b = shlF a b) := by simp [Hid, valF]
  have e9 : Hid (valF 9 a b = shrF a b) := by simp [Hid, valF]
  have M8 : Hid (∀ w, Calls Tryd.prog 31 #[.int .i64 a, .int .i64 b, .bool true] w fun e w' => e = .returned (.int .i64 (shlF a b)) ∧ w' = w) := fun w => moved_any a b true w a0 a1 b0 b1
  have M9 : Hid (∀ w, Calls Tryd.prog 31 #[.int .i64 a, .int .i64 b, .bool false] w fun e w' => e = .returned (.int .i64 (shrF a b)) ∧ w' = w) := fun w => moved_any a b false w a0 a1 b0 b1
  have hb' : (b == 0) = true ∨ (b == 0) = false := by cases (b == 0) <;> simp
  rcases h with rfl | rfl
  · rcases hb' with hb' | hb'
    all_goals
      go_enter Tryd.func14, Tryd.ntmps14
      go_wp2_with (go_at_call 31; (with_reducible refine (M8.out _).mono ?_); rintro e w' ⟨rfl, hq⟩; obtain rfl := hq.symm)
      go_ret2
      exact ⟨ret_pair e8.out.symm rfl, rfl⟩
  · rcases hb' with hb' | hb'
    all_goals
      go_enter Tryd.func14, Tryd.ntmps14
      go_wp2_with (go_at_call 31; (with_reducible refine (M9.out _).mono ?_); rintro e w' ⟨rfl, hq⟩; obtain rfl := hq.symm)
      go_ret2
      exact ⟨ret_pair e9.out.symm rfl, rfl⟩
set_option maxHeartbeats 2000000 in
theorem RDo_add (a b : Int) (w : World) :
    Calls Tryd.prog 14 #[.int .i64 0, .int .i64 a, .int .i64 b] w fun e w' => e = .returned (.tuple #[.int .i64 (valF 0 a b), .int .i64 0]) ∧ w' = w := by
  have R := Lib.hid (ref_add a b)
  have C := Lib.hid (fun w => sum_any (ubits a) (ubits b) w (ubits_lt a) (ubits_lt b))
  have ua := ubits_wrap a
  have ub := ubits_wrap b
  generalize (ubits a + ubits b) % 18446744073709551616 = n at R C
  generalize ubits a = A at *
  generalize ubits b = B at *
  have hb' : (b == 0) = true ∨ (b == 0) = false := by cases (b == 0) <;> simp
  rcases hb' with hb' | hb'
  all_goals
    go_enter Tryd.func14, Tryd.ntmps14
    go_wp2_with (go_at_call 27; (with_reducible refine (C.out _).mono ?_); rintro e w' ⟨rfl, hq⟩; obtain rfl := hq.symm)
    go_ret2
    exact ⟨ret_pair R.out rfl, rfl⟩
set_option maxHeartbeats 2000000 in
theorem RDo_sub (a b : Int) (w : World) :
    Calls Tryd.prog 14 #[.int .i64 1, .int .i64 a, .int .i64 b] w fun e w' => e = .returned (.tuple #[.int .i64 (valF 1 a b), .int .i64 0]) ∧ w' = w := by
  have R := Lib.hid (ref_sub a b)
  have L := Lib.hid (fun w => less0_any (ubits b) w (ubits_lt b))
  have hn : negN (ubits b) < 18446744073709551616 := Nat.mod_lt _ (by decide)
  have C := Lib.hid (fun w => sum_any (ubits a) (negN (ubits b)) w (ubits_lt a) hn)
  have ua := ubits_wrap a
  have ub := ubits_wrap b
  clear hn
  generalize (ubits a + negN (ubits b)) % 18446744073709551616 = n at R C
  generalize negN (ubits b) = NB at *
  generalize ubits a = A at *
  generalize ubits b = B at *
  have hb' : (b == 0) = true ∨ (b == 0) = false := by cases (b == 0) <;> simp
  rcases hb' with hb' | hb'
  all_goals
    go_enter Tryd.func14, Tryd.ntmps14
    go_wp2_with (first | (go_at_call 27; (with_reducible refine (C.out _).mono ?_); rintro e w' ⟨rfl, hq⟩; obtain rfl := hq.symm) | (go_at_call 28; (with_reducible refine (L.out _).mono ?_); rintro e w' ⟨rfl, hq⟩; obtain rfl := hq.symm))
    go_ret2
    exact ⟨ret_pair R.out rfl, rfl⟩
set_option maxHeartbeats 2000000 in
theorem RDo_mul (a b : Int) (w : World) :
    Calls Tryd.prog 14 #[.int .i64 2, .int .i64 a, .int .i64 b] w fun e w' => e = .returned (.tuple #[.int .i64 (valF 2 a b), .int .i64 0]) ∧ w' = w := by
  have R := Lib.hid (ref_mul a b)
  have C := Lib.hid (fun w => product_any (ubits a) (ubits b) w (ubits_lt b))
  have ua := ubits_wrap a
  have ub := ubits_wrap b
  generalize prodN (ubits a) (ubits b) 64 = n at R C
  generalize ubits a = A at *
  generalize ubits b = B at *
  have hb' : (b == 0) = true ∨ (b == 0) = false := by cases (b == 0) <;> simp
  rcases hb' with hb' | hb'
  all_goals
    go_enter Tryd.func14, Tryd.ntmps14
    go_wp2_with (go_at_call 29; (with_reducible refine (C.out _).mono ?_); rintro e w' ⟨rfl, hq⟩; obtain rfl := hq.symm)
    go_ret2
    exact ⟨ret_pair R.out rfl, rfl⟩
set_option maxHeartbeats 2000000 in
theorem RDo_div (a b : Int) (w : World) (a0 : -9223372036854775808 ≤ a) (a1 : a ≤ 9223372036854775807) (b0 : -9223372036854775808 ≤ b) (b1 : b ≤ 9223372036854775807) (hb : b ≠ 0) :
    Calls Tryd.prog 14 #[.int .i64 3, .int .i64 a, .int .i64 b] w fun e w' => e = .returned (.tuple #[.int .i64 (valF 3 a b), .int .i64 0]) ∧ w' = w := by
  have R : Hid (quo a b = valF 3 a b) := by simp [Hid, valF]
  have C := Lib.hid (fun w => Rquot_any a b w a0 a1 b0 b1 hb)
  have hb' : (b == 0) = false := by simp [hb]
  clear hb
  go_enter Tryd.func14, Tryd.ntmps14
  go_wp2_with (go_at_call 30; (with_reducible refine (C.out _).mono ?_); rintro e w' ⟨rfl, hq⟩; obtain rfl := hq.symm)
  go_ret2
  exact ⟨ret_pair R.out rfl, rfl⟩
set_option maxHeartbeats 2000000 in
theorem RDo_mod (a b : Int) (w : World) (a0 : -9223372036854775808 ≤ a) (a1 : a ≤ 9223372036854775807) (b0 : -9223372036854775808 ≤ b) (b1 : b ≤ 9223372036854775807) (hb : b ≠ 0) :
    Calls Tryd.prog 14 #[.int .i64 4, .int .i64 a, .int .i64 b] w fun e w' => e = .returned (.tuple #[.int .i64 (valF 4 a b), .int .i64 0]) ∧ w' = w := by
  have R := Lib.hid (ref_mod a b)
  have C := Lib.hid (fun w => Rquot_any a b w a0 a1 b0 b1 hb)
  have PR := Lib.hid (fun w => product_any (ubits b) (ubits (quo a b)) w (ubits_lt _))
  have L := Lib.hid (fun w => less0_any (prodN (ubits b) (ubits (quo a b)) 64) w (prodN_lt _ _ _))
  have hn : negN (prodN (ubits b) (ubits (quo a b)) 64) < 18446744073709551616 := Nat.mod_lt _ (by decide)
  have S := Lib.hid (fun w => sum_any (ubits a) (negN (prodN (ubits b) (ubits (quo a b)) 64)) w (ubits_lt a) hn)
  have ua := ubits_wrap a
  have ub := ubits_wrap b
  have uq := ubits_wrap (quo a b)
  have hb' : (b == 0) = false := by simp [hb]
  clear hn hb
  generalize (ubits a + negN (prodN (ubits b) (ubits (quo a b)) 64)) % 18446744073709551616 = n at R S
  generalize negN (prodN (ubits b) (ubits (quo a b)) 64) = np at *
  generalize prodN (ubits b) (ubits (quo a b)) 64 = p at *
  generalize quo a b = q at *
  generalize ubits q = Q at *
  generalize ubits a = A at *
  generalize ubits b = B at *
  go_enter Tryd.func14, Tryd.ntmps14
  go_wp2_with (first | (go_at_call 30; (with_reducible refine (C.out _).mono ?_); rintro e w' ⟨rfl, hq⟩; obtain rfl := hq.symm) | (go_at_call 29; (with_reducible refine (PR.out _).mono ?_); rintro e w' ⟨rfl, hq⟩; obtain rfl := hq.symm) | (go_at_call 27; (with_reducible refine (S.out _).mono ?_); rintro e w' ⟨rfl, hq⟩; obtain rfl := hq.symm) | (go_at_call 28; (with_reducible refine (L.out _).mono ?_); rintro e w' ⟨rfl, hq⟩; obtain rfl := hq.symm))
  go_ret2
  exact ⟨ret_pair R.out rfl, rfl⟩
/-- tallowref01.Do, whatever it is asked. -/
theorem RDo_any (op a b : Int) (w : World) (a0 : -9223372036854775808 ≤ a) (a1 : a ≤ 9223372036854775807) (b0 : -9223372036854775808 ≤ b) (b1 : b ≤ 9223372036854775807) :
    Calls Tryd.prog 14 #[.int .i64 op, .int .i64 a, .int .i64 b] w fun e w' => e = .returned (.tuple #[.int .i64 (if errF op b = 0 then valF op a b else 0), .int .i64 (errF op b)]) ∧ w' = w := by
  by_cases hbad : op < 0 ∨ 9 < op
  · exact (RDo_bad op a b w hbad).mono fun e w' h => ⟨h.1.trans (ret_pair (by simp [errF, hbad]) (by simp [errF, hbad])), h.2⟩
  · by_cases hd : (op = 3 ∨ op = 4) ∧ b = 0
    · obtain ⟨hd, rfl⟩ := hd
      have e0 : errF op 0 = 8 := by unfold errF; rw [if_neg hbad, if_pos ⟨hd, rfl⟩]
      exact (RDo_zero op a w hd).mono fun e w' h => ⟨h.1.trans (ret_pair (by rw [if_neg (by omega)]) e0.symm), h.2⟩
    · have e0 : errF op b = 0 := by unfold errF; rw [if_neg hbad, if_neg hd]
      rw [if_pos e0, e0]
      by_cases h0 : op = 0
      · subst h0; exact RDo_add a b w
      by_cases h1 : op = 1
      · subst h1; exact RDo_sub a b w
      by_cases h2 : op = 2
      · subst h2; exact RDo_mul a b w
      by_cases h3 : op = 3
      · subst h3; exact RDo_div a b w a0 a1 b0 b1 (fun e => hd ⟨Or.inl rfl, e⟩)
      by_cases h4 : op = 4
      · subst h4; exact RDo_mod a b w a0 a1 b0 b1 (fun e => hd ⟨Or.inr rfl, e⟩)
      by_cases h5 : op = 5 ∨ op = 6 ∨ op = 7
      · exact RDo_bits op a b w h5
      · exact RDo_shift op a b w (by omega) a0 a1 b0 b1
end Go.Proofs.YtfbhbodimdlldaaDoor
