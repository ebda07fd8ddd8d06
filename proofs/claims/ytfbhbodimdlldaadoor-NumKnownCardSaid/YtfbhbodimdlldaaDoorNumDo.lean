/- The contracts of num.Do and of the laws' 'do': for every operation and any two numbers they answer what valF, errF and doF say, and leave the world as it is. -/
import Derived.Test.YtfbhbodimdlldaaDoorRows
import Derived.Test.YtfbhbodimdlldaaDoorNumMath
import Derived.WalkKit
import Derived.WalkSpells
import Derived.WalkLawsBesides
import Derived.Lib.Hide
namespace Go.Proofs.YtfbhbodimdlldaaDoor
open Go.RowKit
theorem ret_int {k : IntKind} {a b : Int} (h : a = b) : Ending.returned (.int k a) = .returned (.int k b) := by rw [h]
theorem ret_pair {k l : IntKind} {a b c d : Int} (h : a = b) (g : c = d) : Ending.returned (.tuple #[.int k a, .int l c]) = .returned (.tuple #[.int k b, .int l d]) := by rw [h, g]
set_option maxHeartbeats 400000 in
theorem quotient_any (a b : Int) (w : World) (hb : ¬ b = 0) :
    Calls Tryd.prog 42 #[.int .i64 a, .int .i64 b] w fun e w' => e = .returned (.int .i64 (quo a b)) ∧ w' = w := by
  by_cases ha : 0 ≤ a
  · have e : a.tmod b = a % b := Int.tmod_eq_emod_of_nonneg ha
    have ha' : decide (a < 0) = false := by simp; omega
    by_cases hm : a % b = 0
    · have hm' : (a % b != 0) = false := by simp [hm]
      have Q : Hid (wrap64 (a.tdiv b) = quo a b) := quo_same (by rw [e]; exact fun h => h.1 hm)
      clear e
      go_enter Tryd.func42, Tryd.ntmps42
      go_wp2
      go_ret
      exact ⟨ret_int Q.out, rfl⟩
    · have hm' : (a % b != 0) = true := by simp [hm]
      by_cases hb2 : b < 0
      · have Q : Hid (wrap64 (wrap64 (a.tdiv b) - 1) = quo a b) := quo_less hb (by rw [e]; exact hm) (by simp; omega)
        have hb' : decide (b < 0) = true := by simp; omega
        clear e
        go_enter Tryd.func42, Tryd.ntmps42
        go_wp2
        go_ret
        exact ⟨ret_int Q.out, rfl⟩
      · have Q : Hid (wrap64 (a.tdiv b) = quo a b) := quo_same (fun h => by have := h.2; simp at this; omega)
        have hb' : decide (b < 0) = false := by simp; omega
        clear e
        go_enter Tryd.func42, Tryd.ntmps42
        go_wp2
        go_ret
        exact ⟨ret_int Q.out, rfl⟩
  · have ha' : decide (a < 0) = true := by simp; omega
    by_cases hm : a.tmod b = 0
    · have hm' : (a.tmod b != 0) = false := by simp [hm]
      have Q : Hid (wrap64 (a.tdiv b) = quo a b) := quo_same (fun h => h.1 hm)
      go_enter Tryd.func42, Tryd.ntmps42
      go_wp2
      go_ret
      exact ⟨ret_int Q.out, rfl⟩
    · have hm' : (a.tmod b != 0) = true := by simp [hm]
      by_cases hb2 : b < 0
      · have Q : Hid (wrap64 (a.tdiv b) = quo a b) := quo_same (fun h => by have := h.2; simp at this; omega)
        have hb' : decide (b < 0) = true := by simp; omega
        go_enter Tryd.func42, Tryd.ntmps42
        go_wp2
        go_ret
        exact ⟨ret_int Q.out, rfl⟩
      · have Q : Hid (wrap64 (wrap64 (a.tdiv b) - 1) = quo a b) := quo_less hb hm (by simp; omega)
        have hb' : decide (b < 0) = false := by simp; omega
        go_enter Tryd.func42, Tryd.ntmps42
        go_wp2
        go_ret
        exact ⟨ret_int Q.out, rfl⟩
theorem places_any (b : Int) (w : World) (h0 : -9223372036854775808 ≤ b) (h1 : b ≤ 9223372036854775807):
    Calls Tryd.prog 59 #[.int .i64 b] w fun e w' => e = .returned (.int .u8 ((min b.natAbs 64 : Nat) : Int)) ∧ w' = w := by
  by_cases hb : b < 0
  · have hw : IntKind.u64.wrap (-IntKind.u64.wrap b) = -b := by rw [IntKind.wrap_u64, IntKind.wrap_u64]; omega
    go_enter Tryd.func59, Tryd.ntmps59
    go_wp2
    all_goals go_ret
    all_goals exact ⟨ret_int (by omega), rfl⟩
  · go_enter Tryd.func59, Tryd.ntmps59
    go_wp2
    all_goals go_ret
    all_goals exact ⟨ret_int (by omega), rfl⟩
set_option maxHeartbeats 400000 in
theorem shift_up (a b : Int) (w : World) (h0 : -9223372036854775808 ≤ b) (h1 : b ≤ 9223372036854775807) :
    Calls Tryd.prog 48 #[.int .i64 a, .int .i64 b, .bool true] w fun e w' => e = .returned (.int .i64 (upF a b.natAbs)) ∧ w' = w := by
  have p1 : (0 : Int) ≤ ((min b.natAbs 64 : Nat) : Int) := by omega
  have p2 : ((min b.natAbs 64 : Nat) : Int) ≤ 64 := by omega
  have C := places_any b w h0 h1
  have D : Hid (∀ p : Nat, wrap64 (IntKind.u64.wrap (IntKind.u64.wrap a * 2 ^ p)) = wrap64 (a * 2 ^ p)) := fun p => by
    apply wrap64_cong
    rw [IntKind.wrap_u64, IntKind.wrap_u64, Int.emod_emod, Int.mul_emod, Int.emod_emod, ← Int.mul_emod]
  have C := Lib.hid C
  unfold upF
  generalize (min b.natAbs 64) = p at *
  go_enter Tryd.func48, Tryd.ntmps48
  go_wp2_with (go_at_call 59; refine C.out.mono ?_; rintro e w' ⟨rfl, rfl⟩)
  go_ret
  exact ⟨ret_int (D.out p), rfl⟩

set_option maxHeartbeats 400000 in
theorem shift_down (a b : Int) (w : World) (h0 : -9223372036854775808 ≤ b) (h1 : b ≤ 9223372036854775807) :
    Calls Tryd.prog 48 #[.int .i64 a, .int .i64 b, .bool false] w fun e w' => e = .returned (.int .i64 (downF a b.natAbs)) ∧ w' = w := by
  have p1 : (0 : Int) ≤ ((min b.natAbs 64 : Nat) : Int) := by omega
  have p2 : ((min b.natAbs 64 : Nat) : Int) ≤ 64 := by omega
  have C := Lib.hid (places_any b w h0 h1)
  have D : Hid (IntKind.u64.wrap a = a % 18446744073709551616) := IntKind.wrap_u64 a
  unfold downF
  rw [← D.out]
  generalize (min b.natAbs 64) = p at *
  go_enter Tryd.func48, Tryd.ntmps48
  go_wp2_with (go_at_call 59; refine C.out.mono ?_; rintro e w' ⟨rfl, rfl⟩)
  go_ret
  exact ⟨rfl, rfl⟩

theorem isOp_any (op : Int) (w : World) : Calls Tryd.prog 25 #[.int .i64 op] w fun e w' => e = .returned (.bool (decide (0 ≤ op ∧ op ≤ 9))) ∧ w' = w := by
  by_cases h : 0 ≤ op <;> by_cases g : op ≤ 9
  all_goals
    go_enter Tryd.func25, Tryd.ntmps25
    go_wp2
    go_ret
    exact ⟨by simp [*], rfl⟩

set_option maxHeartbeats 400000 in
theorem Do_bad (op a b : Int) (w : World) (h : op < 0 ∨ 9 < op) :
    Calls Tryd.prog 13 #[.int .i64 op, .int .i64 a, .int .i64 b] w fun e w' => e = .returned (.tuple #[.int .i64 0, .int .i64 2]) ∧ w' = w := by
  have C := Lib.hid (isOp_any op w)
  have D : decide (0 ≤ op ∧ op ≤ 9) = false := by simp; omega
  rw [D] at C
  go_enter Tryd.func13, Tryd.ntmps13
  go_wp2_with (go_at_call 25; refine C.out.mono ?_; rintro e w' ⟨rfl, rfl⟩)
  go_ret2
  exact ⟨rfl, rfl⟩

set_option maxHeartbeats 400000 in
theorem Do_plain (op a b : Int) (w : World) (h : op = 0 ∨ op = 1 ∨ op = 2 ∨ op = 5 ∨ op = 6 ∨ op = 7) :
    Calls Tryd.prog 13 #[.int .i64 op, .int .i64 a, .int .i64 b] w fun e w' => e = .returned (.tuple #[.int .i64 (valF op a b), .int .i64 0]) ∧ w' = w := by
  rcases h with rfl | rfl | rfl | rfl | rfl | rfl
  all_goals
    by_cases hb : b = 0
    · have hb' : (b == 0) = true := by simp [hb]
      go_enter Tryd.func13, Tryd.ntmps13
      go_wp2
      go_ret2
      exact ⟨ret_pair (by simp [valF, hb, wrap64]) rfl, rfl⟩
    · have hb' : (b == 0) = false := by simp [hb]
      go_enter Tryd.func13, Tryd.ntmps13
      go_wp2
      go_ret2
      exact ⟨ret_pair (by simp [valF]) rfl, rfl⟩

set_option maxHeartbeats 400000 in
theorem Do_div (op a b : Int) (w : World) (h : op = 3 ∨ op = 4) (hb : ¬ b = 0) :
    Calls Tryd.prog 13 #[.int .i64 op, .int .i64 a, .int .i64 b] w fun e w' => e = .returned (.tuple #[.int .i64 (valF op a b), .int .i64 0]) ∧ w' = w := by
  have hb' : (b == 0) = false := by simp [hb]
  rcases h with rfl | rfl
  all_goals
    go_enter Tryd.func13, Tryd.ntmps13
    go_wp2_with (first | (go_at_call 42; refine (quotient_any a b _ hb).mono ?_; rintro e w' ⟨rfl, rfl⟩) | go_in)
    go_ret2
    exact ⟨ret_pair (by simp [valF]) rfl, rfl⟩
set_option maxHeartbeats 400000 in
theorem Do_zero (op a : Int) (w : World) (h : op = 3 ∨ op = 4) :
    Calls Tryd.prog 13 #[.int .i64 op, .int .i64 a, .int .i64 0] w fun e w' => e = .returned (.tuple #[.int .i64 0, .int .i64 8]) ∧ w' = w := by
  rcases h with rfl | rfl
  all_goals
    go_enter Tryd.func13, Tryd.ntmps13
    go_wp2
    go_ret2
    exact ⟨rfl, rfl⟩
set_option maxHeartbeats 400000 in
theorem Do_shift (op a b : Int) (w : World) (h : op = 8 ∨ op = 9) (h0 : -9223372036854775808 ≤ b) (h1 : b ≤ 9223372036854775807) :
    Calls Tryd.prog 13 #[.int .i64 op, .int .i64 a, .int .i64 b] w fun e w' => e = .returned (.tuple #[.int .i64 (valF op a b), .int .i64 0]) ∧ w' = w := by
  rcases h with rfl | rfl
  all_goals
    rcases Int.lt_trichotomy b 0 with hs | rfl | hs
    · have hb' : (b == 0) = false := by simp; omega
      have hd : decide (b < 0) = true := by simp; omega
      have hd' : decide (0 ≤ b) = false := by simp; omega
      have e : b.natAbs = (-b).toNat := by omega
      have hn : ¬ 0 ≤ b := by omega
      have R : Hid (valF 8 a b = downF a b.natAbs ∧ valF 9 a b = upF a b.natAbs) := by simp [Hid, valF, shlF, shrF, hs, hn, e]
      clear e
      go_enter Tryd.func13, Tryd.ntmps13
      go_wp2_with (first | (go_at_call 48; (first | (with_reducible refine (shift_down a b _ h0 h1).mono ?_) | (with_reducible refine (shift_up a b _ h0 h1).mono ?_)); rintro e w' ⟨rfl, rfl⟩) | go_in)
      go_ret2
      exact ⟨ret_pair (by simp [R.out]) rfl, rfl⟩
    · go_enter Tryd.func13, Tryd.ntmps13
      go_wp2_with (first | (go_at_call 48; (first | (with_reducible refine (shift_down a 0 _ h0 h1).mono ?_) | (with_reducible refine (shift_up a 0 _ h0 h1).mono ?_)); rintro e w' ⟨rfl, rfl⟩) | go_in)
      go_ret2
      exact ⟨ret_pair (by simp [valF, shlF, shrF]) rfl, rfl⟩
    · have hb' : (b == 0) = false := by simp; omega
      have hd : decide (b < 0) = false := by simp; omega
      have hd' : decide (0 ≤ b) = true := by simp; omega
      have e : b.natAbs = b.toNat := by omega
      have hn : ¬ b < 0 := by omega
      have hm : 0 ≤ b := by omega
      have R : Hid (valF 8 a b = upF a b.natAbs ∧ valF 9 a b = downF a b.natAbs) := by simp [Hid, valF, shlF, shrF, hm, hn, e]
      clear e
      go_enter Tryd.func13, Tryd.ntmps13
      go_wp2_with (first | (go_at_call 48; (first | (with_reducible refine (shift_down a b _ h0 h1).mono ?_) | (with_reducible refine (shift_up a b _ h0 h1).mono ?_)); rintro e w' ⟨rfl, rfl⟩) | go_in)
      go_ret2
      exact ⟨ret_pair (by simp [R.out]) rfl, rfl⟩
/-- num.Do, whatever it is asked (b within 64 bits). -/
theorem Do_any (op a b : Int) (w : World) (h0 : -9223372036854775808 ≤ b) (h1 : b ≤ 9223372036854775807) :
    Calls Tryd.prog 13 #[.int .i64 op, .int .i64 a, .int .i64 b] w fun e w' => e = .returned (.tuple #[.int .i64 (if errF op b = 0 then valF op a b else 0), .int .i64 (errF op b)]) ∧ w' = w := by
  by_cases hbad : op < 0 ∨ 9 < op
  · exact (Do_bad op a b w hbad).mono fun e w' h => ⟨h.1.trans (ret_pair (by simp [errF, hbad]) (by simp [errF, hbad])), h.2⟩
  · by_cases hp : op = 0 ∨ op = 1 ∨ op = 2 ∨ op = 5 ∨ op = 6 ∨ op = 7
    · have e0 : errF op b = 0 := by unfold errF; rw [if_neg hbad, if_neg (by omega)]
      exact (Do_plain op a b w hp).mono fun e w' h => ⟨h.1.trans (ret_pair (by rw [if_pos e0]) e0.symm), h.2⟩
    · by_cases hd : op = 3 ∨ op = 4
      · by_cases hb : b = 0
        · subst hb
          have e0 : errF op 0 = 8 := by unfold errF; rw [if_neg hbad, if_pos ⟨hd, rfl⟩]
          exact (Do_zero op a w hd).mono fun e w' h => ⟨h.1.trans (ret_pair (by rw [if_neg (by omega)]) e0.symm), h.2⟩
        · have e0 : errF op b = 0 := by unfold errF; rw [if_neg hbad, if_neg (by omega)]
          exact (Do_div op a b w hd hb).mono fun e w' h => ⟨h.1.trans (ret_pair (by rw [if_pos e0]) e0.symm), h.2⟩
      · have e0 : errF op b = 0 := by unfold errF; rw [if_neg hbad, if_neg (by omega)]
        exact (Do_shift op a b w (by omega) h0 h1).mono fun e w' h => ⟨h.1.trans (ret_pair (by rw [if_pos e0]) e0.symm), h.2⟩
set_option maxHeartbeats 400000 in
/-- The laws' 'do'. -/
theorem do_any (op a b : Int) (w : World) (h0 : -9223372036854775808 ≤ b) (h1 : b ≤ 9223372036854775807) :
    Calls Tryd.prog 24 #[.int .i64 op, .int .i64 a, .int .i64 b] w fun e w' => e = .returned (.int .i64 (doF op a b)) ∧ w' = w := by
  have C := Lib.hid (Do_any op a b w h0 h1)
  by_cases e0 : errF op b = 0
  · have D : Hid (doF op a b = valF op a b) := by simp [Hid, doF, e0]
    rw [if_pos e0, e0] at C
    go_enter Tryd.func24, Tryd.ntmps24
    go_wp2_with (go_at_call 13; refine C.out.mono ?_; rintro e w' ⟨rfl, rfl⟩)
    go_ret
    exact ⟨ret_int D.out.symm, rfl⟩
  · have D : Hid (doF op a b = -987654321) := by simp [Hid, doF, e0]
    rw [if_neg e0] at C
    have e1 : (errF op b != 0) = true := by simp [e0]
    generalize errF op b = n at *
    go_enter Tryd.func24, Tryd.ntmps24
    go_wp2_with (go_at_call 13; refine C.out.mono ?_; rintro e w' ⟨rfl, rfl⟩)
    go_ret
    exact ⟨ret_int D.out.symm, rfl⟩
end Go.Proofs.YtfbhbodimdlldaaDoor
