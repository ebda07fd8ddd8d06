/- The contracts of the document's own digits and text of a number: they are Lib.decDigits and Lib.itoa; what lay below stands. -/
import Derived.Test.YtfbhbodimdlldaaDoorRefDo
import Derived.Lib.ItoaNum
import Derived.WalkSpells
namespace Go.Proofs.YtfbhbodimdlldaaDoor
open Go.RowKit

theorem conv_byte (w : World) (n : Int) (T : TypeId) : (convert 61 9 (.slice (some ⟨w.heap.size, 0, none⟩) 1 1)).run Tryd.prog (w.alloc (.cells #[.int .u8 n] T)) = .ok (.string ⟨#[UInt8.ofNat n.toNat]⟩) (w.alloc (.cells #[.int .u8 n] T)) := by
  rw [run_convert_bytes_string _ 61 9 5 _ _ _ Tryd.underlying61 Tryd.underlying5 Tryd.underlying9]
  rw [run_bytesToString _ ⟨w.heap.size, 0, none⟩ 1 1 [n] (by simp [go_sem])]
  simp
  rfl
theorem decDigits_small {n : Nat} (h : n < 10) : Lib.decDigits n = [UInt8.ofNat (48 + n)] := by rw [Lib.decDigits, dif_pos h]
theorem decDigits_big {n : Nat} (h : ¬ n < 10) : Lib.decDigits n = Lib.decDigits (n / 10) ++ Lib.decDigits (n % 10) := by
  rw [Lib.decDigits, dif_neg h, decDigits_small (Nat.mod_lt _ (by decide))]
theorem decDigits_len : ∀ (k n : Nat), 0 < k → n < 10 ^ k → (Lib.decDigits n).length ≤ k
  | 0, _, h, _ => by omega
  | 1, n, _, h => by rw [decDigits_small (by omega)]; simp
  | k + 2, n, _, h => by
    by_cases hn : n < 10
    · rw [decDigits_small hn]; simp
    · rw [decDigits_big hn, List.length_append, decDigits_small (Nat.mod_lt n (by decide))]
      have := decDigits_len (k + 1) (n / 10) (by omega) (by rw [Nat.pow_succ] at h; omega)
      simp only [List.length_singleton]
      omega
theorem decDigits_bound {n : Nat} (h : n < 18446744073709551616) : (Lib.decDigits n).length ≤ 20 := decDigits_len 20 n (by omega) (by omega)
theorem ret_str {a b : ByteArray} (h : a = b) : Ending.returned (.string a) = .returned (.string b) := by rw [h]

set_option maxHeartbeats 400000 in
set_option maxRecDepth 100000 in
theorem digits_small (n : Int) (n0 : 0 ≤ n) (n1 : n < 10) (w : World) :
    Calls Tryd.prog 33 #[.int .u64 n] w fun e w' => e = .returned (.string ⟨#[UInt8.ofNat (48 + n).toNat]⟩) ∧ Below w.heap.size w w' := by
  have C := conv_byte w (48 + n)
  go_enter Tryd.func33, Tryd.ntmps33
  go_wp2_with fail
  go_ret
  exact ⟨rfl, (Below.refl _ _).alloc (Nat.le_refl _) _⟩
set_option maxHeartbeats 400000 in
theorem digits_step (n : Nat) (d1 d2 : ByteArray) (w : World) (h : ¬ n < 10) (hn : (n : Int) ≤ 18446744073709551615) (l1 : (d1.size : Int) ≤ 8388608) (l2 : (d2.size : Int) ≤ 8388608)
    (C : Hid (∀ w, Calls Tryd.prog 33 #[.int .u64 (n / 10 : Nat)] w fun e w' => e = .returned (.string d1) ∧ Below w.heap.size w w'))
    (D : Hid (∀ w, Calls Tryd.prog 33 #[.int .u64 (n % 10 : Nat)] w fun e w' => e = .returned (.string d2) ∧ Below w.heap.size w w')) :
    Calls Tryd.prog 33 #[.int .u64 n] w fun e w' => e = .returned (.string (d1 ++ d2)) ∧ Below w.heap.size w w' := by
  go_enter Tryd.func33, Tryd.ntmps33
  go_wp2_with fail
  rw [show ((n : Int) / 10) = ((n / 10 : Nat) : Int) from rfl]
  refine (C.out _).mono ?_
  rintro e w1 ⟨rfl, hb1⟩
  go_wp2_with fail
  rw [show ((n : Int) % 10) = ((n % 10 : Nat) : Int) from rfl]
  refine (D.out _).mono ?_
  rintro e w2 ⟨rfl, hb2⟩
  go_wp2_with fail
  go_ret
  exact ⟨rfl, hb1.trans (hb2.mono hb1.size)⟩
/-- tallowref01.digits. -/
theorem digits_any (n : Nat) : ∀ w : World, n < 18446744073709551616 →
    Calls Tryd.prog 33 #[.int .u64 n] w fun e w' => e = .returned (.string ⟨(Lib.decDigits n).toArray⟩) ∧ Below w.heap.size w w' := by
  induction n using Nat.strongRecOn with
  | ind n ih =>
    intro w hn
    by_cases h : n < 10
    · rw [decDigits_small h]
      have := digits_small n (by omega) (by omega) w
      rw [show (48 + (n : Int)).toNat = 48 + n by omega] at this
      exact this
    · rw [decDigits_big h]
      have b1 := decDigits_bound (n := n / 10) (by omega)
      have b2 := decDigits_bound (n := n % 10) (by omega)
      refine (digits_step n ⟨(Lib.decDigits (n / 10)).toArray⟩ ⟨(Lib.decDigits (n % 10)).toArray⟩ w h (by omega) ?_ ?_ (fun w => ih _ (by omega) w (by omega)) (fun w => ih _ (by omega) w (by omega))).mono ?_
      · simp only [ByteArray.size, List.size_toArray]; omega
      · simp only [ByteArray.size, List.size_toArray]; omega
      · rintro e w' ⟨rfl, hb⟩
        exact ⟨ret_str (by rw [ByteArray.mk_append_mk]), hb⟩
set_option maxHeartbeats 400000 in
theorem RText_neg (n : Int) (d : ByteArray) (w : World) (h : n < 0) (a0 : -9223372036854775808 ≤ n) (l : (d.size : Int) ≤ 8388608)
    (C : Hid (∀ w, Calls Tryd.prog 33 #[.int .u64 (n.natAbs : Nat)] w fun e w' => e = .returned (.string d) ∧ Below w.heap.size w w')) :
    Calls Tryd.prog 17 #[.int .i64 n] w fun e w' => e = .returned (.string (⟨#[45]⟩ ++ d)) ∧ Below w.heap.size w w' := by
  have S := Lib.hid (fun w => size_any n w a0 (by omega))
  have l1 : ((ByteArray.mk #[45]).size : Int) ≤ 8388608 := by decide
  go_enter Tryd.func17, Tryd.ntmps17
  go_wp2_with (first | (go_at_call 34; refine (S.out _).mono ?_; rintro e w' ⟨rfl, hq⟩; obtain rfl := hq.symm) | (go_at_call 33; refine (C.out _).mono ?_; rintro e w1 ⟨rfl, hb1⟩))
  go_ret
  exact ⟨rfl, hb1⟩
set_option maxHeartbeats 400000 in
theorem RText_pos (n : Int) (d : ByteArray) (w : World) (h : ¬ n < 0) (a1 : n ≤ 9223372036854775807)
    (C : Hid (∀ w, Calls Tryd.prog 33 #[.int .u64 (n.natAbs : Nat)] w fun e w' => e = .returned (.string d) ∧ Below w.heap.size w w')) :
    Calls Tryd.prog 17 #[.int .i64 n] w fun e w' => e = .returned (.string d) ∧ Below w.heap.size w w' := by
  have S := Lib.hid (fun w => size_any n w (by omega) a1)
  go_enter Tryd.func17, Tryd.ntmps17
  go_wp2_with (first | (go_at_call 34; refine (S.out _).mono ?_; rintro e w' ⟨rfl, hq⟩; obtain rfl := hq.symm) | (go_at_call 33; refine (C.out _).mono ?_; rintro e w1 ⟨rfl, hb1⟩))
  go_ret
  exact ⟨rfl, hb1⟩
/-- tallowref01.Text. -/
theorem RText_any (n : Int) (w : World) (a0 : -9223372036854775808 ≤ n) (a1 : n ≤ 9223372036854775807) :
    Calls Tryd.prog 17 #[.int .i64 n] w fun e w' => e = .returned (.string ⟨(Lib.itoa n).toArray⟩) ∧ Below w.heap.size w w' := by
  have C := Lib.hid (fun w => digits_any n.natAbs w (by omega))
  have b := decDigits_bound (n := n.natAbs) (by omega)
  by_cases h : n < 0
  · refine (RText_neg n _ w h a0 ?_ C).mono ?_
    · simp only [ByteArray.size, List.size_toArray]; omega
    · rintro e w' ⟨rfl, hb⟩
      refine ⟨ret_str ?_, hb⟩
      rw [show (ByteArray.mk #[45]) = ⟨[45].toArray⟩ from rfl, ByteArray.mk_append_mk]
      unfold Lib.itoa
      rw [if_pos h]; rfl
  · refine (RText_pos n _ w h a1 C).mono ?_
    rintro e w' ⟨rfl, hb⟩
    refine ⟨ret_str ?_, hb⟩
    unfold Lib.itoa
    rw [if_neg h, show n.natAbs = n.toNat by omega]
end Go.Proofs.YtfbhbodimdlldaaDoor
