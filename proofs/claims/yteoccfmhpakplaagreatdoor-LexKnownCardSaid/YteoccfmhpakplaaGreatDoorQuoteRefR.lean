/- The document's own reading (tallowref03): the contracts of One and Unquote. -/
import Derived.Test.YteoccfmhpakplaaGreatDoorBase
import Derived.Test.YteoccfmhpakplaaGreatDoorQuoteRefQ
namespace Go.Proofs.YteoccfmhpakplaaGreatDoor
set_option maxRecDepth 20000
open Go.RowKit

theorem val_some {c : UInt8} {n : Nat} (h : hexO c = some n) : valI c = n ∧ n < 16 := by
  have := dig_some h
  unfold valI; rw [h]; exact ⟨rfl, this.2⟩
theorem val_none {c : UInt8} (h : hexO c = none) : valI c = 16 := by unfold valI; rw [h]
theorem sum_byte (a b : Nat) : IntKind.u8.wrap (IntKind.u8.wrap (16 * (a : Int)) + (b : Int)) = ((UInt8.ofNat (16 * a + b)).toNat : Int) := by
  rw [IntKind.wrap_u8, IntKind.wrap_u8, UInt8.toNat_ofNat']; omega
theorem One_empty (t : ByteArray) (w : World) (h : t.size = 0) :
    Calls Tryz.prog 89 #[.string t] w fun e w' => e = .returned (.tuple #[.int .u8 0, .int .i64 0]) ∧ w' = w := by
  have h2 : ((t.size : Int) == 0) = true := by rw [h]; rfl
  go_enter Tryz.func89, Tryz.ntmps89
  go_wp2_with fail
  go_ret2
  exact ⟨rfl, rfl⟩
theorem One_low (t : ByteArray) (w : World) (h : 0 < t.size) (_ : t[0].toNat < 32) :
    Calls Tryz.prog 89 #[.string t] w fun e w' => e = .returned (.tuple #[.int .u8 0, .int .i64 0]) ∧ w' = w := by
  have h2 : ((t.size : Int) == 0) = false := beq_eq_false_iff_ne.2 (by omega)
  go_enter Tryz.func89, Tryz.ntmps89
  go_wp2_with fail
  go_ret2
  exact ⟨rfl, rfl⟩
theorem One_high (t : ByteArray) (w : World) (h : 0 < t.size) (_ : ¬ t[0].toNat < 32) (hd : 126 < t[0].toNat) :
    Calls Tryz.prog 89 #[.string t] w fun e w' => e = .returned (.tuple #[.int .u8 0, .int .i64 0]) ∧ w' = w := by
  have h2 : ((t.size : Int) == 0) = false := beq_eq_false_iff_ne.2 (by omega)
  go_enter Tryz.func89, Tryz.ntmps89
  go_wp2_with fail
  go_ret2
  exact ⟨rfl, rfl⟩
theorem One_mark (t : ByteArray) (w : World) (h : 0 < t.size) (hc : ¬ t[0].toNat < 32) (hd : ¬ 126 < t[0].toNat) (h34 : ((t[0].toNat : Int) == 34) = true) :
    Calls Tryz.prog 89 #[.string t] w fun e w' => e = .returned (.tuple #[.int .u8 0, .int .i64 0]) ∧ w' = w := by
  have h2 : ((t.size : Int) == 0) = false := beq_eq_false_iff_ne.2 (by omega)
  go_enter Tryz.func89, Tryz.ntmps89
  go_wp2_with fail
  go_ret2
  exact ⟨rfl, rfl⟩
theorem One_self (t : ByteArray) (w : World) (h : 0 < t.size) (hc : ¬ t[0].toNat < 32) (hd : ¬ 126 < t[0].toNat) (h34 : ((t[0].toNat : Int) == 34) = false) (h92 : ((t[0].toNat : Int) != 92) = true) :
    Calls Tryz.prog 89 #[.string t] w fun e w' => e = .returned (.tuple #[.int .u8 t[0].toNat, .int .i64 1]) ∧ w' = w := by
  have h2 : ((t.size : Int) == 0) = false := beq_eq_false_iff_ne.2 (by omega)
  go_enter Tryz.func89, Tryz.ntmps89
  go_wp2_with fail
  go_ret2
  exact ⟨rfl, rfl⟩
theorem One_alone (t : ByteArray) (w : World) (h : 0 < t.size) (i0 : ∀ w, (Instr.index 9 (.string t) (.int .i64 0)).run Tryz.prog w = .ok (.int .u8 92) w) (hs : ¬ 2 ≤ t.size) :
    Calls Tryz.prog 89 #[.string t] w fun e w' => e = .returned (.tuple #[.int .u8 0, .int .i64 0]) ∧ w' = w := by
  have h2 : ((t.size : Int) == 0) = false := beq_eq_false_iff_ne.2 (by omega)
  go_enter Tryz.func89, Tryz.ntmps89
  go_wp2_with fail
  go_ret2
  exact ⟨rfl, rfl⟩
theorem One_n (t : ByteArray) (w : World) (hs : 2 ≤ t.size) (i0 : ∀ w, (Instr.index 9 (.string t) (.int .i64 0)).run Tryz.prog w = .ok (.int .u8 92) w) (i1 : ∀ w, (Instr.index 9 (.string t) (.int .i64 1)).run Tryz.prog w = .ok (.int .u8 110) w) :
    Calls Tryz.prog 89 #[.string t] w fun e w' => e = .returned (.tuple #[.int .u8 10, .int .i64 2]) ∧ w' = w := by
  have h2 : ((t.size : Int) == 0) = false := beq_eq_false_iff_ne.2 (by omega)
  go_enter Tryz.func89, Tryz.ntmps89
  go_wp2_with fail
  go_ret2
  exact ⟨rfl, rfl⟩
theorem One_t (t : ByteArray) (w : World) (hs : 2 ≤ t.size) (i0 : ∀ w, (Instr.index 9 (.string t) (.int .i64 0)).run Tryz.prog w = .ok (.int .u8 92) w) (i1 : ∀ w, (Instr.index 9 (.string t) (.int .i64 1)).run Tryz.prog w = .ok (.int .u8 116) w) :
    Calls Tryz.prog 89 #[.string t] w fun e w' => e = .returned (.tuple #[.int .u8 9, .int .i64 2]) ∧ w' = w := by
  have h2 : ((t.size : Int) == 0) = false := beq_eq_false_iff_ne.2 (by omega)
  go_enter Tryz.func89, Tryz.ntmps89
  go_wp2_with fail
  go_ret2
  exact ⟨rfl, rfl⟩
theorem One_back (t : ByteArray) (w : World) (hs : 2 ≤ t.size) (i0 : ∀ w, (Instr.index 9 (.string t) (.int .i64 0)).run Tryz.prog w = .ok (.int .u8 92) w) (i1 : ∀ w, (Instr.index 9 (.string t) (.int .i64 1)).run Tryz.prog w = .ok (.int .u8 92) w) :
    Calls Tryz.prog 89 #[.string t] w fun e w' => e = .returned (.tuple #[.int .u8 92, .int .i64 2]) ∧ w' = w := by
  have h2 : ((t.size : Int) == 0) = false := beq_eq_false_iff_ne.2 (by omega)
  go_enter Tryz.func89, Tryz.ntmps89
  go_wp2_with fail
  go_ret2
  exact ⟨rfl, rfl⟩
theorem One_quote (t : ByteArray) (w : World) (hs : 2 ≤ t.size) (i0 : ∀ w, (Instr.index 9 (.string t) (.int .i64 0)).run Tryz.prog w = .ok (.int .u8 92) w) (i1 : ∀ w, (Instr.index 9 (.string t) (.int .i64 1)).run Tryz.prog w = .ok (.int .u8 34) w) :
    Calls Tryz.prog 89 #[.string t] w fun e w' => e = .returned (.tuple #[.int .u8 34, .int .i64 2]) ∧ w' = w := by
  have h2 : ((t.size : Int) == 0) = false := beq_eq_false_iff_ne.2 (by omega)
  go_enter Tryz.func89, Tryz.ntmps89
  go_wp2_with fail
  go_ret2
  exact ⟨rfl, rfl⟩
theorem One_else (t : ByteArray) (w : World) (c : Int) (hs : 2 ≤ t.size) (i0 : ∀ w, (Instr.index 9 (.string t) (.int .i64 0)).run Tryz.prog w = .ok (.int .u8 92) w) (i1 : ∀ w, (Instr.index 9 (.string t) (.int .i64 1)).run Tryz.prog w = .ok (.int .u8 c) w)
    (n1 : (c == 110) = false) (n2 : (c == 116) = false) (n3 : (c == 92) = false) (n4 : (c == 34) = false) (n5 : (c == 120) = false) :
    Calls Tryz.prog 89 #[.string t] w fun e w' => e = .returned (.tuple #[.int .u8 0, .int .i64 0]) ∧ w' = w := by
  have h2 : ((t.size : Int) == 0) = false := beq_eq_false_iff_ne.2 (by omega)
  go_enter Tryz.func89, Tryz.ntmps89
  go_wp2_with fail
  go_ret2
  exact ⟨rfl, rfl⟩
theorem One_short (t : ByteArray) (w : World) (hs : 2 ≤ t.size) (i0 : ∀ w, (Instr.index 9 (.string t) (.int .i64 0)).run Tryz.prog w = .ok (.int .u8 92) w) (i1 : ∀ w, (Instr.index 9 (.string t) (.int .i64 1)).run Tryz.prog w = .ok (.int .u8 120) w) (h4 : ¬ 4 ≤ t.size) :
    Calls Tryz.prog 89 #[.string t] w fun e w' => e = .returned (.tuple #[.int .u8 0, .int .i64 0]) ∧ w' = w := by
  have h2 : ((t.size : Int) == 0) = false := beq_eq_false_iff_ne.2 (by omega)
  go_enter Tryz.func89, Tryz.ntmps89
  go_wp2_with fail
  go_ret2
  exact ⟨rfl, rfl⟩
set_option maxHeartbeats 1000000 in
theorem One_hex (t : ByteArray) (w : World) (h4 : 4 ≤ t.size) (i0 : ∀ w, (Instr.index 9 (.string t) (.int .i64 0)).run Tryz.prog w = .ok (.int .u8 92) w) (i1 : ∀ w, (Instr.index 9 (.string t) (.int .i64 1)).run Tryz.prog w = .ok (.int .u8 120) w)
    (x y : UInt8) (i2 : ∀ w, (Instr.index 9 (.string t) (.int .i64 2)).run Tryz.prog w = .ok (.int .u8 x.toNat) w) (i3 : ∀ w, (Instr.index 9 (.string t) (.int .i64 3)).run Tryz.prog w = .ok (.int .u8 y.toNat) w) :
    Calls Tryz.prog 89 #[.string t] w fun e w' => e = .returned (pairV (hex2 x y)) ∧ ∃ n, w' = w.drewN n := by
  have h2 : ((t.size : Int) == 0) = false := beq_eq_false_iff_ne.2 (by omega)
  have D1 := Lib.hid (Rvalue_any x)
  have D2 := Lib.hid (Rvalue_any y)
  unfold hex2
  cases e1 : hexO x with
  | none =>
    rw [val_none e1] at D1
    go_enter Tryz.func89, Tryz.ntmps89
    go_wp2_with (first
      | (go_at_call 101; with_reducible refine (D1.out _).mono ?_; rintro e w1 ⟨rfl, rfl⟩)
      | (go_at_call 101; with_reducible refine (D2.out _).mono ?_; rintro e w1 ⟨rfl, rfl⟩))
    go_ret2
    exact ⟨rfl, 0, rfl⟩
  | some a =>
    obtain ⟨d1, l1⟩ := val_some e1
    rw [d1] at D1
    cases e2 : hexO y with
    | none =>
      rw [val_none e2] at D2
      go_enter Tryz.func89, Tryz.ntmps89
      go_wp2_with (first
        | (go_at_call 101; with_reducible refine (D1.out _).mono ?_; rintro e w1 ⟨rfl, rfl⟩)
        | (go_at_call 101; with_reducible refine (D2.out _).mono ?_; rintro e w1 ⟨rfl, rfl⟩))
      go_ret2
      exact ⟨rfl, 0, rfl⟩
    | some b =>
      obtain ⟨d2, l2⟩ := val_some e2
      rw [d2] at D2
      go_enter Tryz.func89, Tryz.ntmps89
      go_wp2_with (first
        | (go_at_call 101; with_reducible refine (D1.out _).mono ?_; rintro e w1 ⟨rfl, rfl⟩)
        | (go_at_call 101; with_reducible refine (D2.out _).mono ?_; rintro e w1 ⟨rfl, rfl⟩))
      go_quiet ((go_at_call 101; first | (with_reducible exact Calls.quiet_of_same (D1.out _)) | (with_reducible exact Calls.quiet_of_same (D2.out _))))
      go_wp2_with fail
      go_ret2
      exact ⟨ret_pair (sum_byte a b) rfl, _, rfl⟩
theorem index_is {t : ByteArray} {i : Nat} (h : i < t.size) {c : UInt8} (hc : t[i] = c) (w : World) : (Instr.index 9 (.string t) (.int .i64 i)).run Tryz.prog w = .ok (.int .u8 c.toNat) w := by
  rw [← hc]; exact index_at t i h w
/-- tallowref03.One. -/
theorem One_any (t : ByteArray) (w : World) :
    Calls Tryz.prog 89 #[.string t] w fun e w' => e = .returned (pairV (oneL t.data.toList)) ∧ ∃ n, w' = w.drewN n := by
  have same : ∀ {e : Ending} {w' : World} {v : Value}, e = .returned v ∧ w' = w → e = .returned v ∧ ∃ n, w' = w.drewN n := fun h => ⟨h.1, 0, h.2⟩
  have hl := size_toList t
  by_cases h0 : 0 < t.size
  · obtain ⟨r, hr⟩ := head_at h0
    rw [hr] at hl ⊢
    simp only [List.length_cons] at hl
    simp only [oneL]
    by_cases hc : t[0] = 92
    · rw [if_pos hc]
      have i0 := index_is h0 hc
      by_cases h2 : 2 ≤ t.size
      · have g1 := byte_at (s := t) (k := 1) (by omega)
        rw [hr, List.getElem?_cons_succ] at g1
        obtain ⟨r2, rfl⟩ : ∃ r2, r = t[1] :: r2 := by
          cases r with
          | nil => simp at g1
          | cons c r2 => simp at g1; exact ⟨r2, by rw [g1]⟩
        simp only [afterL]
        simp only [List.length_cons] at hl
        by_cases hn : t[1] = 110
        · rw [hn]; exact (One_n t w h2 i0 (index_is (by omega) hn)).mono fun e w' h => same h
        · by_cases ht : t[1] = 116
          · rw [ht]; exact (One_t t w h2 i0 (index_is (by omega) ht)).mono fun e w' h => same h
          · by_cases hb : t[1] = 92
            · rw [hb]; exact (One_back t w h2 i0 (index_is (by omega) hb)).mono fun e w' h => same h
            · by_cases hq : t[1] = 34
              · rw [hq]; exact (One_quote t w h2 i0 (index_is (by omega) hq)).mono fun e w' h => same h
              · have eb : byteO t[1] = none := by unfold byteO; rw [if_neg hn, if_neg ht, if_neg hb, if_neg hq]
                rw [eb]
                simp only []
                by_cases hx : t[1] = 120
                · rw [if_pos hx]
                  have i1 := index_is (by omega) hx
                  by_cases h4 : 4 ≤ t.size
                  · have g2 := byte_at (s := t) (k := 2) (by omega)
                    have g3 := byte_at (s := t) (k := 3) (by omega)
                    rw [hr, List.getElem?_cons_succ, List.getElem?_cons_succ] at g2 g3
                    rw [hexL_at g2 g3]
                    exact One_hex t w h4 i0 i1 _ _ (index_at t 2 (by omega)) (index_at t 3 (by omega))
                  · rw [hexL_short (by omega)]
                    exact (One_short t w h2 i0 i1 h4).mono fun e w' h => same h
                · rw [if_neg hx]
                  exact (One_else t w _ h2 i0 (index_at t 1 (by omega)) (bne_byte (d := 110) hn) (bne_byte (d := 116) ht) (bne_byte (d := 92) hb) (bne_byte (d := 34) hq) (bne_byte (d := 120) hx)).mono fun e w' h => same h
      · have : r = [] := List.length_eq_zero_iff.1 (by omega)
        rw [this]
        exact (One_alone t w h0 i0 h2).mono fun e w' h => same h
    · rw [if_neg hc]
      by_cases h32 : t[0].toNat < 32
      · have hs : selfB t[0] = false := by unfold selfB; rw [decide_eq_false (by omega : ¬ 32 ≤ t[0].toNat)]; rfl
        rw [hs, if_neg (by simp)]
        exact (One_low t w h0 h32).mono fun e w' h => same h
      · by_cases h126 : 126 < t[0].toNat
        · have hs : selfB t[0] = false := by unfold selfB; rw [decide_eq_false (by omega : ¬ t[0].toNat ≤ 126)]; simp
          rw [hs, if_neg (by simp)]
          exact (One_high t w h0 h32 h126).mono fun e w' h => same h
        · by_cases h34 : t[0] = 34
          · have hs : selfB t[0] = false := by rw [h34]; rfl
            rw [hs, if_neg (by simp)]
            exact (One_mark t w h0 h32 h126 (beq_byte h34)).mono fun e w' h => same h
          · have hs : selfB t[0] = true := by
              have a2 : t[0].toNat ≠ 34 := fun e => h34 (UInt8.toNat_inj.1 e)
              have a3 : t[0].toNat ≠ 92 := fun e => hc (UInt8.toNat_inj.1 e)
              unfold selfB; simp [a2, a3]; omega
            rw [hs, if_pos rfl]
            have b92 : ((t[0].toNat : Int) == 92) = false := bne_byte hc
            exact (One_self t w h0 h32 h126 (bne_byte h34) (by rw [bne, b92]; rfl)).mono fun e w' h => same h
  · have : t.data.toList = [] := List.length_eq_zero_iff.1 (by omega)
    rw [this]
    exact (One_empty t w (by omega)).mono fun e w' h => same h
end Go.Proofs.YteoccfmhpakplaaGreatDoor
