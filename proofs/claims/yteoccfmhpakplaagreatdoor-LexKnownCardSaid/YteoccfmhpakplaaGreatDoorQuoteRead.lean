/- The contracts of quote.digit, escaped, first and Unquote: what a text is read as. -/
import Derived.Test.YteoccfmhpakplaaGreatDoorBase
import Derived.Test.YteoccfmhpakplaaGreatDoorQuoteWrite
import Derived.Deep.QuietTactic
namespace Go.Proofs.YteoccfmhpakplaaGreatDoor
set_option maxRecDepth 20000
open Go.RowKit Go.Maps

theorem digit_none (n : Int) (w : World) (h : ¬ (48 ≤ n ∧ n ≤ 57) ∧ ¬ (97 ≤ n ∧ n ≤ 102)) : Calls Tryz.prog 99 #[.int .i32 n] w fun e w' => e = .returned (.int .i64 (-1)) ∧ w' = w := by
  have h0 := not_eq (k := n) (j := 48) (by omega)
  have h1 := not_eq (k := n) (j := 49) (by omega)
  have h2 := not_eq (k := n) (j := 50) (by omega)
  have h3 := not_eq (k := n) (j := 51) (by omega)
  have h4 := not_eq (k := n) (j := 52) (by omega)
  have h5 := not_eq (k := n) (j := 53) (by omega)
  have h6 := not_eq (k := n) (j := 54) (by omega)
  have h7 := not_eq (k := n) (j := 55) (by omega)
  have h8 := not_eq (k := n) (j := 56) (by omega)
  have h9 := not_eq (k := n) (j := 57) (by omega)
  have ha := not_eq (k := n) (j := 97) (by omega)
  have hb := not_eq (k := n) (j := 98) (by omega)
  have hc := not_eq (k := n) (j := 99) (by omega)
  have hd := not_eq (k := n) (j := 100) (by omega)
  have he := not_eq (k := n) (j := 101) (by omega)
  have hf := not_eq (k := n) (j := 102) (by omega)
  clear h
  go_enter Tryz.func99, Tryz.ntmps99
  go_wp2_with fail
  go_ret
  exact ⟨rfl, rfl⟩
theorem digit_low (n : Int) (w : World) (h : 48 ≤ n ∧ n ≤ 57) : Calls Tryz.prog 99 #[.int .i32 n] w fun e w' => e = .returned (.int .i64 (n - 48)) ∧ w' = w := by
  have : n = 48 ∨ n = 49 ∨ n = 50 ∨ n = 51 ∨ n = 52 ∨ n = 53 ∨ n = 54 ∨ n = 55 ∨ n = 56 ∨ n = 57 := by omega
  clear h
  rcases this with rfl | rfl | rfl | rfl | rfl | rfl | rfl | rfl | rfl | rfl
  all_goals
    go_enter Tryz.func99, Tryz.ntmps99
    go_wp2_with fail
    go_ret
    exact ⟨rfl, rfl⟩
theorem digit_high (n : Int) (w : World) (h : 97 ≤ n ∧ n ≤ 102) : Calls Tryz.prog 99 #[.int .i32 n] w fun e w' => e = .returned (.int .i64 (n - 87)) ∧ w' = w := by
  have : n = 97 ∨ n = 98 ∨ n = 99 ∨ n = 100 ∨ n = 101 ∨ n = 102 := by omega
  clear h
  rcases this with rfl | rfl | rfl | rfl | rfl | rfl
  all_goals
    go_enter Tryz.func99, Tryz.ntmps99
    go_wp2_with fail
    go_ret
    exact ⟨rfl, rfl⟩
def digI (c : UInt8) : Int := match hexO c with | some n => n | none => -1
/-- quote.digit. -/
theorem digit_any (c : UInt8) (w : World) : Calls Tryz.prog 99 #[.int .i32 c.toNat] w fun e w' => e = .returned (.int .i64 (digI c)) ∧ w' = w := by
  unfold digI hexO
  by_cases h : 48 ≤ c.toNat ∧ c.toNat ≤ 57
  · rw [if_pos h]
    exact (digit_low c.toNat w (by omega)).mono fun e w' r => ⟨r.1.trans (ret_int (by simp only []; omega)), r.2⟩
  · rw [if_neg h]
    by_cases g : 97 ≤ c.toNat ∧ c.toNat ≤ 102
    · rw [if_pos g]
      exact (digit_high c.toNat w (by omega)).mono fun e w' r => ⟨r.1.trans (ret_int (by simp only []; omega)), r.2⟩
    · rw [if_neg g]
      exact digit_none c.toNat w (by omega)
theorem dig_some {c : UInt8} {n : Nat} (h : hexO c = some n) : digI c = n ∧ n < 16 := by
  unfold digI
  rw [h]
  refine ⟨rfl, ?_⟩
  unfold hexO at h
  split at h
  · cases h; omega
  · split at h
    · cases h; omega
    · cases h
theorem dig_none {c : UInt8} (h : hexO c = none) : digI c = -1 := by unfold digI; rw [h]
/-- The pair that first and escaped answer. -/
def pairV (r : Option (UInt8 × Nat)) : Value := match r with
  | some x => .tuple #[.int .u8 x.1.toNat, .int .i64 x.2]
  | none => .tuple #[.int .u8 0, .int .i64 0]

theorem esc_empty (t : ByteArray) (m : Nat) (w : World) (ht : t.toList.isEmpty = true) :
    Calls Tryz.prog 87 #[.string t, .map (some m)] w fun e w' => e = .returned (.tuple #[.int .u8 0, .int .i64 0]) ∧ w' = w := by
  go_enter Tryz.func87, Tryz.ntmps87
  go_wp2_with fail
  go_ret2
  exact ⟨rfl, rfl⟩
theorem esc_byte (t : ByteArray) (m : Nat) (w : World) (ht : t.toList.isEmpty = false) (h0 : 0 < t.size) (hd : DictAt w m byteO) (b : UInt8) (hb : byteO t[0] = some b) :
    Calls Tryz.prog 87 #[.string t, .map (some m)] w fun e w' => e = .returned (.tuple #[.int .u8 b.toNat, .int .i64 2]) ∧ w' = w := by
  have hk := dict_look hd t[0]
  rw [hb] at hk
  simp only [Option.getD_some, Option.isSome_some] at hk
  go_enter Tryz.func87, Tryz.ntmps87
  go_wp2_with fail
  go_ret2
  exact ⟨rfl, rfl⟩
theorem esc_other (t : ByteArray) (m : Nat) (w : World) (ht : t.toList.isEmpty = false) (h0 : 0 < t.size) (hd : DictAt w m byteO) (hb : byteO t[0] = none) (hx : ((t[0].toNat : Int) != 120) = true) :
    Calls Tryz.prog 87 #[.string t, .map (some m)] w fun e w' => e = .returned (.tuple #[.int .u8 0, .int .i64 0]) ∧ w' = w := by
  have hk := dict_look hd t[0]
  rw [hb] at hk
  simp only [Option.getD_none, Option.isSome_none] at hk
  go_enter Tryz.func87, Tryz.ntmps87
  go_wp2_with fail
  go_ret2
  exact ⟨rfl, rfl⟩
theorem esc_short (t : ByteArray) (m : Nat) (w : World) (ht : t.toList.isEmpty = false) (h0 : 0 < t.size) (hd : DictAt w m byteO) (hb : byteO t[0] = none) (hx : ((t[0].toNat : Int) != 120) = false) (hs : t.size < 3) :
    Calls Tryz.prog 87 #[.string t, .map (some m)] w fun e w' => e = .returned (.tuple #[.int .u8 0, .int .i64 0]) ∧ w' = w := by
  have hk := dict_look hd t[0]
  rw [hb] at hk
  simp only [Option.getD_none, Option.isSome_none] at hk
  go_enter Tryz.func87, Tryz.ntmps87
  go_wp2_with fail
  go_ret2
  exact ⟨rfl, rfl⟩
theorem digit_wrap (c : UInt8) (w : World) : Calls Tryz.prog 99 #[.int .i32 (IntKind.i32.wrap c.toNat)] w fun e w' => e = .returned (.int .i64 (digI c)) ∧ w' = w := by
  have h := c.toNat_lt
  have e : IntKind.i32.wrap (c.toNat : Int) = c.toNat := by rw [IntKind.wrap_i32]; omega
  rw [e]; exact digit_any c w
theorem or_byte {a b : Nat} (ha : a < 16) (hb : b < 16) : bits BinOp.or IntKind.i64 ((a : Int) * 16) (b : Int) % 256 = ((UInt8.ofNat (16 * a + b)).toNat : Int) := by
  have h : ((List.range 16).all fun a => (List.range 16).all fun b => bits BinOp.or IntKind.i64 ((a : Int) * 16) (b : Int) % 256 == ((UInt8.ofNat (16 * a + b)).toNat : Int)) = true := by kernel_rfl
  exact eq_of_beq (List.all_eq_true.1 (List.all_eq_true.1 h a (by simpa using ha)) b (by simpa using hb))
theorem index_at (t : ByteArray) (i : Nat) (h : i < t.size) (w : World) : (Instr.index 9 (.string t) (.int .i64 i)).run Tryz.prog w = .ok (.int .u8 t[i].toNat) w := by
  rw [run_index_string _ _ _ _ _ Tryz.underlying9, dif_pos ⟨by omega, by omega⟩]
  rfl
set_option maxHeartbeats 1000000 in
theorem esc_hex (t : ByteArray) (m : Nat) (w : World) (ht : t.toList.isEmpty = false) (h0 : 0 < t.size) (hd : DictAt w m byteO) (hb : byteO t[0] = none) (hx : ((t[0].toNat : Int) != 120) = false) (hs : 2 < t.size)
    (x y : UInt8) (i1 : ∀ w, (Instr.index 9 (.string t) (.int .i64 1)).run Tryz.prog w = .ok (.int .u8 x.toNat) w) (i2 : ∀ w, (Instr.index 9 (.string t) (.int .i64 2)).run Tryz.prog w = .ok (.int .u8 y.toNat) w) :
    Calls Tryz.prog 87 #[.string t, .map (some m)] w fun e w' => e = .returned (pairV (hex2 x y)) ∧ ∃ n, w' = w.drewN n := by
  have hk := dict_look hd t[0]
  rw [hb] at hk
  simp only [Option.getD_none, Option.isSome_none] at hk
  have hs2 : decide ((t.size : Int) < 3) = false := decide_eq_false (by omega)
  have q1 := x.toNat_lt
  have q2 := y.toNat_lt
  have D1 := Lib.hid (fun w => digit_wrap x w)
  have D2 := Lib.hid (fun w => digit_wrap y w)
  unfold hex2
  cases e1 : hexO x with
  | none =>
    rw [dig_none e1] at D1
    go_enter Tryz.func87, Tryz.ntmps87
    go_wp2_with fail
    go_quiet ((go_at_call 99; first | (with_reducible exact Calls.quiet_of_same (D1.out _)) | (with_reducible exact Calls.quiet_of_same (D2.out _))))
    go_wp2_with fail
    all_goals go_ret2
    all_goals exact ⟨rfl, _, rfl⟩
  | some a =>
    obtain ⟨d1, l1⟩ := dig_some e1
    rw [d1] at D1
    cases e2 : hexO y with
    | none =>
      rw [dig_none e2] at D2
      go_enter Tryz.func87, Tryz.ntmps87
      go_wp2_with fail
      go_quiet ((go_at_call 99; first | (with_reducible exact Calls.quiet_of_same (D1.out _)) | (with_reducible exact Calls.quiet_of_same (D2.out _))))
      go_wp2_with fail
      go_ret2
      exact ⟨rfl, _, rfl⟩
    | some b =>
      obtain ⟨d2, l2⟩ := dig_some e2
      rw [d2] at D2
      go_enter Tryz.func87, Tryz.ntmps87
      go_wp2_with fail
      go_quiet ((go_at_call 99; first | (with_reducible exact Calls.quiet_of_same (D1.out _)) | (with_reducible exact Calls.quiet_of_same (D2.out _))))
      go_wp2_with fail
      go_ret2
      exact ⟨ret_pair (or_byte l1 l2) rfl, _, rfl⟩
/-- quote.escaped. -/
theorem escaped_any (t : ByteArray) (m : Nat) (w : World) (hd : DictAt w m byteO) :
    Calls Tryz.prog 87 #[.string t, .map (some m)] w fun e w' => e = .returned (pairV (afterL t.data.toList)) ∧ ∃ n, w' = w.drewN n := by
  have same : ∀ {e : Ending} {w' : World} {v : Value}, e = .returned v ∧ w' = w → e = .returned v ∧ ∃ n, w' = w.drewN n := fun h => ⟨h.1, 0, h.2⟩
  by_cases h0 : 0 < t.size
  · have hl := size_toList t
    have ht : t.toList.isEmpty = false := by rw [Lib.toList_data]; cases h : t.data.toList with
      | nil => rw [h] at hl; simp at hl; omega
      | cons c r => rfl
    obtain ⟨r, hr⟩ : ∃ r, t.data.toList = t[0] :: r := by
      have h1 := byte_at h0
      cases h : t.data.toList with
      | nil => rw [h] at h1; simp at h1
      | cons c r => rw [h] at h1; simp at h1; exact ⟨r, by rw [h1]⟩
    rw [hr]
    simp only [afterL]
    cases hb : byteO t[0] with
    | some b => exact (esc_byte t m w ht h0 hd b hb).mono fun e w' h => same h
    | none =>
      simp only []
      by_cases hx : t[0] = 120
      · rw [if_pos hx]
        have hx2 : ((t[0].toNat : Int) != 120) = false := by rw [hx]; rfl
        rw [hr] at hl
        simp only [List.length_cons] at hl
        by_cases h3 : 2 < t.size
        · have i1 := byte_at (s := t) (k := 1) (by omega)
          have i2 := byte_at (s := t) (k := 2) (by omega)
          rw [hr] at i1 i2
          rw [List.getElem?_cons_succ] at i1 i2
          rw [hexL_at i1 i2]
          exact esc_hex t m w ht h0 hd hb hx2 h3 _ _ (fun w => index_at t 1 (by omega) w) (fun w => index_at t 2 (by omega) w)
        · rw [hexL_short (by omega)]
          exact (esc_short t m w ht h0 hd hb hx2 (by omega)).mono fun e w' h => same h
      · rw [if_neg hx]
        have hx2 : ((t[0].toNat : Int) != 120) = true := by
          rw [bne_iff_ne]; intro h
          exact hx (UInt8.toNat_inj.1 (show t[0].toNat = 120 by omega))
        exact (esc_other t m w ht h0 hd hb hx2).mono fun e w' h => same h
  · have hn : t.data.toList = [] := List.length_eq_zero_iff.1 (by rw [size_toList]; omega)
    rw [hn]
    exact (esc_empty t m w (by rw [Lib.toList_data, hn]; rfl)).mono fun e w' h => same h
end Go.Proofs.YteoccfmhpakplaaGreatDoor
