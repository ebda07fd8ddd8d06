/- The contracts of the document's own May, Ref, Key, Truth. -/
import Derived.Test.YtghnjmodnhnmfaaBase
import Derived.Test.YtghnjmodnhnmfaaValMay
namespace Go.Proofs.Ytghnjmodnhnmfaa
set_option maxRecDepth 20000
open Go.RowKit

set_option maxHeartbeats 1000000 in
theorem RMay_small (k n : Int) (w : World) (h : k = 0 ∨ k = 1 ∨ k = 2 ∨ k = 3 ∨ k = 4) :
    Calls Try.prog 91 #[.agg #[.int .i64 k, .int .i64 n]] w fun e w' => e = .returned (.bool (mayB k n)) ∧ Below w.heap.size w w' := by
  have M := Lib.hid (@mayB_iff k n)
  by_cases n0 : n = 0
  · subst n0
    rcases h with rfl | rfl | rfl | rfl | rfl
    all_goals
      go_enter Try.func91, Try.ntmps91
      go_wp2
      go_ret
      exact ⟨rfl, (Below.refl _ _).alloc (Nat.le_refl _) _⟩
  · have n0' := not_eq n0
    by_cases n1 : n = 1
    · subst n1
      rcases h with rfl | rfl | rfl | rfl | rfl
      all_goals
        go_enter Try.func91, Try.ntmps91
        go_wp2
        go_ret
        exact ⟨rfl, (Below.refl _ _).alloc (Nat.le_refl _) _⟩
    · have n1' := not_eq n1
      by_cases n2 : 0 ≤ n
      · by_cases n3 : n ≤ 12
        all_goals
          have R : Hid (mayB k n = decide (k = 3 ∨ k = 4 ∧ 0 ≤ n ∧ n ≤ 12)) := bool_eq (M.out.trans (by omega))
          rcases h with rfl | rfl | rfl | rfl | rfl
          all_goals
            have R2 := R.out
            simp only [n2, n3] at R2
            first | rw [show mayB 0 n = false from R2] | rw [show mayB 1 n = false from R2] | rw [show mayB 2 n = false from R2] | rw [show mayB 3 n = true from R2] | rw [show mayB 4 n = true from R2] | rw [show mayB 4 n = false from R2]
            clear R2 R M n0 n1
            go_enter Try.func91, Try.ntmps91
            go_wp2
            go_ret
            exact ⟨rfl, (Below.refl _ _).alloc (Nat.le_refl _) _⟩
      · have R : Hid (mayB k n = decide (k = 3)) := bool_eq (M.out.trans (by omega))
        rcases h with rfl | rfl | rfl | rfl | rfl
        all_goals
          have R2 := R.out
          first | rw [show mayB 0 n = false from R2] | rw [show mayB 1 n = false from R2] | rw [show mayB 2 n = false from R2] | rw [show mayB 3 n = true from R2] | rw [show mayB 4 n = false from R2]
          clear R2 R M n0 n1
          go_enter Try.func91, Try.ntmps91
          go_wp2
          go_ret
          exact ⟨rfl, (Below.refl _ _).alloc (Nat.le_refl _) _⟩
set_option maxHeartbeats 1000000 in
theorem RMay_great (k n : Int) (w : World) (h0 : k ≠ 0) (h1 : k ≠ 1) (h2 : k ≠ 2) (h3 : k ≠ 3) (h4 : k ≠ 4) :
    Calls Try.prog 91 #[.agg #[.int .i64 k, .int .i64 n]] w fun e w' => e = .returned (.bool (mayB k n)) ∧ Below w.heap.size w w' := by
  have R : Hid (mayB k n = decide (5 ≤ k ∧ k ≤ 9 ∧ 1 ≤ n ∧ n ≤ 2147483647)) := bool_eq (mayB_iff.trans (by omega))
  have e0 := not_eq h0
  have e1 := not_eq h1
  have e2 := not_eq h2
  have e3 := not_eq h3
  have e4 := not_eq h4
  clear h0 h1 h2 h3 h4
  by_cases a : 5 ≤ k
  · by_cases b : k ≤ 9
    · by_cases c : 1 ≤ n
      · by_cases d : n ≤ 2147483647
        · rw [R.out, decide_eq_true ⟨a, b, c, d⟩]
          clear R
          go_enter Try.func91, Try.ntmps91
          go_wp2
          go_ret
          exact ⟨rfl, (Below.refl _ _).alloc (Nat.le_refl _) _⟩
        · rw [R.out, decide_eq_false (fun h => d h.2.2.2)]
          have x := decide_eq_false d
          clear R d
          go_enter Try.func91, Try.ntmps91
          go_wp2
          go_ret
          exact ⟨rfl, (Below.refl _ _).alloc (Nat.le_refl _) _⟩
      · rw [R.out, decide_eq_false (fun h => c h.2.2.1)]
        have x := decide_eq_false c
        clear R c
        go_enter Try.func91, Try.ntmps91
        go_wp2
        go_ret
        exact ⟨rfl, (Below.refl _ _).alloc (Nat.le_refl _) _⟩
    · rw [R.out, decide_eq_false (fun h => b h.2.1)]
      have x := decide_eq_false b
      clear R b
      go_enter Try.func91, Try.ntmps91
      go_wp2
      go_ret
      exact ⟨rfl, (Below.refl _ _).alloc (Nat.le_refl _) _⟩
  · rw [R.out, decide_eq_false (fun h => a h.1)]
    have x := decide_eq_false a
    clear R a
    go_enter Try.func91, Try.ntmps91
    go_wp2
    go_ret
    exact ⟨rfl, (Below.refl _ _).alloc (Nat.le_refl _) _⟩
/-- tallowref02.May. -/
theorem RMay_any (k n : Int) (w : World) :
    Calls Try.prog 91 #[.agg #[.int .i64 k, .int .i64 n]] w fun e w' => e = .returned (.bool (mayB k n)) ∧ Below w.heap.size w w' := by
  by_cases h : k = 0 ∨ k = 1 ∨ k = 2 ∨ k = 3 ∨ k = 4
  · exact RMay_small k n w h
  · exact RMay_great k n w (by omega) (by omega) (by omega) (by omega) (by omega)
/-- tallowref02.Ref. -/
theorem RRef_any (k n : Int) (w : World) :
    Calls Try.prog 115 #[.agg #[.int .i64 k, .int .i64 n]] w fun e w' => e = .returned (.bool (refB k n)) ∧ Below w.heap.size w w' := by
  have C := Lib.hid (RMay_any k n)
  cases hm : mayB k n with
  | true =>
    rw [hm] at C
    by_cases hk : 5 ≤ k
    all_goals
      first | have hd := decide_eq_false hk | have hd := decide_eq_true hk
      first | rw [show refB k n = true from refB_iff.2 ⟨hm, hk⟩] | rw [show refB k n = false from false_of (fun e => hk (refB_iff.1 e).2)]
      clear hm hk
      go_enter Try.func115, Try.ntmps115
      go_wp2_with (go_at_call 91; refine (C.out _).mono ?_; rintro e w1 ⟨rfl, hb⟩; have hc0 := boxed hb (j := 0) rfl; have B := Lib.hid (below_box hb); clear hb)
      go_ret
      exact ⟨rfl, B.out⟩
  | false =>
    rw [hm] at C
    rw [show refB k n = false from false_of (fun e => by rw [(refB_iff.1 e).1] at hm; cases hm)]
    clear hm
    go_enter Try.func115, Try.ntmps115
    go_wp2_with (go_at_call 91; refine (C.out _).mono ?_; rintro e w1 ⟨rfl, hb⟩; have hc0 := boxed hb (j := 0) rfl; have B := Lib.hid (below_box hb); clear hb)
    go_ret
    exact ⟨rfl, B.out⟩
theorem may_nonneg {k n : Int} (h : mayB k n = true) : 0 ≤ k := by have := mayB_iff.1 h; omega
/-- tallowref02.Key. -/
theorem RKey_any (k n : Int) (w : World) :
    Calls Try.prog 92 #[.agg #[.int .i64 k, .int .i64 n]] w fun e w' => e = .returned (.bool (keyB k n)) ∧ Below w.heap.size w w' := by
  have C := Lib.hid (RMay_any k n)
  cases hm : mayB k n with
  | true =>
    rw [hm] at C
    have h0 := may_nonneg hm
    by_cases k0 : k = 0
    · subst k0
      rw [show keyB 0 n = false from false_of (fun e => by have := (keyB_iff.1 e).2; omega)]
      clear hm h0
      go_enter Try.func92, Try.ntmps92
      go_wp2_with (go_at_call 91; refine (C.out _).mono ?_; rintro e w1 ⟨rfl, hb⟩; have hc0 := boxed hb (j := 0) rfl; have B := Lib.hid (below_box hb); clear hb)
      go_ret
      exact ⟨rfl, B.out⟩
    · by_cases k1 : k = 1
      · subst k1
        rw [show keyB 1 n = false from false_of (fun e => by have := (keyB_iff.1 e).2; omega)]
        clear hm h0
        go_enter Try.func92, Try.ntmps92
        go_wp2_with (go_at_call 91; refine (C.out _).mono ?_; rintro e w1 ⟨rfl, hb⟩; have hc0 := boxed hb (j := 0) rfl; have B := Lib.hid (below_box hb); clear hb)
        go_ret
        exact ⟨rfl, B.out⟩
      · rw [show keyB k n = true from keyB_iff.2 ⟨hm, by omega⟩]
        have e0 : (k != 0) = true := by simp [k0]
        have e1 : (k != 1) = true := by simp [k1]
        clear hm h0 k0 k1
        go_enter Try.func92, Try.ntmps92
        go_wp2_with (go_at_call 91; refine (C.out _).mono ?_; rintro e w1 ⟨rfl, hb⟩; have hc0 := boxed hb (j := 0) rfl; have B := Lib.hid (below_box hb); clear hb)
        go_ret
        exact ⟨rfl, B.out⟩
  | false =>
    rw [hm] at C
    rw [show keyB k n = false from false_of (fun e => by rw [(keyB_iff.1 e).1] at hm; cases hm)]
    clear hm
    go_enter Try.func92, Try.ntmps92
    go_wp2_with (go_at_call 91; refine (C.out _).mono ?_; rintro e w1 ⟨rfl, hb⟩; have hc0 := boxed hb (j := 0) rfl; have B := Lib.hid (below_box hb); clear hb)
    go_ret
    exact ⟨rfl, B.out⟩
end Go.Proofs.Ytghnjmodnhnmfaa
