/- The contracts of val.May, Ref, Key, Truth. Each makes memory of its own and leaves what was there. -/
import Derived.Test.YtghnjmodnhnmfaaBase
import Derived.Test.YtghnjmodnhnmfaaValMath
import Derived.Deep.RegionHeld3
import Derived.Deep.QuietTactic
import Derived.BigQuiet
namespace Go.Proofs.Ytghnjmodnhnmfaa
set_option maxRecDepth 20000
open Go.RowKit

set_option maxHeartbeats 400000 in
theorem cl_within (n lo hi : Int) (a b : Addr) (w : World) (ha : w.cell? a = some (.int .i64 lo)) (hb : w.cell? b = some (.int .i64 hi)) :
    Calls Try.prog 181 #[.int .i64 n, .pointer (some a), .pointer (some b)] w fun e w' => e = .returned (.bool (decide (lo ≤ n ∧ n ≤ hi))) ∧ w' = w := by
  by_cases h1 : lo ≤ n <;> by_cases h2 : n ≤ hi
  all_goals
    first
    | rw [show decide (lo ≤ n ∧ n ≤ hi) = true by simp; omega]
    | rw [show decide (lo ≤ n ∧ n ≤ hi) = false by simp; omega]
    go_enter Try.func181, Try.ntmps181
    go_wp2
    go_ret
    exact ⟨rfl, rfl⟩
theorem cl_all (n : Int) (w : World) : Calls Try.prog 171 #[.int .i64 n] w fun e w' => e = .returned (.bool true) ∧ w' = w := by
  go_enter Try.func171, Try.ntmps171
  go_wp2
  go_ret
  exact ⟨rfl, rfl⟩
theorem cl_none (n : Int) (w : World) : Calls Try.prog 172 #[.int .i64 n] w fun e w' => e = .returned (.bool false) ∧ w' = w := by
  go_enter Try.func172, Try.ntmps172
  go_wp2
  go_ret
  exact ⟨rfl, rfl⟩
theorem hmf : ∀ (fn : Fn) (first cap : Array Value) (w : World), (Instr.makeFunc fn first cap).run Try.prog w = .ok (.func fn first cap) w := fun _ _ _ _ => rfl
theorem within_any (lo hi : Int) (w : World) :
    Calls Try.prog 170 #[.int .i64 lo, .int .i64 hi] w fun e w' => e = .returned (.func (.func 181) #[] #[.pointer (some ⟨w.heap.size, 0, none⟩), .pointer (some ⟨w.heap.size + 1, 0, none⟩)]) ∧ w' = (w.alloc (.cells #[.int .i64 lo] 2 (0, 0))).alloc (.cells #[.int .i64 hi] 2 (0, 0)) := by
  have hmf := hmf
  go_enter Try.func170, Try.ntmps170
  go_wp2
  go_ret
  exact ⟨rfl, rfl⟩
/-- The kinds whose N lies between two numbers. -/
def KindIn (k lo hi : Int) : Prop := (k = 0 ∨ k = 1) ∧ lo = 0 ∧ hi = 0 ∨ k = 2 ∧ lo = 0 ∧ hi = 1 ∨ k = 4 ∧ lo = 0 ∧ hi = 12 ∨ (k = 5 ∨ k = 6 ∨ k = 7 ∨ k = 8 ∨ k = 9) ∧ lo = 1 ∧ hi = 2147483647
set_option maxHeartbeats 1000000 in
theorem has_in (k lo hi : Int) (w : World) (h : KindIn k lo hi) :
    Calls Try.prog 141 #[.int .i64 k] w fun e w' => e = .returned (.func (.func 181) #[] #[.pointer (some ⟨w.heap.size, 0, none⟩), .pointer (some ⟨w.heap.size + 1, 0, none⟩)]) ∧ w' = (w.alloc (.cells #[.int .i64 lo] 2 (0, 0))).alloc (.cells #[.int .i64 hi] 2 (0, 0)) := by
  rcases h with ⟨rfl | rfl, rfl, rfl⟩ | ⟨rfl, rfl, rfl⟩ | ⟨rfl, rfl, rfl⟩ | ⟨rfl | rfl | rfl | rfl | rfl, rfl, rfl⟩
  all_goals
    go_enter Try.func141, Try.ntmps141
    go_wp2_with (go_at_call 170; refine (within_any _ _ _).mono ?_; rintro e w' ⟨rfl, rfl⟩)
    go_ret
    exact ⟨rfl, rfl⟩
theorem has_all (w : World) :
    Calls Try.prog 141 #[.int .i64 3] w fun e w' => e = .returned (.func (.func 171) #[] #[]) ∧ w' = w := by
  go_enter Try.func141, Try.ntmps141
  go_wp2
  go_ret
  exact ⟨rfl, rfl⟩
theorem has_none (k : Int) (w : World) (h : k < 0 ∨ 9 < k) :
    Calls Try.prog 141 #[.int .i64 k] w fun e w' => e = .returned (.func (.func 172) #[] #[]) ∧ w' = w := by
  have h0 : (k == 0) = false := beq_eq_false_iff_ne.2 (by omega)
  have h1 : (k == 1) = false := beq_eq_false_iff_ne.2 (by omega)
  have h2 : (k == 2) = false := beq_eq_false_iff_ne.2 (by omega)
  have h3 : (k == 3) = false := beq_eq_false_iff_ne.2 (by omega)
  have h4 : (k == 4) = false := beq_eq_false_iff_ne.2 (by omega)
  have h5 : (k == 5) = false := beq_eq_false_iff_ne.2 (by omega)
  have h6 : (k == 6) = false := beq_eq_false_iff_ne.2 (by omega)
  have h7 : (k == 7) = false := beq_eq_false_iff_ne.2 (by omega)
  have h8 : (k == 8) = false := beq_eq_false_iff_ne.2 (by omega)
  have h9 : (k == 9) = false := beq_eq_false_iff_ne.2 (by omega)
  clear h
  go_enter Try.func141, Try.ntmps141
  go_wp2
  go_ret
  exact ⟨rfl, rfl⟩

set_option maxHeartbeats 1000000 in
theorem May_in (k n lo hi : Int) (w : World) (h : KindIn k lo hi) :
    Calls Try.prog 105 #[.agg #[.int .i64 k, .int .i64 n]] w fun e w' => e = .returned (.bool (decide (lo ≤ n ∧ n ≤ hi))) ∧ Below w.heap.size w w' := by
  have C := Lib.hid (fun w => has_in k lo hi w h)
  clear h
  go_enter Try.func105, Try.ntmps105
  go_wp2
  go_region_held3 (fun w' => w'.cell? ⟨w.heap.size, 0, none⟩ = some (.int .i64 k) ∧ w'.cell? ⟨w.heap.size, 1, none⟩ = some (.int .i64 n)) (go_keep)
    (first | (go_at_call 141; refine (C.out _).mono ?_; rintro e w' ⟨rfl, rfl⟩) | (go_at_call 181; refine (cl_within n lo hi _ _ _ ?_ ?_).mono ?_; (simp [go_sem]); (simp [go_sem]); rintro e w' ⟨rfl, rfl⟩))
  go_wp2_with fail
  go_ret
  refine ⟨by simp, ?_⟩
  exact ((((Below.refl _ _).alloc (Nat.le_refl _) _).drew).alloc (by simp) _).alloc (by simp; omega) _
set_option maxHeartbeats 1000000 in
theorem May_all (n : Int) (w : World) :
    Calls Try.prog 105 #[.agg #[.int .i64 3, .int .i64 n]] w fun e w' => e = .returned (.bool true) ∧ Below w.heap.size w w' := by
  have C := Lib.hid has_all
  go_enter Try.func105, Try.ntmps105
  go_wp2
  go_region_held3 (fun w' => w'.cell? ⟨w.heap.size, 0, none⟩ = some (.int .i64 3) ∧ w'.cell? ⟨w.heap.size, 1, none⟩ = some (.int .i64 n)) (go_keep)
    (first | (go_at_call 141; refine (C.out _).mono ?_; rintro e w' ⟨rfl, hq⟩; obtain rfl := hq.symm) | (go_at_call 171; refine (cl_all _ _).mono ?_; rintro e w' ⟨rfl, hq⟩; obtain rfl := hq.symm))
  go_wp2_with fail
  go_ret
  exact ⟨rfl, ((Below.refl _ _).alloc (Nat.le_refl _) _).drew⟩
set_option maxHeartbeats 1000000 in
theorem May_none (k n : Int) (w : World) (h : k < 0 ∨ 9 < k) :
    Calls Try.prog 105 #[.agg #[.int .i64 k, .int .i64 n]] w fun e w' => e = .returned (.bool false) ∧ Below w.heap.size w w' := by
  have C := Lib.hid (fun w => has_none k w h)
  clear h
  go_enter Try.func105, Try.ntmps105
  go_wp2
  go_region_held3 (fun w' => w'.cell? ⟨w.heap.size, 0, none⟩ = some (.int .i64 k) ∧ w'.cell? ⟨w.heap.size, 1, none⟩ = some (.int .i64 n)) (go_keep)
    (first | (go_at_call 141; refine (C.out _).mono ?_; rintro e w' ⟨rfl, hq⟩; obtain rfl := hq.symm) | (go_at_call 172; refine (cl_none _ _).mono ?_; rintro e w' ⟨rfl, hq⟩; obtain rfl := hq.symm))
  go_wp2_with fail
  go_ret
  exact ⟨rfl, ((Below.refl _ _).alloc (Nat.le_refl _) _).drew⟩
/-- val.May. -/
theorem May_any (k n : Int) (w : World) :
    Calls Try.prog 105 #[.agg #[.int .i64 k, .int .i64 n]] w fun e w' => e = .returned (.bool (mayB k n)) ∧ Below w.heap.size w w' := by
  by_cases h3 : k = 3
  · subst h3
    rw [show mayB 3 n = true from mayB_iff.2 (by omega)]
    exact May_all n w
  · by_cases hk : k < 0 ∨ 9 < k
    · rw [show mayB k n = false from Bool.eq_false_iff.2 (fun e => by have := mayB_iff.1 e; omega)]
      exact May_none k n w hk
    · obtain ⟨lo, hi, h⟩ : ∃ lo hi, KindIn k lo hi := by
        unfold KindIn
        by_cases a : k = 0 ∨ k = 1
        · exact ⟨0, 0, by omega⟩
        · by_cases b : k = 2
          · exact ⟨0, 1, by omega⟩
          · by_cases c : k = 4
            · exact ⟨0, 12, by omega⟩
            · exact ⟨1, 2147483647, by omega⟩
      rw [show mayB k n = decide (lo ≤ n ∧ n ≤ hi) from bool_eq (mayB_iff.trans (by unfold KindIn at h; omega))]
      exact May_in k n lo hi w h
/-- val.Ref. -/
theorem Ref_any (k n : Int) (w : World) :
    Calls Try.prog 81 #[.agg #[.int .i64 k, .int .i64 n]] w fun e w' => e = .returned (.bool (refB k n)) ∧ Below w.heap.size w w' := by
  have C := Lib.hid (May_any k n)
  cases hm : mayB k n with
  | true =>
    rw [hm] at C
    by_cases hk : 5 ≤ k
    all_goals
      first | have hd := decide_eq_false hk | have hd := decide_eq_true hk
      first | rw [show refB k n = true from refB_iff.2 ⟨hm, hk⟩] | rw [show refB k n = false from false_of (fun e => hk (refB_iff.1 e).2)]
      clear hm hk
      go_enter Try.func81, Try.ntmps81
      go_wp2_with (go_at_call 105; refine (C.out _).mono ?_; rintro e w1 ⟨rfl, hb⟩; have hc0 := boxed hb (j := 0) rfl; have B := Lib.hid (below_box hb); clear hb)
      go_ret
      exact ⟨rfl, B.out⟩
  | false =>
    rw [hm] at C
    rw [show refB k n = false from false_of (fun e => by rw [(refB_iff.1 e).1] at hm; cases hm)]
    clear hm
    go_enter Try.func81, Try.ntmps81
    go_wp2_with (go_at_call 105; refine (C.out _).mono ?_; rintro e w1 ⟨rfl, hb⟩; have hc0 := boxed hb (j := 0) rfl; have B := Lib.hid (below_box hb); clear hb)
    go_ret
    exact ⟨rfl, B.out⟩
/-- val.Key. -/
theorem Key_any (k n : Int) (w : World) :
    Calls Try.prog 106 #[.agg #[.int .i64 k, .int .i64 n]] w fun e w' => e = .returned (.bool (keyB k n)) ∧ Below w.heap.size w w' := by
  have C := Lib.hid (May_any k n)
  cases hm : mayB k n with
  | true =>
    rw [hm] at C
    by_cases hk : 1 < k
    all_goals
      first | have hd := decide_eq_false hk | have hd := decide_eq_true hk
      first | rw [show keyB k n = true from keyB_iff.2 ⟨hm, hk⟩] | rw [show keyB k n = false from false_of (fun e => hk (keyB_iff.1 e).2)]
      clear hm hk
      go_enter Try.func106, Try.ntmps106
      go_wp2_with (go_at_call 105; refine (C.out _).mono ?_; rintro e w1 ⟨rfl, hb⟩; have hc0 := boxed hb (j := 0) rfl; have B := Lib.hid (below_box hb); clear hb)
      go_ret
      exact ⟨rfl, B.out⟩
  | false =>
    rw [hm] at C
    rw [show keyB k n = false from false_of (fun e => by rw [(keyB_iff.1 e).1] at hm; cases hm)]
    clear hm
    go_enter Try.func106, Try.ntmps106
    go_wp2_with (go_at_call 105; refine (C.out _).mono ?_; rintro e w1 ⟨rfl, hb⟩; have hc0 := boxed hb (j := 0) rfl; have B := Lib.hid (below_box hb); clear hb)
    go_ret
    exact ⟨rfl, B.out⟩
end Go.Proofs.Ytghnjmodnhnmfaa
