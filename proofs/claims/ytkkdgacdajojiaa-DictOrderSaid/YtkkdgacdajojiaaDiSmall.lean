/- The small functions of a table: null, number, length, listed, after; the comparison of two values. -/
import Derived.Test.YtkkdgacdajojiaaBase
import Derived.Test.YtkkdgacdajojiaaDiState
import Derived.Test.YtkkdgacdajojiaaValMay
import Derived.Deep.RegionHeld3
import Derived.Deep.QuietTactic
import Derived.BigQuiet
namespace Go.Proofs.Ytkkdgacdajojiaa
set_option maxRecDepth 20000
set_option maxRecDepth 20000
open Go.RowKit Go.Maps

theorem eql_val (a b c d : Int) (w : World) : (binOp .eql 24 (.agg #[.int .i64 a, .int .i64 b]) (.agg #[.int .i64 c, .int .i64 d])).run Try.prog w = .ok (.bool (decide ((a, b) = (c, d)))) w := by
  by_cases h1 : a = c <;> by_cases h2 : b = d <;> simp [go_sem, h1, h2, Try.underlying24, Try.underlying3, Try.underlying2]
theorem null_any (w : World) : Calls Try.prog 51 #[] w fun e w' => e = .returned (.agg #[.int .i64 1, .int .i64 0]) ∧ Below w.heap.size w w' := by
  go_enter Try.func51, Try.ntmps51
  go_wp2
  refine bodyPost_ret (v := .agg #[.int .i64 1, .int .i64 0]) (by simp [results, Try.results51, go_sem]) rfl ⟨rfl, ?_⟩
  exact (Below.refl _ _).alloc (Nat.le_refl _) _
theorem number_any (n : Int) (w : World) : Calls Try.prog 83 #[.int .i64 n] w fun e w' => e = .returned (.agg #[.int .i64 3, .int .i64 n]) ∧ Below w.heap.size w w' := by
  go_enter Try.func83, Try.ntmps83
  go_wp2
  refine bodyPost_ret (v := .agg #[.int .i64 3, .int .i64 n]) (by simp [results, Try.results83, go_sem]) rfl ⟨rfl, ?_⟩
  exact (Below.refl _ _).alloc (Nat.le_refl _) _
/-- What the methods that only look read of a table's struct. -/
structure LookAt (w : World) (tp n : Nat) : Prop where
  arr : ∃ A c, w.cell? ⟨tp, 2, none⟩ = some (.slice A n c)
  lt : tp < w.heap.size
  small : n ≤ 1073741824
theorem LookAt.below {w w' : World} {tp n : Nat} (h : LookAt w tp n) (hb : Below w.heap.size w w') : LookAt w' tp n := by
  obtain ⟨⟨A, c, h1⟩, h2, h3⟩ := h
  exact ⟨⟨A, c, (hb.cell (p := ⟨tp, 2, none⟩) h2).trans h1⟩, Nat.lt_of_lt_of_le h2 hb.size, h3⟩
theorem length_any {w : World} {tp n : Nat} (h : LookAt w tp n) : Calls Try.prog 50 #[bV tp] w fun e w' => e = .returned (.int .i64 (n : Int)) ∧ w' = w := by
  obtain ⟨⟨A, c, c2⟩, _, _⟩ := h
  go_enter Try.func50, Try.ntmps50
  go_wp2
  go_ret
  exact ⟨rfl, rfl⟩
theorem after_any {w : World} {tp n : Nat} (h : LookAt w tp n) : Calls Try.prog 88 #[bV tp] w fun e w' => e = .returned (.agg #[.int .i64 3, .int .i64 ((n : Int) + 1)]) ∧ Below w.heap.size w w' := by
  have C := Lib.hid h
  have hs := h.small
  clear h
  go_enter Try.func88, Try.ntmps88
  go_wp2_with (first
    | (go_at_call 50; refine (length_any (C.out.below ((Below.refl _ _).alloc (Nat.le_refl _) _))).mono ?_; rintro e w' ⟨rfl, hq⟩; obtain rfl := hq.symm)
    | (go_at_call 83; refine (number_any _ _).mono ?_; rintro e w1 ⟨rfl, hb⟩; have B := Lib.hid (below_box hb); have fz : w1.frozen? ⟨w.heap.size, 0, none⟩ = false := (hb.frozen (p := ⟨w.heap.size, 0, none⟩) (by simp)).trans (by simp [go_sem]); have f2 : w1.frozen? ⟨w.heap.size, 1, none⟩ = false := (hb.frozen (p := ⟨w.heap.size, 1, none⟩) (by simp)).trans (by simp [go_sem]); have q0 := boxed hb (j := 0) rfl; have q1 := boxed hb (j := 1) rfl; have hz : w.heap.size < w1.heap.size := (by have := hb.size; simp at this; omega); clear hb))
  refine bodyPost_ret (v := .agg #[.int .i64 3, .int .i64 ((n : Int) + 1)]) (by simp [results, Try.results88, go_sem, q0, q1]) rfl ⟨rfl, ?_⟩
  exact (B.out.setCell (by simp) _).setCell (by simp) _
set_option maxHeartbeats 1000000 in
/-- listed: is k one of the array's keys? -/
theorem listed_any {w : World} {tp n : Nat} (h : LookAt w tp n) (k : VV) : Calls Try.prog 82 #[bV tp, vV k] w fun e w' => e = .returned (.bool (listedB n k)) ∧ Below w.heap.size w w' := by
  have L := Lib.hid (@listedB_iff n k)
  obtain ⟨a, b⟩ := k
  have hs := h.small
  have C : Hid (∀ (o : Obj) (j : Nat), LookAt ((w.alloc o).drewN j) tp n) := fun o j => h.below (below_drewN ((Below.refl _ _).alloc (Nat.le_refl _) _) j)
  clear h
  by_cases h1 : a = 3
  · subst h1
    by_cases h2 : 1 ≤ b
    · by_cases h3 : b ≤ (n : Int)
      all_goals
        first
        | rw [show listedB n (3, b) = true from L.out.2 ⟨rfl, h2, h3⟩]
        | rw [show listedB n (3, b) = false from false_of (fun e => h3 (L.out.1 e).2.2)]
        have d2 := decide_eq_true h2
        first | have d3 := decide_eq_false h3 | have d3 := decide_eq_true h3
        clear L
        go_enter Try.func82, Try.ntmps82
        go_wp2
        go_quiet ((go_at_call 50; exact Calls.quiet_of_same (length_any (C.out _ _))))
        go_wp2_with fail
        go_ret
        exact ⟨rfl, below_drewN ((Below.refl _ _).alloc (Nat.le_refl _) _) _⟩
    · rw [show listedB n (3, b) = false from false_of (fun e => h2 (L.out.1 e).2.1)]
      have d2 := decide_eq_false h2
      clear L
      go_enter Try.func82, Try.ntmps82
      go_wp2
      go_quiet (fail)
      go_wp2_with fail
      go_ret
      exact ⟨rfl, below_drewN ((Below.refl _ _).alloc (Nat.le_refl _) _) _⟩
  · rw [show listedB n (a, b) = false from false_of (fun e => h1 (L.out.1 e).1)]
    have d1 := not_eq h1
    clear L h1
    go_enter Try.func82, Try.ntmps82
    go_wp2
    go_quiet (fail)
    go_wp2_with fail
    go_ret
    exact ⟨rfl, below_drewN ((Below.refl _ _).alloc (Nat.le_refl _) _) _⟩
end Go.Proofs.Ytkkdgacdajojiaa
