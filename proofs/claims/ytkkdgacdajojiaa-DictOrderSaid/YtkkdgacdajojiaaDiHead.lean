/- headed: do slots begin with a metatable and a length for which there are values? -/
import Derived.Test.YtkkdgacdajojiaaBase
import Derived.Test.YtkkdgacdajojiaaDiSmall
import Derived.Lib.QuietBelow
namespace Go.Proofs.Ytkkdgacdajojiaa
set_option maxRecDepth 20000
set_option maxRecDepth 20000
open Go.RowKit Go.Maps Go.Sort Go.BigFrame

theorem null_re (W : World) (d : Nat) (os : Array Obj) : Calls Try.prog 51 #[] (grow (redrawn W d) os) fun e w'' => e = .returned (.agg #[.int .i64 1, .int .i64 0]) ∧ ∃ p : Regrown, w'' = grow (redrawn W p.d) p.os := Calls.regrown_of (null_any _)
theorem may_re (k n : Int) {b : Bool} (h : mayB k n = b) (W : World) (d : Nat) (os : Array Obj) : Calls Try.prog 58 #[.agg #[.int .i64 k, .int .i64 n]] (grow (redrawn W d) os) fun e w'' => e = .returned (.bool b) ∧ ∃ p : Regrown, w'' = grow (redrawn W p.d) p.os := h ▸ Calls.regrown_of (May_any k n _)
set_option maxHeartbeats 2000000 in
theorem headedNilOk (w : World) (g off c n : Nat) (c2 : Int) (a0 : w.cell? ⟨g, off, none⟩ = some (iV 1)) (a1 : w.cell? ⟨g, off + 1, none⟩ = some (iV (0))) (a2 : w.cell? ⟨g, off + 2, none⟩ = some (iV 3)) (a3 : w.cell? ⟨g, off + 2 + 1, none⟩ = some (iV c2)) (hn : n ≤ 1073741824) (h2 : 2 ≤ n)  (hc : 0 ≤ c2) (hc2 : c2 ≤ (n : Int) - 2) :
    Calls Try.prog 79 #[.slice (some ⟨g, off, none⟩) n c] w fun e w' => e = .returned (.bool true) ∧ Below w.heap.size w w' := by
  have k0 := cell_regrown a0
  have k1 := cell_regrown a1
  have k2 := cell_regrown a2
  have k3 := cell_regrown a3
  have cN := null_re w
  have q3 := decide_eq_true hc
  have q4 := decide_eq_true hc2
  have q1 : (2 : Int) ≤ n := by omega
  have q2 : decide ((2 : Int) ≤ n) = true := decide_eq_true (by omega)
  have q6 : 0 < n := by omega
  have q7 : (1 : Int) < n := by omega
  have q8 : 1 < n := by omega
  have q9 : (0 : Int) < n := by omega
  have q5 : IntKind.i64.wrap ((n : Int) - 2) = (n : Int) - 2 := IntWalk.i64_in _ (by omega)
  go_enter Try.func79, Try.ntmps79
  go_wp2
  refine wp_region_quiet_below (by kernel_rfl) (by kernel_rfl) ?_
  repeat (go_big_quiet_step (exact cN _ _))
  refine wpQuiet_nil ?_
  intro w1 ⟨⟨dq, osq⟩, hw⟩
  have B : Hid (Below w.heap.size w w1) := by rw [hw]; exact below_regrown w dq osq
  clear hw
  go_wp2_with fail
  go_ret
  exact ⟨rfl, B.out⟩
set_option maxHeartbeats 2000000 in
theorem headedNilBig (w : World) (g off c n : Nat) (c2 : Int) (a0 : w.cell? ⟨g, off, none⟩ = some (iV 1)) (a1 : w.cell? ⟨g, off + 1, none⟩ = some (iV (0))) (a2 : w.cell? ⟨g, off + 2, none⟩ = some (iV 3)) (a3 : w.cell? ⟨g, off + 2 + 1, none⟩ = some (iV c2)) (hn : n ≤ 1073741824) (h2 : 2 ≤ n)  (hc : 0 ≤ c2) (hc2 : ¬ c2 ≤ (n : Int) - 2) :
    Calls Try.prog 79 #[.slice (some ⟨g, off, none⟩) n c] w fun e w' => e = .returned (.bool false) ∧ Below w.heap.size w w' := by
  have k0 := cell_regrown a0
  have k1 := cell_regrown a1
  have k2 := cell_regrown a2
  have k3 := cell_regrown a3
  have cN := null_re w
  have q3 := decide_eq_true hc
  have q4 := decide_eq_false hc2
  have q1 : (2 : Int) ≤ n := by omega
  have q2 : decide ((2 : Int) ≤ n) = true := decide_eq_true (by omega)
  have q6 : 0 < n := by omega
  have q7 : (1 : Int) < n := by omega
  have q8 : 1 < n := by omega
  have q9 : (0 : Int) < n := by omega
  have q5 : IntKind.i64.wrap ((n : Int) - 2) = (n : Int) - 2 := IntWalk.i64_in _ (by omega)
  go_enter Try.func79, Try.ntmps79
  go_wp2
  refine wp_region_quiet_below (by kernel_rfl) (by kernel_rfl) ?_
  repeat (go_big_quiet_step (exact cN _ _))
  refine wpQuiet_nil ?_
  intro w1 ⟨⟨dq, osq⟩, hw⟩
  have B : Hid (Below w.heap.size w w1) := by rw [hw]; exact below_regrown w dq osq
  clear hw
  go_wp2_with fail
  go_ret
  exact ⟨rfl, B.out⟩
set_option maxHeartbeats 2000000 in
theorem headedNilNeg (w : World) (g off c n : Nat) (c2 : Int) (a0 : w.cell? ⟨g, off, none⟩ = some (iV 1)) (a1 : w.cell? ⟨g, off + 1, none⟩ = some (iV (0))) (a2 : w.cell? ⟨g, off + 2, none⟩ = some (iV 3)) (a3 : w.cell? ⟨g, off + 2 + 1, none⟩ = some (iV c2)) (hn : n ≤ 1073741824) (h2 : 2 ≤ n)  (hc : ¬ 0 ≤ c2) :
    Calls Try.prog 79 #[.slice (some ⟨g, off, none⟩) n c] w fun e w' => e = .returned (.bool false) ∧ Below w.heap.size w w' := by
  have k0 := cell_regrown a0
  have k1 := cell_regrown a1
  have k2 := cell_regrown a2
  have k3 := cell_regrown a3
  have cN := null_re w
  have q3 := decide_eq_false hc
  have q1 : (2 : Int) ≤ n := by omega
  have q2 : decide ((2 : Int) ≤ n) = true := decide_eq_true (by omega)
  have q6 : 0 < n := by omega
  have q7 : (1 : Int) < n := by omega
  have q8 : 1 < n := by omega
  have q9 : (0 : Int) < n := by omega
  have q5 : IntKind.i64.wrap ((n : Int) - 2) = (n : Int) - 2 := IntWalk.i64_in _ (by omega)
  go_enter Try.func79, Try.ntmps79
  go_wp2
  refine wp_region_quiet_below (by kernel_rfl) (by kernel_rfl) ?_
  repeat (go_big_quiet_step (exact cN _ _))
  refine wpQuiet_nil ?_
  intro w1 ⟨⟨dq, osq⟩, hw⟩
  have B : Hid (Below w.heap.size w w1) := by rw [hw]; exact below_regrown w dq osq
  clear hw
  go_wp2_with fail
  go_ret
  exact ⟨rfl, B.out⟩
set_option maxHeartbeats 2000000 in
theorem headedNilKind (w : World) (g off c n : Nat) (c1 c2 : Int) (a0 : w.cell? ⟨g, off, none⟩ = some (iV 1)) (a1 : w.cell? ⟨g, off + 1, none⟩ = some (iV (0))) (a2 : w.cell? ⟨g, off + 2, none⟩ = some (iV c1)) (a3 : w.cell? ⟨g, off + 2 + 1, none⟩ = some (iV c2)) (hn : n ≤ 1073741824) (h2 : 2 ≤ n)  (hc : c1 ≠ 3) :
    Calls Try.prog 79 #[.slice (some ⟨g, off, none⟩) n c] w fun e w' => e = .returned (.bool false) ∧ Below w.heap.size w w' := by
  have k0 := cell_regrown a0
  have k1 := cell_regrown a1
  have k2 := cell_regrown a2
  have k3 := cell_regrown a3
  have cN := null_re w
  have q3 := not_eq hc
  have q1 : (2 : Int) ≤ n := by omega
  have q2 : decide ((2 : Int) ≤ n) = true := decide_eq_true (by omega)
  have q6 : 0 < n := by omega
  have q7 : (1 : Int) < n := by omega
  have q8 : 1 < n := by omega
  have q9 : (0 : Int) < n := by omega
  have q5 : IntKind.i64.wrap ((n : Int) - 2) = (n : Int) - 2 := IntWalk.i64_in _ (by omega)
  go_enter Try.func79, Try.ntmps79
  go_wp2
  refine wp_region_quiet_below (by kernel_rfl) (by kernel_rfl) ?_
  repeat (go_big_quiet_step (exact cN _ _))
  refine wpQuiet_nil ?_
  intro w1 ⟨⟨dq, osq⟩, hw⟩
  have B : Hid (Below w.heap.size w w1) := by rw [hw]; exact below_regrown w dq osq
  clear hw
  go_wp2_with fail
  go_ret
  exact ⟨rfl, B.out⟩
set_option maxHeartbeats 2000000 in
theorem headedTabOk (w : World) (g off c n : Nat) (m2 c2 : Int) (a0 : w.cell? ⟨g, off, none⟩ = some (iV 6)) (a1 : w.cell? ⟨g, off + 1, none⟩ = some (iV m2)) (a2 : w.cell? ⟨g, off + 2, none⟩ = some (iV 3)) (a3 : w.cell? ⟨g, off + 2 + 1, none⟩ = some (iV c2)) (hn : n ≤ 1073741824) (h2 : 2 ≤ n) (hm : mayB 6 m2 = true) (hc : 0 ≤ c2) (hc2 : c2 ≤ (n : Int) - 2) :
    Calls Try.prog 79 #[.slice (some ⟨g, off, none⟩) n c] w fun e w' => e = .returned (.bool true) ∧ Below w.heap.size w w' := by
  have k0 := cell_regrown a0
  have k1 := cell_regrown a1
  have k2 := cell_regrown a2
  have k3 := cell_regrown a3
  have cN := null_re w
  have cM := may_re 6 m2 hm w
  have q3 := decide_eq_true hc
  have q4 := decide_eq_true hc2
  have q1 : (2 : Int) ≤ n := by omega
  have q2 : decide ((2 : Int) ≤ n) = true := decide_eq_true (by omega)
  have q6 : 0 < n := by omega
  have q7 : (1 : Int) < n := by omega
  have q8 : 1 < n := by omega
  have q9 : (0 : Int) < n := by omega
  have q5 : IntKind.i64.wrap ((n : Int) - 2) = (n : Int) - 2 := IntWalk.i64_in _ (by omega)
  go_enter Try.func79, Try.ntmps79
  go_wp2
  refine wp_region_quiet_below (by kernel_rfl) (by kernel_rfl) ?_
  repeat (go_big_quiet_step (first | exact cN _ _ | exact cM _ _))
  refine wpQuiet_nil ?_
  intro w1 ⟨⟨dq, osq⟩, hw⟩
  have B : Hid (Below w.heap.size w w1) := by rw [hw]; exact below_regrown w dq osq
  clear hw
  go_wp2_with fail
  go_ret
  exact ⟨rfl, B.out⟩
set_option maxHeartbeats 2000000 in
theorem headedTabBig (w : World) (g off c n : Nat) (m2 c2 : Int) (a0 : w.cell? ⟨g, off, none⟩ = some (iV 6)) (a1 : w.cell? ⟨g, off + 1, none⟩ = some (iV m2)) (a2 : w.cell? ⟨g, off + 2, none⟩ = some (iV 3)) (a3 : w.cell? ⟨g, off + 2 + 1, none⟩ = some (iV c2)) (hn : n ≤ 1073741824) (h2 : 2 ≤ n) (hm : mayB 6 m2 = true) (hc : 0 ≤ c2) (hc2 : ¬ c2 ≤ (n : Int) - 2) :
    Calls Try.prog 79 #[.slice (some ⟨g, off, none⟩) n c] w fun e w' => e = .returned (.bool false) ∧ Below w.heap.size w w' := by
  have k0 := cell_regrown a0
  have k1 := cell_regrown a1
  have k2 := cell_regrown a2
  have k3 := cell_regrown a3
  have cN := null_re w
  have cM := may_re 6 m2 hm w
  have q3 := decide_eq_true hc
  have q4 := decide_eq_false hc2
  have q1 : (2 : Int) ≤ n := by omega
  have q2 : decide ((2 : Int) ≤ n) = true := decide_eq_true (by omega)
  have q6 : 0 < n := by omega
  have q7 : (1 : Int) < n := by omega
  have q8 : 1 < n := by omega
  have q9 : (0 : Int) < n := by omega
  have q5 : IntKind.i64.wrap ((n : Int) - 2) = (n : Int) - 2 := IntWalk.i64_in _ (by omega)
  go_enter Try.func79, Try.ntmps79
  go_wp2
  refine wp_region_quiet_below (by kernel_rfl) (by kernel_rfl) ?_
  repeat (go_big_quiet_step (first | exact cN _ _ | exact cM _ _))
  refine wpQuiet_nil ?_
  intro w1 ⟨⟨dq, osq⟩, hw⟩
  have B : Hid (Below w.heap.size w w1) := by rw [hw]; exact below_regrown w dq osq
  clear hw
  go_wp2_with fail
  go_ret
  exact ⟨rfl, B.out⟩
set_option maxHeartbeats 2000000 in
theorem headedTabNeg (w : World) (g off c n : Nat) (m2 c2 : Int) (a0 : w.cell? ⟨g, off, none⟩ = some (iV 6)) (a1 : w.cell? ⟨g, off + 1, none⟩ = some (iV m2)) (a2 : w.cell? ⟨g, off + 2, none⟩ = some (iV 3)) (a3 : w.cell? ⟨g, off + 2 + 1, none⟩ = some (iV c2)) (hn : n ≤ 1073741824) (h2 : 2 ≤ n) (hm : mayB 6 m2 = true) (hc : ¬ 0 ≤ c2) :
    Calls Try.prog 79 #[.slice (some ⟨g, off, none⟩) n c] w fun e w' => e = .returned (.bool false) ∧ Below w.heap.size w w' := by
  have k0 := cell_regrown a0
  have k1 := cell_regrown a1
  have k2 := cell_regrown a2
  have k3 := cell_regrown a3
  have cN := null_re w
  have cM := may_re 6 m2 hm w
  have q3 := decide_eq_false hc
  have q1 : (2 : Int) ≤ n := by omega
  have q2 : decide ((2 : Int) ≤ n) = true := decide_eq_true (by omega)
  have q6 : 0 < n := by omega
  have q7 : (1 : Int) < n := by omega
  have q8 : 1 < n := by omega
  have q9 : (0 : Int) < n := by omega
  have q5 : IntKind.i64.wrap ((n : Int) - 2) = (n : Int) - 2 := IntWalk.i64_in _ (by omega)
  go_enter Try.func79, Try.ntmps79
  go_wp2
  refine wp_region_quiet_below (by kernel_rfl) (by kernel_rfl) ?_
  repeat (go_big_quiet_step (first | exact cN _ _ | exact cM _ _))
  refine wpQuiet_nil ?_
  intro w1 ⟨⟨dq, osq⟩, hw⟩
  have B : Hid (Below w.heap.size w w1) := by rw [hw]; exact below_regrown w dq osq
  clear hw
  go_wp2_with fail
  go_ret
  exact ⟨rfl, B.out⟩
set_option maxHeartbeats 2000000 in
theorem headedTabKind (w : World) (g off c n : Nat) (m2 c1 c2 : Int) (a0 : w.cell? ⟨g, off, none⟩ = some (iV 6)) (a1 : w.cell? ⟨g, off + 1, none⟩ = some (iV m2)) (a2 : w.cell? ⟨g, off + 2, none⟩ = some (iV c1)) (a3 : w.cell? ⟨g, off + 2 + 1, none⟩ = some (iV c2)) (hn : n ≤ 1073741824) (h2 : 2 ≤ n) (hm : mayB 6 m2 = true) (hc : c1 ≠ 3) :
    Calls Try.prog 79 #[.slice (some ⟨g, off, none⟩) n c] w fun e w' => e = .returned (.bool false) ∧ Below w.heap.size w w' := by
  have k0 := cell_regrown a0
  have k1 := cell_regrown a1
  have k2 := cell_regrown a2
  have k3 := cell_regrown a3
  have cN := null_re w
  have cM := may_re 6 m2 hm w
  have q3 := not_eq hc
  have q1 : (2 : Int) ≤ n := by omega
  have q2 : decide ((2 : Int) ≤ n) = true := decide_eq_true (by omega)
  have q6 : 0 < n := by omega
  have q7 : (1 : Int) < n := by omega
  have q8 : 1 < n := by omega
  have q9 : (0 : Int) < n := by omega
  have q5 : IntKind.i64.wrap ((n : Int) - 2) = (n : Int) - 2 := IntWalk.i64_in _ (by omega)
  go_enter Try.func79, Try.ntmps79
  go_wp2
  refine wp_region_quiet_below (by kernel_rfl) (by kernel_rfl) ?_
  repeat (go_big_quiet_step (first | exact cN _ _ | exact cM _ _))
  refine wpQuiet_nil ?_
  intro w1 ⟨⟨dq, osq⟩, hw⟩
  have B : Hid (Below w.heap.size w w1) := by rw [hw]; exact below_regrown w dq osq
  clear hw
  go_wp2_with fail
  go_ret
  exact ⟨rfl, B.out⟩
set_option maxHeartbeats 2000000 in
theorem headedBadTab (w : World) (g off c n : Nat) (m2 c1 c2 : Int) (a0 : w.cell? ⟨g, off, none⟩ = some (iV 6)) (a1 : w.cell? ⟨g, off + 1, none⟩ = some (iV m2)) (_ : w.cell? ⟨g, off + 2, none⟩ = some (iV c1)) (_ : w.cell? ⟨g, off + 2 + 1, none⟩ = some (iV c2)) (hn : n ≤ 1073741824) (h2 : 2 ≤ n) (hm : mayB 6 m2 = false)  :
    Calls Try.prog 79 #[.slice (some ⟨g, off, none⟩) n c] w fun e w' => e = .returned (.bool false) ∧ Below w.heap.size w w' := by
  have k0 := cell_regrown a0
  have k1 := cell_regrown a1
  have cN := null_re w
  have cM := may_re 6 m2 hm w
  have q1 : (2 : Int) ≤ n := by omega
  have q2 : decide ((2 : Int) ≤ n) = true := decide_eq_true (by omega)
  have q6 : 0 < n := by omega
  have q7 : (1 : Int) < n := by omega
  have q8 : 1 < n := by omega
  have q9 : (0 : Int) < n := by omega
  have q5 : IntKind.i64.wrap ((n : Int) - 2) = (n : Int) - 2 := IntWalk.i64_in _ (by omega)
  go_enter Try.func79, Try.ntmps79
  go_wp2
  refine wp_region_quiet_below (by kernel_rfl) (by kernel_rfl) ?_
  repeat (go_big_quiet_step (first | exact cN _ _ | exact cM _ _))
  refine wpQuiet_nil ?_
  intro w1 ⟨⟨dq, osq⟩, hw⟩
  have B : Hid (Below w.heap.size w w1) := by rw [hw]; exact below_regrown w dq osq
  clear hw
  go_wp2_with fail
  go_ret
  exact ⟨rfl, B.out⟩
set_option maxHeartbeats 2000000 in
theorem headedBadNil (w : World) (g off c n : Nat) (m2 c1 c2 : Int) (a0 : w.cell? ⟨g, off, none⟩ = some (iV 1)) (a1 : w.cell? ⟨g, off + 1, none⟩ = some (iV m2)) (_ : w.cell? ⟨g, off + 2, none⟩ = some (iV c1)) (_ : w.cell? ⟨g, off + 2 + 1, none⟩ = some (iV c2)) (hn : n ≤ 1073741824) (h2 : 2 ≤ n) (hm : m2 ≠ 0)  :
    Calls Try.prog 79 #[.slice (some ⟨g, off, none⟩) n c] w fun e w' => e = .returned (.bool false) ∧ Below w.heap.size w w' := by
  have k0 := cell_regrown a0
  have k1 := cell_regrown a1
  have cN := null_re w
  have e0 := not_eq hm
  have q1 : (2 : Int) ≤ n := by omega
  have q2 : decide ((2 : Int) ≤ n) = true := decide_eq_true (by omega)
  have q6 : 0 < n := by omega
  have q7 : (1 : Int) < n := by omega
  have q8 : 1 < n := by omega
  have q9 : (0 : Int) < n := by omega
  have q5 : IntKind.i64.wrap ((n : Int) - 2) = (n : Int) - 2 := IntWalk.i64_in _ (by omega)
  go_enter Try.func79, Try.ntmps79
  go_wp2
  refine wp_region_quiet_below (by kernel_rfl) (by kernel_rfl) ?_
  repeat (go_big_quiet_step (exact cN _ _))
  refine wpQuiet_nil ?_
  intro w1 ⟨⟨dq, osq⟩, hw⟩
  have B : Hid (Below w.heap.size w w1) := by rw [hw]; exact below_regrown w dq osq
  clear hw
  go_wp2_with fail
  go_ret
  exact ⟨rfl, B.out⟩
set_option maxHeartbeats 2000000 in
theorem headedOther (w : World) (g off c n : Nat) (m1 m2 c1 c2 : Int) (a0 : w.cell? ⟨g, off, none⟩ = some (iV m1)) (a1 : w.cell? ⟨g, off + 1, none⟩ = some (iV m2)) (_ : w.cell? ⟨g, off + 2, none⟩ = some (iV c1)) (_ : w.cell? ⟨g, off + 2 + 1, none⟩ = some (iV c2)) (hn : n ≤ 1073741824) (h2 : 2 ≤ n) (hm1 : m1 ≠ 1) (hm6 : m1 ≠ 6)  :
    Calls Try.prog 79 #[.slice (some ⟨g, off, none⟩) n c] w fun e w' => e = .returned (.bool false) ∧ Below w.heap.size w w' := by
  have k0 := cell_regrown a0
  have k1 := cell_regrown a1
  have cN := null_re w
  have e0 := not_eq hm1
  have e1 := not_eq hm6
  have q1 : (2 : Int) ≤ n := by omega
  have q2 : decide ((2 : Int) ≤ n) = true := decide_eq_true (by omega)
  have q6 : 0 < n := by omega
  have q7 : (1 : Int) < n := by omega
  have q8 : 1 < n := by omega
  have q9 : (0 : Int) < n := by omega
  have q5 : IntKind.i64.wrap ((n : Int) - 2) = (n : Int) - 2 := IntWalk.i64_in _ (by omega)
  go_enter Try.func79, Try.ntmps79
  go_wp2
  refine wp_region_quiet_below (by kernel_rfl) (by kernel_rfl) ?_
  repeat (go_big_quiet_step (exact cN _ _))
  refine wpQuiet_nil ?_
  intro w1 ⟨⟨dq, osq⟩, hw⟩
  have B : Hid (Below w.heap.size w w1) := by rw [hw]; exact below_regrown w dq osq
  clear hw
  go_wp2_with fail
  go_ret
  exact ⟨rfl, B.out⟩
theorem headed_short (w : World) (A : Option Addr) (c n : Nat) (h : n < 2) : Calls Try.prog 79 #[.slice A n c] w fun e w' => e = .returned (.bool false) ∧ Below w.heap.size w w' := by
  have h2 : n = 0 ∨ n = 1 := by omega
  clear h
  rcases h2 with rfl | rfl
  all_goals
    go_enter Try.func79, Try.ntmps79
    go_wp2
    go_quiet (fail)
    go_wp2_with fail
    go_ret
    exact ⟨rfl, below_drewN (Below.refl _ _) _⟩
/-- headed. -/
theorem headed_any {w : World} {v : Value} {l : List VV} (h : SlV w v l) (hl : l.length ≤ 1073741824) : Calls Try.prog 79 #[v] w fun e w' => e = .returned (.bool (headOk l)) ∧ Below w.heap.size w w' := by
  rcases h with ⟨rfl, rfl⟩ | ⟨g, off, c, rfl, h⟩
  · exact headed_short w none 0 0 (by omega)
  · match l, h, hl with
    | [], _, _ => exact headed_short w _ c _ (by simp)
    | [_], _, _ => exact headed_short w _ c _ (by simp)
    | (m1, m2) :: (c1, c2) :: r, h, hl =>
      have h0 := h.at (i := 0) (p := (m1, m2)) rfl
      have h1 := h.at (i := 1) (p := (c1, c2)) rfl
      simp only [Nat.zero_mul, Nat.add_zero, Nat.one_mul] at h0 h1
      obtain ⟨a0, a1⟩ := h0
      obtain ⟨a2, a3⟩ := h1
      have h2 : 2 ≤ ((m1, m2) :: (c1, c2) :: r).length := by simp
      have bad : metaOk (m1, m2) = false → headOk ((m1, m2) :: (c1, c2) :: r) = false := fun e => by simp [headOk, e]
      have good : metaOk (m1, m2) = true → headOk ((m1, m2) :: (c1, c2) :: r) = decide (c1 = 3 ∧ 0 ≤ c2 ∧ c2 ≤ ((((m1, m2) :: (c1, c2) :: r).length : Nat) : Int) - 2) := fun e => by
        simp only [headOk, e, Bool.true_and, List.length_cons]
        congr 1
        simp only [eq_iff_iff, and_congr_right_iff]
        intro _ _
        omega
      generalize ((m1, m2) :: (c1, c2) :: r).length = n at *
      have fin : ∀ (b : Bool), (Calls Try.prog 79 #[.slice (some ⟨g, off, none⟩) n c] w fun e w' => e = .returned (.bool b) ∧ Below w.heap.size w w') → headOk ((m1, m2) :: (c1, c2) :: r) = b → Calls Try.prog 79 #[.slice (some ⟨g, off, none⟩) n c] w fun e w' => e = .returned (.bool (headOk ((m1, m2) :: (c1, c2) :: r))) ∧ Below w.heap.size w w' := fun b hc e => by rw [e]; exact hc
      by_cases k1 : m1 = 1
      · subst k1
        by_cases k2 : m2 = 0
        · subst k2
          have g0 := good (by decide)
          by_cases x1 : c1 = 3
          · subst x1
            by_cases x2 : 0 ≤ c2
            · by_cases x3 : c2 ≤ (n : Int) - 2
              · exact fin _ (headedNilOk w g off c n c2 a0 a1 a2 a3 hl h2 x2 x3) (by rw [g0]; simp [x2, x3])
              · exact fin _ (headedNilBig w g off c n c2 a0 a1 a2 a3 hl h2 x2 x3) (by rw [g0]; simp [x2, x3])
            · exact fin _ (headedNilNeg w g off c n c2 a0 a1 a2 a3 hl h2 x2) (by rw [g0]; simp [x2])
          · exact fin _ (headedNilKind w g off c n c1 c2 a0 a1 a2 a3 hl h2 x1) (by rw [g0]; simp [x1])
        · exact fin _ (headedBadNil w g off c n m2 c1 c2 a0 a1 a2 a3 hl h2 k2) (bad (by simp [metaOk, nilP, k2]))
      · by_cases k6 : m1 = 6
        · subst k6
          cases hm : mayB 6 m2 with
          | true =>
            have g0 := good (metaOk_iff.2 (.inr ⟨rfl, hm⟩))
            by_cases x1 : c1 = 3
            · subst x1
              by_cases x2 : 0 ≤ c2
              · by_cases x3 : c2 ≤ (n : Int) - 2
                · exact fin _ (headedTabOk w g off c n m2 c2 a0 a1 a2 a3 hl h2 hm x2 x3) (by rw [g0]; simp [x2, x3])
                · exact fin _ (headedTabBig w g off c n m2 c2 a0 a1 a2 a3 hl h2 hm x2 x3) (by rw [g0]; simp [x2, x3])
              · exact fin _ (headedTabNeg w g off c n m2 c2 a0 a1 a2 a3 hl h2 hm x2) (by rw [g0]; simp [x2])
            · exact fin _ (headedTabKind w g off c n m2 c1 c2 a0 a1 a2 a3 hl h2 hm x1) (by rw [g0]; simp [x1])
          | false => exact fin _ (headedBadTab w g off c n m2 c1 c2 a0 a1 a2 a3 hl h2 hm) (bad (false_of fun e => by
              rcases metaOk_iff.1 e with e | ⟨_, e⟩
              · simp [nilP] at e
              · unfold mayP at e; rw [hm] at e; cases e))
        · exact fin _ (headedOther w g off c n m1 m2 c1 c2 a0 a1 a2 a3 hl h2 k1 k6) (bad (by simp [metaOk, nilP, k1, k6]))
end Go.Proofs.Ytkkdgacdajojiaa
