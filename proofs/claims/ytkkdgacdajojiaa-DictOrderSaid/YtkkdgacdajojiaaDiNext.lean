/- behind, keyFrom, dict.Next. -/
import Derived.Test.YtkkdgacdajojiaaBase
import Derived.Test.YtkkdgacdajojiaaDiGet
namespace Go.Proofs.Ytkkdgacdajojiaa
set_option maxRecDepth 20000
set_option maxRecDepth 20000
open Go.RowKit Go.Maps Go.Sort Go.BigFrame

theorem not_nilP {a b : Int} (h : (a, b) ≠ nilP) : a ≠ 1 ∨ b ≠ 0 := by
  by_cases h1 : a = 1
  · by_cases h2 : b = 0
    · exact absurd (by rw [h1, h2]; rfl) h
    · exact .inr h2
  · exact .inl h1
set_option maxHeartbeats 2000000 in
theorem behind_nil {w : World} {tp : Nat} : Calls Try.prog 63 #[bV tp, .agg #[.int .i64 1, .int .i64 0]] w fun e w' => e = .returned (.tuple #[.int .i64 0, .bool true]) ∧ Below w.heap.size w w' := by
  have x0 : (w.alloc (.cells #[.int .i64 1, .int .i64 0] 24)).cell? ⟨w.heap.size, 0, none⟩ = some (.int .i64 1) := by simp [go_sem]
  have x1 : (w.alloc (.cells #[.int .i64 1, .int .i64 0] 24)).cell? ⟨w.heap.size, 1, none⟩ = some (.int .i64 0) := by simp [go_sem]
  have y0 := fun d os => cell_regrown x0 d os
  have y1 := fun d os => cell_regrown x1 d os
  have cN := null_re (w.alloc (.cells #[.int .i64 1, .int .i64 0] 24))
  clear x0 x1
  go_enter Try.func63, Try.ntmps63
  go_wp2_with fail
  refine wp_region_quiet_below (by kernel_rfl) (by kernel_rfl) ?_
  repeat (go_big_quiet_step (with_reducible exact cN _ _))
  refine wpQuiet_nil ?_
  intro w3 ⟨⟨dq, osq⟩, hw3⟩
  have B3 : Hid (Below w.heap.size w w3) := by rw [hw3]; exact ((Below.refl _ _).alloc (Nat.le_refl _) _).trans ((below_regrown _ dq osq).mono (by simp))
  clear hw3
  go_wp2_with fail
  go_ret2
  exact ⟨rfl, B3.out⟩
set_option maxHeartbeats 2000000 in
theorem behind_listed {w : World} {tp ga oa ca gp op cp mb N : Nat} {t : Tab} (h : TabAt w tp ga oa ca gp op cp mb t N) {b : Int} (hk : listedB t.arr.length (3, b) = true) :
    Calls Try.prog 63 #[bV tp, .agg #[.int .i64 3, .int .i64 b]] w fun e w' => e = .returned (.tuple #[.int .i64 b, .bool true]) ∧ Below w.heap.size w w' := by
  have CL : Hid (∀ W, Below w.heap.size w W → Calls Try.prog 82 #[bV tp, .agg #[.int .i64 3, .int .i64 b]] W fun e w' => e = .returned (.bool true) ∧ Below W.heap.size W w') := fun W hb => listed_ok (h.below hb).look (3, b) hk
  have x0 : (w.alloc (.cells #[.int .i64 3, .int .i64 b] 24)).cell? ⟨w.heap.size, 0, none⟩ = some (.int .i64 3) := by simp [go_sem]
  have x1 : (w.alloc (.cells #[.int .i64 3, .int .i64 b] 24)).cell? ⟨w.heap.size, 1, none⟩ = some (.int .i64 b) := by simp [go_sem]
  have y0 := fun d os => cell_regrown x0 d os
  have y1 := fun d os => cell_regrown x1 d os
  have cN := null_re (w.alloc (.cells #[.int .i64 3, .int .i64 b] 24))
  have K1 : Hid (∀ W, Below (w.alloc (.cells #[.int .i64 3, .int .i64 b] 24)).heap.size (w.alloc (.cells #[.int .i64 3, .int .i64 b] 24)) W → W.heap[w.heap.size]? = some (.cells #[.int .i64 3, .int .i64 b] 24 (0, 0)) ∧ Below w.heap.size w W) := fun W hb => ⟨(hb.block _ (by simp)).trans (MapKept.heap_alloc w _).1, ((Below.refl _ _).alloc (Nat.le_refl _) _).trans (hb.mono (by simp))⟩
  clear x0 x1
  clear h hk
  go_enter Try.func63, Try.ntmps63
  go_wp2_with fail
  refine wp_region_quiet_below (by kernel_rfl) (by kernel_rfl) ?_
  repeat (go_big_quiet_step (with_reducible exact cN _ _))
  refine wpQuiet_nil ?_
  intro w3 ⟨⟨dq, osq⟩, hw3⟩
  have K3 := Lib.hid (K1.out w3 (by rw [hw3]; exact below_regrown _ dq osq))
  clear hw3 y0 y1 cN K1
  obtain ⟨z0, z1, -, -⟩ := cells2 K3.out.1
  go_wp2_with (go_at_call 82; refine (CL.out _ K3.out.2).mono ?_; rintro e w4 ⟨rfl, hb4⟩; have B4 := Lib.hid hb4; have kk := (hb4.block _ (mem_block_lt K3.out.1)).trans K3.out.1; obtain ⟨z2, z3, -, -⟩ := cells2 kk; clear hb4 kk)
  go_ret2
  exact ⟨rfl, K3.out.2.trans (B4.out.mono K3.out.2.size)⟩
set_option maxHeartbeats 2000000 in
theorem behind_someA {w : World} {tp ga oa ca gp op cp mb N : Nat} {t : Tab} (h : TabAt w tp ga oa ca gp op cp mb t N) {a b : Int} (hw : wfP (a, b)) (hk : listedB t.arr.length (a, b) = false) {i : Nat} (hi : idxQ t.prs (a, b) = some i) (hz : a ≠ 1) :
    Calls Try.prog 63 #[bV tp, .agg #[.int .i64 a, .int .i64 b]] w fun e w' => e = .returned (.tuple #[.int .i64 ((t.arr.length + 2 * i + 2 : Nat) : Int), .bool true]) ∧ Below w.heap.size w w' := by
  have z9 := not_eq hz
  have CL : Hid (∀ W, Below w.heap.size w W → Calls Try.prog 82 #[bV tp, .agg #[.int .i64 a, .int .i64 b]] W fun e w' => e = .returned (.bool false) ∧ Below W.heap.size W w') := fun W hb => listed_ok (h.below hb).look (a, b) hk
  obtain ⟨u, hu⟩ : ∃ u, u = 2 * i := ⟨_, rfl⟩
  have LK : Hid (∀ W, Below w.heap.size w W → (Instr.lookup 72 (.map (some mb)) (.agg #[.int .i64 a, .int .i64 b]) true).run Try.prog W = .ok (.tuple #[.int .i64 (u : Int), .bool true]) W) := fun W hb => by
    have := (h.below hb).map.run_look hw
    rw [hi] at this; rw [hu]; exact this
  have hil : u + 1 < 2 * t.prs.length := by obtain ⟨x, hx⟩ := idxQ_some hi; have := (List.getElem?_eq_some_iff.1 hx).1; omega
  have hsm := h.small
  obtain ⟨n, hn⟩ : ∃ n, n = t.arr.length := ⟨_, rfl⟩
  have q1 : IntKind.i64.wrap ((n : Int) + (u : Int)) = (n : Int) + (u : Int) := IntWalk.i64_in _ (by omega)
  have q2 : IntKind.i64.wrap ((n : Int) + (u : Int) + 2) = (n : Int) + (u : Int) + 2 := IntWalk.i64_in _ (by omega)
  rw [← hn, ← hu, show ((n + u + 2 : Nat) : Int) = (n : Int) + (u : Int) + 2 by omega]
  have x0 : (w.alloc (.cells #[.int .i64 a, .int .i64 b] 24)).cell? ⟨w.heap.size, 0, none⟩ = some (.int .i64 a) := by simp [go_sem]
  have x1 : (w.alloc (.cells #[.int .i64 a, .int .i64 b] 24)).cell? ⟨w.heap.size, 1, none⟩ = some (.int .i64 b) := by simp [go_sem]
  have y0 := fun d os => cell_regrown x0 d os
  have y1 := fun d os => cell_regrown x1 d os
  have cN := null_re (w.alloc (.cells #[.int .i64 a, .int .i64 b] 24))
  have K1 : Hid (∀ W, Below (w.alloc (.cells #[.int .i64 a, .int .i64 b] 24)).heap.size (w.alloc (.cells #[.int .i64 a, .int .i64 b] 24)) W → W.heap[w.heap.size]? = some (.cells #[.int .i64 a, .int .i64 b] 24 (0, 0)) ∧ Below w.heap.size w W) := fun W hb => ⟨(hb.block _ (by simp)).trans (MapKept.heap_alloc w _).1, ((Below.refl _ _).alloc (Nat.le_refl _) _).trans (hb.mono (by simp))⟩
  clear x0 x1
  have H : Hid (∀ W, Below w.heap.size w W → TabAt W tp ga oa ca gp op cp mb t N) := fun W hb => h.below hb
  have HN := Lib.hid hn
  clear h hk hw hi hn hz hu
  go_enter Try.func63, Try.ntmps63
  go_wp2_with fail
  refine wp_region_quiet_below (by kernel_rfl) (by kernel_rfl) ?_
  repeat (go_big_quiet_step (with_reducible exact cN _ _))
  refine wpQuiet_nil ?_
  intro w3 ⟨⟨dq, osq⟩, hw3⟩
  have K3 := Lib.hid (K1.out w3 (by rw [hw3]; exact below_regrown _ dq osq))
  clear hw3 y0 y1 cN K1
  obtain ⟨z0, z1, -, -⟩ := cells2 K3.out.1
  go_upto_region 5 with (go_at_call 82; refine (CL.out _ K3.out.2).mono ?_; rintro e w4 ⟨rfl, hb4⟩; have B4 := Lib.hid hb4; have kk := (hb4.block _ (mem_block_lt K3.out.1)).trans K3.out.1; obtain ⟨z2, z3, -, -⟩ := cells2 kk; clear hb4 kk)
  have B5 : Hid (Below w.heap.size w w4) := K3.out.2.trans (B4.out.mono K3.out.2.size)
  obtain ⟨-, -, c2, -, c4⟩ := (H.out _ B5.out).cells
  rw [← HN.out] at c2
  have LL := fun j => LK.out (w4.drewN j) (below_drewN B5.out j)
  go_wp2_with fail
  go_quiet (fail)
  go_wp2_with fail
  go_ret2
  exact ⟨rfl, below_drewN B5.out _⟩
set_option maxHeartbeats 2000000 in
theorem behind_someB {w : World} {tp ga oa ca gp op cp mb N : Nat} {t : Tab} (h : TabAt w tp ga oa ca gp op cp mb t N) {a b : Int} (hw : wfP (a, b)) (hk : listedB t.arr.length (a, b) = false) {i : Nat} (hi : idxQ t.prs (a, b) = some i) (ha : a = 1) (hz : b ≠ 0) :
    Calls Try.prog 63 #[bV tp, .agg #[.int .i64 a, .int .i64 b]] w fun e w' => e = .returned (.tuple #[.int .i64 ((t.arr.length + 2 * i + 2 : Nat) : Int), .bool true]) ∧ Below w.heap.size w w' := by
  subst ha
  have z9 := not_eq hz
  have CL : Hid (∀ W, Below w.heap.size w W → Calls Try.prog 82 #[bV tp, .agg #[.int .i64 1, .int .i64 b]] W fun e w' => e = .returned (.bool false) ∧ Below W.heap.size W w') := fun W hb => listed_ok (h.below hb).look (1, b) hk
  obtain ⟨u, hu⟩ : ∃ u, u = 2 * i := ⟨_, rfl⟩
  have LK : Hid (∀ W, Below w.heap.size w W → (Instr.lookup 72 (.map (some mb)) (.agg #[.int .i64 1, .int .i64 b]) true).run Try.prog W = .ok (.tuple #[.int .i64 (u : Int), .bool true]) W) := fun W hb => by
    have := (h.below hb).map.run_look hw
    rw [hi] at this; rw [hu]; exact this
  have hil : u + 1 < 2 * t.prs.length := by obtain ⟨x, hx⟩ := idxQ_some hi; have := (List.getElem?_eq_some_iff.1 hx).1; omega
  have hsm := h.small
  obtain ⟨n, hn⟩ : ∃ n, n = t.arr.length := ⟨_, rfl⟩
  have q1 : IntKind.i64.wrap ((n : Int) + (u : Int)) = (n : Int) + (u : Int) := IntWalk.i64_in _ (by omega)
  have q2 : IntKind.i64.wrap ((n : Int) + (u : Int) + 2) = (n : Int) + (u : Int) + 2 := IntWalk.i64_in _ (by omega)
  rw [← hn, ← hu, show ((n + u + 2 : Nat) : Int) = (n : Int) + (u : Int) + 2 by omega]
  have x0 : (w.alloc (.cells #[.int .i64 1, .int .i64 b] 24)).cell? ⟨w.heap.size, 0, none⟩ = some (.int .i64 1) := by simp [go_sem]
  have x1 : (w.alloc (.cells #[.int .i64 1, .int .i64 b] 24)).cell? ⟨w.heap.size, 1, none⟩ = some (.int .i64 b) := by simp [go_sem]
  have y0 := fun d os => cell_regrown x0 d os
  have y1 := fun d os => cell_regrown x1 d os
  have cN := null_re (w.alloc (.cells #[.int .i64 1, .int .i64 b] 24))
  have K1 : Hid (∀ W, Below (w.alloc (.cells #[.int .i64 1, .int .i64 b] 24)).heap.size (w.alloc (.cells #[.int .i64 1, .int .i64 b] 24)) W → W.heap[w.heap.size]? = some (.cells #[.int .i64 1, .int .i64 b] 24 (0, 0)) ∧ Below w.heap.size w W) := fun W hb => ⟨(hb.block _ (by simp)).trans (MapKept.heap_alloc w _).1, ((Below.refl _ _).alloc (Nat.le_refl _) _).trans (hb.mono (by simp))⟩
  clear x0 x1
  have H : Hid (∀ W, Below w.heap.size w W → TabAt W tp ga oa ca gp op cp mb t N) := fun W hb => h.below hb
  have HN := Lib.hid hn
  clear h hk hw hi hn hz hu
  go_enter Try.func63, Try.ntmps63
  go_wp2_with fail
  refine wp_region_quiet_below (by kernel_rfl) (by kernel_rfl) ?_
  repeat (go_big_quiet_step (with_reducible exact cN _ _))
  refine wpQuiet_nil ?_
  intro w3 ⟨⟨dq, osq⟩, hw3⟩
  have K3 := Lib.hid (K1.out w3 (by rw [hw3]; exact below_regrown _ dq osq))
  clear hw3 y0 y1 cN K1
  obtain ⟨z0, z1, -, -⟩ := cells2 K3.out.1
  go_upto_region 5 with (go_at_call 82; refine (CL.out _ K3.out.2).mono ?_; rintro e w4 ⟨rfl, hb4⟩; have B4 := Lib.hid hb4; have kk := (hb4.block _ (mem_block_lt K3.out.1)).trans K3.out.1; obtain ⟨z2, z3, -, -⟩ := cells2 kk; clear hb4 kk)
  have B5 : Hid (Below w.heap.size w w4) := K3.out.2.trans (B4.out.mono K3.out.2.size)
  obtain ⟨-, -, c2, -, c4⟩ := (H.out _ B5.out).cells
  rw [← HN.out] at c2
  have LL := fun j => LK.out (w4.drewN j) (below_drewN B5.out j)
  go_wp2_with fail
  go_quiet (fail)
  go_wp2_with fail
  go_ret2
  exact ⟨rfl, below_drewN B5.out _⟩
set_option maxHeartbeats 2000000 in
theorem behind_noneA {w : World} {tp ga oa ca gp op cp mb N : Nat} {t : Tab} (h : TabAt w tp ga oa ca gp op cp mb t N) {a b : Int} (hw : wfP (a, b)) (hk : listedB t.arr.length (a, b) = false) (hi : idxQ t.prs (a, b) = none) (hz : a ≠ 1) :
    Calls Try.prog 63 #[bV tp, .agg #[.int .i64 a, .int .i64 b]] w fun e w' => e = .returned (.tuple #[.int .i64 ((t.arr.length + 2 : Nat) : Int), .bool false]) ∧ Below w.heap.size w w' := by
  have z9 := not_eq hz
  have CL : Hid (∀ W, Below w.heap.size w W → Calls Try.prog 82 #[bV tp, .agg #[.int .i64 a, .int .i64 b]] W fun e w' => e = .returned (.bool false) ∧ Below W.heap.size W w') := fun W hb => listed_ok (h.below hb).look (a, b) hk
  have LK : Hid (∀ W, Below w.heap.size w W → (Instr.lookup 72 (.map (some mb)) (.agg #[.int .i64 a, .int .i64 b]) true).run Try.prog W = .ok (.tuple #[.int .i64 0, .bool false]) W) := fun W hb => by
    have := (h.below hb).map.run_look hw
    rw [hi] at this; exact this
  have hsm := h.small
  obtain ⟨n, hn⟩ : ∃ n, n = t.arr.length := ⟨_, rfl⟩
  have q2 : (n : Int) ≤ 1073741824 := by omega
  rw [← hn, show ((n + 2 : Nat) : Int) = (n : Int) + 2 by omega]
  have x0 : (w.alloc (.cells #[.int .i64 a, .int .i64 b] 24)).cell? ⟨w.heap.size, 0, none⟩ = some (.int .i64 a) := by simp [go_sem]
  have x1 : (w.alloc (.cells #[.int .i64 a, .int .i64 b] 24)).cell? ⟨w.heap.size, 1, none⟩ = some (.int .i64 b) := by simp [go_sem]
  have y0 := fun d os => cell_regrown x0 d os
  have y1 := fun d os => cell_regrown x1 d os
  have cN := null_re (w.alloc (.cells #[.int .i64 a, .int .i64 b] 24))
  have K1 : Hid (∀ W, Below (w.alloc (.cells #[.int .i64 a, .int .i64 b] 24)).heap.size (w.alloc (.cells #[.int .i64 a, .int .i64 b] 24)) W → W.heap[w.heap.size]? = some (.cells #[.int .i64 a, .int .i64 b] 24 (0, 0)) ∧ Below w.heap.size w W) := fun W hb => ⟨(hb.block _ (by simp)).trans (MapKept.heap_alloc w _).1, ((Below.refl _ _).alloc (Nat.le_refl _) _).trans (hb.mono (by simp))⟩
  clear x0 x1
  have H : Hid (∀ W, Below w.heap.size w W → TabAt W tp ga oa ca gp op cp mb t N) := fun W hb => h.below hb
  have HN := Lib.hid hn
  clear h hk hw hi hn hz
  go_enter Try.func63, Try.ntmps63
  go_wp2_with fail
  refine wp_region_quiet_below (by kernel_rfl) (by kernel_rfl) ?_
  repeat (go_big_quiet_step (with_reducible exact cN _ _))
  refine wpQuiet_nil ?_
  intro w3 ⟨⟨dq, osq⟩, hw3⟩
  have K3 := Lib.hid (K1.out w3 (by rw [hw3]; exact below_regrown _ dq osq))
  clear hw3 y0 y1 cN K1
  obtain ⟨z0, z1, -, -⟩ := cells2 K3.out.1
  go_upto_region 5 with (go_at_call 82; refine (CL.out _ K3.out.2).mono ?_; rintro e w4 ⟨rfl, hb4⟩; have B4 := Lib.hid hb4; have kk := (hb4.block _ (mem_block_lt K3.out.1)).trans K3.out.1; obtain ⟨z2, z3, -, -⟩ := cells2 kk; clear hb4 kk)
  have B5 : Hid (Below w.heap.size w w4) := K3.out.2.trans (B4.out.mono K3.out.2.size)
  obtain ⟨-, -, c2, -, c4⟩ := (H.out _ B5.out).cells
  rw [← HN.out] at c2
  have LL := fun j => LK.out (w4.drewN j) (below_drewN B5.out j)
  go_wp2_with fail
  go_quiet (fail)
  go_wp2_with fail
  go_ret2
  exact ⟨rfl, below_drewN B5.out _⟩
set_option maxHeartbeats 2000000 in
theorem behind_noneB {w : World} {tp ga oa ca gp op cp mb N : Nat} {t : Tab} (h : TabAt w tp ga oa ca gp op cp mb t N) {a b : Int} (hw : wfP (a, b)) (hk : listedB t.arr.length (a, b) = false) (hi : idxQ t.prs (a, b) = none) (ha : a = 1) (hz : b ≠ 0) :
    Calls Try.prog 63 #[bV tp, .agg #[.int .i64 a, .int .i64 b]] w fun e w' => e = .returned (.tuple #[.int .i64 ((t.arr.length + 2 : Nat) : Int), .bool false]) ∧ Below w.heap.size w w' := by
  subst ha
  have z9 := not_eq hz
  have CL : Hid (∀ W, Below w.heap.size w W → Calls Try.prog 82 #[bV tp, .agg #[.int .i64 1, .int .i64 b]] W fun e w' => e = .returned (.bool false) ∧ Below W.heap.size W w') := fun W hb => listed_ok (h.below hb).look (1, b) hk
  have LK : Hid (∀ W, Below w.heap.size w W → (Instr.lookup 72 (.map (some mb)) (.agg #[.int .i64 1, .int .i64 b]) true).run Try.prog W = .ok (.tuple #[.int .i64 0, .bool false]) W) := fun W hb => by
    have := (h.below hb).map.run_look hw
    rw [hi] at this; exact this
  have hsm := h.small
  obtain ⟨n, hn⟩ : ∃ n, n = t.arr.length := ⟨_, rfl⟩
  have q2 : (n : Int) ≤ 1073741824 := by omega
  rw [← hn, show ((n + 2 : Nat) : Int) = (n : Int) + 2 by omega]
  have x0 : (w.alloc (.cells #[.int .i64 1, .int .i64 b] 24)).cell? ⟨w.heap.size, 0, none⟩ = some (.int .i64 1) := by simp [go_sem]
  have x1 : (w.alloc (.cells #[.int .i64 1, .int .i64 b] 24)).cell? ⟨w.heap.size, 1, none⟩ = some (.int .i64 b) := by simp [go_sem]
  have y0 := fun d os => cell_regrown x0 d os
  have y1 := fun d os => cell_regrown x1 d os
  have cN := null_re (w.alloc (.cells #[.int .i64 1, .int .i64 b] 24))
  have K1 : Hid (∀ W, Below (w.alloc (.cells #[.int .i64 1, .int .i64 b] 24)).heap.size (w.alloc (.cells #[.int .i64 1, .int .i64 b] 24)) W → W.heap[w.heap.size]? = some (.cells #[.int .i64 1, .int .i64 b] 24 (0, 0)) ∧ Below w.heap.size w W) := fun W hb => ⟨(hb.block _ (by simp)).trans (MapKept.heap_alloc w _).1, ((Below.refl _ _).alloc (Nat.le_refl _) _).trans (hb.mono (by simp))⟩
  clear x0 x1
  have H : Hid (∀ W, Below w.heap.size w W → TabAt W tp ga oa ca gp op cp mb t N) := fun W hb => h.below hb
  have HN := Lib.hid hn
  clear h hk hw hi hn hz
  go_enter Try.func63, Try.ntmps63
  go_wp2_with fail
  refine wp_region_quiet_below (by kernel_rfl) (by kernel_rfl) ?_
  repeat (go_big_quiet_step (with_reducible exact cN _ _))
  refine wpQuiet_nil ?_
  intro w3 ⟨⟨dq, osq⟩, hw3⟩
  have K3 := Lib.hid (K1.out w3 (by rw [hw3]; exact below_regrown _ dq osq))
  clear hw3 y0 y1 cN K1
  obtain ⟨z0, z1, -, -⟩ := cells2 K3.out.1
  go_upto_region 5 with (go_at_call 82; refine (CL.out _ K3.out.2).mono ?_; rintro e w4 ⟨rfl, hb4⟩; have B4 := Lib.hid hb4; have kk := (hb4.block _ (mem_block_lt K3.out.1)).trans K3.out.1; obtain ⟨z2, z3, -, -⟩ := cells2 kk; clear hb4 kk)
  have B5 : Hid (Below w.heap.size w w4) := K3.out.2.trans (B4.out.mono K3.out.2.size)
  obtain ⟨-, -, c2, -, c4⟩ := (H.out _ B5.out).cells
  rw [← HN.out] at c2
  have LL := fun j => LK.out (w4.drewN j) (below_drewN B5.out j)
  go_wp2_with fail
  go_quiet (fail)
  go_wp2_with fail
  go_ret2
  exact ⟨rfl, below_drewN B5.out _⟩
/-- behind. -/
theorem behind_any {w : World} {tp ga oa ca gp op cp mb N : Nat} {t : Tab} (h : TabAt w tp ga oa ca gp op cp mb t N) {k : VV} (hw : wfP k) :
    Calls Try.prog 63 #[bV tp, vV k] w fun e w' => (∃ p : Nat, p ≤ t.arr.length + 2 * t.prs.length + 2 ∧ e = .returned (.tuple #[.int .i64 (p : Int), .bool (behindT t k).isSome]) ∧ ∀ q, behindT t k = some q → p = q) ∧ Below w.heap.size w w' := by
  by_cases hn : k = nilP
  · subst hn
    refine (behind_nil (w := w) (tp := tp)).mono ?_
    rintro e w' ⟨rfl, hb⟩
    have e1 : behindT t nilP = some 0 := by unfold behindT; rw [if_pos rfl]
    rw [e1]
    exact ⟨⟨0, by omega, rfl, fun q hq => by injection hq⟩, hb⟩
  · cases hk : listedB t.arr.length k with
    | true =>
      obtain ⟨i, hki, hi, -⟩ := listed_int hk
      subst hki
      refine (behind_listed h hk).mono ?_
      rintro e w' ⟨rfl, hb⟩
      have e1 : behindT t (intP (i + 1)) = some (i + 1) := by
        unfold behindT; rw [if_neg hn, if_pos hk]; simp only [intP]; congr 1
      rw [e1]
      exact ⟨⟨i + 1, by omega, by simp, fun q hq => by injection hq⟩, hb⟩
    | false =>
      obtain ⟨a, b⟩ := k
      have e1 : behindT t (a, b) = (idxQ t.prs (a, b)).map fun i => t.arr.length + 2 * i + 2 := by
        unfold behindT; rw [if_neg hn, if_neg (by simp [hk])]
      rw [e1]
      cases hi : idxQ t.prs (a, b) with
      | some i =>
        have hil : i < t.prs.length := by obtain ⟨x, hx⟩ := idxQ_some hi; exact (List.getElem?_eq_some_iff.1 hx).1
        have C : Calls Try.prog 63 #[bV tp, .agg #[.int .i64 a, .int .i64 b]] w fun e w' => e = .returned (.tuple #[.int .i64 ((t.arr.length + 2 * i + 2 : Nat) : Int), .bool true]) ∧ Below w.heap.size w w' := by
          by_cases ha : a = 1
          · rcases not_nilP hn with h1 | h1
            · exact absurd ha h1
            · exact behind_someB h hw hk hi ha h1
          · exact behind_someA h hw hk hi ha
        refine C.mono ?_
        rintro e w' ⟨rfl, hb⟩
        exact ⟨⟨_, by omega, rfl, fun q hq => by injection hq⟩, hb⟩
      | none =>
        have C : Calls Try.prog 63 #[bV tp, .agg #[.int .i64 a, .int .i64 b]] w fun e w' => e = .returned (.tuple #[.int .i64 ((t.arr.length + 2 : Nat) : Int), .bool false]) ∧ Below w.heap.size w w' := by
          by_cases ha : a = 1
          · rcases not_nilP hn with h1 | h1
            · exact absurd ha h1
            · exact behind_noneB h hw hk hi ha h1
          · exact behind_noneA h hw hk hi ha
        refine C.mono ?_
        rintro e w' ⟨rfl, hb⟩
        exact ⟨⟨_, by omega, rfl, fun q hq => by cases hq⟩, hb⟩
end Go.Proofs.Ytkkdgacdajojiaa
