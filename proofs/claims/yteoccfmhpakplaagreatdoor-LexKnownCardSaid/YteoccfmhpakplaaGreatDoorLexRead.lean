/- lex.read: the token of a word, kind by kind. -/
import Derived.Test.YteoccfmhpakplaaGreatDoorLexHead
import Derived.Test.YteoccfmhpakplaaGreatDoorNumParse
import Derived.Laws.ResultCell
namespace Go.Proofs.YteoccfmhpakplaaGreatDoor
open Go.RowKit

theorem Clone_any (s : ByteArray) (w : World) (hs : s.size ≤ 1048576) : Calls Tryz.prog 43 #[.string s] w fun e w' => e = .returned (.string s) ∧ Below w.heap.size w w' := by
  have C := Lib.hid (Tryz.stringslite_Clone s w (by omega))
  go_enter Tryz.func43, Tryz.ntmps43
  go_wp2_with (go_at_call 64; refine C.out.mono ?_; rintro e w1 ⟨rfl, hb⟩)
  go_ret
  exact ⟨rfl, hb⟩
/-- A token's cells. -/
abbrev tokV (k : Nat) (t : ByteArray) (n : Int) (l : Nat) : Array Value := #[.int .i64 k, .string t, .int .i64 n, .int .i64 l]
theorem boxedF {w w1 : World} {T : TypeId} {cs : Array Value} {j : Nat} (hb : Below (w.alloc (.cells cs T (0, 0))).heap.size (w.alloc (.cells cs T (0, 0))) w1) : w1.frozen? ⟨w.heap.size, j, none⟩ = false :=
  (hb.frozen (p := ⟨w.heap.size, j, none⟩) (by simp)).trans (by simp [go_sem])
/-- A block of the call's own that was laid ahead of a call: what its cells hold behind it, and behind a further block. -/
theorem boxedA {w w1 : World} {T : TypeId} {cs : Array Value} {j : Nat} {v : Value} (hb : Below (w.alloc (.cells cs T (0, 0))).heap.size (w.alloc (.cells cs T (0, 0))) w1) (hv : cs[j]? = some v) (o : Obj) :
    (w1.alloc o).cell? ⟨w.heap.size, j, none⟩ = some v ∧ (w1.alloc o).frozen? ⟨w.heap.size, j, none⟩ = false := by
  have hlt : w.heap.size < w1.heap.size := by have := hb.size; simp at this; omega
  exact ⟨(World.cell?_alloc_lt _ _ ⟨w.heap.size, j, none⟩ hlt).trans (boxed hb hv), (World.frozen?_alloc_old _ _ ⟨w.heap.size, j, none⟩ (Nat.ne_of_lt hlt)).trans (boxedF hb)⟩
theorem boxedN {w w1 : World} {T : TypeId} {cs : Array Value} (hb : Below (w.alloc (.cells cs T (0, 0))).heap.size (w.alloc (.cells cs T (0, 0))) w1) : w.heap.size ≠ w1.heap.size := by
  have := hb.size; simp at this; omega
theorem token_cells {w w1 : World} {a0 a1 a2 a3 : Value} (hb : Below (w.alloc (.cells #[a0, a1, a2, a3] 41 (0, 0))).heap.size (w.alloc (.cells #[a0, a1, a2, a3] 41 (0, 0))) w1) :
    (∀ o, (w1.alloc o).cell? ⟨w.heap.size, 0, none⟩ = some a0) ∧ (∀ o, (w1.alloc o).cell? ⟨w.heap.size, 1, none⟩ = some a1) ∧ (∀ o, (w1.alloc o).cell? ⟨w.heap.size, 2, none⟩ = some a2) ∧ (∀ o, (w1.alloc o).cell? ⟨w.heap.size, 3, none⟩ = some a3) ∧
    (∀ o, (w1.alloc o).frozen? ⟨w.heap.size, 0, none⟩ = false) ∧ (∀ o, (w1.alloc o).frozen? ⟨w.heap.size, 1, none⟩ = false) ∧ (∀ o, (w1.alloc o).frozen? ⟨w.heap.size, 2, none⟩ = false) ∧ (∀ o, (w1.alloc o).frozen? ⟨w.heap.size, 3, none⟩ = false) :=
  ⟨fun o => (boxedA hb (j := 0) rfl o).1, fun o => (boxedA hb (j := 1) rfl o).1, fun o => (boxedA hb (j := 2) rfl o).1, fun o => (boxedA hb (j := 3) rfl o).1, fun o => (boxedA hb (j := 0) rfl o).2, fun o => (boxedA hb (j := 1) rfl o).2, fun o => (boxedA hb (j := 2) rfl o).2, fun o => (boxedA hb (j := 3) rfl o).2⟩
theorem load_tok {W : World} {b : Nat} {v0 v1 v2 v3 : Value} (h0 : W.cell? ⟨b, 0, none⟩ = some v0) (h1 : W.cell? ⟨b, 1, none⟩ = some v1) (h2 : W.cell? ⟨b, 2, none⟩ = some v2) (h3 : W.cell? ⟨b, 3, none⟩ = some v3) :
    (loadVar 41 ⟨b, 0, none⟩).run Tryz.prog W = .ok (.agg #[v0, v1, v2, v3]) W := by
  have ha := Tryz.isAgg41
  simp only [loadVar, Sem.run_bind, ha, Result.andThen]
  simp [go_sem, h0, h1, h2, h3]
theorem ret_tok_tmp {fn : Func} {R : Ending → World → Prop} {a : Act} {W : World} {p u : Tmp} {b : Nat} {v0 v1 v2 v3 : Value} (h : fn.results = #[.cell p 41, .tmp u]) (hp : a.tmps.getD p undef = .pointer (some ⟨b, 0, none⟩))
    (h0 : W.cell? ⟨b, 0, none⟩ = some v0) (h1 : W.cell? ⟨b, 1, none⟩ = some v1) (h2 : W.cell? ⟨b, 2, none⟩ = some v2) (h3 : W.cell? ⟨b, 3, none⟩ = some v3) (hd : a.defers = [])
    (hR : R (.returned (.tuple #[.agg #[v0, v1, v2, v3], a.tmps.getD u undef])) W) : bodyPost Tryz.prog fn R .ret a W := by
  refine bodyPost_ret (v := .tuple #[.agg #[v0, v1, v2, v3], a.tmps.getD u undef]) ?_ hd hR
  rw [results_cell_tmp h, hp]
  simp only [asAddr, Sem.run_pure, Result.andThen_ok, load_tok h0 h1 h2 h3]
/-- The blocks of the call's own behind a further call: the elder one; the one that was laid last. -/
theorem token_keep {w1 w2 : World} {b : Nat} {a0 a1 a2 a3 : Value} {o : Obj} (hb : Below (w1.alloc o).heap.size (w1.alloc o) w2) (h0 : (w1.alloc o).cell? ⟨b, 0, none⟩ = some a0) (h1 : (w1.alloc o).cell? ⟨b, 1, none⟩ = some a1) (h2 : (w1.alloc o).cell? ⟨b, 2, none⟩ = some a2) (h3 : (w1.alloc o).cell? ⟨b, 3, none⟩ = some a3)
    (k0 : (w1.alloc o).frozen? ⟨b, 0, none⟩ = false) (k1 : (w1.alloc o).frozen? ⟨b, 1, none⟩ = false) (k2 : (w1.alloc o).frozen? ⟨b, 2, none⟩ = false) (k3 : (w1.alloc o).frozen? ⟨b, 3, none⟩ = false) :
    w2.cell? ⟨b, 0, none⟩ = some a0 ∧ w2.cell? ⟨b, 1, none⟩ = some a1 ∧ w2.cell? ⟨b, 2, none⟩ = some a2 ∧ w2.cell? ⟨b, 3, none⟩ = some a3 ∧ w2.frozen? ⟨b, 0, none⟩ = false ∧ w2.frozen? ⟨b, 1, none⟩ = false ∧ w2.frozen? ⟨b, 2, none⟩ = false ∧ w2.frozen? ⟨b, 3, none⟩ = false := by
  have hlt : b < (w1.alloc o).heap.size := by
    rcases Nat.lt_or_ge b (w1.alloc o).heap.size with h | h
    · exact h
    · simp only [World.cell?, Array.getElem?_eq_none h] at h0; cases h0
  exact ⟨(hb.cell (p := ⟨b, 0, none⟩) hlt).trans h0, (hb.cell (p := ⟨b, 1, none⟩) hlt).trans h1, (hb.cell (p := ⟨b, 2, none⟩) hlt).trans h2, (hb.cell (p := ⟨b, 3, none⟩) hlt).trans h3, (hb.frozen (p := ⟨b, 0, none⟩) hlt).trans k0, (hb.frozen (p := ⟨b, 1, none⟩) hlt).trans k1, (hb.frozen (p := ⟨b, 2, none⟩) hlt).trans k2, (hb.frozen (p := ⟨b, 3, none⟩) hlt).trans k3⟩
theorem token_mine {w w1 : World} {a0 a1 a2 a3 : Value} (hb : Below (w.alloc (.cells #[a0, a1, a2, a3] 41 (0, 0))).heap.size (w.alloc (.cells #[a0, a1, a2, a3] 41 (0, 0))) w1) :
    w1.cell? ⟨w.heap.size, 0, none⟩ = some a0 ∧ w1.cell? ⟨w.heap.size, 1, none⟩ = some a1 ∧ w1.cell? ⟨w.heap.size, 2, none⟩ = some a2 ∧ w1.cell? ⟨w.heap.size, 3, none⟩ = some a3 ∧ w1.frozen? ⟨w.heap.size, 0, none⟩ = false ∧ w1.frozen? ⟨w.heap.size, 1, none⟩ = false ∧ w1.frozen? ⟨w.heap.size, 2, none⟩ = false ∧ w1.frozen? ⟨w.heap.size, 3, none⟩ = false :=
  ⟨boxed hb (j := 0) rfl, boxed hb (j := 1) rfl, boxed hb (j := 2) rfl, boxed hb (j := 3) rfl, boxedF hb (j := 0), boxedF hb (j := 1), boxedF hb (j := 2), boxedF hb (j := 3)⟩
set_option maxHeartbeats 2000000 in
theorem read_name_ok (s : ByteArray) (w : World) (hs : s.size ≤ 1048576) (hl : s.size ≤ 24) (hr : reservedB s.data.toList = false) :
    Calls Tryz.prog 24 #[.int .i64 1, .string s] w fun e w' => e = .returned (.tuple #[.agg (tokV 1 s 0 0), .nilIface]) ∧ Below w.heap.size w w' := by
  have C := Lib.hid (fun w => Clone_any s w hs)
  have R := Reserved_any s
  rw [hr] at R
  have R := Lib.hid R
  go_enter Tryz.func24, Tryz.ntmps24
  go_wp2_with (first
    | (go_at_call 43; refine (C.out _).mono ?_; rintro e w1 ⟨rfl, hb1⟩; obtain ⟨q0, q1, q2, q3, f0, f1, f2, f3⟩ := token_cells hb1; have B1 := Lib.hid (below_box hb1); have N1 := boxedN hb1; have N2 := N1.symm; clear hb1)
    | (go_at_call 14; refine (R.out _).mono ?_; rintro e w2 ⟨rfl, rfl⟩))
  refine ret_tok_tmp rfl rfl (v0 := .int .i64 1) (v1 := .string s) (v2 := .int .i64 0) (v3 := .int .i64 0) (by simp [go_sem, q0]) (by simp [go_sem, q1]) (by simp [go_sem, q2]) (by simp [go_sem, q3]) rfl ?_
  refine ⟨rfl, ?_⟩
  exact ((((B1.out.alloc B1.out.size _).setCell (Nat.le_refl _) _).setCell (Nat.le_refl _) _).setCell (Nat.le_refl _) _).setCell (Nat.le_refl _) _
set_option maxHeartbeats 2000000 in
theorem read_name_sign (s : ByteArray) (w : World) (hs : s.size ≤ 1048576) (hl : s.size ≤ 24) (hr : reservedB s.data.toList = true) :
    Calls Tryz.prog 24 #[.int .i64 1, .string s] w fun e w' => e = .returned (.tuple #[.agg (tokV 4 s 0 0), .nilIface]) ∧ Below w.heap.size w w' := by
  have C := Lib.hid (fun w => Clone_any s w hs)
  have R := Reserved_any s
  rw [hr] at R
  have R := Lib.hid R
  go_enter Tryz.func24, Tryz.ntmps24
  go_wp2_with (first
    | (go_at_call 43; refine (C.out _).mono ?_; rintro e w1 ⟨rfl, hb1⟩; obtain ⟨q0, q1, q2, q3, f0, f1, f2, f3⟩ := token_cells hb1; have B1 := Lib.hid (below_box hb1); have N1 := boxedN hb1; have N2 := N1.symm; clear hb1)
    | (go_at_call 14; refine (R.out _).mono ?_; rintro e w2 ⟨rfl, rfl⟩))
  refine ret_tok_tmp rfl rfl (v0 := .int .i64 4) (v1 := .string s) (v2 := .int .i64 0) (v3 := .int .i64 0) (by simp [go_sem, q0]) (by simp [go_sem, q1]) (by simp [go_sem, q2]) (by simp [go_sem, q3]) rfl ?_
  refine ⟨rfl, ?_⟩
  exact ((((B1.out.alloc B1.out.size _).setCell (Nat.le_refl _) _).setCell (Nat.le_refl _) _).setCell (Nat.le_refl _) _).setCell (Nat.le_refl _) _
set_option maxHeartbeats 2000000 in
theorem read_name_long (s : ByteArray) (w : World) (hs : s.size ≤ 1048576) (hl : 24 < s.size) (hr : reservedB s.data.toList = false) :
    Calls Tryz.prog 24 #[.int .i64 1, .string s] w fun e w' => e = .returned (.tuple #[.agg (tokV 0 ⟨#[]⟩ 0 0), .iface 27 (.int .i64 14)]) ∧ Below w.heap.size w w' := by
  have C := Lib.hid (fun w => Clone_any s w hs)
  have R := Reserved_any s
  rw [hr] at R
  have R := Lib.hid R
  go_enter Tryz.func24, Tryz.ntmps24
  go_wp2_with (first
    | (go_at_call 43; refine (C.out _).mono ?_; rintro e w1 ⟨rfl, hb1⟩; obtain ⟨q0, q1, q2, q3, f0, f1, f2, f3⟩ := token_cells hb1; have B1 := Lib.hid (below_box hb1); have N1 := boxedN hb1; have N2 := N1.symm; clear hb1)
    | (go_at_call 14; refine (R.out _).mono ?_; rintro e w2 ⟨rfl, rfl⟩))
  refine ret_tok_tmp rfl rfl (v0 := .int .i64 0) (v1 := .string ⟨#[]⟩) (v2 := .int .i64 0) (v3 := .int .i64 0) (by simp [go_sem, q0]) (by simp [go_sem, q1]) (by simp [go_sem, q2]) (by simp [go_sem, q3]) rfl ?_
  refine ⟨rfl, ?_⟩
  exact ((((B1.out.alloc B1.out.size _).setCell (Nat.le_refl _) _).setCell (Nat.le_refl _) _).setCell (Nat.le_refl _) _).setCell (Nat.le_refl _) _
set_option maxHeartbeats 2000000 in
theorem read_sign_ok (s : ByteArray) (w : World) (hs : s.size ≤ 1048576) (hl : s.toList.isEmpty = false) :
    Calls Tryz.prog 24 #[.int .i64 4, .string s] w fun e w' => e = .returned (.tuple #[.agg (tokV 4 s 0 0), .nilIface]) ∧ Below w.heap.size w w' := by
  have C := Lib.hid (fun w => Clone_any s w hs)
  go_enter Tryz.func24, Tryz.ntmps24
  go_wp2_with (first
    | (go_at_call 43; refine (C.out _).mono ?_; rintro e w1 ⟨rfl, hb1⟩; obtain ⟨q0, q1, q2, q3, f0, f1, f2, f3⟩ := token_cells hb1; have B1 := Lib.hid (below_box hb1); have N1 := boxedN hb1; have N2 := N1.symm; clear hb1))
  refine ret_tok_tmp rfl rfl (v0 := .int .i64 4) (v1 := .string s) (v2 := .int .i64 0) (v3 := .int .i64 0) (by simp [go_sem, q0]) (by simp [go_sem, q1]) (by simp [go_sem, q2]) (by simp [go_sem, q3]) rfl ?_
  refine ⟨rfl, ?_⟩
  exact ((((B1.out.alloc B1.out.size _).setCell (Nat.le_refl _) _).setCell (Nat.le_refl _) _).setCell (Nat.le_refl _) _).setCell (Nat.le_refl _) _
set_option maxHeartbeats 2000000 in
theorem read_sign_none (s : ByteArray) (w : World) (hs : s.size ≤ 1048576) (hl : s.toList.isEmpty = true) :
    Calls Tryz.prog 24 #[.int .i64 4, .string s] w fun e w' => e = .returned (.tuple #[.agg (tokV 0 ⟨#[]⟩ 0 0), .iface 27 (.int .i64 14)]) ∧ Below w.heap.size w w' := by
  have C := Lib.hid (fun w => Clone_any s w hs)
  go_enter Tryz.func24, Tryz.ntmps24
  go_wp2_with (first
    | (go_at_call 43; refine (C.out _).mono ?_; rintro e w1 ⟨rfl, hb1⟩; obtain ⟨q0, q1, q2, q3, f0, f1, f2, f3⟩ := token_cells hb1; have B1 := Lib.hid (below_box hb1); have N1 := boxedN hb1; have N2 := N1.symm; clear hb1))
  refine ret_tok_tmp rfl rfl (v0 := .int .i64 0) (v1 := .string ⟨#[]⟩) (v2 := .int .i64 0) (v3 := .int .i64 0) (by simp [go_sem, q0]) (by simp [go_sem, q1]) (by simp [go_sem, q2]) (by simp [go_sem, q3]) rfl ?_
  refine ⟨rfl, ?_⟩
  exact ((((B1.out.alloc B1.out.size _).setCell (Nat.le_refl _) _).setCell (Nat.le_refl _) _).setCell (Nat.le_refl _) _).setCell (Nat.le_refl _) _
set_option maxHeartbeats 2000000 in
theorem read_int_ok (s : ByteArray) (w : World) (hs : s.size ≤ 1048576) (v : Int) (hV : parseV s.data.toList = v) (hE2 : parseE s.data.toList = 0) (hE : Env w) :
    Calls Tryz.prog 24 #[.int .i64 2, .string s] w fun e w' => e = .returned (.tuple #[.agg (tokV 2 s v 0), .nilIface]) ∧ Below w.heap.size w w' := by
  have C := Lib.hid (fun w => Clone_any s w hs)
  have PP := fun w (h : Env w) => Parse_any s w (by omega) h
  rw [hE2, hV] at PP
  have PP := Lib.hid PP
  go_enter Tryz.func24, Tryz.ntmps24
  go_wp2_with (first
    | (go_at_call 43; refine (C.out _).mono ?_; rintro e w1 ⟨rfl, hb1⟩; obtain ⟨q0, q1, q2, q3, f0, f1, f2, f3⟩ := token_cells hb1; have B1 := Lib.hid (below_box hb1); have N1 := boxedN hb1; have N2 := N1.symm; clear hb1)
    | (go_at_call 44; refine (PP.out _ ((hE.below B1.out).below ((Below.refl _ _).alloc (Nat.le_refl _) _))).mono ?_; rintro e w2 ⟨rfl, hb2⟩; obtain ⟨r0, r1, r2, r3, g0, g1, g2, g3⟩ := token_keep hb2 (q0 _) (q1 _) (q2 _) (q3 _) (f0 _) (f1 _) (f2 _) (f3 _); obtain ⟨p0, p1, p2, p3, d0, d1, d2, d3⟩ := token_mine hb2; have B2 := Lib.hid ((B1.out.alloc B1.out.size _).trans (hb2.mono (by have := B1.out.size; simp; omega))); clear hb2))
  refine ret_tok_tmp rfl rfl (v0 := .int .i64 2) (v1 := .string s) (v2 := .int .i64 v) (v3 := .int .i64 0) (by simp [go_sem, r0]) (by simp [go_sem, r1]) (by simp [go_sem, r2]) (by simp [go_sem, r3]) rfl ?_
  refine ⟨rfl, ?_⟩
  exact (((((B2.out.setCell (p := ⟨w1.heap.size, 2, none⟩) B1.out.size _).setCell (Nat.le_refl _) _).setCell (Nat.le_refl _) _).setCell (Nat.le_refl _) _).setCell (Nat.le_refl _) _)
set_option maxHeartbeats 2000000 in
theorem read_int_form (s : ByteArray) (w : World) (hs : s.size ≤ 1048576) (hE2 : parseE s.data.toList = 4) (hE : Env w) :
    Calls Tryz.prog 24 #[.int .i64 2, .string s] w fun e w' => e = .returned (.tuple #[.agg (tokV 0 ⟨#[]⟩ 0 0), .iface 27 (.int .i64 14)]) ∧ Below w.heap.size w w' := by
  have C := Lib.hid (fun w => Clone_any s w hs)
  have PP := fun w (h : Env w) => Parse_any s w (by omega) h
  rw [hE2] at PP
  have PP := Lib.hid PP
  generalize parseV s.data.toList = v at PP
  go_enter Tryz.func24, Tryz.ntmps24
  go_wp2_with (first
    | (go_at_call 43; refine (C.out _).mono ?_; rintro e w1 ⟨rfl, hb1⟩; obtain ⟨q0, q1, q2, q3, f0, f1, f2, f3⟩ := token_cells hb1; have B1 := Lib.hid (below_box hb1); have N1 := boxedN hb1; have N2 := N1.symm; clear hb1)
    | (go_at_call 44; refine (PP.out _ ((hE.below B1.out).below ((Below.refl _ _).alloc (Nat.le_refl _) _))).mono ?_; rintro e w2 ⟨rfl, hb2⟩; obtain ⟨r0, r1, r2, r3, g0, g1, g2, g3⟩ := token_keep hb2 (q0 _) (q1 _) (q2 _) (q3 _) (f0 _) (f1 _) (f2 _) (f3 _); obtain ⟨p0, p1, p2, p3, d0, d1, d2, d3⟩ := token_mine hb2; have B2 := Lib.hid ((B1.out.alloc B1.out.size _).trans (hb2.mono (by have := B1.out.size; simp; omega))); clear hb2))
  refine ret_tok_tmp rfl rfl (v0 := .int .i64 0) (v1 := .string ⟨#[]⟩) (v2 := .int .i64 0) (v3 := .int .i64 0) (by simp [go_sem, r0]) (by simp [go_sem, r1]) (by simp [go_sem, r2]) (by simp [go_sem, r3]) rfl ?_
  refine ⟨rfl, ?_⟩
  exact (((((B2.out.setCell (p := ⟨w1.heap.size, 2, none⟩) B1.out.size _).setCell (Nat.le_refl _) _).setCell (Nat.le_refl _) _).setCell (Nat.le_refl _) _).setCell (Nat.le_refl _) _)
set_option maxHeartbeats 2000000 in
theorem read_int_over (s : ByteArray) (w : World) (hs : s.size ≤ 1048576) (hE2 : parseE s.data.toList = 15) (hE : Env w) :
    Calls Tryz.prog 24 #[.int .i64 2, .string s] w fun e w' => e = .returned (.tuple #[.agg (tokV 0 ⟨#[]⟩ 0 0), .iface 27 (.int .i64 15)]) ∧ Below w.heap.size w w' := by
  have C := Lib.hid (fun w => Clone_any s w hs)
  have PP := fun w (h : Env w) => Parse_any s w (by omega) h
  rw [hE2] at PP
  have PP := Lib.hid PP
  generalize parseV s.data.toList = v at PP
  go_enter Tryz.func24, Tryz.ntmps24
  go_wp2_with (first
    | (go_at_call 43; refine (C.out _).mono ?_; rintro e w1 ⟨rfl, hb1⟩; obtain ⟨q0, q1, q2, q3, f0, f1, f2, f3⟩ := token_cells hb1; have B1 := Lib.hid (below_box hb1); have N1 := boxedN hb1; have N2 := N1.symm; clear hb1)
    | (go_at_call 44; refine (PP.out _ ((hE.below B1.out).below ((Below.refl _ _).alloc (Nat.le_refl _) _))).mono ?_; rintro e w2 ⟨rfl, hb2⟩; obtain ⟨r0, r1, r2, r3, g0, g1, g2, g3⟩ := token_keep hb2 (q0 _) (q1 _) (q2 _) (q3 _) (f0 _) (f1 _) (f2 _) (f3 _); obtain ⟨p0, p1, p2, p3, d0, d1, d2, d3⟩ := token_mine hb2; have B2 := Lib.hid ((B1.out.alloc B1.out.size _).trans (hb2.mono (by have := B1.out.size; simp; omega))); clear hb2))
  refine ret_tok_tmp rfl rfl (v0 := .int .i64 0) (v1 := .string ⟨#[]⟩) (v2 := .int .i64 0) (v3 := .int .i64 0) (by simp [go_sem, r0]) (by simp [go_sem, r1]) (by simp [go_sem, r2]) (by simp [go_sem, r3]) rfl ?_
  refine ⟨rfl, ?_⟩
  exact (((((B2.out.setCell (p := ⟨w1.heap.size, 2, none⟩) B1.out.size _).setCell (Nat.le_refl _) _).setCell (Nat.le_refl _) _).setCell (Nat.le_refl _) _).setCell (Nat.le_refl _) _)
set_option maxHeartbeats 2000000 in
theorem read_str_ok (s : ByteArray) (w : World) (hs : s.size ≤ 1048576) (q : ByteArray) (hV : (⟨(unqL s.data.toList).1.toArray⟩ : ByteArray) = q) (hE2 : (unqL s.data.toList).2 = 0) :
    Calls Tryz.prog 24 #[.int .i64 3, .string s] w fun e w' => e = .returned (.tuple #[.agg (tokV 3 q 0 0), .nilIface]) ∧ Below w.heap.size w w' := by
  have C := Lib.hid (fun w => Clone_any s w hs)
  have PP := fun w => Unquote_any s w hs
  rw [hE2, hV] at PP
  have PP := Lib.hid PP
  go_enter Tryz.func24, Tryz.ntmps24
  go_wp2_with (first
    | (go_at_call 43; refine (C.out _).mono ?_; rintro e w1 ⟨rfl, hb1⟩; obtain ⟨q0, q1, q2, q3, f0, f1, f2, f3⟩ := token_cells hb1; have B1 := Lib.hid (below_box hb1); have N1 := boxedN hb1; have N2 := N1.symm; clear hb1)
    | (go_at_call 45; refine (PP.out _).mono ?_; rintro e w2 ⟨rfl, hb2⟩; obtain ⟨r0, r1, r2, r3, g0, g1, g2, g3⟩ := token_keep hb2 (q0 _) (q1 _) (q2 _) (q3 _) (f0 _) (f1 _) (f2 _) (f3 _); obtain ⟨p0, p1, p2, p3, d0, d1, d2, d3⟩ := token_mine hb2; have B2 := Lib.hid ((B1.out.alloc B1.out.size _).trans (hb2.mono (by have := B1.out.size; simp; omega))); clear hb2))
  refine ret_tok_tmp rfl rfl (v0 := .int .i64 3) (v1 := .string q) (v2 := .int .i64 0) (v3 := .int .i64 0) (by simp [go_sem, r0]) (by simp [go_sem, r1]) (by simp [go_sem, r2]) (by simp [go_sem, r3]) rfl ?_
  refine ⟨rfl, ?_⟩
  exact (((((B2.out.setCell (p := ⟨w1.heap.size, 1, none⟩) B1.out.size _).setCell (Nat.le_refl _) _).setCell (Nat.le_refl _) _).setCell (Nat.le_refl _) _).setCell (Nat.le_refl _) _)
set_option maxHeartbeats 2000000 in
theorem read_str_form (s : ByteArray) (w : World) (hs : s.size ≤ 1048576) (q : ByteArray) (hV : (⟨(unqL s.data.toList).1.toArray⟩ : ByteArray) = q) (hE2 : (unqL s.data.toList).2 = 4) :
    Calls Tryz.prog 24 #[.int .i64 3, .string s] w fun e w' => e = .returned (.tuple #[.agg (tokV 0 ⟨#[]⟩ 0 0), .iface 27 (.int .i64 14)]) ∧ Below w.heap.size w w' := by
  have C := Lib.hid (fun w => Clone_any s w hs)
  have PP := fun w => Unquote_any s w hs
  rw [hE2, hV] at PP
  have PP := Lib.hid PP
  go_enter Tryz.func24, Tryz.ntmps24
  go_wp2_with (first
    | (go_at_call 43; refine (C.out _).mono ?_; rintro e w1 ⟨rfl, hb1⟩; obtain ⟨q0, q1, q2, q3, f0, f1, f2, f3⟩ := token_cells hb1; have B1 := Lib.hid (below_box hb1); have N1 := boxedN hb1; have N2 := N1.symm; clear hb1)
    | (go_at_call 45; refine (PP.out _).mono ?_; rintro e w2 ⟨rfl, hb2⟩; obtain ⟨r0, r1, r2, r3, g0, g1, g2, g3⟩ := token_keep hb2 (q0 _) (q1 _) (q2 _) (q3 _) (f0 _) (f1 _) (f2 _) (f3 _); obtain ⟨p0, p1, p2, p3, d0, d1, d2, d3⟩ := token_mine hb2; have B2 := Lib.hid ((B1.out.alloc B1.out.size _).trans (hb2.mono (by have := B1.out.size; simp; omega))); clear hb2))
  refine ret_tok_tmp rfl rfl (v0 := .int .i64 0) (v1 := .string ⟨#[]⟩) (v2 := .int .i64 0) (v3 := .int .i64 0) (by simp [go_sem, r0]) (by simp [go_sem, r1]) (by simp [go_sem, r2]) (by simp [go_sem, r3]) rfl ?_
  refine ⟨rfl, ?_⟩
  exact (((((B2.out.setCell (p := ⟨w1.heap.size, 1, none⟩) B1.out.size _).setCell (Nat.le_refl _) _).setCell (Nat.le_refl _) _).setCell (Nat.le_refl _) _).setCell (Nat.le_refl _) _)
set_option maxHeartbeats 2000000 in
theorem read_str_long (s : ByteArray) (w : World) (hs : s.size ≤ 1048576) (q : ByteArray) (hV : (⟨(unqL s.data.toList).1.toArray⟩ : ByteArray) = q) (hE2 : (unqL s.data.toList).2 = 3) :
    Calls Tryz.prog 24 #[.int .i64 3, .string s] w fun e w' => e = .returned (.tuple #[.agg (tokV 0 ⟨#[]⟩ 0 0), .iface 27 (.int .i64 3)]) ∧ Below w.heap.size w w' := by
  have C := Lib.hid (fun w => Clone_any s w hs)
  have PP := fun w => Unquote_any s w hs
  rw [hE2, hV] at PP
  have PP := Lib.hid PP
  go_enter Tryz.func24, Tryz.ntmps24
  go_wp2_with (first
    | (go_at_call 43; refine (C.out _).mono ?_; rintro e w1 ⟨rfl, hb1⟩; obtain ⟨q0, q1, q2, q3, f0, f1, f2, f3⟩ := token_cells hb1; have B1 := Lib.hid (below_box hb1); have N1 := boxedN hb1; have N2 := N1.symm; clear hb1)
    | (go_at_call 45; refine (PP.out _).mono ?_; rintro e w2 ⟨rfl, hb2⟩; obtain ⟨r0, r1, r2, r3, g0, g1, g2, g3⟩ := token_keep hb2 (q0 _) (q1 _) (q2 _) (q3 _) (f0 _) (f1 _) (f2 _) (f3 _); obtain ⟨p0, p1, p2, p3, d0, d1, d2, d3⟩ := token_mine hb2; have B2 := Lib.hid ((B1.out.alloc B1.out.size _).trans (hb2.mono (by have := B1.out.size; simp; omega))); clear hb2))
  refine ret_tok_tmp rfl rfl (v0 := .int .i64 0) (v1 := .string ⟨#[]⟩) (v2 := .int .i64 0) (v3 := .int .i64 0) (by simp [go_sem, r0]) (by simp [go_sem, r1]) (by simp [go_sem, r2]) (by simp [go_sem, r3]) rfl ?_
  refine ⟨rfl, ?_⟩
  exact (((((B2.out.setCell (p := ⟨w1.heap.size, 1, none⟩) B1.out.size _).setCell (Nat.le_refl _) _).setCell (Nat.le_refl _) _).setCell (Nat.le_refl _) _).setCell (Nat.le_refl _) _)
end Go.Proofs.YteoccfmhpakplaaGreatDoor
