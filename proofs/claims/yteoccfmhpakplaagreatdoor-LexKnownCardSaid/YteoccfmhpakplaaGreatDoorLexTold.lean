/- What the laws ask of errors and of lists: errors.Is at a fault, told, Same. -/
import Derived.Test.YteoccfmhpakplaaGreatDoorLexTokens
import Derived.Test.YteoccfmhpakplaaGreatDoorLexRefT
import Derived.Lib.IfaceEq
import Derived.Stop.IfaceNil
import Derived.Deep.RegionWith
namespace Go.Proofs.YteoccfmhpakplaaGreatDoor
set_option maxRecDepth 20000
open Go.RowKit Go.Extern.Stop Go.Stop Go.Extern

/-- What 'TypeOf(target).Comparable()' makes at an error's number. -/
theorem isFactsE : ∃ b : Addr, (∀ (v : Value) (w : World), (callFunc 56 #[.iface 27 v]).run Tryz.prog w = .ok (.value (.iface 107 (.agg #[.pointer (some b)]))) w) ∧
    ∀ w : World, (callFunc 145 #[.agg #[.pointer (some b)]]).run Tryz.prog w = .ok (.value (.bool true)) w :=
  ⟨⟨Tryz.prog.globals.size, 27, none⟩, fun v w => by kernel_rfl, fun w => by kernel_rfl⟩
theorem isCompE : (Tryz.prog.info? 27).map (·.comparable) = some true := by kernel_rfl
theorem noIsF (v : Value) (xT : TypeId) (w : World) : (Instr.typeAssert (.iface 48 v) xT 120 true).run Tryz.prog w = .ok (.tuple #[.nilIface, .bool false]) w := run_typeAssert_lacksB Tryz.underlying120 (by kernel_rfl) (by kernel_rfl) v xT w
theorem hasUnwrapF (v : Value) (xT : TypeId) (w : World) : (Instr.typeAssert (.iface 48 v) xT 114 true).run Tryz.prog w = .ok (.tuple #[.iface 48 v, .bool true]) w := run_typeAssert_hasB Tryz.underlying114 (by kernel_rfl) v xT w
set_option maxHeartbeats 2000000 in
/-- errors.Is at a fault and its own number. -/
theorem is_fault (pb : Nat) (c : Int) (w : World) (h0 : w.cell? ⟨pb, 0, none⟩ = some (.int .i64 c)) :
    Calls Tryz.prog 27 #[.iface 48 (.pointer (some ⟨pb, 0, none⟩)), .iface 27 (.int .i64 c)] w fun e w' => e = .returned (.bool true) ∧ w' = w := by
  obtain ⟨b0, tT, cT⟩ := isFactsE
  have nW := noIsF
  have uW := hasUnwrapF
  have heq := Lib.run_eql_iface_int (P := Tryz.prog) (tx := 27) w (k := .i64) c c Tryz.underlying24 isCompE Tryz.underlying27
  rw [beq_self_eq_true] at heq
  have hty := run_eql_iface_types (P := Tryz.prog) 48 27 (.pointer (some ⟨pb, 0, none⟩)) (.int .i64 c) Tryz.underlying24 (by decide) w
  go_enter Tryz.func27, Tryz.ntmps27
  go_wp2
  refine wp_loop_rounds 2 ?_
  rw [rounds_succ]
  go_wp2
  rw [rounds_succ]
  go_wp2
  go_ret
  exact ⟨rfl, rfl⟩
/-- told: no error, and a fault that is none. -/
theorem told_none (w : World) : Calls Tryz.prog 11 #[.nilIface, .agg #[.int .i64 0, .int .i64 0]] w fun e w' => e = .returned (.bool true) ∧ Below w.heap.size w w' := by
  go_enter Tryz.func11, Tryz.ntmps11
  go_wp2_with fail
  go_ret
  exact ⟨rfl, (Below.refl _ _).alloc (Nat.le_refl _) _⟩
/-- The world behind errors.As: the target points to the fault; the rest is as it was. -/
structure ToldAt (w : World) (b : Nat) (c l : Int) (w5 : World) : Prop where
  g : w5.cell? ⟨w.heap.size + 1, 0, none⟩ = some (.pointer (some ⟨b, 0, none⟩))
  p0 : w5.cell? ⟨w.heap.size, 0, none⟩ = some (.int .i64 c)
  p1 : w5.cell? ⟨w.heap.size, 1, none⟩ = some (.int .i64 l)
  b0 : w5.cell? ⟨b, 0, none⟩ = some (.int .i64 c)
  b1 : w5.cell? ⟨b, 1, none⟩ = some (.int .i64 l)
  below : Below w.heap.size w w5
theorem told_at {w w4 : World} {b : Nat} {c l : Int} (hb : b < w.heap.size) (h0 : w.cell? ⟨b, 0, none⟩ = some (.int .i64 c)) (h1 : w.cell? ⟨b, 1, none⟩ = some (.int .i64 l))
    (hb4 : Below (((w.alloc (.cells #[.int .i64 c, .int .i64 l] 29)).alloc (.cells #[.pointer none] 48)).drew).heap.size (((w.alloc (.cells #[.int .i64 c, .int .i64 l] 29)).alloc (.cells #[.pointer none] 48)).drew) w4) :
    ToldAt w b c l (w4.setCell ⟨w.heap.size + 1, 0, none⟩ (.pointer (some ⟨b, 0, none⟩))) := by
  have hs : (((w.alloc (.cells #[.int .i64 c, .int .i64 l] 29)).alloc (.cells #[.pointer none] 48)).drew).heap.size = w.heap.size + 2 := by show ((w.alloc _).alloc _).heap.size = _; simp
  have look : ∀ p : Addr, p.block < w.heap.size + 2 → w4.cell? p = ((w.alloc (.cells #[.int .i64 c, .int .i64 l] 29)).alloc (.cells #[.pointer none] 48)).cell? p := fun p hp => hb4.cell (by rw [hs]; exact hp)
  have o : ∀ (q : Addr) (x : Value), q.block ≠ w.heap.size + 1 → (w4.setCell ⟨w.heap.size + 1, 0, none⟩ x).cell? q = w4.cell? q := fun q x hq => World.cell?_setCell_other _ _ _ _ (fun e => hq (by rw [← e]))
  refine ⟨?_, ?_, ?_, ?_, ?_, ?_⟩
  · have := look ⟨w.heap.size + 1, 0, none⟩ (by show w.heap.size + 1 < _; omega)
    simp [go_sem] at this
    simp [go_sem, this]
  · rw [o ⟨w.heap.size, 0, none⟩ _ (by show w.heap.size ≠ _; omega), look ⟨w.heap.size, 0, none⟩ (by show w.heap.size < _; omega)]; simp [go_sem]
  · rw [o ⟨w.heap.size, 1, none⟩ _ (by show w.heap.size ≠ _; omega), look ⟨w.heap.size, 1, none⟩ (by show w.heap.size < _; omega)]; simp [go_sem]
  · rw [o ⟨b, 0, none⟩ _ (by show b ≠ _; omega), look ⟨b, 0, none⟩ (by show b < _; omega), World.cell?_alloc_lt _ _ ⟨b, 0, none⟩ (by simp; omega), World.cell?_alloc_lt _ _ ⟨b, 0, none⟩ hb]; exact h0
  · rw [o ⟨b, 1, none⟩ _ (by show b ≠ _; omega), look ⟨b, 1, none⟩ (by show b < _; omega), World.cell?_alloc_lt _ _ ⟨b, 1, none⟩ (by simp; omega), World.cell?_alloc_lt _ _ ⟨b, 1, none⟩ hb]; exact h1
  · exact (((((Below.refl _ _).alloc (Nat.le_refl _) _).alloc (by simp) _).drew).trans (hb4.mono (by rw [hs]; omega))).setCell (p := ⟨w.heap.size + 1, 0, none⟩) (by show w.heap.size ≤ w.heap.size + 1; omega) _
set_option maxHeartbeats 4000000 in
/-- told: a fault, and its number and line. -/
theorem told_some (b : Nat) (c l : Int) (w : World) (hc : c ≠ 0) (hb : b < w.heap.size) (h0 : w.cell? ⟨b, 0, none⟩ = some (.int .i64 c)) (h1 : w.cell? ⟨b, 1, none⟩ = some (.int .i64 l)) (hE : ErrTypeAt w) :
    Calls Tryz.prog 11 #[.iface 48 (.pointer (some ⟨b, 0, none⟩)), .agg #[.int .i64 c, .int .i64 l]] w fun e w' => e = .returned (.bool true) ∧ Below w.heap.size w w' := by
  have hc0 : (c == 0) = false := beq_eq_false_iff_ne.2 hc
  have TA := Lib.hid (fun w4 hb4 => told_at (w4 := w4) hb h0 h1 hb4)
  have eW : Hid (ErrTypeAt ((w.alloc (.cells #[.int .i64 c, .int .i64 l] 29)).alloc (.cells #[.pointer none] 48)).drew) := hE.below hE.lt (((Below.refl _ _).alloc (Nat.le_refl _) _).alloc (by simp) _).drew
  have tW : Hid ((((w.alloc (.cells #[.int .i64 c, .int .i64 l] 29)).alloc (.cells #[.pointer none] 48)).drew).cell? ⟨w.heap.size + 1, 0, none⟩ = some (.pointer none)) := by
    show ((w.alloc _).alloc _).cell? _ = _; simp [go_sem]
  have fW : Hid ((((w.alloc (.cells #[.int .i64 c, .int .i64 l] 29)).alloc (.cells #[.pointer none] 48)).drew).frozen? ⟨w.heap.size + 1, 0, none⟩ = false) := by
    show ((w.alloc _).alloc _).frozen? _ = _; simp [go_sem]
  have hcc : (c == c) = true := beq_self_eq_true c
  have hll : (l == l) = true := beq_self_eq_true l
  clear hE h0 h1 hc
  go_enter Tryz.func11, Tryz.ntmps11
  go_wp2_with fail
  go_region_with (first
    | (go_at_call 25; refine (As_fault ⟨b, 0, none⟩ ⟨w.heap.size + 1, 0, none⟩ (.pointer none) _ eW.out tW.out fW.out).mono ?_; rintro e w5 ⟨rfl, w4, hb4, rfl⟩; have T := TA.out _ hb4; generalize w4.setCell ⟨w.heap.size + 1, 0, none⟩ (.pointer (some ⟨b, 0, none⟩)) = w5 at T ⊢; have g0 := T.g; have p0 := T.p0; have p1 := T.p1; have b0 := T.b0; have b1 := T.b1; have B5 := Lib.hid T.below; have I := Lib.hid (is_fault b c w5 b0); clear T hb4)
    | (go_at_call 27; refine I.out.mono ?_; rintro e w6 ⟨rfl, rfl⟩))
  all_goals
    go_wp2_with fail
    go_ret
    exact ⟨rfl, B5.out⟩
end Go.Proofs.YteoccfmhpakplaaGreatDoor
