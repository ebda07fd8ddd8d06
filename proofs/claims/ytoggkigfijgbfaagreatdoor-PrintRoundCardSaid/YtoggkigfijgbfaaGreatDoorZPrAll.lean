/- print.writer: all calls, at every fuel; the deferred closure of textOf; textOf. -/
import Derived.Test.YtoggkigfijgbfaaGreatDoorZPrStmtB
import Derived.Test.YtoggkigfijgbfaaGreatDoorZPrExprC
import Derived.Test.YtoggkigfijgbfaaGreatDoorZParParse
import Derived.Recover
namespace Go.Proofs.YtoggkigfijgbfaaGreatDoor.P6
set_option maxRecDepth 20000
open Go.RowKit

theorem spec {b : World} {p : Nat} (C : Env6 b p) : ∀ n, Spec b p n
  | 0 => by constructor <;> (intros; rename_i h; exact absurd rfl h)
  | n + 1 =>
    have S := spec C n
    ⟨fun hB h q0 hD => expr_next C S hB h q0 hD,
     fun hB h q0 hD => operand_next C S hB h q0 hD,
     fun hB h q0 hD => post_next C S hB h q0 hD,
     fun hB h q0 q1 hD => operation_next C S hB h q0 q1 hD,
     fun hB h q0 hD => index_next C S hB h q0 hD,
     fun hB h q0 q1 hD => item_next C S hB h q0 q1 hD,
     fun hB h q0 q1 hD => body_next C S hB h q0 q1 hD,
     fun hB h q0 hD => stmts_next C S hB h q0 hD,
     fun hB h q0 hD => block_next C S hB h q0 hD,
     fun hB h q0 hD => stmt_next C S hB h q0 hD,
     fun hB h q0 q1 hD => value_next C S hB h q0 q1 hD,
     fun hB h q0 q1 q2 hD => blocks_next C S hB h q0 q1 q2 hD,
     fun hB h q0 q1 hD => choice_next C S hB h q0 q1 hD,
     fun hB h q0 q1 hD => named_next C S hB h q0 q1 hD⟩
theorem assert_errno (v : Value) (w : World) : (Instr.typeAssert (.iface 29 v) 20 29 false).run Tryz.prog w = .ok v w := by kernel_rfl
theorem catch_idle (a b : Nat) (w : World) :
    CallsD Tryz.prog 59 #[pV a, pV b] .returning w fun e u' w' => e = .returned (.tuple #[]) ∧ u' = .returning ∧ w' = w := by
  refine callsD_of_wpS Tryz.func59 rfl fun c₀ cs hu => ?_
  apply wpS_seq
  apply wpS_region
  simp [wpOpsS, go_sem, recoverD, hu, Tryz.ntmps59, Exit.thenS]
  apply wpS_seq
  apply wpS_region
  simp [wpOpsS, go_sem, Exit.thenS]
  refine wpS_cond (t := false) (by simp [Act.eval, Array.replicate]) ?_
  simp only [Bool.false_eq_true, if_false]
  refine wpS_of_wp (wp_skip ?_)
  cases c₀
  simp_all [bodyPostS, results, Tryz.results59]
theorem catch_panic (a b : Nat) (c : Int) (w : World) (x : Value) (hab : a ≠ b) (ha : w.cell? ⟨a, 0, none⟩ = some x) (fa : w.frozen? ⟨a, 0, none⟩ = false) (y : Value) (hb : w.cell? ⟨b, 0, none⟩ = some y) (fb : w.frozen? ⟨b, 0, none⟩ = false) :
    CallsD Tryz.prog 59 #[pV a, pV b] (.panicking [{ v := .iface 29 (iV c), recovered := false }]) w fun e u' w' =>
      e = .returned (.tuple #[]) ∧ u' = .panicking [{ v := .iface 29 (iV c), recovered := true }] ∧ w'.cell? ⟨a, 0, none⟩ = some (sV []) ∧ w'.cell? ⟨b, 0, none⟩ = some (iV c) ∧ Past [a, b] w w' := by
  refine callsD_of_wpS Tryz.func59 rfl fun c₀ cs hu => ?_
  apply wpS_seq
  apply wpS_region
  simp [wpOpsS, go_sem, recoverD, hu, Tryz.ntmps59, Exit.thenS]
  apply wpS_seq
  apply wpS_region
  simp [wpOpsS, go_sem, Exit.thenS]
  refine wpS_cond (t := true) (by simp [Act.eval, Array.replicate]) ?_
  simp only [if_true]
  refine wpS_of_wp ?_
  change Code.wp _ _ _ { tmps := #[pV a, pV b, .iface 29 (iV c), .iface 29 (iV c), .iface 29 (iV c), .bool true, undef, undef], defers := [] } _
  have hba : b ≠ a := Ne.symm hab
  have TA := assert_errno
  go_region
  all_goals
    refine ⟨rfl, _, rfl, .tuple #[], results_none rfl _ _ _, rfl, rfl, ?_, ?_, ?_⟩
    · first | exact (cell_set_block hba _).trans (World.cell?_setCell_same _ _ _ (by simpa using ha)) | exact World.cell?_setCell_same _ _ _ ((cell_set_block hba _).trans (by simpa using ha))
    · first | exact World.cell?_setCell_same _ _ _ ((cell_set_block hab _).trans (by simpa using hb)) | exact (cell_set_block hab _).trans (World.cell?_setCell_same _ _ _ (by simpa using hb))
    · exact ((Past.refl [a, b] w).drew.setCell (.inl (by simp)) _).setCell (.inl (by simp)) _
theorem load_str {w : World} {a : Addr} {v : Value} (h : w.cell? a = some v) : (loadVar 9 a).run Tryz.prog w = .ok v w := by
  simp [loadVar, Tryz.isAgg9, go_sem, h]
theorem load_errno {w : World} {a : Addr} {v : Value} (h : w.cell? a = some v) : (loadVar 29 a).run Tryz.prog w = .ok v w := by
  simp [loadVar, Tryz.isAgg29, go_sem, h]
theorem results_text {fn : Func} {tmps : Array Value} {w : World} {a b : Nat} {v e : Value} (h : fn.results = #[.cell 2 9, .cell 3 29]) (h2 : tmps.getD 2 undef = pV a) (h3 : tmps.getD 3 undef = pV b) (ha : w.cell? ⟨a, 0, none⟩ = some v) (hb : w.cell? ⟨b, 0, none⟩ = some e) :
    (results fn tmps).run Tryz.prog w = .ok (.tuple #[v, e]) w := by
  have k : (results fn tmps).run Tryz.prog w = ((asAddr (tmps.getD 2 undef)).run Tryz.prog w).andThen fun x w1 => ((loadVar 9 x).run Tryz.prog w1).andThen fun v w2 => ((asAddr (tmps.getD 3 undef)).run Tryz.prog w2).andThen fun y w3 => ((loadVar 29 y).run Tryz.prog w3).andThen fun e w4 => .ok (.tuple #[v, e]) w4 := by
    simp only [results, h]
    simp [Sem.run_bind, Result.andThen]
  rw [k, h2, h3]
  simp only [asAddr, Sem.run_pure, Result.andThen_ok, load_str ha, load_errno hb]
def TextEnds (r : WRes) (w : World) (e : Ending) (w' : World) : Prop := Below w.heap.size w w' ∧ match r with
  | .out => False
  | .bad c => e = .returned (.tuple #[sV [], iV c])
  | .ok s _ => e = .returned (.tuple #[sV s, iV 0])
abbrev writerO : Obj := .cells #[.pointer none, .slice none 0 0, .int .i64 0] 122
theorem wat_new (w : World) : WAt (w.alloc writerO) w.heap.size [] 0 := ⟨_, _, heap_alloc_new _ _, .inl rfl, ⟨by simp [Lib.byteCells], .inl ⟨rfl, rfl⟩⟩, by simp, by simp, .inl rfl⟩
set_option maxHeartbeats 4000000 in
theorem textOf_any {b w : World} {t : Tree} {v : Value} (n : Nat) (hE : Env4 b) (hB : Below b.heap.size b w) (ht : TL b .ss t v) (hD : printF n (.stmts t) [] 0 ≠ .out) :
    Calls Tryz.prog 37 #[v] w (TextEnds (printF n (.stmts t) [] 0) w) := by
  have hmf : ∀ (fn : Fn) (first cap : Array Value) (w : World), (Instr.makeFunc fn first cap).run Tryz.prog w = .ok (.func fn first cap) w := fun _ _ _ _ => rfl
  obtain ⟨A, c0, rfl⟩ := ht.sl
  have B1 : Below w.heap.size w ((w.alloc (.cells #[sV []] 9)).alloc (.cells #[iV 0] 29)) := ((Below.refl _ _).alloc (Nat.le_refl _) _).alloc (by simp) _
  have B2 : Below w.heap.size w (((w.alloc (.cells #[sV []] 9)).alloc (.cells #[iV 0] 29)).alloc writerO) := B1.alloc B1.size _
  have z2 : ((w.alloc (.cells #[sV []] 9)).alloc (.cells #[iV 0] 29)).heap.size = w.heap.size + 2 := by simp
  have C : Env6 b (w.heap.size + 2) := ⟨hE, by have := hB.size; omega⟩
  have hW := wat_new ((w.alloc (.cells #[sV []] 9)).alloc (.cells #[iV 0] 29))
  rw [z2] at hW
  have ST := Lib.hid ((spec C n).stmts (hB.trans (B2.mono hB.size)) hW ht hD)
  generalize printF n (.stmts t) [] 0 = r at ST hD ⊢
  have H := Lib.hid B2
  clear hW ht hE hB
  have ha3 : (((w.alloc (.cells #[sV []] 9)).alloc (.cells #[iV 0] 29)).alloc writerO).heap[w.heap.size]? = some (.cells #[sV []] 9 (0, 0)) := (Below.heap_alloc _ _ _ (by first | (simp; done) | (simp; omega))).trans ((Below.heap_alloc _ _ _ (by first | (simp; done) | (simp; omega))).trans (heap_alloc_new w _))
  have hb3 : (((w.alloc (.cells #[sV []] 9)).alloc (.cells #[iV 0] 29)).alloc writerO).heap[w.heap.size + 1]? = some (.cells #[iV 0] 29 (0, 0)) := (Below.heap_alloc _ _ _ (by first | (simp; done) | (simp; omega))).trans (by have := heap_alloc_new (w.alloc (.cells #[sV []] 9)) (.cells #[iV 0] 29); rwa [show (w.alloc (.cells #[sV []] 9)).heap.size = w.heap.size + 1 by simp] at this)
  have HA := Lib.hid ha3
  have HBB := Lib.hid hb3
  clear ha3 hb3 B1 z2
  cases r with
  | out => exact absurd rfl hD
  | bad c =>
    go_enter_defers Tryz.func37, Tryz.ntmps37
    go_wp2_with (first
      | (go_at_call 60; (with_reducible refine ST.out.mono ?_); rintro e w1 ⟨rfl, hk⟩))
    have ha := hk.block HA.out (by omega) (by intro c f e; injection e with _ e; exact absurd e (by decide))
    have hb := hk.block HBB.out (by omega) (by intro c f e; injection e with _ e; exact absurd e (by decide))
    refine leaves_cons (f := 59) (args := #[pV w.heap.size, pV (w.heap.size + 1)]) (by simp) (by simp [go_sem]) ?_
    refine (catch_panic w.heap.size (w.heap.size + 1) c _ _ (by omega) (Lib.cell_of_heap ha 0) (Lib.frozen_of_heap ha 0) _ (Lib.cell_of_heap hb 0) (Lib.frozen_of_heap hb 0)).mono ?_
    rintro e u' w7 ⟨rfl, rfl, h1, h2, h3⟩
    refine ⟨_, results_text rfl rfl rfl h1 h2, ?_⟩
    have B3 := H.out.trans (hk.below.mono (by omega))
    exact ⟨B3.trans (h3.toBelow B3.size (by intro i hi; simp at hi; omega)), rfl⟩
  | ok s k =>
    go_enter_defers Tryz.func37, Tryz.ntmps37
    go_wp2_with (first
      | (go_at_call 60; (with_reducible refine ST.out.mono ?_); rintro e w1 ⟨rfl, hw1, hk⟩; have ha := hk.block HA.out (by omega) (by intro c f e; injection e with _ e; exact absurd e (by decide)); have hb := hk.block HBB.out (by omega) (by intro c f e; injection e with _ e; exact absurd e (by decide)); have B3 := H.out.trans (hk.below.mono (by omega)))
      | (go_at_call 61; (with_reducible refine (String_at hw1).mono ?_); rintro e w2 ⟨rfl, hb2⟩; have ha2 := (hb2.block _ (by omega)).trans ha; have hb2' := (hb2.block _ (by omega)).trans hb; have ca := Lib.cell_of_heap ha2 0; have cb := Lib.cell_of_heap hb2' 0; have fa := Lib.frozen_of_heap ha2 0; have fb := Lib.frozen_of_heap hb2' 0; have B4 := B3.trans (hb2.mono (by omega))))
    refine leaves_cons (f := 59) (args := #[pV w.heap.size, pV (w.heap.size + 1)]) (by simp) (by simp [go_sem]) ?_
    refine (catch_idle w.heap.size (w.heap.size + 1) _).mono ?_
    rintro e u' w7 ⟨rfl, rfl, rfl⟩
    refine ⟨_, results_text rfl rfl rfl (a := w.heap.size) (b := w.heap.size + 1) (v := sV s) (e := iV 0) ((cell_set_block (by omega) _).trans (World.cell?_setCell_same _ _ _ ca)) (World.cell?_setCell_same _ _ _ ((cell_set_block (by omega) _).trans cb)), ?_⟩
    exact ⟨(B4.setCell (by simp) _).setCell (by simp) _, rfl⟩
end Go.Proofs.YtoggkigfijgbfaaGreatDoor.P6
