/- GraphChecks: whether a graph may be is what the document's own answer says: for any graph. Conditions: none but the form's own reach. -/
import Derived.Test.YtkkdgacdajojiaaGrWorks
import Derived.Test.YtkkdgacdajojiaaGrOpen
import Derived.Test.YtkkdgacdajojiaaLawPost
import Derived.ProofKit
import Derived.BigQuiet
import Derived.Deep.LoopGhost
import Derived.Deep.DeepCutAuto
namespace Go.Proofs.Ytkkdgacdajojiaa.graphChecks
set_option maxRecDepth 20000
open Go.ChangeShapes Go.WideShapes Go.ChangeAt Go.RowKit Go.Maps Go.Sort

set_option maxHeartbeats 4000000 in
theorem walk (A : Option Addr) (c : Nat) (g : List OB) (hz : g.length * 64 ≤ 140737488351232) (w : World) (hg : GAt w A g) :
    Calls Try.prog 7 #[.agg #[.slice A g.length c]] w fun e w' => e = .returned (.bool true) ∧ Below w.heap.size w w' := by
  have CA : Hid (∀ W, Below w.heap.size w W → Calls Try.prog 31 #[gV A g.length c] W fun e w' => e = .returned (.bool (checkB g)) ∧ Below W.heap.size W w') := fun W hW => Check_any (hg.below hW) (by omega)
  have CB : Hid (∀ W, Below w.heap.size w W → Calls Try.prog 32 #[gV A g.length c] W fun e w' => e = .returned (.bool (checkB g)) ∧ Below W.heap.size W w') := fun W hW => RCheck_any (hg.below hW) (by omega)
  clear hg hz
  generalize checkB g = y at *
  generalize g.length = n at *
  go_enter Try.func7, Try.ntmps7
  go_upto_region 1 with fail
  refine at_world (S := fun W => Below w.heap.size w W ∧ W.cell? ⟨w.heap.size, 0, none⟩ = some (.slice A n c)) ⟨(Below.refl _ _).alloc (Nat.le_refl _) _, by simp [go_sem]⟩ (fun V HV => ?_)
  obtain ⟨hV, c0⟩ := HV
  have BV := Lib.hid hV
  clear hV
  have r0 := fun d os => cell_regrown c0 d os
  have ca := fun d os => Calls.regrown_of (CA.out (Go.Sort.grow (redrawn V d) os) (BV.out.trans ((below_regrown V d os).mono BV.out.size)))
  have cb := fun d os => Calls.regrown_of (CB.out (Go.Sort.grow (redrawn V d) os) (BV.out.trans ((below_regrown V d os).mono BV.out.size)))
  have cw := fun d os => Calls.regrown_of (works_true (Go.Sort.grow (redrawn V d) os))
  have yy : (y == y) = true := by simp
  refine wp_region_quiet_below (by kernel_rfl) (by kernel_rfl) ?_
  repeat (go_big_quiet_step (first | (with_reducible exact ca _ _) | (with_reducible exact cb _ _) | (with_reducible exact cw _ _)))
  refine wpQuiet_nil ?_
  intro w3 ⟨⟨dq, osq⟩, hw3⟩
  have B3 : Hid (Below V.heap.size V w3) := by rw [hw3]; exact below_regrown V dq osq
  clear hw3
  go_wp2_with fail
  go_ret
  exact ⟨rfl, BV.out.trans (B3.out.mono BV.out.size)⟩
theorem own : ownKnob Try.prog.godebug = none := by kernel_rfl
theorem laidOut : laidOutB Try.prog = true := by kernel_rfl
set_option maxRecDepth 100000 in
theorem contract (H : Type) (enc : TypeId × Value → H) (W : World) (base : Nat) (args : Array Value) (ds gs : List (DataW H)) (before : List MemPlace)
    (hval : ∀ (j : Nat) t v, Try.f7.params[j]? = some t → args[j]? = some v → Value.okWide Try.prog W .any base t v)
    (hW : DataW.Whole enc Try.prog Try.f7.params.toList Rows.graphChecksSpec.vars false W args.toList ds gs before)
    (hsz0 : (DataW.weightsEach Try.prog (Try.f7.params.toList ++ Rows.graphChecksSpec.plain.varTypes Try.prog) (ds ++ gs)).all (· ≤ reachBytes) = true) :
    Calls Try.prog 7 args W fun e W' => ∃ v, e = .returned v ∧ Rows.graphChecksSpec.post enc Try.prog Try.f7 false true false false W args v W' := by
  have hW' := hW
  obtain ⟨p, q, hA0, hV, rfl, hfz, hnd⟩ := hW
  have hA : DataW.TrodAll enc Try.prog W 0 (fun _ => true) true Try.f7.params.toList args.toList ds p := hA0
  have hsz := hsz0
  rw [Try.params7] at hA hval hsz
  obtain ⟨v0, vs0, d0, ds0, p0, q0, hargs, rfl, rfl, h0, r0⟩ := trodAll_cons hA
  obtain ⟨rfl, rfl, rfl⟩ := trodAll_nil r0
  obtain rfl : args = #[v0] := by cases args; simp_all
  obtain ⟨rfl, rfl⟩ := trodVars_none hV
  obtain ⟨A0, c0, l0, rfl, w0, z0⟩ := open_graph (hval 0 46 v0 rfl rfl) h0 (size_of hsz (j := 0) rfl rfl)
  clear hA0 hsz hsz0
  simp only [List.append_nil] at hW'
  refine (walk A0 c0 l0 z0 W w0).mono fun e W' ⟨he, hb⟩ => ?_
  subst he
  exact ⟨_, rfl, law_post laidOut (by kernel_rfl) (by kernel_rfl) Try.underlying4 hW' hb rfl⟩

set_option maxRecDepth 100000 in
theorem lifted (os : Os) (started : os.Started) (H : Type) (enc : TypeId × Value → H) :
    ReturnsInHanded {} Try.checked os 7 .any (Rows.graphChecksSpec.pre6 enc Try.prog Try.f7 Rows.graphChecksRow.domain false) (Rows.graphChecksSpec.post enc Try.prog Try.f7 false true false false) := by
  refine returnsInHanded_of_change_sized (C := Try.checked) own started (by kernel_rfl) Try.func7
    (ChangeSpec.witness6 (enc := enc) (C := Try.checked) false ⟨#[], #[.agg #[.slice none 0 0]], []⟩ 8 (by kernel_rfl) (by kernel_rfl) (by kernel_rfl) (by kernel_rfl)) ?_
  intro W base args ds gs before hval hW _ hsz _
  exact contract H enc W base args ds gs before hval hW hsz
/-- The row. -/
theorem holds : Rows.GraphChecksSaid :=
  OpenClaim.holds_of_wide 7 Try.f7 rfl rfl rfl rfl rfl rfl rfl ⟨rfl, rfl, rfl, rfl, rfl⟩ rfl rfl rfl rfl rfl (by kernel_rfl) Try.func7 (by kernel_rfl)
    (of_decide_eq_true (by kernel_rfl)) (by unfold Func.isWrapper; first | (rw [if_pos (by decide +kernel)]; kernel_rfl) | (rw [if_neg (by decide +kernel)]; exact ⟨rfl, rfl⟩))
    (fun os started H enc _ => lifted os started H enc)
end Go.Proofs.Ytkkdgacdajojiaa.graphChecks
