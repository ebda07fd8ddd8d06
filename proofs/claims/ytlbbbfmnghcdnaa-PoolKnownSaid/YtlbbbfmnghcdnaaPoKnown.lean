/- PoolKnown: the chapter's examples; pools that are none. Conditions: none. -/
import Derived.Test.YtlbbbfmnghcdnaaPoNone
import Derived.Test.YtlbbbfmnghcdnaaLawPost
import Derived.ProofKit
import Derived.BigQuiet
namespace Go.Proofs.Ytlbbbfmnghcdnaa.poolKnown
set_option maxRecDepth 20000
open Go.ChangeShapes Go.WideShapes Go.ChangeAt Go.RowKit

set_option maxHeartbeats 4000000 in
theorem walk (w : World) : Calls Try.prog 7 #[] w fun e w' => e = .returned (.bool true) ∧ Below w.heap.size w w' := by
  go_enter Try.func7, Try.ntmps7
  go_wp2_with (first
    | (go_at_call 11; (with_reducible refine (P_New _).mono ?_); rintro e w1 ⟨ps, rfl, h1, b1⟩; have H1 := Lib.hid h1; have N1 : Hid (NoneP w1 (bV w.heap.size)) := (Or.inr ⟨w.heap.size, rfl, (b1.cell (p := ⟨w.heap.size, 0, none⟩) (by simp)).trans (by simp [go_sem])⟩); have B1 := Lib.hid (below_box b1); clear h1 b1)
    | (go_at_call 15; (with_reducible refine (P_Copy H1.out (by decide)).mono ?_); rintro e w2 ⟨qs, rfl, h2, b2⟩; have H2 := Lib.hid h2; have B2 := Lib.hid b2; clear h2 b2)
    | (go_at_call 13; (with_reducible refine (P_Take_is H2.out (by decide) 1 (least_of 1 (by decide) (by decide) (by decide))).mono ?_); rintro e w3 ⟨rfl, h3, b3, -⟩; have H3 := Lib.hid h3; have B3 : Hid (Below w1.heap.size w1 w3) := (B2.out.trans b3); clear h3 b3)
    | (go_at_call 25; (with_reducible refine (works_true _).mono ?_); rintro e w4 ⟨rfl, b4⟩; have H4 := Lib.hid (H3.out.below b4); have B4 : Hid (Below w1.heap.size w1 w4) := (below_hi B3.out b4); have P4 := Lib.hid (H1.out.below B4.out); have N4 := Lib.hid (N1.out.below B4.out); clear b4)
    | (go_at_call 13; (with_reducible refine (Take_none _ _ (by first | exact none_nil _ | exact N4.out)).mono ?_); rintro e w5 ⟨rfl, rfl⟩)
    | (go_at_call 17; (with_reducible refine (Give_none _ _ (by first | exact none_nil _ | exact N4.out) _).mono ?_); rintro e w5 ⟨rfl, rfl⟩)
    | (go_at_call 19; (with_reducible refine (In_none _ _ (by first | exact none_nil _ | exact N4.out) _).mono ?_); rintro e w5 ⟨rfl, rfl⟩)
    | (go_at_call 21; (with_reducible refine (Len_none _ _ (by exact none_nil _)).mono ?_); rintro e w5 ⟨rfl, rfl⟩)
    | (go_at_call 23; (with_reducible refine (Last_none _ _ (by exact N4.out)).mono ?_); rintro e w5 ⟨rfl, rfl⟩)
    | (go_at_call 15; (with_reducible refine (Copy_none _ _ (by first | exact none_nil _ | exact N4.out)).mono ?_); rintro e w5 ⟨rfl, rfl⟩)
    | (go_at_call 21; (with_reducible refine (P_Len P4.out).mono ?_); rintro e w5 ⟨rfl, rfl⟩; simp only [List.length_nil])
    | (go_at_call 21; (with_reducible refine (P_Len H4.out).mono ?_); rintro e w5 ⟨rfl, rfl⟩; simp only [List.length_cons, List.length_nil])
    | (go_at_call 17; (with_reducible refine (P_Give_no H4.out (-1) (by decide) (by decide) (by decide)).mono ?_); rintro e w5 ⟨rfl, h5, b5⟩; have H5 := Lib.hid h5; have B5 := Lib.hid (below_hi B4.out b5); clear h5 b5)
    | (go_at_call 19; (with_reducible refine (P_In H5.out (-1) (by decide) (by decide)).mono ?_); rintro e w6 ⟨rfl, h6, b6⟩; rw [show isT [1] (-1) = false from by decide]; have B6 := Lib.hid (below_hi B5.out b6); clear h6 b6))
  go_ret
  exact ⟨rfl, B1.out.trans (B6.out.mono B1.out.size)⟩
theorem own : ownKnob Try.prog.godebug = none := by kernel_rfl
theorem laidOut : laidOutB Try.prog = true := by kernel_rfl
set_option maxRecDepth 100000 in
theorem contract (H : Type) (enc : TypeId × Value → H) (W : World) (base : Nat) (args : Array Value) (ds gs : List (DataW H)) (before : List MemPlace)
    (hval : ∀ (j : Nat) t v, Try.f7.params[j]? = some t → args[j]? = some v → Value.okWide Try.prog W .any base t v)
    (hW : DataW.Whole enc Try.prog Try.f7.params.toList Rows.poolKnownSpec.vars false W args.toList ds gs before)
    (hsz0 : (DataW.weightsEach Try.prog (Try.f7.params.toList ++ Rows.poolKnownSpec.plain.varTypes Try.prog) (ds ++ gs)).all (· ≤ reachBytes) = true) :
    Calls Try.prog 7 args W fun e W' => ∃ v, e = .returned v ∧ Rows.poolKnownSpec.post enc Try.prog Try.f7 false true false false W args v W' := by
  have hW' := hW
  obtain ⟨p, q, hA0, hV, rfl, hfz, hnd⟩ := hW
  have hA : DataW.TrodAll enc Try.prog W 0 (fun _ => true) true Try.f7.params.toList args.toList ds p := hA0
  have hsz := hsz0
  rw [Try.params7] at hA hval hsz
  obtain ⟨hargs, rfl, rfl⟩ := trodAll_nil hA
  obtain rfl : args = #[] := by cases args; simp_all
  obtain ⟨rfl, rfl⟩ := trodVars_none hV
  clear hA0 hsz hsz0
  simp only [List.append_nil] at hW'
  refine (walk W).mono fun e W' ⟨he, hb⟩ => ?_
  subst he
  exact ⟨_, rfl, law_post laidOut (by kernel_rfl) (by kernel_rfl) Try.underlying4 hW' hb rfl⟩

set_option maxRecDepth 100000 in
theorem lifted (os : Os) (started : os.Started) (H : Type) (enc : TypeId × Value → H) :
    ReturnsInHanded {} Try.checked os 7 .any (Rows.poolKnownSpec.pre6 enc Try.prog Try.f7 Rows.poolKnownRow.domain false) (Rows.poolKnownSpec.post enc Try.prog Try.f7 false true false false) := by
  refine returnsInHanded_of_change_sized (C := Try.checked) own started (by kernel_rfl) Try.func7
    (ChangeSpec.witness6 (enc := enc) (C := Try.checked) false ⟨#[], #[], []⟩ 8 (by kernel_rfl) (by kernel_rfl) (by kernel_rfl) (by kernel_rfl)) ?_
  intro W base args ds gs before hval hW _ hsz _
  exact contract H enc W base args ds gs before hval hW hsz
/-- The row. -/
theorem holds : Rows.PoolKnownSaid :=
  OpenClaim.holds_of_wide 7 Try.f7 rfl rfl rfl rfl rfl rfl rfl ⟨rfl, rfl, rfl, rfl, rfl⟩ rfl rfl rfl rfl rfl (by kernel_rfl) Try.func7 (by kernel_rfl)
    (of_decide_eq_true (by kernel_rfl)) (by unfold Func.isWrapper; first | (rw [if_pos (by decide +kernel)]; kernel_rfl) | (rw [if_neg (by decide +kernel)]; exact ⟨rfl, rfl⟩))
    (fun os started H enc _ => lifted os started H enc)
end Go.Proofs.Ytlbbbfmnghcdnaa.poolKnown
