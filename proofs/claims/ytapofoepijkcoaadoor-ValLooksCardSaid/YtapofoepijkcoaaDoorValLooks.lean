/- ValLooks: of every value: val.May, Ref, Truth and Key answer as the document's own do; the argument reads as it did. Conditions: none but the tied package-level variables and the form's own reach. -/
import Derived.Test.YtapofoepijkcoaaDoorCards
import Derived.Test.YtapofoepijkcoaaDoorTie
import Derived.Test.YtapofoepijkcoaaDoorValFrame
namespace Go.Proofs.YtapofoepijkcoaaDoor.valLooks
open Go.ChangeShapes Go.WideShapes Go.ChangeAt Go.RowKit

set_option maxHeartbeats 2000000 in
theorem walk (k n : Int) (_ : -9223372036854775808 ≤ k) (_ : k ≤ 9223372036854775807) (w : World) (hE : Env w) :
    Calls Tryd.prog 3 #[.agg #[.int .i64 k, .int .i64 n]] w fun e w' => e = .returned (.bool true) ∧ Below w.heap.size w w' := by
  have M1 := Lib.hid (May_any k n)
  have M2 := Lib.hid (RMay_any k n)
  have R1 := Lib.hid (Ref_any k n)
  have R2 := Lib.hid (RRef_any k n)
  have T1 := Lib.hid (Truth_any k n)
  have T2 := Lib.hid (RTruth_any k n)
  have K1 := Lib.hid (Key_any k n)
  have K2 := Lib.hid (RKey_any k n)
  generalize mayB k n = a at *
  generalize refB k n = b at *
  generalize truthB k n = c at *
  generalize keyB k n = d at *
  have c1 : (a == a) = true := by simp
  have c2 : (b == b) = true := by simp
  have c3 : (c == c) = true := by simp
  have c4 : (d == d) = true := by simp
  have I := Kept.start k n w 23 hE
  clear hE
  go_enter Tryd.func3, Tryd.ntmps3
  go_wp2_with fail
  go_region_held3 (fun w' => w'.cell? ⟨w.heap.size, 0, none⟩ = some (.int .i64 k) ∧ w'.cell? ⟨w.heap.size, 1, none⟩ = some (.int .i64 n) ∧ Kept k n w w') (first | exact I.drew.all | (obtain ⟨_, _, hK⟩ := ‹_ ∧ _ ∧ Kept k n w _›; exact (hK.next ‹_›).all))
    (first
      | (go_at_call 10; refine (M1.out _).mono ?_; rintro e w1 ⟨rfl, hb⟩)
      | (go_at_call 11; refine (M2.out _).mono ?_; rintro e w1 ⟨rfl, hb⟩)
      | (go_at_call 12; refine (R1.out _).mono ?_; rintro e w1 ⟨rfl, hb⟩)
      | (go_at_call 13; refine (R2.out _).mono ?_; rintro e w1 ⟨rfl, hb⟩)
      | (go_at_call 14; refine (T1.out _).mono ?_; rintro e w1 ⟨rfl, hb⟩)
      | (go_at_call 15; refine (T2.out _).mono ?_; rintro e w1 ⟨rfl, hb⟩)
      | (go_at_call 16; refine (K1.out _).mono ?_; rintro e w1 ⟨rfl, hb⟩)
      | (go_at_call 17; refine (K2.out _).mono ?_; rintro e w1 ⟨rfl, hb⟩)
      | (go_at_call 18; obtain ⟨_, _, hK⟩ := ‹_ ∧ _ ∧ Kept k n w _›; refine (works_true _ hK.env).mono ?_; rintro e w1 ⟨rfl, hb⟩))
  obtain ⟨_, _, hK⟩ := ‹_ ∧ _ ∧ Kept k n w _›
  have B := Lib.hid hK.below
  go_wp2_with fail
  go_ret
  exact ⟨rfl, B.out⟩
set_option maxRecDepth 100000 in
theorem contract (H : Type) (enc : TypeId × Value → H) (W : World) (base : Nat) (args : Array Value) (ds gs : List (DataW H)) (before : List MemPlace)
    (hval : ∀ (j : Nat) t v, Tryd.f3.params[j]? = some t → args[j]? = some v → Value.okWide Tryd.prog W .any base t v)
    (hW : DataW.Whole enc Tryd.prog Tryd.f3.params.toList Rows.valLooksSpec.vars false W args.toList ds gs before)
    (hsz0 : (DataW.weightsEach Tryd.prog (Tryd.f3.params.toList ++ (OpenSpec.ofChange Rows.valLooksSpec).bare.plain.varTypes Tryd.prog) (ds ++ gs)).all (· ≤ reachBytes) = true) (hL : laidMetH Tryd.prog Rows.valLooksRow.laid W) :
    Calls Tryd.prog 3 args W fun e W' => ∃ v, e = .returned v ∧ Rows.valLooksSpec.post enc Tryd.prog Tryd.f3 false true false false W args v W' := by
  have hW' := hW
  obtain ⟨p, q, hA0, hV, rfl, hfz, hnd⟩ := hW
  have hA : DataW.TrodAll enc Tryd.prog W 0 (fun _ => true) true Tryd.f3.params.toList args.toList ds p := hA0
  have hsz := hsz0
  rw [Tryd.params3] at hA hval hsz
  obtain ⟨v0, vs0, d0, ds0, p0, q0, hargs, rfl, rfl, h0, r0⟩ := trodAll_cons hA
  obtain ⟨rfl, rfl, rfl⟩ := trodAll_nil r0
  obtain rfl : args = #[v0] := by cases args; simp_all
  obtain ⟨rfl, rfl⟩ := trodVars_none hV
  obtain ⟨a0, b0, rfl, w0, y0⟩ := open_val (hval 0 23 v0 rfl rfl) h0
  obtain ⟨l0, u0⟩ := of_wf_i64 w0
  clear hA0 hsz hsz0
  simp only [List.append_nil] at hW'
  refine (walk a0 b0 l0 u0 W (env_of_laid hL)).mono fun e W' ⟨he, hb⟩ => ?_
  subst he
  exact ⟨_, rfl, law_post laidOut (by kernel_rfl) (by kernel_rfl) Tryd.underlying4 hW' hb rfl⟩

theorem laid_met (os : Os) : laidMet Tryd.prog Rows.valLooksRow.laid ((laidWorld os).forCall (fun _ _ => 0) ⟨#[], #[.agg #[.int .i64 0, .int .i64 0]], []⟩).memory :=
  laidMet_of_run' 8 (by kernel_rfl) (by kernel_rfl)
theorem reads (os : Os) {H : Type} (enc : TypeId × Value → H) : ∃ places, DataW.whole enc Tryd.prog ((laidWorld os).forCall (fun _ _ => 0) ⟨#[], #[.agg #[.int .i64 0, .int .i64 0]], []⟩).memory Tryd.f3.params.toList Rows.valLooksSpec.vars false (#[.agg #[.int .i64 0, .int .i64 0]] : Array Value).toList 8 = some ([.agg [.lit (.int .i64 0), .lit (.int .i64 0)]], [], places) :=
  ⟨[], by kernel_rfl⟩

set_option maxRecDepth 100000 in
theorem lifted (os : Os) (started : os.Started) (H : Type) (enc : TypeId × Value → H) (F : Stop.Interp) :
    ReturnsInHanded {} Tryd.checked os 3 .any ((OpenSpec.ofChange Rows.valLooksSpec).preRow enc Tryd.prog Tryd.f3 Rows.valLooksRow.domain false Rows.valLooksRow.laid) (((OpenSpec.ofChange Rows.valLooksSpec).at F).post enc Tryd.prog Tryd.f3 false true false false) := by
  obtain ⟨places, hx⟩ := reads os enc
  refine returnsInHanded_of_row (C := Tryd.checked) (s := (OpenSpec.ofChange Rows.valLooksSpec)) own started (by kernel_rfl) Tryd.func3
    (witness_row_atRef (enc := enc) (C := Tryd.checked) false (laidWorld os) #[.agg #[.int .i64 0, .int .i64 0]] rfl (by kernel_rfl) (by kernel_rfl) (by kernel_rfl)
      (OpenSpec.preRow_of_cond 8 hx (by kernel_rfl) (fun k hk => by cases hk) (by kernel_rfl) (laid_met os))) ?_
  intro W base args ds gs before hval hW _ _ hsz hL _ _
  exact contract H enc W base args ds gs before hval hW hsz hL

theorem said : Rows.ValLooksSaid :=
  OpenClaim.holds_of_cond 3 Tryd.f3 rfl rfl rfl rfl rfl rfl rfl ⟨rfl, rfl, rfl, rfl, rfl⟩ rfl rfl rfl rfl rfl (by kernel_rfl) Tryd.func3 (by kernel_rfl)
    (of_decide_eq_true (by kernel_rfl)) (by unfold Func.isWrapper; first | (rw [if_pos (by decide +kernel)]; kernel_rfl) | (rw [if_neg (by decide +kernel)]; exact ⟨rfl, rfl⟩))
    (fun os started H enc _ F => by rw [OpenClaim.pre_eq_preRow]; exact lifted os started H enc F)

/-- No parameter wants a stand-in; the program's own looks are off: what the card asks. -/
theorem plain (f : FuncId) (fn : Func) (hf : Tryd.pinned.checked.prog.funcNamed "tallow/tallowlaw02.ValLooks" = some f) (hfn : Tryd.pinned.checked.prog.funcs[f]? = some fn) :
    Rows.valLooksCard.stood.looks = Tryd.pinned.checked.prog.looks [] ∧ ∀ (j : Nat) t, fn.params[j]? = some t → Tryd.pinned.checked.prog.wantsStandIn t = false := by
  obtain rfl : f = 3 := Option.some.inj ((show Tryd.prog.funcNamed "tallow/tallowlaw02.ValLooks" = some 3 by kernel_rfl).symm.trans hf) |>.symm
  obtain rfl : fn = Tryd.f3 := (Option.some.inj (Tryd.func3.symm.trans hfn)).symm
  refine ⟨by kernel_rfl, fun j t ht => ?_⟩
  rw [Tryd.params3] at ht
  have hm : t ∈ ([23] : List TypeId) := by simpa using Array.mem_of_getElem? ht
  have ha : ([23] : List TypeId).all (fun t => !Tryd.prog.wantsStandIn t) = true := by kernel_rfl
  have hb := List.all_eq_true.1 ha t hm
  have hc : Tryd.prog.wantsStandIn t = false := by simpa using hb
  exact hc

/-- THE CARD. -/
theorem card : Rows.ValLooksCardSaid :=
  Claim7.holds_tied_plain_at .later [] _ _ _ _ said (fun _ h => by cases h) (by kernel_rfl) (fun _ h => by cases h) valLooks_row_tie rfl ⟨rfl, rfl⟩ (by kernel_rfl) rfl plain (by kernel_rfl)
end Go.Proofs.YtapofoepijkcoaaDoor.valLooks
