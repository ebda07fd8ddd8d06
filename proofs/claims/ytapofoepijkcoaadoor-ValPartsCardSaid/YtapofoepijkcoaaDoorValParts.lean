/- ValParts: of every value: what is an object's may be, is true and a key; what may not be is none of these; and a key that is not true is false. The argument reads as it did. Conditions: none but the tied package-level variables and the form's own reach. -/
import Derived.Test.YtapofoepijkcoaaDoorCards
import Derived.Test.YtapofoepijkcoaaDoorTie
import Derived.Test.YtapofoepijkcoaaDoorValFrame
namespace Go.Proofs.YtapofoepijkcoaaDoor.valParts
open Go.ChangeShapes Go.WideShapes Go.ChangeAt Go.RowKit

theorem parts_cases (k n : Int) : (mayB k n = false ∧ refB k n = false ∧ truthB k n = false ∧ keyB k n = false) ∨ (mayB k n = true ∧ refB k n = false ∧ truthB k n = false ∧ keyB k n = false) ∨
    (k = 2 ∧ n = 0) ∨ (mayB k n = true ∧ refB k n = false ∧ truthB k n = true ∧ keyB k n = true) ∨ (mayB k n = true ∧ refB k n = true ∧ truthB k n = true ∧ keyB k n = true) := by
  cases a : mayB k n with
  | false =>
    refine .inl ⟨rfl, false_of fun e => ?_, false_of fun e => ?_, false_of fun e => ?_⟩
    · have := (refB_iff.1 e).1; rw [a] at this; cases this
    · have := (truthB_iff.1 e).1; rw [a] at this; cases this
    · have := (keyB_iff.1 e).1; rw [a] at this; cases this
  | true =>
    by_cases h1 : 1 < k
    · by_cases h2 : k = 2 ∧ n = 0
      · exact .inr (.inr (.inl h2))
      · by_cases h5 : 5 ≤ k
        · exact .inr (.inr (.inr (.inr ⟨rfl, refB_iff.2 ⟨a, h5⟩, truthB_iff.2 ⟨a, h1, h2⟩, keyB_iff.2 ⟨a, h1⟩⟩)))
        · exact .inr (.inr (.inr (.inl ⟨rfl, false_of fun e => h5 (refB_iff.1 e).2, truthB_iff.2 ⟨a, h1, h2⟩, keyB_iff.2 ⟨a, h1⟩⟩)))
    · refine .inr (.inl ⟨rfl, false_of fun e => ?_, false_of fun e => h1 (truthB_iff.1 e).2.1, false_of fun e => h1 (keyB_iff.1 e).2⟩)
      have := (refB_iff.1 e).2; omega
set_option maxHeartbeats 2000000 in
theorem walk_of (k n : Int) (a b c d : Bool) (w : World) (hE : Env w) (hp : (a = false ∧ b = false ∧ c = false ∧ d = false) ∨ (a = true ∧ b = false ∧ c = false ∧ d = false) ∨ (a = true ∧ b = false ∧ c = true ∧ d = true) ∨ (a = true ∧ b = true ∧ c = true ∧ d = true))
    (M1 : Hid (∀ w, Calls Tryd.prog 10 #[.agg #[.int .i64 k, .int .i64 n]] w fun e w' => e = .returned (.bool a) ∧ Below w.heap.size w w'))
    (R1 : Hid (∀ w, Calls Tryd.prog 12 #[.agg #[.int .i64 k, .int .i64 n]] w fun e w' => e = .returned (.bool b) ∧ Below w.heap.size w w'))
    (T1 : Hid (∀ w, Calls Tryd.prog 14 #[.agg #[.int .i64 k, .int .i64 n]] w fun e w' => e = .returned (.bool c) ∧ Below w.heap.size w w'))
    (K1 : Hid (∀ w, Calls Tryd.prog 16 #[.agg #[.int .i64 k, .int .i64 n]] w fun e w' => e = .returned (.bool d) ∧ Below w.heap.size w w')) :
    Calls Tryd.prog 6 #[.agg #[.int .i64 k, .int .i64 n]] w fun e w' => e = .returned (.bool true) ∧ Below w.heap.size w w' := by
  have I := Kept.start k n w 23 hE
  clear hE
  rcases hp with ⟨rfl, rfl, rfl, rfl⟩ | ⟨rfl, rfl, rfl, rfl⟩ | ⟨rfl, rfl, rfl, rfl⟩ | ⟨rfl, rfl, rfl, rfl⟩
  all_goals
    go_enter Tryd.func6, Tryd.ntmps6
    go_wp2_with (go_at_call 18; refine (works_true _ I.env).mono ?_; rintro e w1 ⟨rfl, hb⟩; replace I := I.next hb; clear hb)
    go_region_held3 (fun w' => w'.cell? ⟨w.heap.size, 0, none⟩ = some (.int .i64 k) ∧ w'.cell? ⟨w.heap.size, 1, none⟩ = some (.int .i64 n) ∧ Kept k n w w') (first | exact I.drew.all | (obtain ⟨_, _, hK⟩ := ‹_ ∧ _ ∧ Kept k n w _›; exact (hK.next ‹_›).all))
      (first
        | (go_at_call 10; refine (M1.out _).mono ?_; rintro e w1 ⟨rfl, hb⟩)
        | (go_at_call 12; refine (R1.out _).mono ?_; rintro e w1 ⟨rfl, hb⟩)
        | (go_at_call 14; refine (T1.out _).mono ?_; rintro e w1 ⟨rfl, hb⟩)
        | (go_at_call 16; refine (K1.out _).mono ?_; rintro e w1 ⟨rfl, hb⟩))
    obtain ⟨_, _, hK⟩ := ‹_ ∧ _ ∧ Kept k n w _›
    have hc0 := hK.c0
    have hc1 := hK.c1
    have B := Lib.hid hK.below
    go_wp2_with fail
    go_quiet (fail)
    go_wp2_with fail
    go_ret
    exact ⟨rfl, below_drewN B.out _⟩
set_option maxHeartbeats 2000000 in
theorem walk_false (w : World) (hE : Env w) :
    Calls Tryd.prog 6 #[.agg #[.int .i64 2, .int .i64 0]] w fun e w' => e = .returned (.bool true) ∧ Below w.heap.size w w' := by
  have M1 := Lib.hid (May_any 2 0)
  have R1 := Lib.hid (Ref_any 2 0)
  have T1 := Lib.hid (Truth_any 2 0)
  have K1 := Lib.hid (Key_any 2 0)
  rw [show mayB 2 0 = true by decide] at M1
  rw [show refB 2 0 = false by decide] at R1
  rw [show truthB 2 0 = false by decide] at T1
  rw [show keyB 2 0 = true by decide] at K1
  have I := Kept.start 2 0 w 23 hE
  clear hE
  go_enter Tryd.func6, Tryd.ntmps6
  go_wp2_with (go_at_call 18; refine (works_true _ I.env).mono ?_; rintro e w1 ⟨rfl, hb⟩; replace I := I.next hb; clear hb)
  go_region_held3 (fun w' => w'.cell? ⟨w.heap.size, 0, none⟩ = some (.int .i64 2) ∧ w'.cell? ⟨w.heap.size, 1, none⟩ = some (.int .i64 0) ∧ Kept 2 0 w w') (first | exact I.drew.all | (obtain ⟨_, _, hK⟩ := ‹_ ∧ _ ∧ Kept 2 0 w _›; exact (hK.next ‹_›).all))
    (first
      | (go_at_call 10; refine (M1.out _).mono ?_; rintro e w1 ⟨rfl, hb⟩)
      | (go_at_call 12; refine (R1.out _).mono ?_; rintro e w1 ⟨rfl, hb⟩)
      | (go_at_call 14; refine (T1.out _).mono ?_; rintro e w1 ⟨rfl, hb⟩)
      | (go_at_call 16; refine (K1.out _).mono ?_; rintro e w1 ⟨rfl, hb⟩))
  obtain ⟨_, _, hK⟩ := ‹_ ∧ _ ∧ Kept 2 0 w _›
  clear I
  go_wp2_with fail
  go_region_held3 (fun w' => w'.cell? ⟨w.heap.size, 0, none⟩ = some (.int .i64 2) ∧ w'.cell? ⟨w.heap.size, 1, none⟩ = some (.int .i64 0) ∧ Kept 2 0 w w') (first | exact hK.drew.all | (obtain ⟨_, _, hK2⟩ := ‹_ ∧ _ ∧ Kept 2 0 w _›; exact (hK2.next ‹_›).all))
    (first | (go_at_call 28; refine (of_any _ _ _).mono ?_; rintro e w1 ⟨rfl, hb⟩))
  obtain ⟨_, _, hL⟩ := ‹_ ∧ _ ∧ Kept 2 0 w _›
  have B := Lib.hid hL.below
  go_wp2_with fail
  go_ret
  exact ⟨rfl, B.out⟩
theorem walk (k n : Int) (_ : -9223372036854775808 ≤ k) (_ : k ≤ 9223372036854775807) (w : World) (hE : Env w) :
    Calls Tryd.prog 6 #[.agg #[.int .i64 k, .int .i64 n]] w fun e w' => e = .returned (.bool true) ∧ Below w.heap.size w w' := by
  have H : ∀ hp, _ := fun hp => walk_of k n (mayB k n) (refB k n) (truthB k n) (keyB k n) w hE hp (Lib.hid (May_any k n)) (Lib.hid (Ref_any k n)) (Lib.hid (Truth_any k n)) (Lib.hid (Key_any k n))
  rcases parts_cases k n with h | h | ⟨rfl, rfl⟩ | h | h
  · exact H (.inl h)
  · exact H (.inr (.inl h))
  · exact walk_false w hE
  · exact H (.inr (.inr (.inl h)))
  · exact H (.inr (.inr (.inr h)))
set_option maxRecDepth 100000 in
theorem contract (H : Type) (enc : TypeId × Value → H) (W : World) (base : Nat) (args : Array Value) (ds gs : List (DataW H)) (before : List MemPlace)
    (hval : ∀ (j : Nat) t v, Tryd.f6.params[j]? = some t → args[j]? = some v → Value.okWide Tryd.prog W .any base t v)
    (hW : DataW.Whole enc Tryd.prog Tryd.f6.params.toList Rows.valPartsSpec.vars false W args.toList ds gs before)
    (hsz0 : (DataW.weightsEach Tryd.prog (Tryd.f6.params.toList ++ (OpenSpec.ofChange Rows.valPartsSpec).bare.plain.varTypes Tryd.prog) (ds ++ gs)).all (· ≤ reachBytes) = true) (hL : laidMetH Tryd.prog Rows.valPartsRow.laid W) :
    Calls Tryd.prog 6 args W fun e W' => ∃ v, e = .returned v ∧ Rows.valPartsSpec.post enc Tryd.prog Tryd.f6 false true false false W args v W' := by
  have hW' := hW
  obtain ⟨p, q, hA0, hV, rfl, hfz, hnd⟩ := hW
  have hA : DataW.TrodAll enc Tryd.prog W 0 (fun _ => true) true Tryd.f6.params.toList args.toList ds p := hA0
  have hsz := hsz0
  rw [Tryd.params6] at hA hval hsz
  obtain ⟨v0, vs0, d0, ds0, p0, q0, hargs, rfl, rfl, h0, r0⟩ := trodAll_cons hA
  obtain ⟨rfl, rfl, rfl⟩ := trodAll_nil r0
  obtain rfl : args = #[v0] := by cases args; simp_all
  obtain ⟨rfl, rfl⟩ := trodVars_none hV
  obtain ⟨a0, b0, rfl, w0, y0⟩ := open_val (hval 0 23 v0 rfl rfl) h0
  obtain ⟨l0, u0⟩ := of_wf_i64 w0
  clear hA0 hsz hsz0
  simp only [List.append_nil] at hW'
  refine (walk a0 b0 l0 u0 W (env_of_laid hL)).mono fun e W' ⟨he, hb⟩ => ?_
  subst he
  exact ⟨_, rfl, law_post laidOut (by kernel_rfl) (by kernel_rfl) Tryd.underlying4 hW' hb rfl⟩

theorem laid_met (os : Os) : laidMet Tryd.prog Rows.valPartsRow.laid ((laidWorld os).forCall (fun _ _ => 0) ⟨#[], #[.agg #[.int .i64 0, .int .i64 0]], []⟩).memory :=
  laidMet_of_run' 8 (by kernel_rfl) (by kernel_rfl)
theorem reads (os : Os) {H : Type} (enc : TypeId × Value → H) : ∃ places, DataW.whole enc Tryd.prog ((laidWorld os).forCall (fun _ _ => 0) ⟨#[], #[.agg #[.int .i64 0, .int .i64 0]], []⟩).memory Tryd.f6.params.toList Rows.valPartsSpec.vars false (#[.agg #[.int .i64 0, .int .i64 0]] : Array Value).toList 8 = some ([.agg [.lit (.int .i64 0), .lit (.int .i64 0)]], [], places) :=
  ⟨[], by kernel_rfl⟩

set_option maxRecDepth 100000 in
theorem lifted (os : Os) (started : os.Started) (H : Type) (enc : TypeId × Value → H) (F : Stop.Interp) :
    ReturnsInHanded {} Tryd.checked os 6 .any ((OpenSpec.ofChange Rows.valPartsSpec).preRow enc Tryd.prog Tryd.f6 Rows.valPartsRow.domain false Rows.valPartsRow.laid) (((OpenSpec.ofChange Rows.valPartsSpec).at F).post enc Tryd.prog Tryd.f6 false true false false) := by
  obtain ⟨places, hx⟩ := reads os enc
  refine returnsInHanded_of_row (C := Tryd.checked) (s := (OpenSpec.ofChange Rows.valPartsSpec)) own started (by kernel_rfl) Tryd.func6
    (witness_row_atRef (enc := enc) (C := Tryd.checked) false (laidWorld os) #[.agg #[.int .i64 0, .int .i64 0]] rfl (by kernel_rfl) (by kernel_rfl) (by kernel_rfl)
      (OpenSpec.preRow_of_cond 8 hx (by kernel_rfl) (fun k hk => by cases hk) (by kernel_rfl) (laid_met os))) ?_
  intro W base args ds gs before hval hW _ _ hsz hL _ _
  exact contract H enc W base args ds gs before hval hW hsz hL

theorem said : Rows.ValPartsSaid :=
  OpenClaim.holds_of_cond 6 Tryd.f6 rfl rfl rfl rfl rfl rfl rfl ⟨rfl, rfl, rfl, rfl, rfl⟩ rfl rfl rfl rfl rfl (by kernel_rfl) Tryd.func6 (by kernel_rfl)
    (of_decide_eq_true (by kernel_rfl)) (by unfold Func.isWrapper; first | (rw [if_pos (by decide +kernel)]; kernel_rfl) | (rw [if_neg (by decide +kernel)]; exact ⟨rfl, rfl⟩))
    (fun os started H enc _ F => by rw [OpenClaim.pre_eq_preRow]; exact lifted os started H enc F)

/-- No parameter wants a stand-in; the program's own looks are off: what the card asks. -/
theorem plain (f : FuncId) (fn : Func) (hf : Tryd.pinned.checked.prog.funcNamed "tallow/tallowlaw02.ValParts" = some f) (hfn : Tryd.pinned.checked.prog.funcs[f]? = some fn) :
    Rows.valPartsCard.stood.looks = Tryd.pinned.checked.prog.looks [] ∧ ∀ (j : Nat) t, fn.params[j]? = some t → Tryd.pinned.checked.prog.wantsStandIn t = false := by
  obtain rfl : f = 6 := Option.some.inj ((show Tryd.prog.funcNamed "tallow/tallowlaw02.ValParts" = some 6 by kernel_rfl).symm.trans hf) |>.symm
  obtain rfl : fn = Tryd.f6 := (Option.some.inj (Tryd.func6.symm.trans hfn)).symm
  refine ⟨by kernel_rfl, fun j t ht => ?_⟩
  rw [Tryd.params6] at ht
  have hm : t ∈ ([23] : List TypeId) := by simpa using Array.mem_of_getElem? ht
  have ha : ([23] : List TypeId).all (fun t => !Tryd.prog.wantsStandIn t) = true := by kernel_rfl
  have hb := List.all_eq_true.1 ha t hm
  have hc : Tryd.prog.wantsStandIn t = false := by simpa using hb
  exact hc

/-- THE CARD. -/
theorem card : Rows.ValPartsCardSaid :=
  Claim7.holds_tied_plain_at .later [] _ _ _ _ said (fun _ h => by cases h) (by kernel_rfl) (fun _ h => by cases h) valParts_row_tie rfl ⟨rfl, rfl⟩ (by kernel_rfl) rfl plain (by kernel_rfl)
end Go.Proofs.YtapofoepijkcoaaDoor.valParts
