/- ValNames: of every number and every text: val.Name, Lib and LibOf answer as the document's own do; the arguments read as they did. Conditions: none but the tied package-level variables and the form's own reach. -/
import Derived.Test.YtapofoepijkcoaaDoorCards
import Derived.Test.YtapofoepijkcoaaDoorTie
import Derived.Test.YtapofoepijkcoaaDoorValFrame
namespace Go.Proofs.YtapofoepijkcoaaDoor.valNames
open Go.ChangeShapes Go.WideShapes Go.ChangeAt Go.RowKit

set_option maxHeartbeats 1000000 in
theorem walk (n : Int) (s : ByteArray) (_ : -9223372036854775808 ≤ n) (_ : n ≤ 9223372036854775807) (_ : s.size ≤ 281474976710656) (w : World) (hE : Env w) :
    Calls Tryd.prog 4 #[.int .i64 n, .string s] w fun e w' => e = .returned (.bool true) ∧ Below w.heap.size w w' := by
  have I : Hid (Below w.heap.size w w ∧ Env w) := ⟨Below.refl _ _, hE⟩
  clear hE
  have N1 := Lib.hid (Name_any n)
  have N2 := Lib.hid (RName_any n)
  have L1 := Lib.hid (Lib_any n)
  have L2 := Lib.hid (RLib_any n)
  have O1 := Lib.hid (LibOf_any s)
  have O2 := Lib.hid (RLibOf_any s)
  generalize nameB n = a at *
  generalize libB n = b at *
  generalize libI s = c at *
  have c1 : (a.toList == a.toList) = true := by simp
  have c2 : (b.toList == b.toList) = true := by simp
  have c3 : (c == c) = true := by simp
  go_enter Tryd.func4, Tryd.ntmps4
  go_wp2_with (first
    | (go_at_call 19; refine (N1.out _ I.out.2).mono ?_; rintro e w' ⟨rfl, hq⟩; obtain rfl := hq.symm)
    | (go_at_call 20; refine (N2.out _).mono ?_; rintro e w1 ⟨rfl, hb⟩; replace I := Lib.hid (And.intro (I.out.1.trans (hb.mono I.out.1.size)) (I.out.2.below hb)); clear hb)
    | (go_at_call 21; refine (L1.out _ I.out.2).mono ?_; rintro e w' ⟨rfl, hq⟩; obtain rfl := hq.symm)
    | (go_at_call 22; refine (L2.out _).mono ?_; rintro e w1 ⟨rfl, hb⟩; replace I := Lib.hid (And.intro (I.out.1.trans (hb.mono I.out.1.size)) (I.out.2.below hb)); clear hb)
    | (go_at_call 23; refine (O1.out _ I.out.2).mono ?_; rintro e w' ⟨rfl, hq⟩; obtain rfl := hq.symm)
    | (go_at_call 24; refine (O2.out _).mono ?_; rintro e w1 ⟨rfl, hb⟩; replace I := Lib.hid (And.intro (I.out.1.trans (hb.mono I.out.1.size)) (I.out.2.below hb)); clear hb)
    | (go_at_call 18; refine (works_true _ I.out.2).mono ?_; rintro e w1 ⟨rfl, hb⟩; replace I := Lib.hid (I.out.1.trans (hb.mono I.out.1.size)); clear hb))
  go_ret
  exact ⟨rfl, I.out⟩
set_option maxRecDepth 100000 in
theorem contract (H : Type) (enc : TypeId × Value → H) (W : World) (base : Nat) (args : Array Value) (ds gs : List (DataW H)) (before : List MemPlace)
    (hval : ∀ (j : Nat) t v, Tryd.f4.params[j]? = some t → args[j]? = some v → Value.okWide Tryd.prog W .any base t v)
    (hW : DataW.Whole enc Tryd.prog Tryd.f4.params.toList Rows.valNamesSpec.vars false W args.toList ds gs before)
    (hsz0 : (DataW.weightsEach Tryd.prog (Tryd.f4.params.toList ++ (OpenSpec.ofChange Rows.valNamesSpec).bare.plain.varTypes Tryd.prog) (ds ++ gs)).all (· ≤ reachBytes) = true) (hL : laidMetH Tryd.prog Rows.valNamesRow.laid W) :
    Calls Tryd.prog 4 args W fun e W' => ∃ v, e = .returned v ∧ Rows.valNamesSpec.post enc Tryd.prog Tryd.f4 false true false false W args v W' := by
  have hW' := hW
  obtain ⟨p, q, hA0, hV, rfl, hfz, hnd⟩ := hW
  have hA : DataW.TrodAll enc Tryd.prog W 0 (fun _ => true) true Tryd.f4.params.toList args.toList ds p := hA0
  have hsz := hsz0
  rw [Tryd.params4] at hA hval hsz
  obtain ⟨v0, vs0, d0, ds0, p0, q0, hargs, rfl, rfl, h0, r0⟩ := trodAll_cons hA
  obtain ⟨v1, vs1, d1, ds1, p1, q1, rfl, rfl, rfl, h1, r1⟩ := trodAll_cons r0
  obtain ⟨rfl, rfl, rfl⟩ := trodAll_nil r1
  obtain rfl : args = #[v0, v1] := by cases args; simp_all
  obtain ⟨rfl, rfl⟩ := trodVars_none hV
  obtain ⟨a0, rfl, rfl, rfl, w0⟩ := open_int Tryd.underlying3 (hval 0 3 v0 rfl rfl) h0
  obtain ⟨l0, u0⟩ := of_wf_i64 w0
  obtain ⟨a1, rfl, rfl, rfl, w1⟩ := Go.ChangeMaps.open_string Tryd.underlying9 (hval 1 9 v1 rfl rfl) h1
  have u1 := str_reach (sized_string hsz (j := 1) (t := 9) rfl rfl)
  clear hA0 hsz hsz0
  simp only [List.append_nil] at hW'
  refine (walk a0 a1 l0 u0 u1 W (env_of_laid hL)).mono fun e W' ⟨he, hb⟩ => ?_
  subst he
  exact ⟨_, rfl, law_post laidOut (by kernel_rfl) (by kernel_rfl) Tryd.underlying4 hW' hb rfl⟩

theorem laid_met (os : Os) : laidMet Tryd.prog Rows.valNamesRow.laid ((laidWorld os).forCall (fun _ _ => 0) ⟨#[], #[.int .i64 0, .string ⟨#[]⟩], []⟩).memory :=
  laidMet_of_run' 8 (by kernel_rfl) (by kernel_rfl)
theorem reads (os : Os) {H : Type} (enc : TypeId × Value → H) : ∃ places, DataW.whole enc Tryd.prog ((laidWorld os).forCall (fun _ _ => 0) ⟨#[], #[.int .i64 0, .string ⟨#[]⟩], []⟩).memory Tryd.f4.params.toList Rows.valNamesSpec.vars false (#[.int .i64 0, .string ⟨#[]⟩] : Array Value).toList 8 = some ([.lit (.int .i64 0), .lit (.string [])], [], places) :=
  ⟨[], by kernel_rfl⟩

set_option maxRecDepth 100000 in
theorem lifted (os : Os) (started : os.Started) (H : Type) (enc : TypeId × Value → H) (F : Stop.Interp) :
    ReturnsInHanded {} Tryd.checked os 4 .any ((OpenSpec.ofChange Rows.valNamesSpec).preRow enc Tryd.prog Tryd.f4 Rows.valNamesRow.domain false Rows.valNamesRow.laid) (((OpenSpec.ofChange Rows.valNamesSpec).at F).post enc Tryd.prog Tryd.f4 false true false false) := by
  obtain ⟨places, hx⟩ := reads os enc
  refine returnsInHanded_of_row (C := Tryd.checked) (s := (OpenSpec.ofChange Rows.valNamesSpec)) own started (by kernel_rfl) Tryd.func4
    (witness_row_atRef (enc := enc) (C := Tryd.checked) false (laidWorld os) #[.int .i64 0, .string ⟨#[]⟩] rfl (by kernel_rfl) (by kernel_rfl) (by kernel_rfl)
      (OpenSpec.preRow_of_cond 8 hx (by kernel_rfl) (fun k hk => by cases hk) (by kernel_rfl) (laid_met os))) ?_
  intro W base args ds gs before hval hW _ _ hsz hL _ _
  exact contract H enc W base args ds gs before hval hW hsz hL

theorem said : Rows.ValNamesSaid :=
  OpenClaim.holds_of_cond 4 Tryd.f4 rfl rfl rfl rfl rfl rfl rfl ⟨rfl, rfl, rfl, rfl, rfl⟩ rfl rfl rfl rfl rfl (by kernel_rfl) Tryd.func4 (by kernel_rfl)
    (of_decide_eq_true (by kernel_rfl)) (by unfold Func.isWrapper; first | (rw [if_pos (by decide +kernel)]; kernel_rfl) | (rw [if_neg (by decide +kernel)]; exact ⟨rfl, rfl⟩))
    (fun os started H enc _ F => by rw [OpenClaim.pre_eq_preRow]; exact lifted os started H enc F)

/-- No parameter wants a stand-in; the program's own looks are off: what the card asks. -/
theorem plain (f : FuncId) (fn : Func) (hf : Tryd.pinned.checked.prog.funcNamed "tallow/tallowlaw02.ValNames" = some f) (hfn : Tryd.pinned.checked.prog.funcs[f]? = some fn) :
    Rows.valNamesCard.stood.looks = Tryd.pinned.checked.prog.looks [] ∧ ∀ (j : Nat) t, fn.params[j]? = some t → Tryd.pinned.checked.prog.wantsStandIn t = false := by
  obtain rfl : f = 4 := Option.some.inj ((show Tryd.prog.funcNamed "tallow/tallowlaw02.ValNames" = some 4 by kernel_rfl).symm.trans hf) |>.symm
  obtain rfl : fn = Tryd.f4 := (Option.some.inj (Tryd.func4.symm.trans hfn)).symm
  refine ⟨by kernel_rfl, fun j t ht => ?_⟩
  rw [Tryd.params4] at ht
  have hm : t ∈ ([3, 9] : List TypeId) := by simpa using Array.mem_of_getElem? ht
  have ha : ([3, 9] : List TypeId).all (fun t => !Tryd.prog.wantsStandIn t) = true := by kernel_rfl
  have hb := List.all_eq_true.1 ha t hm
  have hc : Tryd.prog.wantsStandIn t = false := by simpa using hb
  exact hc

/-- THE CARD. -/
theorem card : Rows.ValNamesCardSaid :=
  Claim7.holds_tied_plain_at .later [] _ _ _ _ said (fun _ h => by cases h) (by kernel_rfl) (fun _ h => by cases h) valNames_row_tie rfl ⟨rfl, rfl⟩ (by kernel_rfl) rfl plain (by kernel_rfl)
end Go.Proofs.YtapofoepijkcoaaDoor.valNames
