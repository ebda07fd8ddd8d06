/- ParseStrength: of any two operators between three operands the stronger one takes the middle one, of two alike the left one, but .. the right one; any sign ahead is stronger than all, and weaker than an index or a call; the arguments read as they did. Conditions: none but the form's own reach; the listed variables as the program's text lays them. -/
import Derived.Test.YtebkdegcifkigaaGreatDoorParFrame
import Derived.Test.YtebkdegcifkigaaGreatDoorParStrW
import Derived.Test.YtebkdegcifkigaaGreatDoorTie
import Derived.Test.YtebkdegcifkigaaGreatDoorCards
import Derived.Deep.RegionWith
import Derived.BigQuiet
import Derived.Deep.RegionHeld3
namespace Go.Proofs.YtebkdegcifkigaaGreatDoor.parseStrength
set_option maxRecDepth 20000
open Go.ChangeShapes Go.WideShapes Go.ChangeAt Go.RowKit Go.Proofs.YtebkdegcifkigaaGreatDoor.P5

theorem walk (a0 a1 a2 : Int) (l0 : 0 ≤ a0) (u0 : a0 ≤ 255) (l1 : 0 ≤ a1) (u1 : a1 ≤ 255) (l2 : 0 ≤ a2) (u2 : a2 ≤ 255) (w : World) (hE : Env4 w) :
    Calls Tryz.prog 5 #[.int .u8 a0, .int .u8 a1, .int .u8 a2] w fun e w' => e = .returned (.bool true) ∧ Below w.heap.size w w' := by
  obtain ⟨n0, rfl⟩ : ∃ n : Nat, a0 = n := ⟨a0.toNat, by omega⟩
  obtain ⟨n1, rfl⟩ : ∃ n : Nat, a1 = n := ⟨a1.toNat, by omega⟩
  obtain ⟨n2, rfl⟩ : ∃ n : Nat, a2 = n := ⟨a2.toNat, by omega⟩
  have hi : n0 % 19 < 19 := Nat.mod_lt _ (by decide)
  have hk : n1 % 19 < 19 := Nat.mod_lt _ (by decide)
  have hu : n2 % 4 < 4 := Nat.mod_lt _ (by decide)
  have TS := two_at hi hk
  have hL : isLeft (n0 % 19) (n1 % 19) = (decide (rankL.getD (n1 % 19) 0 < rankL.getD (n0 % 19) 0) || (rankL.getD (n0 % 19) 0 == rankL.getD (n1 % 19) 0 && opsL.getD (n0 % 19) [] != [46, 46])) := rfl
  by_cases r1 : rankL.getD (n1 % 19) 0 < rankL.getD (n0 % 19) 0
  · rw [if_pos (by rw [hL]; simp only [decide_eq_true r1, Bool.true_or])] at TS
    exact way_more n0 n1 n2 (n0 % 19) (n1 % 19) (n2 % 4) _ _ (by omega) (by omega) (by omega) hi hk hu (by omega) (by omega) (by omega) _ _ _ (fun w T => ops_cell w T hi) (fun w T => ops_cell w T hk) (fun w T => un_cell w T hu) (rank_any _ hi) (rank_any _ hk) (op_short _) (op_short _) (un_short _) TS (un_at hu hi) (deep_at hu) r1 w hE
  · by_cases r2 : rankL.getD (n0 % 19) 0 = rankL.getD (n1 % 19) 0
    · cases ho : (opsL.getD (n0 % 19) [] == [46, 46]) with
      | false =>
        rw [if_pos (by rw [hL]; simp only [bne, ho, r2, beq_self_eq_true, Bool.not_false, Bool.and_self, Bool.or_true])] at TS
        exact way_same n0 n1 n2 (n0 % 19) (n1 % 19) (n2 % 4) _ _ (by omega) (by omega) (by omega) hi hk hu (by omega) (by omega) (by omega) _ _ _ (fun w T => ops_cell w T hi) (fun w T => ops_cell w T hk) (fun w T => un_cell w T hu) (rank_any _ hi) (rank_any _ hk) (op_short _) (op_short _) (un_short _) TS (un_at hu hi) (deep_at hu) r2.symm ho w hE
      | true =>
        rw [if_neg (by rw [hL]; simp only [bne, ho, decide_eq_false r1, Bool.not_true, Bool.and_false, Bool.or_self]; decide)] at TS
        exact way_dots n0 n1 n2 (n0 % 19) (n1 % 19) (n2 % 4) _ _ (by omega) (by omega) (by omega) hi hk hu (by omega) (by omega) (by omega) _ _ _ (fun w T => ops_cell w T hi) (fun w T => ops_cell w T hk) (fun w T => un_cell w T hu) (rank_any _ hi) (rank_any _ hk) (op_short _) (op_short _) (un_short _) TS (un_at hu hi) (deep_at hu) r2.symm ho w hE
    · rw [if_neg (by rw [hL]; simp only [decide_eq_false r1, beq_eq_false_iff_ne.2 r2, Bool.false_and, Bool.or_self]; decide)] at TS
      exact way_less n0 n1 n2 (n0 % 19) (n1 % 19) (n2 % 4) _ _ (by omega) (by omega) (by omega) hi hk hu (by omega) (by omega) (by omega) _ _ _ (fun w T => ops_cell w T hi) (fun w T => ops_cell w T hk) (fun w T => un_cell w T hu) (rank_any _ hi) (rank_any _ hk) (op_short _) (op_short _) (un_short _) TS (un_at hu hi) (deep_at hu) (by omega) w hE
set_option maxRecDepth 100000 in
theorem contract (H : Type) (enc : TypeId × Value → H) (W : World) (base : Nat) (args : Array Value) (ds gs : List (DataW H)) (before : List MemPlace)
    (hval : ∀ (j : Nat) t v, Tryz.f5.params[j]? = some t → args[j]? = some v → Value.okWide Tryz.prog W .any base t v)
    (hW : DataW.Whole enc Tryz.prog Tryz.f5.params.toList Rows.parseStrengthSpec.vars false W args.toList ds gs before)
    (hsz0 : (DataW.weightsEach Tryz.prog (Tryz.f5.params.toList ++ (OpenSpec.ofChange Rows.parseStrengthSpec).bare.plain.varTypes Tryz.prog) (ds ++ gs)).all (· ≤ reachBytes) = true) (hL : laidMetH Tryz.prog Rows.parseStrengthRow.laid W) :
    Calls Tryz.prog 5 args W fun e W' => ∃ v, e = .returned v ∧ Rows.parseStrengthSpec.post enc Tryz.prog Tryz.f5 false true false false W args v W' := by
  have hW' := hW
  obtain ⟨p, q, hA0, hV, rfl, hfz, hnd⟩ := hW
  have hA : DataW.TrodAll enc Tryz.prog W 0 (fun _ => true) true Tryz.f5.params.toList args.toList ds p := hA0
  have hsz := hsz0
  rw [Tryz.params5] at hA hval hsz
  obtain ⟨v0, vs0, d0, ds0, p0, q0, hargs, rfl, rfl, h0, r0⟩ := trodAll_cons hA
  obtain ⟨v1, vs1, d1, ds1, p1, q1, rfl, rfl, rfl, h1, r1⟩ := trodAll_cons r0
  obtain ⟨v2, vs2, d2, ds2, p2, q2, rfl, rfl, rfl, h2, r2⟩ := trodAll_cons r1
  obtain ⟨rfl, rfl, rfl⟩ := trodAll_nil r2
  obtain rfl : args = #[v0, v1, v2] := by cases args; simp_all
  obtain ⟨rfl, rfl⟩ := trodVars_none hV
  obtain ⟨a0, rfl, rfl, rfl, w0⟩ := open_int Tryz.underlying5 (hval 0 5 v0 rfl rfl) h0
  obtain ⟨l0, u0⟩ := of_wf_u8 w0
  obtain ⟨a1, rfl, rfl, rfl, w1⟩ := open_int Tryz.underlying5 (hval 1 5 v1 rfl rfl) h1
  obtain ⟨l1, u1⟩ := of_wf_u8 w1
  obtain ⟨a2, rfl, rfl, rfl, w2⟩ := open_int Tryz.underlying5 (hval 2 5 v2 rfl rfl) h2
  obtain ⟨l2, u2⟩ := of_wf_u8 w2
  clear hA0 hsz hsz0
  simp only [List.append_nil] at hW'
  refine (walk a0 a1 a2 l0 u0 l1 u1 l2 u2 W (env_of_laid hL)).mono fun e W' ⟨he, hb⟩ => ?_
  subst he
  exact ⟨_, rfl, law_post laidOut (by kernel_rfl) (by kernel_rfl) Tryz.underlying4 hW' hb rfl⟩

theorem laid_met (os : Os) : laidMetH Tryz.prog Rows.parseStrengthRow.laid ((laidWorld os).forCall (fun _ _ => 0) ⟨#[], #[.int .u8 0, .int .u8 0, .int .u8 0], []⟩).memory :=
  laid_metH os _ (laidMet_of_run' 8 (by kernel_rfl) (by kernel_rfl)) (by kernel_rfl)
theorem reads (os : Os) {H : Type} (enc : TypeId × Value → H) : ∃ places, DataW.whole enc Tryz.prog ((laidWorld os).forCall (fun _ _ => 0) ⟨#[], #[.int .u8 0, .int .u8 0, .int .u8 0], []⟩).memory Tryz.f5.params.toList Rows.parseStrengthSpec.vars false (#[.int .u8 0, .int .u8 0, .int .u8 0] : Array Value).toList 8 = some ([.lit (.int .u8 0), .lit (.int .u8 0), .lit (.int .u8 0)], [], places) :=
  ⟨[], by kernel_rfl⟩

set_option maxRecDepth 100000 in
theorem lifted (os : Os) (started : os.Started) (H : Type) (enc : TypeId × Value → H) (F : Stop.Interp) :
    ReturnsInHanded {} Tryz.checked os 5 .any ((OpenSpec.ofChange Rows.parseStrengthSpec).preRow enc Tryz.prog Tryz.f5 Rows.parseStrengthRow.domain false Rows.parseStrengthRow.laid) (((OpenSpec.ofChange Rows.parseStrengthSpec).at F).post enc Tryz.prog Tryz.f5 false true false false) := by
  obtain ⟨places, hx⟩ := reads os enc
  refine returnsInHanded_of_row (C := Tryz.checked) (s := (OpenSpec.ofChange Rows.parseStrengthSpec)) own started (by kernel_rfl) Tryz.func5
    (witness_row_atRef (enc := enc) (C := Tryz.checked) false (laidWorld os) #[.int .u8 0, .int .u8 0, .int .u8 0] rfl (by kernel_rfl) (by kernel_rfl) (by kernel_rfl)
      (OpenSpec.preRow_of_cond 8 hx (by kernel_rfl) (fun k hk => by cases hk) (by kernel_rfl) (laid_met os))) ?_
  intro W base args ds gs before hval hW _ _ hsz hL _ _
  exact contract H enc W base args ds gs before hval hW hsz hL

theorem said : Rows.ParseStrengthSaid :=
  OpenClaim.holds_of_cond 5 Tryz.f5 rfl rfl rfl rfl rfl rfl rfl ⟨rfl, rfl, rfl, rfl, rfl⟩ rfl rfl rfl rfl rfl (by kernel_rfl) Tryz.func5 (by kernel_rfl)
    (of_decide_eq_true (by kernel_rfl)) (by unfold Func.isWrapper; first | (rw [if_pos (by decide +kernel)]; kernel_rfl) | (rw [if_neg (by decide +kernel)]; exact ⟨rfl, rfl⟩))
    (fun os started H enc _ F => by rw [OpenClaim.pre_eq_preRow]; exact lifted os started H enc F)

/-- No parameter wants a stand-in; the program's own looks are off: what the card asks. -/
theorem plain (f : FuncId) (fn : Func) (hf : Tryz.pinned.checked.prog.funcNamed "tallow/tallowlaw05.ParseStrength" = some f) (hfn : Tryz.pinned.checked.prog.funcs[f]? = some fn) :
    Rows.parseStrengthCard.stood.looks = Tryz.pinned.checked.prog.looks [] ∧ ∀ (j : Nat) t, fn.params[j]? = some t → Tryz.pinned.checked.prog.wantsStandIn t = false := by
  obtain rfl : f = 5 := Option.some.inj ((show Tryz.prog.funcNamed "tallow/tallowlaw05.ParseStrength" = some 5 by kernel_rfl).symm.trans hf) |>.symm
  obtain rfl : fn = Tryz.f5 := (Option.some.inj (Tryz.func5.symm.trans hfn)).symm
  refine ⟨by kernel_rfl, fun j t ht => ?_⟩
  rw [Tryz.params5] at ht
  have hm : t ∈ ([5, 5, 5] : List TypeId) := by simpa using Array.mem_of_getElem? ht
  have ha : ([5, 5, 5] : List TypeId).all (fun t => !Tryz.prog.wantsStandIn t) = true := by kernel_rfl
  have hb := List.all_eq_true.1 ha t hm
  have hc : Tryz.prog.wantsStandIn t = false := by simpa using hb
  exact hc

/-- THE CARD. -/
theorem card : Rows.ParseStrengthCardSaid :=
  Claim7.holds_tied_plain_at .later [] _ _ _ _ said (fun _ h => by cases h) (by kernel_rfl) (fun _ h => by cases h) parseStrength_row_tie rfl ⟨rfl, rfl⟩ (by kernel_rfl) rfl plain (by kernel_rfl)
end Go.Proofs.YtebkdegcifkigaaGreatDoor.parseStrength
