/- NumMoves: for any number of 64 bits and any two counts, what num.Do moves up is the product with a power of 2, what goes down again has lost what went beyond alone, two moves are one by both counts; the arguments read as they did. Conditions: none but the tied package-level variables. -/
import Derived.Test.YtfbhbodimdlldaaDoorCards
import Derived.Test.YtfbhbodimdlldaaDoorTie
import Derived.Test.YtfbhbodimdlldaaDoorNumWorks
import Derived.Test.YtfbhbodimdlldaaDoorNumMath4
import Derived.Test.YtfbhbodimdlldaaDoorNumFrame
import Derived.Deep.RegionWith
import Derived.BigQuiet
namespace Go.Proofs.YtfbhbodimdlldaaDoor.numMoves
open Go.ChangeShapes Go.WideShapes Go.ChangeAt Go.RowKit

set_option maxHeartbeats 1000000 in
theorem walk_at (a m n : Int) (x y : Nat) (a0 : -9223372036854775808 ≤ a) (a1 : a ≤ 9223372036854775807) (m0 : 0 ≤ m) (m1 : m ≤ 255) (n0 : 0 ≤ n) (n1 : n ≤ 255) (hx : m % 70 = (x : Int)) (hy : n % 70 = (y : Int)) (x1 : x ≤ 69) (w : World) (hE : Env w) :
    Calls Tryd.prog 9 #[.int .i64 a, .int .u8 m, .int .u8 n] w fun e w' => e = .returned (.bool true) ∧ Below w.heap.size w w' := by
  have f1 : (doF 8 a (m % 70) != doF 2 a (pw x)) = false := neq_false (by rw [hx, shl_nat, upF_eq, doF_mul]; unfold pw; rw [wrap64_mul_r])
  have f2 : (doF 9 a (-(m % 70)) != doF 8 a (m % 70)) = false := neq_false (by rw [hx, shr_neg a x a0 a1, shl_nat])
  have f3 : (doF 8 a (-(m % 70)) != doF 9 a (m % 70)) = false := neq_false (by rw [hx, shl_neg a x a0 a1, shr_nat])
  have f4 : (doF 9 (doF 8 a (m % 70)) (m % 70) != doF 5 a (doF 9 (-1) (m % 70))) = false := neq_false (by rw [hx, shl_nat, shr_nat, shr_nat, down_up, low_bits])
  have f5 : (doF 9 (doF 9 a (m % 70)) (n % 70) == doF 9 a ((m % 70) + (n % 70))) = true := beq_true (by rw [hx, hy, shr_nat, shr_nat, ← Int.natCast_add, shr_nat, down_down])
  have f6 : (doF 8 (doF 8 a (m % 70)) (n % 70) == doF 8 a ((m % 70) + (n % 70))) = true := beq_true (by rw [hx, hy, shl_nat, shl_nat, ← Int.natCast_add, shl_nat, up_up])
  have W := Lib.hid (works_true w hE)
  have P := Lib.hid pw_succ
  have P0 : pw 0 = 1 := by decide +kernel
  have P0 := Lib.hid P0
  have hx1 : m % 70 ≤ (x : Int) := by omega
  have hx2 : (x : Int) ≤ m % 70 := by omega
  clear hE hx hy
  go_enter Tryd.func9, Tryd.ntmps9
  go_wp2_with fail
  go_loop [9, 10] (fun p i => ∃ k : Nat, k ≤ x ∧ i = .int .i64 k ∧ p = .int .i64 (pw k)) (fun _ i => x - (intOf i).toNat)
  case atStart => exact ⟨0, Nat.zero_le _, rfl, by rw [P0.out]⟩
  case round =>
    obtain ⟨k, hk, rfl, rfl⟩ := hrel
    by_cases hlt : k < x
    · go_wp2_with (go_at_call 24; refine (do_any _ _ _ _ (by omega) (by omega)).mono ?_; rintro e w' ⟨rfl, hq⟩; obtain rfl := hq.symm)
      go_round
      case rel => exact ⟨k + 1, by omega, by go_num, by rw [P.out]⟩
      case measure => simp [intOf]; omega
    · obtain rfl : k = x := by omega
      go_wp2_with (first | (go_at_call 24; refine (do_any _ _ _ _ (by first | omega | exact doF_lo _ _ _ | exact wrap64_lo _) (by first | omega | exact doF_hi _ _ _ | exact wrap64_hi _)).mono ?_; rintro e w' ⟨rfl, hq⟩; obtain rfl := hq.symm) | (go_at_call 15; refine W.out.mono ?_; rintro e w2 ⟨rfl, hb2⟩))
      go_ret
      exact ⟨rfl, hb2⟩
theorem walk (a m n : Int) (a0 : -9223372036854775808 ≤ a) (a1 : a ≤ 9223372036854775807) (m0 : 0 ≤ m) (m1 : m ≤ 255) (n0 : 0 ≤ n) (n1 : n ≤ 255) (w : World) (hE : Env w) :
    Calls Tryd.prog 9 #[.int .i64 a, .int .u8 m, .int .u8 n] w fun e w' => e = .returned (.bool true) ∧ Below w.heap.size w w' :=
  walk_at a m n (m % 70).toNat (n % 70).toNat a0 a1 m0 m1 n0 n1 (by omega) (by omega) (by omega) w hE
set_option maxRecDepth 100000 in
theorem contract (H : Type) (enc : TypeId × Value → H) (W : World) (base : Nat) (args : Array Value) (ds gs : List (DataW H)) (before : List MemPlace)
    (hval : ∀ (j : Nat) t v, Tryd.f9.params[j]? = some t → args[j]? = some v → Value.okWide Tryd.prog W .any base t v)
    (hW : DataW.Whole enc Tryd.prog Tryd.f9.params.toList Rows.numMovesSpec.vars false W args.toList ds gs before)
    (hsz0 : (DataW.weightsEach Tryd.prog (Tryd.f9.params.toList ++ (OpenSpec.ofChange Rows.numMovesSpec).bare.plain.varTypes Tryd.prog) (ds ++ gs)).all (· ≤ reachBytes) = true) (hL : laidMetH Tryd.prog Rows.numMovesRow.laid W) :
    Calls Tryd.prog 9 args W fun e W' => ∃ v, e = .returned v ∧ Rows.numMovesSpec.post enc Tryd.prog Tryd.f9 false true false false W args v W' := by
  have hW' := hW
  obtain ⟨p, q, hA0, hV, rfl, hfz, hnd⟩ := hW
  have hA : DataW.TrodAll enc Tryd.prog W 0 (fun _ => true) true Tryd.f9.params.toList args.toList ds p := hA0
  have hsz := hsz0
  rw [Tryd.params9] at hA hval hsz
  obtain ⟨v0, vs0, d0, ds0, p0, q0, hargs, rfl, rfl, h0, r0⟩ := trodAll_cons hA
  obtain ⟨v1, vs1, d1, ds1, p1, q1, rfl, rfl, rfl, h1, r1⟩ := trodAll_cons r0
  obtain ⟨v2, vs2, d2, ds2, p2, q2, rfl, rfl, rfl, h2, r2⟩ := trodAll_cons r1
  obtain ⟨rfl, rfl, rfl⟩ := trodAll_nil r2
  obtain rfl : args = #[v0, v1, v2] := by cases args; simp_all
  obtain ⟨rfl, rfl⟩ := trodVars_none hV
  obtain ⟨a0, rfl, rfl, rfl, w0⟩ := open_int Tryd.underlying2 (hval 0 2 v0 rfl rfl) h0
  obtain ⟨l0, u0⟩ := of_wf_i64 w0
  obtain ⟨a1, rfl, rfl, rfl, w1⟩ := open_int Tryd.underlying5 (hval 1 5 v1 rfl rfl) h1
  obtain ⟨l1, u1⟩ := of_wf_u8 w1
  obtain ⟨a2, rfl, rfl, rfl, w2⟩ := open_int Tryd.underlying5 (hval 2 5 v2 rfl rfl) h2
  obtain ⟨l2, u2⟩ := of_wf_u8 w2
  clear hA0 hsz hsz0
  simp only [List.append_nil] at hW'
  refine (walk a0 a1 a2 l0 u0 l1 u1 l2 u2 W (env_of_laid hL)).mono fun e W' ⟨he, hb⟩ => ?_
  subst he
  refine ⟨_, rfl, _, _, _, [], [], [], hW', ?_, ?_, rfl, hb.frame _, fun h => by cases h⟩
  · exact trodAll_cons_mk (shut_bool Tryd.underlying4 _) trodAll_mk0
  · exact trodAll_cons_mk (shut_int Tryd.underlying2 w0) (trodAll_cons_mk (shut_int Tryd.underlying5 w1) (trodAll_cons_mk (shut_int Tryd.underlying5 w2) trodAll_mk0))

theorem laid_met (os : Os) : laidMet Tryd.prog Rows.numMovesRow.laid ((laidWorld os).forCall (fun _ _ => 0) ⟨#[], #[.int .i64 0, .int .u8 0, .int .u8 0], []⟩).memory :=
  laidMet_of_run' 8 (by kernel_rfl) (by kernel_rfl)
theorem reads (os : Os) {H : Type} (enc : TypeId × Value → H) : ∃ places, DataW.whole enc Tryd.prog ((laidWorld os).forCall (fun _ _ => 0) ⟨#[], #[.int .i64 0, .int .u8 0, .int .u8 0], []⟩).memory Tryd.f9.params.toList Rows.numMovesSpec.vars false #[Value.int .i64 0, Value.int .u8 0, Value.int .u8 0].toList 8 = some ([.lit (.int .i64 0), .lit (.int .u8 0), .lit (.int .u8 0)], [], places) :=
  ⟨[], by kernel_rfl⟩

set_option maxRecDepth 100000 in
theorem lifted (os : Os) (started : os.Started) (H : Type) (enc : TypeId × Value → H) (F : Stop.Interp) :
    ReturnsInHanded {} Tryd.checked os 9 .any ((OpenSpec.ofChange Rows.numMovesSpec).preRow enc Tryd.prog Tryd.f9 Rows.numMovesRow.domain false Rows.numMovesRow.laid) (((OpenSpec.ofChange Rows.numMovesSpec).at F).post enc Tryd.prog Tryd.f9 false true false false) := by
  obtain ⟨places, hx⟩ := reads os enc
  refine returnsInHanded_of_row (C := Tryd.checked) (s := OpenSpec.ofChange Rows.numMovesSpec) own started (by kernel_rfl) Tryd.func9
    (witness_row_atRef (enc := enc) (C := Tryd.checked) false (laidWorld os) #[.int .i64 0, .int .u8 0, .int .u8 0] rfl (by kernel_rfl) (by kernel_rfl) (by kernel_rfl)
      (OpenSpec.preRow_of_cond 8 hx (by kernel_rfl) (fun k hk => by cases hk) (by kernel_rfl) (laid_met os))) ?_
  intro W base args ds gs before hval hW _ _ hsz hL _ _
  exact contract H enc W base args ds gs before hval hW hsz hL

theorem said : Rows.NumMovesSaid :=
  OpenClaim.holds_of_cond 9 Tryd.f9 rfl rfl rfl rfl rfl rfl rfl ⟨rfl, rfl, rfl, rfl, rfl⟩ rfl rfl rfl rfl rfl (by kernel_rfl) Tryd.func9 (by kernel_rfl)
    (of_decide_eq_true (by kernel_rfl)) (by unfold Func.isWrapper; first | (rw [if_pos (by decide +kernel)]; kernel_rfl) | (rw [if_neg (by decide +kernel)]; exact ⟨rfl, rfl⟩))
    (fun os started H enc _ F => by rw [OpenClaim.pre_eq_preRow]; exact lifted os started H enc F)

/-- No parameter wants a stand-in; the program's own looks are off: what the card asks. -/
theorem plain (f : FuncId) (fn : Func) (hf : Tryd.pinned.checked.prog.funcNamed "tallow/tallowlaw01.NumMoves" = some f) (hfn : Tryd.pinned.checked.prog.funcs[f]? = some fn) :
    true = Tryd.pinned.checked.prog.looks [] ∧ ∀ (j : Nat) t, fn.params[j]? = some t → Tryd.pinned.checked.prog.wantsStandIn t = false := by
  obtain rfl : f = 9 := Option.some.inj ((show Tryd.prog.funcNamed "tallow/tallowlaw01.NumMoves" = some 9 by kernel_rfl).symm.trans hf) |>.symm
  obtain rfl : fn = Tryd.f9 := (Option.some.inj (Tryd.func9.symm.trans hfn)).symm
  refine ⟨by kernel_rfl, fun j t ht => ?_⟩
  rw [Tryd.params9] at ht
  have hm : t ∈ ([2, 5, 5] : List TypeId) := by simpa using Array.mem_of_getElem? ht
  have ha : ([2, 5, 5] : List TypeId).all (fun t => !Tryd.prog.wantsStandIn t) = true := by kernel_rfl
  have hb := List.all_eq_true.1 ha t hm
  have hc : Tryd.prog.wantsStandIn t = false := by simpa using hb
  exact hc

/-- THE CARD. -/
theorem card : Rows.NumMovesCardSaid :=
  Claim7.holds_tied_plain_at .later [] _ _ _ _ said (fun _ h => by cases h) (by kernel_rfl) (fun _ h => by cases h) numMoves_row_tie rfl ⟨rfl, rfl⟩ (by kernel_rfl) rfl plain (by kernel_rfl)
end Go.Proofs.YtfbhbodimdlldaaDoor.numMoves
