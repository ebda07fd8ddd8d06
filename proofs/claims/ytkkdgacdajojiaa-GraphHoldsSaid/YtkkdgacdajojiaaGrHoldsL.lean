/- GraphHolds: how often objects are held, by whom, and whose count is not right, is what the document's own answer says: for any graph of at most three hundred objects, list of values and number. Conditions: none but the form's own reach. -/
import Derived.Test.YtkkdgacdajojiaaGrWorks
import Derived.Test.YtkkdgacdajojiaaGrOpen
import Derived.Test.YtkkdgacdajojiaaLawPost
import Derived.ProofKit
import Derived.BigQuiet
import Derived.Deep.LoopGhost
import Derived.Deep.DeepCutAuto
namespace Go.Proofs.Ytkkdgacdajojiaa.graphHolds
set_option maxRecDepth 20000
open Go.ChangeShapes Go.WideShapes Go.ChangeAt Go.RowKit Go.Maps Go.Sort

set_option maxHeartbeats 4000000 in
theorem small_any (A : Option Addr) (c n : Nat) (w : World) : Calls Try.prog 34 #[gV A n c] w fun e w' => e = .returned (.bool (decide ((n : Int) ≤ 300))) ∧ Below w.heap.size w w' := by
  go_enter Try.func34, Try.ntmps34
  go_wp2
  go_ret
  exact ⟨rfl, (Below.refl _ _).alloc (Nat.le_refl _) _⟩
theorem intoL_len (g : List OB) : (intoL g).length ≤ g.length := by
  unfold intoL; split
  · rw [List.length_map, List.length_range]; exact Nat.le_refl _
  · simp
theorem exactL_len (g : List OB) (more : List (Int × Int)) : (exactL g more).length ≤ g.length := by
  unfold exactL; split
  · rw [intsOf_len]; exact which_len _ _
  · simp
theorem holdersL_len (g : List OB) (m : Int) : (holdersL g m).length ≤ g.length := by
  unfold holdersL; split
  · rw [intsOf_len]; exact which_len _ _
  · simp
set_option maxHeartbeats 4000000 in
theorem walk (A : Option Addr) (c : Nat) (g : List OB) (B : Option Addr) (d : Nat) (more : List (Int × Int)) (m : Int) (hz : g.length * 64 ≤ 140737488351232) (hm : more.length * 16 ≤ 140737488351232) (_hl : -9223372036854775808 ≤ m) (_hu : m ≤ 9223372036854775807) (w : World) (hg : GAt w A g) (hB : PairsAt w B more) :
    Calls Try.prog 8 #[.agg #[.slice A g.length c], .slice B more.length d, .int .i64 m] w fun e w' => e = .returned (.bool true) ∧ Below w.heap.size w w' := by
  have C1 : Hid (∀ W, Below w.heap.size w W → Calls Try.prog 36 #[gV A g.length c] W (GivesI (intoL g) W)) := fun W hW => Into_any (hg.below hW) (by omega)
  have C2 : Hid (∀ W, Below w.heap.size w W → Calls Try.prog 37 #[gV A g.length c] W (GivesI (intoL g) W)) := fun W hW => RInto_any (hg.below hW) (by omega)
  have C3 : Hid (∀ W, Below w.heap.size w W → Calls Try.prog 38 #[gV A g.length c, .slice B more.length d] W (GivesI (exactL g more) W)) := fun W hW => Exact_any (hg.below hW) (by omega) (pairs_below hB hW) (by omega)
  have C4 : Hid (∀ W, Below w.heap.size w W → Calls Try.prog 39 #[gV A g.length c, .slice B more.length d] W (GivesI (exactL g more) W)) := fun W hW => RExact_any (hg.below hW) (by omega) (pairs_below hB hW) (by omega)
  have C5 : Hid (∀ W, Below w.heap.size w W → Calls Try.prog 40 #[gV A g.length c, .int .i64 m] W (GivesI (holdersL g m) W)) := fun W hW => Holders_any (hg.below hW) (by omega) m
  have C6 : Hid (∀ W, Below w.heap.size w W → Calls Try.prog 41 #[gV A g.length c, .int .i64 m] W (GivesI (holdersL g m) W)) := fun W hW => RHolders_any (hg.below hW) (by omega) m
  have L1 : Hid ((intoL g).length ≤ 140737488355328) := Nat.le_trans (intoL_len g) (by omega)
  have L2 : Hid ((exactL g more).length ≤ 140737488355328) := Nat.le_trans (exactL_len g more) (by omega)
  have L3 : Hid ((holdersL g m).length ≤ 140737488355328) := Nat.le_trans (holdersL_len g m) (by omega)
  clear hg hB hm
  generalize intoL g = X1 at *
  generalize exactL g more = X2 at *
  generalize holdersL g m = X3 at *
  generalize g.length = n at *
  generalize more.length = nm at *
  by_cases h3 : (n : Int) ≤ 300
  · go_enter Try.func8, Try.ntmps8
    go_upto_region 3 with (go_at_call 34; (with_reducible refine (small_any _ _ _ _).mono ?_); rintro e V ⟨rfl, hb⟩; have BV := Lib.hid (below_box hb); have c0 := boxed hb (j := 0) rfl; have zV : w.heap.size < V.heap.size := (by have := hb.size; simp at this; omega); clear hb)
    have c0' : V.cell? ⟨w.heap.size, 0, none⟩ = some (.slice A n c) := c0
    clear c0
    have CX : Hid (∀ W, Below V.heap.size V W → W.cell? ⟨w.heap.size, 0, none⟩ = some (.slice A n c)) := fun W hW => (hW.cell (p := ⟨w.heap.size, 0, none⟩) zV).trans c0'
    go_region_held3 (fun w' => w'.cell? ⟨w.heap.size, 0, none⟩ = some (.slice A n c) ∧ Below V.heap.size V w') (first | exact ⟨c0', (Below.refl _ _).drew⟩ | exact held_keep (fun W => CX.out W) (by assumption) (by assumption))
      (first
      | (go_at_call 36; (with_reducible refine (C1.out _ (by exact BV.out.trans ((by assumption : _ ∧ Below V.heap.size V _).2.mono BV.out.size))).mono ?_); rintro e w1 ⟨A1, c1, rfl, i1, hb1⟩)
      | (go_at_call 37; (with_reducible refine (C2.out _ (by exact BV.out.trans ((by assumption : _ ∧ Below V.heap.size V _).2.mono BV.out.size))).mono ?_); rintro e w2 ⟨A2, c2, rfl, i2, hb2⟩)
      | (go_at_call_of 35 A1; have HH := Ints_any A1 A2 c1 c2 X1 w2 L1.out (i1.below hb2) i2; (with_reducible refine HH.mono ?_); clear HH; rintro e w3 ⟨rfl, hb⟩)
      | (go_at_call 38; (with_reducible refine (C3.out _ (by exact BV.out.trans ((by assumption : _ ∧ Below V.heap.size V _).2.mono BV.out.size))).mono ?_); rintro e w4 ⟨A3, c3, rfl, i3, hb4⟩)
      | (go_at_call 39; (with_reducible refine (C4.out _ (by exact BV.out.trans ((by assumption : _ ∧ Below V.heap.size V _).2.mono BV.out.size))).mono ?_); rintro e w5 ⟨A4, c4, rfl, i4, hb5⟩)
      | (go_at_call_of 35 A3; have HH := Ints_any A3 A4 c3 c4 X2 w5 L2.out (i3.below hb5) i4; (with_reducible refine HH.mono ?_); clear HH; rintro e w6 ⟨rfl, hb⟩)
      | (go_at_call 40; (with_reducible refine (C5.out _ (by exact BV.out.trans ((by assumption : _ ∧ Below V.heap.size V _).2.mono BV.out.size))).mono ?_); rintro e w7 ⟨A5, c5, rfl, i5, hb7⟩)
      | (go_at_call 41; (with_reducible refine (C6.out _ (by exact BV.out.trans ((by assumption : _ ∧ Below V.heap.size V _).2.mono BV.out.size))).mono ?_); rintro e w8 ⟨A6, c6, rfl, i6, hb8⟩)
      | (go_at_call_of 35 A5; have HH := Ints_any A5 A6 c5 c6 X3 w8 L3.out (i5.below hb8) i6; (with_reducible refine HH.mono ?_); clear HH; rintro e w9 ⟨rfl, hb⟩)
      | (go_at_call 33; (with_reducible refine (works_true _).mono ?_); rintro e w10 ⟨rfl, hb⟩))
    go_wp2_with fail
    go_ret
    exact ⟨rfl, BV.out.trans ((by assumption : _ ∧ Below V.heap.size V w10).2.mono BV.out.size)⟩
  · have hd := decide_eq_false h3
    clear h3
    go_enter Try.func8, Try.ntmps8
    go_wp2_with (first
      | (go_at_call 34; (with_reducible refine (small_any _ _ _ _).mono ?_); rintro e V ⟨rfl, hb⟩; rw [hd]; have BV := Lib.hid (below_box hb); clear hb)
      | (go_at_call 33; (with_reducible refine (works_true _).mono ?_); rintro e w1 ⟨rfl, hb⟩; have B1 := Lib.hid hb; clear hb))
    go_ret
    exact ⟨rfl, BV.out.trans (B1.out.mono BV.out.size)⟩
theorem own : ownKnob Try.prog.godebug = none := by kernel_rfl
theorem laidOut : laidOutB Try.prog = true := by kernel_rfl
set_option maxRecDepth 100000 in
theorem contract (H : Type) (enc : TypeId × Value → H) (W : World) (base : Nat) (args : Array Value) (ds gs : List (DataW H)) (before : List MemPlace)
    (hval : ∀ (j : Nat) t v, Try.f8.params[j]? = some t → args[j]? = some v → Value.okWide Try.prog W .any base t v)
    (hW : DataW.Whole enc Try.prog Try.f8.params.toList Rows.graphHoldsSpec.vars false W args.toList ds gs before)
    (hsz0 : (DataW.weightsEach Try.prog (Try.f8.params.toList ++ Rows.graphHoldsSpec.plain.varTypes Try.prog) (ds ++ gs)).all (· ≤ reachBytes) = true) :
    Calls Try.prog 8 args W fun e W' => ∃ v, e = .returned v ∧ Rows.graphHoldsSpec.post enc Try.prog Try.f8 false true false false W args v W' := by
  have hW' := hW
  obtain ⟨p, q, hA0, hV, rfl, hfz, hnd⟩ := hW
  have hA : DataW.TrodAll enc Try.prog W 0 (fun _ => true) true Try.f8.params.toList args.toList ds p := hA0
  have hsz := hsz0
  rw [Try.params8] at hA hval hsz
  obtain ⟨v0, vs0, d0, ds0, p0, q0, hargs, rfl, rfl, h0, r0⟩ := trodAll_cons hA
  obtain ⟨v1, vs1, d1, ds1, p1, q1, rfl, rfl, rfl, h1, r1⟩ := trodAll_cons r0
  obtain ⟨v2, vs2, d2, ds2, p2, q2, rfl, rfl, rfl, h2, r2⟩ := trodAll_cons r1
  obtain ⟨rfl, rfl, rfl⟩ := trodAll_nil r2
  obtain rfl : args = #[v0, v1, v2] := by cases args; simp_all
  obtain ⟨rfl, rfl⟩ := trodVars_none hV
  obtain ⟨A0, c0, l0, rfl, w0, z0⟩ := open_graph (hval 0 46 v0 rfl rfl) h0 (size_of hsz (j := 0) rfl rfl)
  obtain ⟨A1, c1, l1, rfl, w1, z1⟩ := open_more (hval 1 22 v1 rfl rfl) h1 (size_of hsz (j := 1) rfl rfl)
  obtain ⟨a2, rfl, rfl, rfl, w2⟩ := open_int Try.underlying3 (hval 2 3 v2 rfl rfl) h2
  obtain ⟨l2, u2⟩ := of_wf_i64 w2
  clear hA0 hsz hsz0
  simp only [List.append_nil] at hW'
  refine (walk A0 c0 l0 A1 c1 l1 a2 z0 z1 l2 u2 W w0 w1).mono fun e W' ⟨he, hb⟩ => ?_
  subst he
  exact ⟨_, rfl, law_post laidOut (by kernel_rfl) (by kernel_rfl) Try.underlying4 hW' hb rfl⟩

set_option maxRecDepth 100000 in
theorem lifted (os : Os) (started : os.Started) (H : Type) (enc : TypeId × Value → H) :
    ReturnsInHanded {} Try.checked os 8 .any (Rows.graphHoldsSpec.pre6 enc Try.prog Try.f8 Rows.graphHoldsRow.domain false) (Rows.graphHoldsSpec.post enc Try.prog Try.f8 false true false false) := by
  refine returnsInHanded_of_change_sized (C := Try.checked) own started (by kernel_rfl) Try.func8
    (ChangeSpec.witness6 (enc := enc) (C := Try.checked) false ⟨#[], #[.agg #[.slice none 0 0], .slice none 0 0, .int .i64 0], []⟩ 8 (by kernel_rfl) (by kernel_rfl) (by kernel_rfl) (by kernel_rfl)) ?_
  intro W base args ds gs before hval hW _ hsz _
  exact contract H enc W base args ds gs before hval hW hsz
/-- The row. -/
theorem holds : Rows.GraphHoldsSaid :=
  OpenClaim.holds_of_wide 8 Try.f8 rfl rfl rfl rfl rfl rfl rfl ⟨rfl, rfl, rfl, rfl, rfl⟩ rfl rfl rfl rfl rfl (by kernel_rfl) Try.func8 (by kernel_rfl)
    (of_decide_eq_true (by kernel_rfl)) (by unfold Func.isWrapper; first | (rw [if_pos (by decide +kernel)]; kernel_rfl) | (rw [if_neg (by decide +kernel)]; exact ⟨rfl, rfl⟩))
    (fun os started H enc _ => lifted os started H enc)
end Go.Proofs.Ytkkdgacdajojiaa.graphHolds
