/- ReachFinds: what can be reached from any values, in any graph, and what can't, is what the document's own answer says. Conditions: none but the form's own reach. -/
import Derived.Test.YtiocfnpfmilkgaaRcLawW
import Derived.Test.YtiocfnpfmilkgaaRcRefC
import Derived.Test.YtiocfnpfmilkgaaGrFour
import Derived.Test.YtiocfnpfmilkgaaLawPost
import Derived.ProofKit
import Derived.BigQuiet
import Derived.Deep.LoopGhost
import Derived.Deep.DeepCutAuto
namespace Go.Proofs.Ytiocfnpfmilkgaa.reachFinds
set_option maxRecDepth 20000
open Go.ChangeShapes Go.WideShapes Go.ChangeAt Go.RowKit Go.Maps Go.Sort

set_option maxHeartbeats 8000000 in
theorem walk (A : Option Addr) (c : Nat) (g : List OB) (B : Option Addr) (d : Nat) (more : List (Int × Int)) (hz : g.length * 64 ≤ 140737488351232) (_hm : more.length * 16 ≤ 140737488351232) (hd : more.length ≤ d) (w : World) (hg : GAtC w A g) (hB : PairsAt w B more) :
    Calls Try.prog 6 #[.agg #[.slice A g.length c], .slice B more.length d] w fun e w' => e = .returned (.bool true) ∧ Below w.heap.size w w' := by
  have OW := Lib.hid (own_boxed (c := c) hg (by omega))
  have BR := Lib.hid (pairs_take hB 40)
  have hN : (ownG g).length ≤ 40 := by rw [ownG_len]; omega
  have hR : (more.take 40).length ≤ 40 := List.length_take_le _ _
  have hmin : min ((more.length : Nat) : Int) 40 = ((more.take 40).length : Int) := by rw [List.length_take]; omega
  have hmd : (more.take 40).length ≤ d := by rw [List.length_take]; omega
  have C1 : Hid (∀ W C k, GAt W C (ownG g) → PairsAt W B (more.take 40) → Calls Try.prog 29 #[gV C (ownG g).length k, .slice B (more.take 40).length d] W (GivesI (intsOf (fromL (ownG g) (more.take 40) true)) W)) := fun W C k h1 h2 => (From_any h1 (by omega) (by omega) h2).mono fun e w' h => GivesI.of h
  have C2 : Hid (∀ W C k, GAt W C (ownG g) → PairsAt W B (more.take 40) → Calls Try.prog 31 #[gV C (ownG g).length k, .slice B (more.take 40).length d] W (GivesI (intsOf (fromL (ownG g) (more.take 40) false)) W)) := fun W C k h1 h2 => (Lost_any h1 (by omega) (by omega) h2).mono fun e w' h => GivesI.of h
  have C3 : Hid (∀ W C k, GAt W C (ownG g) → PairsAt W B (more.take 40) → Calls Try.prog 30 #[gV C (ownG g).length k, .slice B (more.take 40).length d] W (GivesI (intsOf (fromL (ownG g) (more.take 40) true)) W)) := fun W C k h1 h2 => (RFrom_any h1 (by omega) (by omega) h2).mono fun e w' h => GivesI.of h
  have C4 : Hid (∀ W C k, GAt W C (ownG g) → PairsAt W B (more.take 40) → Calls Try.prog 32 #[gV C (ownG g).length k, .slice B (more.take 40).length d] W (GivesI (intsOf (fromL (ownG g) (more.take 40) false)) W)) := fun W C k h1 h2 => (RLost_any h1 (by omega) (by omega) h2).mono fun e w' h => GivesI.of h
  generalize ownG g = h at *
  have L1 : Hid ((intsOf (fromL h (more.take 40) true)).length ≤ 140737488355328) := Nat.le_trans (from_len h (more.take 40) true) (by omega)
  have L2 : Hid ((intsOf (fromL h (more.take 40) false)).length ≤ 140737488355328) := Nat.le_trans (from_len h (more.take 40) false) (by omega)
  clear hg hB hd
  generalize intsOf (fromL h (more.take 40) true) = X1 at *
  generalize intsOf (fromL h (more.take 40) false) = X2 at *
  generalize more.take 40 = rs at *
  generalize h.length = n at *
  generalize more.length = nm at *
  generalize rs.length = m at *
  generalize g.length = ng at *
  go_enter Try.func6, Try.ntmps6
  go_upto_region 3 with (go_at_call 27; (with_reducible refine OW.out.mono ?_); rintro e w1 ⟨C, k, rfl, hV, y0, f0⟩; have HV := Lib.hid hV; clear hV)
  refine at_world (fun V => GAt V C h ∧ Below w.heap.size w V ∧ V.cell? ⟨w.heap.size, 0, none⟩ = some (.slice C n k)) HV.out ?_
  clear HV y0 f0
  rintro V ⟨hG, hb, c0⟩
  have BV := Lib.hid hb
  have G := Lib.hid hG
  have zV := World.block_lt_of_cell? V _ c0
  simp only at zV
  clear hb hG
  have CX : Hid (∀ W, Below V.heap.size V W → W.cell? ⟨w.heap.size, 0, none⟩ = some (.slice C n k)) := fun W hW => (hW.cell (p := ⟨w.heap.size, 0, none⟩) zV).trans c0
  have GB : Hid (∀ W, Below V.heap.size V W → GAt W C h) := fun W hW => G.out.below hW
  have RB : Hid (∀ W, Below V.heap.size V W → PairsAt W B rs) := fun W hW => pairs_below BR.out (BV.out.trans (hW.mono BV.out.size))
  go_region_held3 (fun w' => w'.cell? ⟨w.heap.size, 0, none⟩ = some (.slice C n k) ∧ Below V.heap.size V w') (first | exact ⟨c0, (Below.refl _ _).drew⟩ | exact held_keep (fun W => CX.out W) (by assumption) (by assumption))
    (first
    | (go_at_call 29; (with_reducible refine (C1.out _ C k (GB.out _ (by exact (by assumption : _ ∧ Below V.heap.size V _).2)) (RB.out _ (by exact (by assumption : _ ∧ Below V.heap.size V _).2))).mono ?_); rintro e w1 ⟨A1, c1, rfl, i1, hb1⟩)
    | (go_at_call 30; (with_reducible refine (C3.out _ C k (GB.out _ (by exact (by assumption : _ ∧ Below V.heap.size V _).2)) (RB.out _ (by exact (by assumption : _ ∧ Below V.heap.size V _).2))).mono ?_); rintro e w2 ⟨A2, c2, rfl, i2, hb2⟩)
    | (go_at_call_of 28 A1; have HH := Ints_any A1 A2 c1 c2 X1 w2 L1.out (i1.below hb2) i2; (with_reducible refine HH.mono ?_); clear HH; rintro e w3 ⟨rfl, hb⟩)
    | (go_at_call 31; (with_reducible refine (C2.out _ C k (GB.out _ (by exact (by assumption : _ ∧ Below V.heap.size V _).2)) (RB.out _ (by exact (by assumption : _ ∧ Below V.heap.size V _).2))).mono ?_); rintro e w4 ⟨A3, c3, rfl, i3, hb4⟩)
    | (go_at_call 32; (with_reducible refine (C4.out _ C k (GB.out _ (by exact (by assumption : _ ∧ Below V.heap.size V _).2)) (RB.out _ (by exact (by assumption : _ ∧ Below V.heap.size V _).2))).mono ?_); rintro e w5 ⟨A4, c4, rfl, i4, hb5⟩)
    | (go_at_call_of 28 A3; have HH := Ints_any A3 A4 c3 c4 X2 w5 L2.out (i3.below hb5) i4; (with_reducible refine HH.mono ?_); clear HH; rintro e w6 ⟨rfl, hb⟩)
    | (go_at_call 33; (with_reducible refine (works_true _).mono ?_); rintro e w10 ⟨rfl, hb⟩))
  go_wp2_with fail
  go_ret
  exact ⟨rfl, BV.out.trans ((by assumption : _ ∧ Below V.heap.size V w10).2.mono BV.out.size)⟩
theorem own : ownKnob Try.prog.godebug = none := by kernel_rfl
theorem laidOut : laidOutB Try.prog = true := by kernel_rfl
set_option maxRecDepth 100000 in
theorem contract (H : Type) (enc : TypeId × Value → H) (W : World) (base : Nat) (args : Array Value) (ds gs : List (DataW H)) (before : List MemPlace)
    (hval : ∀ (j : Nat) t v, Try.f6.params[j]? = some t → args[j]? = some v → Value.okWide Try.prog W .any base t v)
    (hW : DataW.Whole enc Try.prog Try.f6.params.toList Rows.reachFindsSpec.vars false W args.toList ds gs before)
    (hsz0 : (DataW.weightsEach Try.prog (Try.f6.params.toList ++ Rows.reachFindsSpec.plain.varTypes Try.prog) (ds ++ gs)).all (· ≤ reachBytes) = true) :
    Calls Try.prog 6 args W fun e W' => ∃ v, e = .returned v ∧ Rows.reachFindsSpec.post enc Try.prog Try.f6 false true false false W args v W' := by
  have hW' := hW
  obtain ⟨p, q, hA0, hV, rfl, hfz, hnd⟩ := hW
  have hA : DataW.TrodAll enc Try.prog W 0 (fun _ => true) true Try.f6.params.toList args.toList ds p := hA0
  have hsz := hsz0
  rw [Try.params6] at hA hval hsz
  obtain ⟨v0, vs0, d0, ds0, p0, q0, hargs, rfl, rfl, h0, r0⟩ := trodAll_cons hA
  obtain ⟨v1, vs1, d1, ds1, p1, q1, rfl, rfl, rfl, h1, r1⟩ := trodAll_cons r0
  obtain ⟨rfl, rfl, rfl⟩ := trodAll_nil r1
  obtain rfl : args = #[v0, v1] := by cases args; simp_all
  obtain ⟨rfl, rfl⟩ := trodVars_none hV
  obtain ⟨A0, c0, l0, rfl, w0, z0⟩ := open_graph_c (hval 0 41 v0 rfl rfl) h0 (size_of hsz (j := 0) rfl rfl)
  obtain ⟨A1, c1, l1, rfl, q1, w1, z1⟩ := open_more_c (hval 1 22 v1 rfl rfl) h1 (size_of hsz (j := 1) rfl rfl)
  clear hA0 hsz hsz0
  simp only [List.append_nil] at hW'
  refine (walk A0 c0 l0 A1 c1 l1 z0 z1 q1 W w0 w1).mono fun e W' ⟨he, hb⟩ => ?_
  subst he
  exact ⟨_, rfl, law_post laidOut (by kernel_rfl) (by kernel_rfl) Try.underlying4 hW' hb rfl⟩

set_option maxRecDepth 100000 in
theorem lifted (os : Os) (started : os.Started) (H : Type) (enc : TypeId × Value → H) :
    ReturnsInHanded {} Try.checked os 6 .any (Rows.reachFindsSpec.pre6 enc Try.prog Try.f6 Rows.reachFindsRow.domain false) (Rows.reachFindsSpec.post enc Try.prog Try.f6 false true false false) := by
  refine returnsInHanded_of_change_sized (C := Try.checked) own started (by kernel_rfl) Try.func6
    (ChangeSpec.witness6 (enc := enc) (C := Try.checked) false ⟨#[], #[.agg #[.slice none 0 0], .slice none 0 0], []⟩ 8 (by kernel_rfl) (by kernel_rfl) (by kernel_rfl) (by kernel_rfl)) ?_
  intro W base args ds gs before hval hW _ hsz _
  exact contract H enc W base args ds gs before hval hW hsz
/-- The row. -/
theorem holds : Rows.ReachFindsSaid :=
  OpenClaim.holds_of_wide 6 Try.f6 rfl rfl rfl rfl rfl rfl rfl ⟨rfl, rfl, rfl, rfl, rfl⟩ rfl rfl rfl rfl rfl (by kernel_rfl) Try.func6 (by kernel_rfl)
    (of_decide_eq_true (by kernel_rfl)) (by unfold Func.isWrapper; first | (rw [if_pos (by decide +kernel)]; kernel_rfl) | (rw [if_neg (by decide +kernel)]; exact ⟨rfl, rfl⟩))
    (fun os started H enc _ => lifted os started H enc)
end Go.Proofs.Ytiocfnpfmilkgaa.reachFinds
