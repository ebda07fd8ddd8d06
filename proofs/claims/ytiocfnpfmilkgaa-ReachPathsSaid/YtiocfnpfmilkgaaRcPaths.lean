/- ReachPaths: the way from any value to any object, in any graph, is what the document's own answer says. Conditions: none but the form's own reach. -/
import Derived.Test.YtiocfnpfmilkgaaRcLawW
import Derived.Test.YtiocfnpfmilkgaaRcRefG
import Derived.Test.YtiocfnpfmilkgaaGrFour
import Derived.Test.YtiocfnpfmilkgaaLawPost
import Derived.ProofKit
import Derived.BigQuiet
import Derived.Deep.LoopGhost
import Derived.Deep.DeepCutAuto
namespace Go.Proofs.Ytiocfnpfmilkgaa.reachPaths
set_option maxRecDepth 20000
open Go.ChangeShapes Go.WideShapes Go.ChangeAt Go.RowKit Go.Maps Go.Sort

theorem open_value {H : Type} {enc : TypeId × Value → H} {w : World} {base : Nat} {spare : Nat → Bool} {held : Bool} {r : Reach} {b0 : Nat} {v : Value} {d : DataW H} {p : List MemPlace} (hv : Value.okWide Try.prog w r b0 24 v) (h : DataW.Trod enc Try.prog w base spare held 24 v d p) :
    ∃ k : Int × Int, v = vV k := by
  obtain ⟨cs, rfl, hsz⟩ := okWide_struct Try.underlying24 hv
  obtain ⟨c0, c1, rfl⟩ := Joins.array2 (hsz.trans valCells)
  obtain ⟨fuel, hf⟩ := h
  have hf : DataW.trod enc Try.prog w base spare held fuel 24 [c0, c1] = some (d, p) := by simpa [Value.cells] using hf
  obtain ⟨xs, m, _, _, _, hxl, hff⟩ := DataW.trod_struct Try.underlying24 hf
  match xs, hxl with
  | [y0, y1], _ =>
    have g0 := hff 0 _ rfl
    have g1 := hff 1 _ rfl
    have c0 : Try.prog.cellsOf 3 = 1 := by kernel_rfl
    have c1 : Try.prog.cellsOf 2 = 1 := by kernel_rfl
    simp [c0, c1] at g0 g1
    obtain ⟨a, e0, _, _⟩ := DataW.trod_int Try.underlying3 g0
    obtain ⟨b, e1, _, _⟩ := DataW.trod_int Try.underlying2 g1
    injection e0 with e0
    injection e1 with e1
    exact ⟨(a, b), by rw [e0, e1]⟩
theorem own_boxed2 {w : World} {A : Option Addr} {c : Nat} {g : List OB} (hg : GAtC w A g) (hn : g.length * 64 ≤ 140737488355328) (rk rn : Int) :
    Calls Try.prog 27 #[gV A g.length c] ((w.alloc (.cells #[.slice A g.length c] 41 (0, 0))).alloc (.cells #[.int .i64 rk, .int .i64 rn] 24 (0, 0))) fun e w1 => ∃ C k, e = .returned (gV C (ownG g).length k) ∧
      (GAt (w1.setCell ⟨w.heap.size, 0, none⟩ (.slice C (ownG g).length k)) C (ownG g) ∧ Below w.heap.size w (w1.setCell ⟨w.heap.size, 0, none⟩ (.slice C (ownG g).length k)) ∧ (w1.setCell ⟨w.heap.size, 0, none⟩ (.slice C (ownG g).length k)).cell? ⟨w.heap.size, 0, none⟩ = some (.slice C (ownG g).length k) ∧
        (w1.setCell ⟨w.heap.size, 0, none⟩ (.slice C (ownG g).length k)).cell? ⟨w.heap.size + 1, 0, none⟩ = some (.int .i64 rk) ∧ (w1.setCell ⟨w.heap.size, 0, none⟩ (.slice C (ownG g).length k)).cell? ⟨w.heap.size + 1, 1, none⟩ = some (.int .i64 rn)) ∧
      w1.cell? ⟨w.heap.size, 0, none⟩ = some (.slice A g.length c) ∧ w1.frozen? ⟨w.heap.size, 0, none⟩ = false := by
  have hs : ((w.alloc (.cells #[.slice A g.length c] 41 (0, 0))).alloc (.cells #[.int .i64 rk, .int .i64 rn] 24 (0, 0))).heap.size = w.heap.size + 2 := by simp
  refine (own_any (c := c) (hg.below (((Below.refl _ _).alloc (Nat.le_refl _) _).alloc (by simp) _)) hn).mono ?_
  rintro e w1 ⟨C, k, rfl, h1, h2⟩
  have hlt : w.heap.size + 1 < w1.heap.size := by have := h2.size; omega
  have h3 := below_box h2
  have c0 : w1.cell? ⟨w.heap.size, 0, none⟩ = some (.slice A g.length c) := boxed h3 (j := 0) rfl
  have f0 : w1.frozen? ⟨w.heap.size, 0, none⟩ = false := (h3.frozen (p := ⟨w.heap.size, 0, none⟩) (by show w.heap.size < _; simp)).trans (by simp [go_sem])
  have d0 : w1.cell? ⟨w.heap.size + 1, 0, none⟩ = some (.int .i64 rk) := by have := boxed h2 (j := 0) (v := .int .i64 rk) rfl; simpa using this
  have d1 : w1.cell? ⟨w.heap.size + 1, 1, none⟩ = some (.int .i64 rn) := by have := boxed h2 (j := 1) (v := .int .i64 rn) rfl; simpa using this
  refine ⟨C, k, rfl, ⟨(h1.set (p := ⟨w.heap.size, 0, none⟩) (by show w.heap.size < _; omega) _).at, (below_box h3).setCell (Nat.le_refl _) _, World.cell?_setCell_same _ _ _ c0, ?_, ?_⟩, c0, f0⟩
  · rw [World.cell?_setCell_far _ _ _ _ (show w.heap.size ≠ w.heap.size + 1 by omega)]; exact d0
  · rw [World.cell?_setCell_far _ _ _ _ (show w.heap.size ≠ w.heap.size + 1 by omega)]; exact d1
theorem path_len {g : List OB} {r : Int × Int} {m : Int} : (intsOf (pathI g r m)).length ≤ g.length := by
  by_cases e : pathI g r m = []
  · rw [e]; exact Nat.zero_le _
  · exact (path_facts e).2.2.2.1
set_option maxHeartbeats 8000000 in
theorem walk (A : Option Addr) (c : Nat) (g : List OB) (r : Int × Int) (m : Int) (hz : g.length * 64 ≤ 140737488351232) (hl : -9223372036854775808 ≤ m) (hu : m ≤ 9223372036854775807) (w : World) (hg : GAtC w A g) :
    Calls Try.prog 7 #[.agg #[.slice A g.length c], vV r, .int .i64 m] w fun e w' => e = .returned (.bool true) ∧ Below w.heap.size w w' := by
  obtain ⟨rk, rn⟩ := r
  have OW := Lib.hid (own_boxed2 (c := c) hg (by omega) rk rn)
  have hN : (ownG g).length ≤ 40 := by rw [ownG_len]; omega
  have C1 : Hid (∀ W C k, GAt W C (ownG g) → Calls Try.prog 34 #[gV C (ownG g).length k, .agg #[.int .i64 rk, .int .i64 rn], .int .i64 m] W (GivesI (intsOf (pathI (ownG g) (rk, rn) m)) W)) := fun W C k h => Path_any h (by omega) (own_held g) (rk, rn) m hl hu
  have C2 : Hid (∀ W C k, GAt W C (ownG g) → Calls Try.prog 35 #[gV C (ownG g).length k, .agg #[.int .i64 rk, .int .i64 rn], .int .i64 m] W (GivesI (intsOf (pathI (ownG g) (rk, rn) m)) W)) := fun W C k h => RPath_any h (by omega) rk rn m hl hu
  generalize ownG g = h at *
  have L1 : Hid ((intsOf (pathI h (rk, rn) m)).length ≤ 140737488355328) := Nat.le_trans path_len (by omega)
  clear hg
  generalize intsOf (pathI h (rk, rn) m) = X1 at *
  generalize h.length = n at *
  generalize g.length = ng at *
  go_enter Try.func7, Try.ntmps7
  go_upto_region 2 with (go_at_call 27; (with_reducible refine OW.out.mono ?_); rintro e w1 ⟨C, k, rfl, hV, y0, f0⟩; have HV := Lib.hid hV; clear hV)
  refine at_world (fun V => GAt V C h ∧ Below w.heap.size w V ∧ V.cell? ⟨w.heap.size, 0, none⟩ = some (.slice C n k) ∧ V.cell? ⟨w.heap.size + 1, 0, none⟩ = some (.int .i64 rk) ∧ V.cell? ⟨w.heap.size + 1, 1, none⟩ = some (.int .i64 rn)) HV.out ?_
  clear HV y0 f0
  rintro V ⟨hG, hb, c0, c1, c2⟩
  have BV := Lib.hid hb
  have G := Lib.hid hG
  have GB : Hid (∀ W, Below V.heap.size V W → GAt W C h) := fun W hW => G.out.below hW
  have KP : Hid (∀ W, Below V.heap.size V W → (W.cell? ⟨w.heap.size, 0, none⟩ = some (.slice C n k) ∧ W.cell? ⟨w.heap.size + 1, 0, none⟩ = some (.int .i64 rk) ∧ W.cell? ⟨w.heap.size + 1, 1, none⟩ = some (.int .i64 rn)) ∧ Below V.heap.size V W) := fun W hW => ⟨⟨(hW.cell (p := ⟨w.heap.size, 0, none⟩) (World.block_lt_of_cell? _ _ c0)).trans c0, (hW.cell (p := ⟨w.heap.size + 1, 0, none⟩) (World.block_lt_of_cell? _ _ c1)).trans c1, (hW.cell (p := ⟨w.heap.size + 1, 1, none⟩) (World.block_lt_of_cell? _ _ c2)).trans c2⟩, hW⟩
  clear hb hG
  go_region_held3 (fun w' => (w'.cell? ⟨w.heap.size, 0, none⟩ = some (.slice C n k) ∧ w'.cell? ⟨w.heap.size + 1, 0, none⟩ = some (.int .i64 rk) ∧ w'.cell? ⟨w.heap.size + 1, 1, none⟩ = some (.int .i64 rn)) ∧ Below V.heap.size V w') (first | exact KP.out _ ((Below.refl _ _).drew) | exact KP.out _ (keep_call (by assumption) (by assumption)) | exact KP.out _ (by assumption))
    (first
    | (go_at_call 34; (with_reducible refine (C1.out _ C k (GB.out _ (And.right (by assumption)))).mono ?_); rintro e w1 ⟨A1, p1, rfl, i1, hb1⟩)
    | (go_at_call 35; (with_reducible refine (C2.out _ C k (GB.out _ (And.right (by assumption)))).mono ?_); rintro e w2 ⟨A2, p2, rfl, i2, hb2⟩)
    | (go_at_call 28; have HH := Ints_any A1 A2 p1 p2 X1 w2 L1.out (i1.below hb2) i2; (with_reducible refine HH.mono ?_); clear HH; rintro e w3 ⟨rfl, hb⟩)
    | (go_at_call 33; (with_reducible refine (works_true _).mono ?_); rintro e w10 ⟨rfl, hb⟩))
  have HV10 : (w10.cell? ⟨w.heap.size, 0, none⟩ = some (.slice C n k) ∧ w10.cell? ⟨w.heap.size + 1, 0, none⟩ = some (.int .i64 rk) ∧ w10.cell? ⟨w.heap.size + 1, 1, none⟩ = some (.int .i64 rn)) ∧ Below V.heap.size V w10 := by assumption
  go_wp2_with fail
  go_ret
  exact ⟨rfl, BV.out.trans (HV10.2.mono BV.out.size)⟩
theorem own : ownKnob Try.prog.godebug = none := by kernel_rfl
theorem laidOut : laidOutB Try.prog = true := by kernel_rfl
set_option maxRecDepth 100000 in
theorem contract (H : Type) (enc : TypeId × Value → H) (W : World) (base : Nat) (args : Array Value) (ds gs : List (DataW H)) (before : List MemPlace)
    (hval : ∀ (j : Nat) t v, Try.f7.params[j]? = some t → args[j]? = some v → Value.okWide Try.prog W .any base t v)
    (hW : DataW.Whole enc Try.prog Try.f7.params.toList Rows.reachPathsSpec.vars false W args.toList ds gs before)
    (hsz0 : (DataW.weightsEach Try.prog (Try.f7.params.toList ++ Rows.reachPathsSpec.plain.varTypes Try.prog) (ds ++ gs)).all (· ≤ reachBytes) = true) :
    Calls Try.prog 7 args W fun e W' => ∃ v, e = .returned v ∧ Rows.reachPathsSpec.post enc Try.prog Try.f7 false true false false W args v W' := by
  have hW' := hW
  obtain ⟨p, q, hA0, hV, rfl, hfz, hnd⟩ := hW
  have hA : DataW.TrodAll enc Try.prog W 0 (fun _ => true) true Try.f7.params.toList args.toList ds p := hA0
  have hsz := hsz0
  rw [Try.params7] at hA hval hsz
  obtain ⟨v0, vs0, d0, ds0, p0, q0, hargs, rfl, rfl, h0, r0⟩ := trodAll_cons hA
  obtain ⟨v1, vs1, d1, ds1, p1, q1, rfl, rfl, rfl, h1, r1⟩ := trodAll_cons r0
  obtain ⟨v2, vs2, d2, ds2, p2, q2, rfl, rfl, rfl, h2, r2⟩ := trodAll_cons r1
  obtain ⟨rfl, rfl, rfl⟩ := trodAll_nil r2
  obtain rfl : args = #[v0, v1, v2] := by cases args; simp_all
  obtain ⟨rfl, rfl⟩ := trodVars_none hV
  obtain ⟨A0, c0, l0, rfl, w0, z0⟩ := open_graph_c (hval 0 41 v0 rfl rfl) h0 (size_of hsz (j := 0) rfl rfl)
  obtain ⟨k1, rfl⟩ := open_value (hval 1 24 v1 rfl rfl) h1
  obtain ⟨a2, rfl, rfl, rfl, w2⟩ := open_int Try.underlying3 (hval 2 3 v2 rfl rfl) h2
  obtain ⟨l2, u2⟩ := of_wf_i64 w2
  clear hA0 hsz hsz0
  simp only [List.append_nil] at hW'
  refine (walk A0 c0 l0 k1 a2 z0 l2 u2 W w0).mono fun e W' ⟨he, hb⟩ => ?_
  subst he
  exact ⟨_, rfl, law_post laidOut (by kernel_rfl) (by kernel_rfl) Try.underlying4 hW' hb rfl⟩

set_option maxRecDepth 100000 in
theorem lifted (os : Os) (started : os.Started) (H : Type) (enc : TypeId × Value → H) :
    ReturnsInHanded {} Try.checked os 7 .any (Rows.reachPathsSpec.pre6 enc Try.prog Try.f7 Rows.reachPathsRow.domain false) (Rows.reachPathsSpec.post enc Try.prog Try.f7 false true false false) := by
  refine returnsInHanded_of_change_sized (C := Try.checked) own started (by kernel_rfl) Try.func7
    (ChangeSpec.witness6 (enc := enc) (C := Try.checked) false ⟨#[], #[.agg #[.slice none 0 0], .agg #[.int .i64 0, .int .i64 0], .int .i64 0], []⟩ 8 (by kernel_rfl) (by kernel_rfl) (by kernel_rfl) (by kernel_rfl)) ?_
  intro W base args ds gs before hval hW _ hsz _
  exact contract H enc W base args ds gs before hval hW hsz
/-- The row. -/
theorem holds : Rows.ReachPathsSaid :=
  OpenClaim.holds_of_wide 7 Try.f7 rfl rfl rfl rfl rfl rfl rfl ⟨rfl, rfl, rfl, rfl, rfl⟩ rfl rfl rfl rfl rfl (by kernel_rfl) Try.func7 (by kernel_rfl)
    (of_decide_eq_true (by kernel_rfl)) (by unfold Func.isWrapper; first | (rw [if_pos (by decide +kernel)]; kernel_rfl) | (rw [if_neg (by decide +kernel)]; exact ⟨rfl, rfl⟩))
    (fun os started H enc _ => lifted os started H enc)
end Go.Proofs.Ytiocfnpfmilkgaa.reachPaths
