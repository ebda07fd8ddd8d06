/- TrialSees: what is seen of suspects, and what of it is white, is what the document's own answer says: for any graph, any numbers. Conditions: none but the form's own reach. -/
import Derived.Test.YtjlobjgemhapaaaTrWorks
import Derived.Test.YtjlobjgemhapaaaTrOpenD
import Derived.Test.YtjlobjgemhapaaaTrRefD
import Derived.Test.YtjlobjgemhapaaaOldV
import Derived.ProofKit
import Derived.BigQuiet
import Derived.Deep.LoopGhost
import Derived.Deep.DeepCutAuto
import Derived.Deep.RegionHeld3
import Derived.Deep.RegionLaw
import Derived.IntWalk
namespace Go.Proofs.Ytjlobjgemhapaaa.trialSees
set_option maxRecDepth 20000
open Go.ChangeShapes Go.WideShapes Go.ChangeAt Go.RowKit Go.Maps Go.Sort

theorem held_keep2 {V W W' : World} {b : Nat} {x : Value} (hx : ∀ W, Below V.heap.size V W → W.cell? ⟨b, 0, none⟩ = some x) (h : W.cell? ⟨b, 0, none⟩ = some x ∧ Below V.heap.size V W) (hb : Below W.heap.size W W') : W'.cell? ⟨b, 0, none⟩ = some x ∧ Below V.heap.size V W' :=
  ⟨hx _ (h.2.trans (hb.mono h.2.size)), h.2.trans (hb.mono h.2.size)⟩
set_option maxHeartbeats 16000000 in
theorem walk (A : Option Addr) (c : Nat) (g : List OB) (B : Option Addr) (d : Nat) (l : List Int) (hz : g.length * 64 ≤ 140737488351232) (hm : l.length * 8 ≤ 140737488351232) (hd : l.length ≤ d) (w : World) (hg : GAtC w A g) (hB : IntsAt w B l ∧ ∀ x ∈ l, wf64 x) :
    Calls Try.prog 3 #[.agg #[.slice A g.length c], .slice B l.length d] w fun e w' => e = .returned (.bool true) ∧ Below w.heap.size w w' := by
  have G := Lib.hid hg.at
  have WF : Hid (∀ x ∈ l.take 200, wf64 x) := fun x hx => hB.2 x (List.mem_of_mem_take hx)
  have hmin : min ((l.length : Nat) : Int) 200 = ((l.take 200).length : Int) := by rw [List.length_take]; omega
  have hmd : (l.take 200).length ≤ d := by rw [List.length_take]; omega
  have hl200 : (l.take 200).length ≤ 200 := List.length_take_le _ _
  have BT : Hid (IntsAt w B (l.take 200)) := ints_take hB.1 200
  clear hg hB
  generalize hL : l.take 200 = L at *
  clear hL
  generalize l.length = nl at *
  by_cases hbig : 100 < g.length
  · have z1 : (100 : Int) < (g.length : Int) := by omega
    clear G WF BT
    generalize g.length = n at *
    go_enter Try.func3, Try.ntmps3
    go_wp2_with (go_at_call 10; (with_reducible refine (works_true _).mono ?_); rintro e w1 ⟨rfl, hb⟩; have B1 := Lib.hid (below_box hb); clear hb)
    go_ret
    exact ⟨rfl, B1.out⟩
  · have z1 : ¬ (100 : Int) < (g.length : Int) := by omega
    have hn900 : g.length ≤ 900 := by omega
    have SL : Hid (∀ W, Below w.heap.size w W → Calls Try.prog 9 #[gV A g.length c] W fun e w' => (∃ z : Int, e = .returned (iV z) ∧ (¬ 2000 < z → ∀ o ∈ g, o.slots.length ≤ 2000)) ∧ Below W.heap.size W w') := fun W hW => slots_any (G.out.below hW) (by omega)
    have NG : Hid (g.length ≤ 900) := hn900
    obtain ⟨n, hn⟩ : ∃ n, n = g.length := ⟨_, rfl⟩
    have HN := Lib.hid hn
    rw [← hn] at z1 SL ⊢
    clear hn hbig hz
    go_enter Try.func3, Try.ntmps3
    have d1 : decide ((100 : Int) < (n : Int)) = false := decide_eq_false z1
    go_upto_region 1 with fail
    refine at_world (fun V => Below w.heap.size w V ∧ V.cell? ⟨w.heap.size, 0, none⟩ = some (.slice A n c)) ⟨(Below.refl _ _).alloc (Nat.le_refl _) _, by simp [go_sem]⟩ (fun w1 HV => ?_)
    obtain ⟨hb1, x1⟩ := HV
    have B1 := Lib.hid hb1
    have t1 : w.heap.size < w1.heap.size := World.block_lt_of_cell? w1 _ x1
    clear hb1
    go_cut [13] (fun s21 wx => ∃ bb : Bool, s21 = .bool bb ∧ Hid (Below w.heap.size w wx ∧ wx.cell? ⟨w.heap.size, 0, none⟩ = some (.slice A n c)) ∧ Hid (bb = false → ∀ o ∈ g, o.slots.length ≤ 2000))
    case first =>
      go_wp2_with (go_at_call 9; (with_reducible refine (SL.out w1 B1.out).mono ?_); rintro e w2 ⟨⟨z, rfl, hzs⟩, hb⟩; have B2 := Lib.hid (B1.out.trans (hb.mono B1.out.size)); have x2 := (hb.cell (p := ⟨w.heap.size, 0, none⟩) t1).trans x1; have ZS := Lib.hid hzs; clear hb hzs)
      go_meet
      exact ⟨decide (2000 < z), rfl, ⟨B2.out, x2⟩, fun h => ZS.out (by have := of_decide_eq_false h; omega)⟩
    case rest =>
      clear x1 t1 B1 SL
      obtain ⟨bb, rfl, HX, HS⟩ := hcut
      obtain ⟨hB3, x3⟩ := HX.out
      have B3 := Lib.hid hB3
      have t3 : w.heap.size < wc.heap.size := World.block_lt_of_cell? wc _ x3
      clear hB3 HX
      cases bb with
      | true =>
        clear HS
        go_wp2_with (go_at_call 10; (with_reducible refine (works_true _).mono ?_); rintro e w4 ⟨rfl, hb⟩; have B4 := Lib.hid (B3.out.trans (hb.mono B3.out.size)); clear hb)
        go_ret
        exact ⟨rfl, B4.out⟩
      | false =>
        have HS2 := Lib.hid (HS.out rfl)
        clear HS
        obtain ⟨bg, hbg⟩ : ∃ bg, bg = w.heap.size := ⟨_, rfl⟩
        have EBG := Lib.hid hbg
        rw [← hbg] at x3 t3 ⊢
        clear hbg
        have CX : Hid (∀ W, Below wc.heap.size wc W → W.cell? ⟨bg, 0, none⟩ = some (.slice A n c)) := fun W hW => (hW.cell (p := ⟨bg, 0, none⟩) t3).trans x3
        have GW : Hid (∀ W, Below wc.heap.size wc W → Below w.heap.size w W) := fun W hW => B3.out.trans (hW.mono B3.out.size)
        have hnn := HN.out
        have C1 : Hid (∀ W, Below wc.heap.size wc W → Calls Try.prog 12 #[gV A n c, .slice B L.length d] W (GivesI (seenL g L) W)) := fun W hW => by
          have := (Seen_any (c := c) (d := d) (G.out.below (GW.out W hW)) (by omega) (fun o ho => Nat.le_trans (HS2.out o ho) (by omega)) (by omega) (BT.out.below (GW.out W hW)) WF.out).mono fun e w' h => GivesI.of h
          rwa [← hnn] at this
        have C2 : Hid (∀ W, Below wc.heap.size wc W → Calls Try.prog 13 #[gV A n c, .slice B L.length d] W (GivesI (seenL g L) W)) := fun W hW => by
          have := (RSeen_any (c := c) (d := d) (G.out.below (GW.out W hW)) (by omega) (by omega) (BT.out.below (GW.out W hW)) WF.out).mono fun e w' h => GivesI.of h
          rwa [← hnn] at this
        have C3 : Hid (∀ W, Below wc.heap.size wc W → Calls Try.prog 14 #[gV A n c, .slice B L.length d] W (GivesI (whiteL g L) W)) := fun W hW => by
          have := White_any (c := c) (d := d) (G.out.below (GW.out W hW)) (by omega) (fun o ho => Nat.le_trans (HS2.out o ho) (by omega)) (by omega) (BT.out.below (GW.out W hW)) WF.out
          rwa [← hnn] at this
        have C4 : Hid (∀ W, Below wc.heap.size wc W → Calls Try.prog 15 #[gV A n c, .slice B L.length d] W (GivesI (whiteL g L) W)) := fun W hW => by
          have := (RWhite_any (c := c) (d := d) (G.out.below (GW.out W hW)) (by omega) HS2.out (by omega) (BT.out.below (GW.out W hW)) WF.out).mono fun e w' h => GivesI.of h
          rwa [← hnn] at this
        have L1 : Hid ((seenL g L).length ≤ 140737488355328) := (show _ ≤ _ by have := seen_len g L; omega)
        have L2 : Hid ((whiteL g L).length ≤ 140737488355328) := (show _ ≤ _ by have := white_len g L; omega)
        clear hnn HS2 BT WF G HN NG
        generalize seenL g L = X1 at *
        generalize whiteL g L = X2 at *
        go_upto_region 4 with fail
        go_region_held3 (fun w' => w'.cell? ⟨bg, 0, none⟩ = some (.slice A n c) ∧ Below wc.heap.size wc w') (first | exact ⟨x3, (Below.refl _ _).drew⟩ | exact held_keep2 (fun W => CX.out W) (by assumption) (by assumption))
          (first
          | (go_at_call 12; (with_reducible refine (C1.out _ (by exact (by assumption : _ ∧ Below wc.heap.size wc _).2)).mono ?_); rintro e w1 ⟨A1, c1, rfl, i1, hb1⟩)
          | (go_at_call 13; (with_reducible refine (C2.out _ (by exact (by assumption : _ ∧ Below wc.heap.size wc _).2)).mono ?_); rintro e w2 ⟨A2, c2, rfl, i2, hb2⟩)
          | (go_at_call_of 11 A1; have HH := Ints_any A1 A2 c1 c2 X1 w2 L1.out (i1.below hb2) i2; (with_reducible refine HH.mono ?_); clear HH; rintro e w3 ⟨rfl, hb⟩)
          | (go_at_call 14; (with_reducible refine (C3.out _ (by exact (by assumption : _ ∧ Below wc.heap.size wc _).2)).mono ?_); rintro e w4 ⟨A3, c3, rfl, i3, hb4⟩)
          | (go_at_call 15; (with_reducible refine (C4.out _ (by exact (by assumption : _ ∧ Below wc.heap.size wc _).2)).mono ?_); rintro e w5 ⟨A4, c4, rfl, i4, hb5⟩)
          | (go_at_call_of 11 A3; have HH := Ints_any A3 A4 c3 c4 X2 w5 L2.out (i3.below hb5) i4; (with_reducible refine HH.mono ?_); clear HH; rintro e w6 ⟨rfl, hb⟩)
          | (go_at_call 10; (with_reducible refine (works_true _).mono ?_); rintro e w10 ⟨rfl, hb⟩))
        go_wp2_with fail
        go_ret
        exact ⟨rfl, GW.out _ (by assumption : _ ∧ Below wc.heap.size wc w10).2⟩
theorem own : ownKnob Try.prog.godebug = none := by kernel_rfl
theorem laidOut : laidOutB Try.prog = true := by kernel_rfl
set_option maxRecDepth 100000 in
theorem contract (H : Type) (enc : TypeId × Value → H) (W : World) (base : Nat) (args : Array Value) (ds gs : List (DataW H)) (before : List MemPlace)
    (hval : ∀ (j : Nat) t v, Try.f3.params[j]? = some t → args[j]? = some v → Value.okWide Try.prog W .any base t v)
    (hW : DataW.Whole enc Try.prog Try.f3.params.toList Rows.trialSeesSpec.vars false W args.toList ds gs before)
    (hsz0 : (DataW.weightsEach Try.prog (Try.f3.params.toList ++ Rows.trialSeesSpec.plain.varTypes Try.prog) (ds ++ gs)).all (· ≤ reachBytes) = true) :
    Calls Try.prog 3 args W fun e W' => ∃ v, e = .returned v ∧ Rows.trialSeesSpec.post enc Try.prog Try.f3 false true false false W args v W' := by
  have hW' := hW
  obtain ⟨p, q, hA0, hV, rfl, hfz, hnd⟩ := hW
  have hA : DataW.TrodAll enc Try.prog W 0 (fun _ => true) true Try.f3.params.toList args.toList ds p := hA0
  have hsz := hsz0
  rw [Try.params3] at hA hval hsz
  obtain ⟨v0, vs0, d0, ds0, p0, q0, hargs, rfl, rfl, h0, r0⟩ := trodAll_cons hA
  obtain ⟨v1, vs1, d1, ds1, p1, q1, rfl, rfl, rfl, h1, r1⟩ := trodAll_cons r0
  obtain ⟨rfl, rfl, rfl⟩ := trodAll_nil r1
  obtain rfl : args = #[v0, v1] := by cases args; simp_all
  obtain ⟨rfl, rfl⟩ := trodVars_none hV
  obtain ⟨A0, c0, l0, rfl, w0, z0⟩ := open_graph_c (hval 0 24 v0 rfl rfl) h0 (size_of hsz (j := 0) rfl rfl)
  obtain ⟨A1, c1, l1, rfl, q1, w1, z1⟩ := open_ints_c (hval 1 25 v1 rfl rfl) h1 (size_of hsz (j := 1) rfl rfl)
  clear hA0 hsz hsz0
  simp only [List.append_nil] at hW'
  refine (walk A0 c0 l0 A1 c1 l1 z0 z1 q1 W w0 w1).mono fun e W' ⟨he, hb⟩ => ?_
  subst he
  exact ⟨_, rfl, law_post laidOut (by kernel_rfl) (by kernel_rfl) Try.underlying4 hW' hb rfl⟩

set_option maxRecDepth 100000 in
theorem lifted (os : Os) (started : os.Started) (H : Type) (enc : TypeId × Value → H) :
    ReturnsInHanded {} Try.checked os 3 .any (Rows.trialSeesSpec.pre6 enc Try.prog Try.f3 Rows.trialSeesRow.domain false) (Rows.trialSeesSpec.post enc Try.prog Try.f3 false true false false) := by
  refine returnsInHanded_of_change_sized (C := Try.checked) own started (by kernel_rfl) Try.func3
    (ChangeSpec.witness6 (enc := enc) (C := Try.checked) false ⟨#[], #[.agg #[.slice none 0 0], .slice none 0 0], []⟩ 8 (by kernel_rfl) (by kernel_rfl) (by kernel_rfl) (by kernel_rfl)) ?_
  intro W base args ds gs before hval hW _ hsz _
  exact contract H enc W base args ds gs before hval hW hsz
/-- The row. -/
theorem holds : Rows.TrialSeesSaid :=
  OpenClaim.holds_of_wide 3 Try.f3 rfl rfl rfl rfl rfl rfl rfl ⟨rfl, rfl, rfl, rfl, rfl⟩ rfl rfl rfl rfl rfl (by kernel_rfl) Try.func3 (by kernel_rfl)
    (of_decide_eq_true (by kernel_rfl)) (by unfold Func.isWrapper; first | (rw [if_pos (by decide +kernel)]; kernel_rfl) | (rw [if_neg (by decide +kernel)]; exact ⟨rfl, rfl⟩))
    (fun os started H enc _ => lifted os started H enc)
end Go.Proofs.Ytjlobjgemhapaaa.trialSees
