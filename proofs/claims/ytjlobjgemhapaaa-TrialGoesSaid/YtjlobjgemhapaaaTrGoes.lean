/- TrialGoes: which white objects are gone, and which are marked, and in which order, is what the document's own answer says: for any graph, any numbers. Conditions: none but the form's own reach. -/
import Derived.Test.YtjlobjgemhapaaaTrWorks
import Derived.Test.YtjlobjgemhapaaaTrOpenD
import Derived.Test.YtjlobjgemhapaaaTrRefG
import Derived.Test.YtjlobjgemhapaaaOldV
import Derived.ProofKit
import Derived.BigQuiet
import Derived.Deep.LoopGhost
import Derived.Deep.DeepCutAuto
import Derived.Deep.RegionHeld3
import Derived.Deep.RegionLaw
import Derived.IntWalk
namespace Go.Proofs.Ytjlobjgemhapaaa.trialGoes
set_option maxRecDepth 20000
open Go.ChangeShapes Go.WideShapes Go.ChangeAt Go.RowKit Go.Maps Go.Sort

set_option maxHeartbeats 16000000 in
theorem walk (A : Option Addr) (c : Nat) (g : List OB) (B : Option Addr) (d : Nat) (l : List Int) (hz : g.length * 64 ≤ 140737488351232) (hm : l.length * 8 ≤ 140737488351232) (hd : l.length ≤ d) (w : World) (hg : GAtC w A g) (hB : IntsAt w B l ∧ ∀ x ∈ l, wf64 x) :
    Calls Try.prog 4 #[.agg #[.slice A g.length c], .slice B l.length d] w fun e w' => e = .returned (.bool true) ∧ Below w.heap.size w w' := by
  have G := Lib.hid hg.at
  have WF : Hid (∀ x ∈ l.take 200, wf64 x) := fun x hx => hB.2 x (List.mem_of_mem_take hx)
  have hmin : min ((l.length : Nat) : Int) 200 = ((l.take 200).length : Int) := by rw [List.length_take]; omega
  have hmd : (l.take 200).length ≤ d := by rw [List.length_take]; omega
  have hl200 : (l.take 200).length ≤ 200 := List.length_take_le _ _
  have BT : Hid (IntsAt w B (l.take 200)) := ints_take hB.1 200
  clear hg hB
  generalize hL : l.take 200 = L at *
  clear hL
  generalize l.length = nl at *
  by_cases hbig : 100 < g.length
  · have z1 : (100 : Int) < (g.length : Int) := by omega
    clear G WF BT
    generalize g.length = n at *
    go_enter Try.func4, Try.ntmps4
    go_wp2_with (go_at_call 10; (with_reducible refine (works_true _).mono ?_); rintro e w1 ⟨rfl, hb⟩; have B1 := Lib.hid (below_box hb); clear hb)
    go_ret
    exact ⟨rfl, B1.out⟩
  · have z1 : ¬ (100 : Int) < (g.length : Int) := by omega
    have hn900 : g.length ≤ 900 := by omega
    have SL : Hid (∀ W, Below w.heap.size w W → Calls Try.prog 9 #[gV A g.length c] W fun e w' => (∃ z : Int, e = .returned (iV z) ∧ (¬ 2000 < z → ∀ o ∈ g, o.slots.length ≤ 2000)) ∧ Below W.heap.size W w') := fun W hW => slots_any (G.out.below hW) (by omega)
    have NG : Hid (g.length ≤ 900) := hn900
    obtain ⟨n, hn⟩ : ∃ n, n = g.length := ⟨_, rfl⟩
    have HN := Lib.hid hn
    rw [← hn] at z1 SL ⊢
    clear hn hbig hz
    go_enter Try.func4, Try.ntmps4
    have d1 : decide ((100 : Int) < (n : Int)) = false := decide_eq_false z1
    go_upto_region 1 with fail
    refine at_world (fun V => Below w.heap.size w V ∧ V.cell? ⟨w.heap.size, 0, none⟩ = some (.slice A n c)) ⟨(Below.refl _ _).alloc (Nat.le_refl _) _, by simp [go_sem]⟩ (fun w1 HV => ?_)
    obtain ⟨hb1, x1⟩ := HV
    have B1 := Lib.hid hb1
    have t1 : w.heap.size < w1.heap.size := World.block_lt_of_cell? w1 _ x1
    clear hb1
    go_cut [17] (fun s21 wx => ∃ bb : Bool, s21 = .bool bb ∧ Hid (Below w.heap.size w wx ∧ wx.cell? ⟨w.heap.size, 0, none⟩ = some (.slice A n c)) ∧ Hid (bb = false → ∀ o ∈ g, o.slots.length ≤ 2000))
    case first =>
      go_wp2_with (go_at_call 9; (with_reducible refine (SL.out w1 B1.out).mono ?_); rintro e w2 ⟨⟨z, rfl, hzs⟩, hb⟩; have B2 := Lib.hid (B1.out.trans (hb.mono B1.out.size)); have x2 := (hb.cell (p := ⟨w.heap.size, 0, none⟩) t1).trans x1; have ZS := Lib.hid hzs; clear hb hzs)
      go_meet
      exact ⟨decide (2000 < z), rfl, ⟨B2.out, x2⟩, fun h => ZS.out (by have := of_decide_eq_false h; omega)⟩
    case rest =>
      clear x1 t1 B1 SL
      obtain ⟨bb, rfl, HX, HS⟩ := hcut
      obtain ⟨hB3, x3⟩ := HX.out
      have B3 := Lib.hid hB3
      have t3 : w.heap.size < wc.heap.size := World.block_lt_of_cell? wc _ x3
      clear hB3 HX
      cases bb with
      | true =>
        clear HS
        go_wp2_with (go_at_call 10; (with_reducible refine (works_true _).mono ?_); rintro e w4 ⟨rfl, hb⟩; have B4 := Lib.hid (B3.out.trans (hb.mono B3.out.size)); clear hb)
        go_ret
        exact ⟨rfl, B4.out⟩
      | false =>
        have HS2 := Lib.hid (HS.out rfl)
        clear HS
        obtain ⟨bg, hbg⟩ : ∃ bg, bg = w.heap.size := ⟨_, rfl⟩
        have EBG := Lib.hid hbg
        rw [← hbg] at x3 t3 ⊢
        clear hbg
        have CX : Hid (∀ W, Below wc.heap.size wc W → W.cell? ⟨bg, 0, none⟩ = some (.slice A n c)) := fun W hW => (hW.cell (p := ⟨bg, 0, none⟩) t3).trans x3
        have GW : Hid (∀ W, Below wc.heap.size wc W → Below w.heap.size w W) := fun W hW => B3.out.trans (hW.mono B3.out.size)
        have hnn := HN.out
        cases hck : checkB g with
        | false =>
          have C1 : Hid (∀ W, Below wc.heap.size wc W → Calls Try.prog 16 #[gV A n c, .slice B L.length d] W (GivesTwo [] [] W)) := fun W hW => by
            have := Gone_no (c := c) (G.out.below (GW.out W hW)) (by omega) hck (v := .slice B L.length d)
            rwa [← hnn] at this
          have C2 : Hid (∀ W, Below wc.heap.size wc W → Calls Try.prog 17 #[gV A n c, .slice B L.length d] W fun e w' => e = .returned (.tuple #[.slice none 0 0, .slice none 0 0]) ∧ Below W.heap.size W w') := fun W hW => by
            have := RGone_no (c := c) (G.out.below (GW.out W hW)) (by omega) hck (.slice B L.length d)
            rwa [← hnn] at this
          have I0 : ∀ (A B : Option Addr) (a b : Nat) (W : World), Calls Try.prog 11 #[.slice A 0 a, .slice B 0 b] W fun e w' => e = .returned (.bool true) ∧ Below W.heap.size W w' := fun A B a b W => Ints_any A B a b [] W (by simp) (fun i x hx => by simp at hx) (fun i x hx => by simp at hx)
          have I1 := Lib.hid I0
          clear hnn HS2 BT WF G HN NG hck I0
          go_wp2_with (first
            | (go_at_call 16; (with_reducible refine (C1.out _ (Below.refl _ _)).mono ?_); rintro e w4 ⟨Aa, ca, Ab, cb, rfl, -, -, hb, -, -⟩; have B4 := Lib.hid hb; have x4 := CX.out w4 hb; clear hb)
            | (go_at_call 17; (with_reducible refine (C2.out _ B4.out).mono ?_); rintro e w5 ⟨rfl, hb⟩; have B5 := Lib.hid (B4.out.trans (hb.mono B4.out.size)); clear hb)
            | (go_at_call_of 11 Aa; (with_reducible refine (I1.out _ _ _ _ _).mono ?_); rintro e w6 ⟨rfl, hb⟩; have B6 := Lib.hid (B5.out.trans (hb.mono B5.out.size)); clear hb)
            | (go_at_call_of 11 Ab; (with_reducible refine (I1.out _ _ _ _ _).mono ?_); rintro e w7 ⟨rfl, hb⟩; have B7 := Lib.hid (B6.out.trans (hb.mono B6.out.size)); clear hb)
            | (go_at_call 10; (with_reducible refine (works_true _).mono ?_); rintro e w8 ⟨rfl, hb⟩; have B8 := Lib.hid (B7.out.trans (hb.mono B7.out.size)); clear hb))
          go_ret
          exact ⟨rfl, GW.out _ B8.out⟩
        | true =>
          have C1 : Hid (∀ W, Below wc.heap.size wc W → Calls Try.prog 16 #[gV A n c, .slice B L.length d] W (GivesTwo (goneL g L) (markS g (marksL g L)) W)) := fun W hW => by
            have := Gone_whole (c := c) (d := d) (G.out.below (GW.out W hW)) (by omega) (fun o ho => Nat.le_trans (HS2.out o ho) (by omega)) hck (by omega) (BT.out.below (GW.out W hW))
            rwa [← hnn] at this
          have C2 : Hid (∀ W, Below wc.heap.size wc W → Calls Try.prog 17 #[gV A n c, .slice B L.length d] W fun e w' => ∃ A1 c1 A2 c2, e = .returned (.tuple #[.slice A1 (goneL g L).length c1, .slice A2 (markS g (marksL g L)).length c2]) ∧ IntsAt w' A1 (goneL g L) ∧ IntsAt w' A2 (markS g (marksL g L)) ∧ Below W.heap.size W w') := fun W hW => by
            have := RGone_any (c := c) (d := d) (G.out.below (GW.out W hW)) (by omega) hck (by omega) (BT.out.below (GW.out W hW)) WF.out
            rwa [← hnn] at this
          have L1 : (goneL g L).length ≤ 900 := by
            have h1 : (goneL g L).length ≤ (whitesL g L).length := List.length_filter_le _ _
            have h2 := whites_len g L
            omega
          have L2 : (markS g (marksL g L)).length ≤ 900 := by
            have h1 : (markS g (marksL g L)).length = (marksL g L).length := by unfold markS; exact List.length_mergeSort _
            have h2 : (marksL g L).length ≤ (whitesL g L).length := List.length_filter_le _ _
            have h3 := whites_len g L
            omega
          clear hnn HS2 BT WF G HN NG hck
          generalize goneL g L = X1 at *
          generalize markS g (marksL g L) = X2 at *
          go_wp2_with (first
            | (go_at_call 16; (with_reducible refine (C1.out _ (Below.refl _ _)).mono ?_); rintro e w4 ⟨Aa, ca, Ab, cb, rfl, ia, ib, hb, -, -⟩; have B4 := Lib.hid hb; have x4 := CX.out w4 hb; have Ia := Lib.hid ia; have Ib := Lib.hid ib; clear hb ia ib)
            | (go_at_call 17; (with_reducible refine (C2.out _ B4.out).mono ?_); rintro e w5 ⟨Ac, cc, Ad, cd, rfl, ic, id, hb⟩; have B5 := Lib.hid (B4.out.trans (hb.mono B4.out.size)); have Ja := Lib.hid (Ia.out.below hb); have Jb := Lib.hid (Ib.out.below hb); have Jc := Lib.hid ic; have Jd := Lib.hid id; clear hb ic id)
            | (go_at_call_of 11 Aa; (with_reducible refine (Ints_any Aa Ac ca cc X1 _ (by omega) Ja.out Jc.out).mono ?_); rintro e w6 ⟨rfl, hb⟩; have B6 := Lib.hid (B5.out.trans (hb.mono B5.out.size)); have Kb := Lib.hid (Jb.out.below hb); have Kd := Lib.hid (Jd.out.below hb); clear hb)
            | (go_at_call_of 11 Ab; (with_reducible refine (Ints_any Ab Ad cb cd X2 _ (by omega) Kb.out Kd.out).mono ?_); rintro e w7 ⟨rfl, hb⟩; have B7 := Lib.hid (B6.out.trans (hb.mono B6.out.size)); clear hb)
            | (go_at_call 10; (with_reducible refine (works_true _).mono ?_); rintro e w8 ⟨rfl, hb⟩; have B8 := Lib.hid (B7.out.trans (hb.mono B7.out.size)); clear hb))
          go_ret
          exact ⟨rfl, GW.out _ B8.out⟩
theorem own : ownKnob Try.prog.godebug = none := by kernel_rfl
theorem laidOut : laidOutB Try.prog = true := by kernel_rfl
set_option maxRecDepth 100000 in
theorem contract (H : Type) (enc : TypeId × Value → H) (W : World) (base : Nat) (args : Array Value) (ds gs : List (DataW H)) (before : List MemPlace)
    (hval : ∀ (j : Nat) t v, Try.f4.params[j]? = some t → args[j]? = some v → Value.okWide Try.prog W .any base t v)
    (hW : DataW.Whole enc Try.prog Try.f4.params.toList Rows.trialGoesSpec.vars false W args.toList ds gs before)
    (hsz0 : (DataW.weightsEach Try.prog (Try.f4.params.toList ++ Rows.trialGoesSpec.plain.varTypes Try.prog) (ds ++ gs)).all (· ≤ reachBytes) = true) :
    Calls Try.prog 4 args W fun e W' => ∃ v, e = .returned v ∧ Rows.trialGoesSpec.post enc Try.prog Try.f4 false true false false W args v W' := by
  have hW' := hW
  obtain ⟨p, q, hA0, hV, rfl, hfz, hnd⟩ := hW
  have hA : DataW.TrodAll enc Try.prog W 0 (fun _ => true) true Try.f4.params.toList args.toList ds p := hA0
  have hsz := hsz0
  rw [Try.params4] at hA hval hsz
  obtain ⟨v0, vs0, d0, ds0, p0, q0, hargs, rfl, rfl, h0, r0⟩ := trodAll_cons hA
  obtain ⟨v1, vs1, d1, ds1, p1, q1, rfl, rfl, rfl, h1, r1⟩ := trodAll_cons r0
  obtain ⟨rfl, rfl, rfl⟩ := trodAll_nil r1
  obtain rfl : args = #[v0, v1] := by cases args; simp_all
  obtain ⟨rfl, rfl⟩ := trodVars_none hV
  obtain ⟨A0, c0, l0, rfl, w0, z0⟩ := open_graph_c (hval 0 24 v0 rfl rfl) h0 (size_of hsz (j := 0) rfl rfl)
  obtain ⟨A1, c1, l1, rfl, q1, w1, z1⟩ := open_ints_c (hval 1 25 v1 rfl rfl) h1 (size_of hsz (j := 1) rfl rfl)
  clear hA0 hsz hsz0
  simp only [List.append_nil] at hW'
  refine (walk A0 c0 l0 A1 c1 l1 z0 z1 q1 W w0 w1).mono fun e W' ⟨he, hb⟩ => ?_
  subst he
  exact ⟨_, rfl, law_post laidOut (by kernel_rfl) (by kernel_rfl) Try.underlying4 hW' hb rfl⟩

set_option maxRecDepth 100000 in
theorem lifted (os : Os) (started : os.Started) (H : Type) (enc : TypeId × Value → H) :
    ReturnsInHanded {} Try.checked os 4 .any (Rows.trialGoesSpec.pre6 enc Try.prog Try.f4 Rows.trialGoesRow.domain false) (Rows.trialGoesSpec.post enc Try.prog Try.f4 false true false false) := by
  refine returnsInHanded_of_change_sized (C := Try.checked) own started (by kernel_rfl) Try.func4
    (ChangeSpec.witness6 (enc := enc) (C := Try.checked) false ⟨#[], #[.agg #[.slice none 0 0], .slice none 0 0], []⟩ 8 (by kernel_rfl) (by kernel_rfl) (by kernel_rfl) (by kernel_rfl)) ?_
  intro W base args ds gs before hval hW _ hsz _
  exact contract H enc W base args ds gs before hval hW hsz
/-- The row. -/
theorem holds : Rows.TrialGoesSaid :=
  OpenClaim.holds_of_wide 4 Try.f4 rfl rfl rfl rfl rfl rfl rfl ⟨rfl, rfl, rfl, rfl, rfl⟩ rfl rfl rfl rfl rfl (by kernel_rfl) Try.func4 (by kernel_rfl)
    (of_decide_eq_true (by kernel_rfl)) (by unfold Func.isWrapper; first | (rw [if_pos (by decide +kernel)]; kernel_rfl) | (rw [if_neg (by decide +kernel)]; exact ⟨rfl, rfl⟩))
    (fun os started H enc _ => lifted os started H enc)
end Go.Proofs.Ytjlobjgemhapaaa.trialGoes
