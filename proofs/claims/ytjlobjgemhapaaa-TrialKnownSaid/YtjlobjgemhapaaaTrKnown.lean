/- TrialKnown: the chapter's examples; strings, and graphs that may not be. A closed statement: no input. -/
import Derived.Test.YtjlobjgemhapaaaTrKnownA
import Derived.Test.YtjlobjgemhapaaaOldV
import Derived.ProofKit
import Derived.BigQuiet
import Derived.Deep.LoopGhost
import Derived.Deep.DeepCutAuto
import Derived.Deep.RegionLaw
namespace Go.Proofs.Ytjlobjgemhapaaa.trialKnown
set_option maxRecDepth 20000
open Go.ChangeShapes Go.WideShapes Go.ChangeAt Go.RowKit Go.Maps Go.Sort

theorem below_hi {w a b : World} (h : Below w.heap.size w a) (k : Below a.heap.size a b) : Below w.heap.size w b := h.trans (k.mono h.size)
theorem al (w : World) (o : Obj) : Below w.heap.size w (w.alloc o) := (Below.refl _ _).alloc (Nat.le_refl _) _
set_option maxHeartbeats 16000000 in
theorem walk (w : World) : Calls Try.prog 7 #[] w fun e w' => e = .returned (.bool true) ∧ Below w.heap.size w w' := by
  go_enter Try.func7, Try.ntmps7
  go_upto_region 2 with fail
  refine at_world (fun V => Has w V (w.heap.size + 1 + 1) (some ⟨w.heap.size + 1, 0, none⟩) 2 2 strT) (str_has w) (fun V1 hH => ?_)
  generalize w.heap.size + 1 + 1 = bs at *
  generalize (some ⟨w.heap.size + 1, 0, none⟩ : Option Addr) = As at *
  have S1 := Lib.hid hH
  have xs1 := hH.cell
  clear hH
  go_upto_region 3 with (go_at_call 24; have HH := tab_at [2] (by decide) 1 1 rfl (ints_lit [2] V1 2) 1; (refine HH.mono ?_); clear HH; rintro e w2 ⟨A1, c1, rfl, hp1, hb1, -⟩; have P1 := Lib.hid hp1; have S2 := Lib.hid (S1.out.keep (below_box hb1)); clear hp1 hb1)
  refine at_world (fun V => Has w V (w2.heap.size + 1) (some ⟨w2.heap.size, 0, none⟩) 1 1 badT ∧ Has w V bs As 2 2 strT) ⟨bad_has S2.out.below P1.out, S2.out.keep (below_hi (al _ _) (al _ _))⟩ (fun V2 hH => ?_)
  generalize w2.heap.size + 1 = bb at *
  generalize (some ⟨w2.heap.size, 0, none⟩ : Option Addr) = Ab0 at *
  have S3 := Lib.hid hH.2
  have D3 := Lib.hid hH.1
  have xs2 := hH.2.cell
  have xb2 := hH.1.cell
  clear hH xs1 S1 S2 P1
  go_upto_region 4 with (go_at_call 16; have HH := Gone_no (c := 1) (v := .slice (some ⟨V2.heap.size, 0, none⟩) 1 1) ((D3.out.keep (al V2 (.cells (([1] : List Int).map (Value.int .i64)).toArray 3 (0, 0)))).graph) (by decide) bad_check; (refine HH.mono ?_); clear HH; rintro e w3 ⟨Aa, ca, Ab, cb, rfl, -, -, hb, -, -⟩; have S4 := Lib.hid (S3.out.keep (below_box hb)); have D4 := Lib.hid (D3.out.keep (below_box hb)); clear hb)
  clear xs2 xb2 S3 D3
  go_upto_region 5 with (first
    | (go_at_call 24; have HH := tab_at [] (by decide) 0 0 rfl (w := w5) (B := none) (fun i x hx => by simp at hx) 1; (refine HH.mono ?_); clear HH; rintro e w6 ⟨A3, c3, rfl, hp3, hb, -⟩; have P6c := Lib.hid hp3; have P6a := Lib.hid (pairs_below P5a.out hb); have P6b := Lib.hid (pairs_below P5b.out hb); have S7 := Lib.hid (S6.out.keep hb); have D7 := Lib.hid (D6.out.keep hb); clear hb hp3)
    | (go_at_call 24; have HH := tab_at [3] (by decide) 1 1 rfl (ints_lit [3] w4 2) 1; (refine HH.mono ?_); clear HH; rintro e w5 ⟨A2, c2, rfl, hp2, hb, -⟩; have P5b := Lib.hid hp2; have P5a := Lib.hid (pairs_below P4a.out (below_box hb)); have S6 := Lib.hid (S5.out.keep (below_box hb)); have D6 := Lib.hid (D5.out.keep (below_box hb)); clear hb hp2)
    | (go_at_call 24; have HH := tab_at [2] (by decide) 1 1 rfl (ints_lit [2] w3 2) 0; (refine HH.mono ?_); clear HH; rintro e w4 ⟨A1, c1, rfl, hp1, hb, -⟩; have P4a := Lib.hid hp1; have S5 := Lib.hid (S4.out.keep (below_box hb)); have D5 := Lib.hid (D4.out.keep (below_box hb)); clear hb hp1))
  refine at_world (fun V => Has w V (w6.heap.size + 1) (some ⟨w6.heap.size, 0, none⟩) 3 3 chainT ∧ Has w V bs As 2 2 strT ∧ Has w V bb Ab0 1 1 badT) ⟨chain_has S7.out.below P6a.out P6b.out P6c.out, S7.out.keep (below_hi (al _ _) (al _ _)), D7.out.keep (below_hi (al _ _) (al _ _))⟩ (fun V4 hH => ?_)
  generalize w6.heap.size + 1 = bc at *
  generalize (some ⟨w6.heap.size, 0, none⟩ : Option Addr) = Ac0 at *
  have C8 := Lib.hid hH.1
  have S8 := Lib.hid hH.2.1
  have D8 := Lib.hid hH.2.2
  clear hH S4 D4 S5 D5 S6 D6 S7 D7 P4a P5a P5b P6a P6b P6c
  go_upto_region 6 with (first
    | (go_at_call 24; have HH := tab_at [1] (by decide) 1 1 rfl (ints_lit [1] w7 2) 1; (refine HH.mono ?_); clear HH; rintro e w8 ⟨A2, c2, rfl, hp2, hb, -⟩; have P8b := Lib.hid hp2; have P8a := Lib.hid (pairs_below P7a.out (below_box hb)); have S10 := Lib.hid (S9.out.keep (below_box hb)); have D10 := Lib.hid (D9.out.keep (below_box hb)); have C10 := Lib.hid (C9.out.keep (below_box hb)); clear hb hp2)
    | (go_at_call 24; have HH := tab_at [1, 1] (by decide) 2 2 rfl (ints_lit [1, 1] V4 2) 2; (refine HH.mono ?_); clear HH; rintro e w7 ⟨A1, c1, rfl, hp1, hb, -⟩; have P7a := Lib.hid hp1; have S9 := Lib.hid (S8.out.keep (below_box hb)); have D9 := Lib.hid (D8.out.keep (below_box hb)); have C9 := Lib.hid (C8.out.keep (below_box hb)); clear hb hp1))
  refine at_world (fun V => Has w V (w8.heap.size + 1) (some ⟨w8.heap.size, 0, none⟩) 2 2 twiceT ∧ Has w V bs As 2 2 strT ∧ Has w V bb Ab0 1 1 badT ∧ Has w V bc Ac0 3 3 chainT) ⟨twice_has S10.out.below P8a.out P8b.out, S10.out.keep (below_hi (al _ _) (al _ _)), D10.out.keep (below_hi (al _ _) (al _ _)), C10.out.keep (below_hi (al _ _) (al _ _))⟩ (fun V5 hH => ?_)
  generalize w8.heap.size + 1 = bt at *
  generalize (some ⟨w8.heap.size, 0, none⟩ : Option Addr) = At0 at *
  have T5 := Lib.hid hH.1
  have S5 := Lib.hid hH.2.1
  have D5 := Lib.hid hH.2.2.1
  have C5 := Lib.hid hH.2.2.2
  clear hH S8 D8 C8 S9 D9 C9 S10 D10 C10 P7a P8a P8b
  have ALL : Hid (∀ W, Below V5.heap.size V5 W → Has w W bs As 2 2 strT ∧ Has w W bb Ab0 1 1 badT ∧ Has w W bc Ac0 3 3 chainT ∧ Has w W bt At0 2 2 twiceT) := fun W hW => ⟨S5.out.keep hW, D5.out.keep hW, C5.out.keep hW, T5.out.keep hW⟩
  clear T5 S5 D5 C5
  go_upto_region 7 with (go_at_call 25; (with_reducible refine (four_any V5).mono ?_); rintro e w1' ⟨b, rfl, hb0, ⟨w0, hl0, hl1, hh⟩, hb1⟩; have HB := Lib.hid hb1; have HL := Lib.hid hl1; have HH0 := Lib.hid hh; have hblt : b < w1'.heap.size := World.block_lt_of_cell? w1' ⟨b, 0 * 5, none⟩ (by obtain ⟨_, _, hc⟩ := hh; obtain ⟨sA, sc, hc, _⟩ := hc 0 _ rfl; exact hc.1); clear hl0 hl1 hh hb1)
  refine at_world (fun V => FourI V5 V w0 w1'.heap.size b fourT) ⟨by simp [go_sem], HH0.out.keep (Below.heap_alloc _ _ _ hblt), HL.out.alloc HL.out.size _, HB.out.alloc HB.out.size _, hb0, by simp; omega, by omega⟩ (fun V6 hF => ?_)
  obtain ⟨bg, hbg⟩ : ∃ x, x = w1'.heap.size := ⟨_, rfl⟩
  rw [← hbg] at hF ⊢
  have F6 := Lib.hid hF
  have x6 := hF.box
  clear hbg hF HB HL HH0 hblt
  have SX := Lib.hid (F6.out.objs.setMark (i := 0) rfl 2)
  have hzf : V6.frozen? ⟨b, 4, none⟩ = false := F6.out.objs.2.1 4
  obtain ⟨sAq, scq, ⟨p0, p1, p2, p3, p4⟩, hsq⟩ := F6.out.objs.2.2 0 _ rfl
  simp only [Nat.zero_mul, Nat.zero_add] at p4
  have hltf := F6.out.lt
  clear p0 p1 p2 p3 hsq
  go_upto_region 8 with fail
  have FX : Hid (FourI V5 (V6.setCell ⟨b, 4, none⟩ (iV 2)) w0 bg b fourA) := F6.out.setAt (h' := fourA) (by first | exact SX.out | (have := SX.out; simp only [Nat.zero_mul, Nat.zero_add] at this; exact this))
  refine at_world (fun V => FourI V5 V w0 bg b fourA) FX.out (fun V7 hF => ?_)
  have F7 := Lib.hid hF
  have x7 := hF.box
  clear hF FX SX p4 hzf hltf x6
  have SX := Lib.hid (F7.out.objs.setMark (i := 3) rfl 2)
  have hzf : V7.frozen? ⟨b, 19, none⟩ = false := F7.out.objs.2.1 19
  obtain ⟨sAq, scq, ⟨p0, p1, p2, p3, p4⟩, hsq⟩ := F7.out.objs.2.2 3 _ rfl
  simp only at p4
  have hltf := F7.out.lt
  clear p0 p1 p2 p3 hsq
  go_upto_region 9 with fail
  have FX : Hid (FourI V5 (V7.setCell ⟨b, 19, none⟩ (iV 2)) w0 bg b fourB) := F7.out.setAt (h' := fourB) (by first | exact SX.out | (have := SX.out; simp only [Nat.zero_mul, Nat.zero_add] at this; exact this))
  refine at_world (fun V => FourI V5 V w0 bg b fourB) FX.out (fun V8 hF => ?_)
  have F8 := Lib.hid hF
  have x8 := hF.box
  clear hF FX SX p4 hzf hltf x7
  have SX := Lib.hid (F8.out.objs.setMark (i := 2) rfl 7)
  have hzf : V8.frozen? ⟨b, 14, none⟩ = false := F8.out.objs.2.1 14
  obtain ⟨sAq, scq, ⟨p0, p1, p2, p3, p4⟩, hsq⟩ := F8.out.objs.2.2 2 _ rfl
  simp only at p4
  have hltf := F8.out.lt
  clear p0 p1 p2 p3 hsq
  go_upto_region 10 with fail
  have FX : Hid (FourI V5 (V8.setCell ⟨b, 14, none⟩ (iV 7)) w0 bg b fourK) := F8.out.setAt (h' := fourK) (by first | exact SX.out | (have := SX.out; simp only [Nat.zero_mul, Nat.zero_add] at this; exact this))
  refine at_world (fun V => FourI V5 V w0 bg b fourK) FX.out (fun V9 hF => ?_)
  have F9 := Lib.hid hF
  have x9 := hF.box
  clear hF FX SX p4 hzf hltf x8
  have CE : Hid (∀ W, Below V5.heap.size V5 W → W.cell? ⟨bs, 0, none⟩ = some (.slice As 2 2) ∧ W.cell? ⟨bb, 0, none⟩ = some (.slice Ab0 1 1) ∧ W.cell? ⟨bc, 0, none⟩ = some (.slice Ac0 3 3) ∧ W.cell? ⟨bt, 0, none⟩ = some (.slice At0 2 2)) := fun W hW => by
    obtain ⟨h1, h2, h3, h4⟩ := ALL.out W hW
    exact ⟨h1.cell, h2.cell, h3.cell, h4.cell⟩
  go_wp2_with (first
    | (go_at_call 23; have HH := lints_at (A := Am) (c := cm) (d := 3) [3, 1, 4] rfl rfl (by decide) (I23.out.below (al w23 (.cells (([3, 1, 4] : List Int).map (Value.int .i64)).toArray 3 (0, 0)))) (ints_lit [3, 1, 4] w23 3); (refine HH.mono ?_); clear HH; rintro e w24 ⟨rfl, hb⟩; have hb2 := below_box hb; have B24 : Hid (Below V5.heap.size V5 w24) := B23.out.trans (hb2.mono B23.out.size); obtain ⟨xs24, xb24, xc24, xt24⟩ := CE.out w24 B24.out; have I24 := Lib.hid (I23.out.below hb2); clear hb hb2)
    | (go_at_call 23; have HH := lints_at (A := A22) (c := c22) (d := 1) [1] rfl rfl (by decide) (R22.out.below (al w22 (.cells (([1] : List Int).map (Value.int .i64)).toArray 3 (0, 0)))) (ints_lit [1] w22 3); (refine HH.mono ?_); clear HH; rintro e w23 ⟨rfl, hb⟩; have hb2 := below_box hb; have B23 : Hid (Below V5.heap.size V5 w23) := B22.out.trans (hb2.mono B22.out.size); obtain ⟨xs23, xb23, xc23, xt23⟩ := CE.out w23 B23.out; have I23 := Lib.hid (I22.out.below hb2); clear hb hb2)
    | (go_at_call 14; have HH := white_g (h := twiceT) (c := 2) (l := [1]) (R := [1]) (N := 2) rfl (by decide) (by decide) twice_white (by intro x hx; simp at hx; unfold wf64; omega) (by decide) (n := 1) (d := 1) rfl ((ALL.out w21 B21.out).2.2.2.graph.below (al w21 (.cells (([1] : List Int).map (Value.int .i64)).toArray 3 (0, 0)))) (ints_lit [1] w21 3); (refine HH.mono ?_); clear HH; rintro e w22 ⟨A22, c22, rfl, hi, hb⟩; have R22 := Lib.hid hi; have hb2 := below_box hb; have B22 : Hid (Below V5.heap.size V5 w22) := B21.out.trans (hb2.mono B21.out.size); obtain ⟨xs22, xb22, xc22, xt22⟩ := CE.out w22 B22.out; have I22 := Lib.hid (I21.out.below hb2); clear hi hb hb2)
    | (go_at_call 23; have HH := lints_none A20 none c20 0 w20; (refine HH.mono ?_); clear HH; rintro e w21 ⟨rfl, hb⟩; have B21 : Hid (Below V5.heap.size V5 w21) := B20.out.trans (hb.mono B20.out.size); obtain ⟨xs21, xb21, xc21, xt21⟩ := CE.out w21 B21.out; have I21 := Lib.hid (I20.out.below hb); clear hb)
    | (go_at_call 14; have HH := white_g (h := chainT) (c := 3) (l := [2]) (R := []) (N := 3) rfl (by decide) (by decide) chain_white2 (by intro x hx; simp at hx; unfold wf64; omega) (by decide) (n := 1) (d := 1) rfl ((ALL.out w19 B19.out).2.2.1.graph.below (al w19 (.cells (([2] : List Int).map (Value.int .i64)).toArray 3 (0, 0)))) (ints_lit [2] w19 3); (refine HH.mono ?_); clear HH; rintro e w20 ⟨A20, c20, rfl, hi, hb⟩; have hb2 := below_box hb; have B20 : Hid (Below V5.heap.size V5 w20) := B19.out.trans (hb2.mono B19.out.size); obtain ⟨xs20, xb20, xc20, xt20⟩ := CE.out w20 B20.out; have I20 := Lib.hid (I19.out.below hb2); clear hi hb hb2)
    | (go_at_call 23; have HH := lints_at (A := A18) (c := c18) (d := 3) [1, 2, 3] rfl rfl (by decide) (R18.out.below (al w18 (.cells (([1, 2, 3] : List Int).map (Value.int .i64)).toArray 3 (0, 0)))) (ints_lit [1, 2, 3] w18 3); (refine HH.mono ?_); clear HH; rintro e w19 ⟨rfl, hb⟩; have hb2 := below_box hb; have B19 : Hid (Below V5.heap.size V5 w19) := B18.out.trans (hb2.mono B18.out.size); obtain ⟨xs19, xb19, xc19, xt19⟩ := CE.out w19 B19.out; have I19 := Lib.hid (I18.out.below hb2); clear hb hb2)
    | (go_at_call 14; have HH := white_g (h := chainT) (c := 3) (l := [1]) (R := [1, 2, 3]) (N := 3) rfl (by decide) (by decide) chain_white1 (by intro x hx; simp at hx; unfold wf64; omega) (by decide) (n := 1) (d := 1) rfl ((ALL.out w17 B17.out).2.2.1.graph.below (al w17 (.cells (([1] : List Int).map (Value.int .i64)).toArray 3 (0, 0)))) (ints_lit [1] w17 3); (refine HH.mono ?_); clear HH; rintro e w18 ⟨A18, c18, rfl, hi, hb⟩; have R18 := Lib.hid hi; have hb2 := below_box hb; have B18 : Hid (Below V5.heap.size V5 w18) := B17.out.trans (hb2.mono B17.out.size); obtain ⟨xs18, xb18, xc18, xt18⟩ := CE.out w18 B18.out; have I18 := Lib.hid (I17.out.below hb2); clear hi hb hb2)
    | (go_at_call 14; have HH := white_g (h := badT) (c := 1) (l := [1]) (R := []) (N := 1) rfl (by decide) (by decide) bad_white (by intro x hx; simp at hx; unfold wf64; omega) (by decide) (n := 1) (d := 1) rfl ((ALL.out w16 B16.out).2.1.graph.below (al w16 (.cells (([1] : List Int).map (Value.int .i64)).toArray 3 (0, 0)))) (ints_lit [1] w16 3); (refine HH.mono ?_); clear HH; rintro e w17 ⟨A17, c17, rfl, hi, hb⟩; have hb2 := below_box hb; have B17 : Hid (Below V5.heap.size V5 w17) := B16.out.trans (hb2.mono B16.out.size); obtain ⟨xs17, xb17, xc17, xt17⟩ := CE.out w17 B17.out; have I17 := Lib.hid (I16.out.below hb2); clear hi hb hb2)
    | (go_at_call 12; have HH := seen_g (h := badT) (c := 1) (l := [1]) (R := []) (N := 1) rfl (by decide) (by decide) bad_seen (by intro x hx; simp at hx; unfold wf64; omega) (by decide) (n := 1) (d := 1) rfl ((ALL.out w15 B15.out).2.1.graph.below (al w15 (.cells (([1] : List Int).map (Value.int .i64)).toArray 3 (0, 0)))) (ints_lit [1] w15 3); (refine HH.mono ?_); clear HH; rintro e w16 ⟨A16, c16, rfl, hi, hb⟩; have hb2 := below_box hb; have B16 : Hid (Below V5.heap.size V5 w16) := B15.out.trans (hb2.mono B15.out.size); obtain ⟨xs16, xb16, xc16, xt16⟩ := CE.out w16 B16.out; have I16 := Lib.hid (I15.out.below hb2); clear hi hb hb2)
    | (go_at_call 23; have HH := lints_at (A := A14) (c := c14) (d := 1) [2] rfl rfl (by decide) (R14.out.below (al w14 (.cells (([2] : List Int).map (Value.int .i64)).toArray 3 (0, 0)))) (ints_lit [2] w14 3); (refine HH.mono ?_); clear HH; rintro e w15 ⟨rfl, hb⟩; have hb2 := below_box hb; have B15 : Hid (Below V5.heap.size V5 w15) := B14.out.trans (hb2.mono B14.out.size); obtain ⟨xs15, xb15, xc15, xt15⟩ := CE.out w15 B15.out; have I15 := Lib.hid (I14.out.below hb2); clear hb hb2)
    | (go_at_call 14; have HH := white_g (h := strT) (c := 2) (l := [2]) (R := [2]) (N := 2) rfl (by decide) (by decide) str_white (by intro x hx; simp at hx; unfold wf64; omega) (by decide) (n := 1) (d := 1) rfl ((ALL.out w13 B13.out).1.graph.below (al w13 (.cells (([2] : List Int).map (Value.int .i64)).toArray 3 (0, 0)))) (ints_lit [2] w13 3); (refine HH.mono ?_); clear HH; rintro e w14 ⟨A14, c14, rfl, hi, hb⟩; have R14 := Lib.hid hi; have hb2 := below_box hb; have B14 : Hid (Below V5.heap.size V5 w14) := B13.out.trans (hb2.mono B13.out.size); obtain ⟨xs14, xb14, xc14, xt14⟩ := CE.out w14 B14.out; have I14 := Lib.hid (I13.out.below hb2); clear hi hb hb2)
    | (go_at_call 23; have HH := lints_at (A := A12) (c := c12) (d := 1) [2] rfl rfl (by decide) (R12.out.below (al w12 (.cells (([2] : List Int).map (Value.int .i64)).toArray 3 (0, 0)))) (ints_lit [2] w12 3); (refine HH.mono ?_); clear HH; rintro e w13 ⟨rfl, hb⟩; have hb2 := below_box hb; have B13 : Hid (Below V5.heap.size V5 w13) := B12.out.trans (hb2.mono B12.out.size); obtain ⟨xs13, xb13, xc13, xt13⟩ := CE.out w13 B13.out; have I13 := Lib.hid (I12.out.below hb2); clear hb hb2)
    | (go_at_call 12; have HH := seen_g (h := strT) (c := 2) (l := [1, 2]) (R := [2]) (N := 2) rfl (by decide) (by decide) str_seen (by intro x hx; simp at hx; unfold wf64; omega) (by decide) (n := 2) (d := 2) rfl ((ALL.out w11 B11.out).1.graph.below (al w11 (.cells (([1, 2] : List Int).map (Value.int .i64)).toArray 3 (0, 0)))) (ints_lit [1, 2] w11 3); (refine HH.mono ?_); clear HH; rintro e w12 ⟨A12, c12, rfl, hi, hb⟩; have R12 := Lib.hid hi; have hb2 := below_box hb; have B12 : Hid (Below V5.heap.size V5 w12) := B11.out.trans (hb2.mono B11.out.size); obtain ⟨xs12, xb12, xc12, xt12⟩ := CE.out w12 B12.out; have I12 := Lib.hid (I11.out.below hb2); clear hi hb hb2)
    | (go_at_call 10; have HH := works_true w10; (refine HH.mono ?_); clear HH; rintro e w11 ⟨rfl, hb⟩; have B11 : Hid (Below V5.heap.size V5 w11) := B10.out.trans (hb.mono B10.out.size); obtain ⟨xs11, xb11, xc11, xt11⟩ := CE.out w11 B11.out; have I11 := Lib.hid (I10.out.below hb); clear hb)
    | (go_at_call 16; have HH := gone_k (b := b) (d := 7) ((F9.out.keep (al V9 (.cells (listK.map (Value.int .i64)).toArray 3 (0, 0)))).graph) (ints_lit listK V9 3); (refine HH.mono ?_); clear HH; rintro e w10 ⟨Ag, cg, Am, cm, rfl, -, hib, hb, -, -⟩; have I10 := Lib.hid hib; have B10 : Hid (Below V5.heap.size V5 w10) := F9.out.below.trans ((below_box hb).mono F9.out.below.size); obtain ⟨xs10, xb10, xc10, xt10⟩ := CE.out w10 B10.out; clear hib hb))
  go_ret
  exact ⟨rfl, ((ALL.out w24 B24.out).1).below⟩
theorem own : ownKnob Try.prog.godebug = none := by kernel_rfl
theorem laidOut : laidOutB Try.prog = true := by kernel_rfl
set_option maxRecDepth 100000 in
theorem contract (H : Type) (enc : TypeId × Value → H) (W : World) (base : Nat) (args : Array Value) (ds gs : List (DataW H)) (before : List MemPlace)
    (hval : ∀ (j : Nat) t v, Try.f7.params[j]? = some t → args[j]? = some v → Value.okWide Try.prog W .any base t v)
    (hW : DataW.Whole enc Try.prog Try.f7.params.toList Rows.trialKnownSpec.vars false W args.toList ds gs before)
    (hsz0 : (DataW.weightsEach Try.prog (Try.f7.params.toList ++ Rows.trialKnownSpec.plain.varTypes Try.prog) (ds ++ gs)).all (· ≤ reachBytes) = true) :
    Calls Try.prog 7 args W fun e W' => ∃ v, e = .returned v ∧ Rows.trialKnownSpec.post enc Try.prog Try.f7 false true false false W args v W' := by
  have hW' := hW
  obtain ⟨p, q, hA0, hV, rfl, hfz, hnd⟩ := hW
  have hA : DataW.TrodAll enc Try.prog W 0 (fun _ => true) true Try.f7.params.toList args.toList ds p := hA0
  have hsz := hsz0
  rw [Try.params7] at hA hval hsz
  obtain ⟨hargs, rfl, rfl⟩ := trodAll_nil hA
  obtain rfl : args = #[] := by cases args; simp_all
  obtain ⟨rfl, rfl⟩ := trodVars_none hV
  clear hA0 hsz hsz0
  simp only [List.append_nil] at hW'
  refine (walk W).mono fun e W' ⟨he, hb⟩ => ?_
  subst he
  exact ⟨_, rfl, law_post laidOut (by kernel_rfl) (by kernel_rfl) Try.underlying4 hW' hb rfl⟩

set_option maxRecDepth 100000 in
theorem lifted (os : Os) (started : os.Started) (H : Type) (enc : TypeId × Value → H) :
    ReturnsInHanded {} Try.checked os 7 .any (Rows.trialKnownSpec.pre6 enc Try.prog Try.f7 Rows.trialKnownRow.domain false) (Rows.trialKnownSpec.post enc Try.prog Try.f7 false true false false) := by
  refine returnsInHanded_of_change_sized (C := Try.checked) own started (by kernel_rfl) Try.func7
    (ChangeSpec.witness6 (enc := enc) (C := Try.checked) false ⟨#[], #[], []⟩ 8 (by kernel_rfl) (by kernel_rfl) (by kernel_rfl) (by kernel_rfl)) ?_
  intro W base args ds gs before hval hW _ hsz _
  exact contract H enc W base args ds gs before hval hW hsz
/-- The row. -/
theorem holds : Rows.TrialKnownSaid :=
  OpenClaim.holds_of_wide 7 Try.f7 rfl rfl rfl rfl rfl rfl rfl ⟨rfl, rfl, rfl, rfl, rfl⟩ rfl rfl rfl rfl rfl (by kernel_rfl) Try.func7 (by kernel_rfl)
    (of_decide_eq_true (by kernel_rfl)) (by unfold Func.isWrapper; first | (rw [if_pos (by decide +kernel)]; kernel_rfl) | (rw [if_neg (by decide +kernel)]; exact ⟨rfl, rfl⟩))
    (fun os started H enc _ => lifted os started H enc)
end Go.Proofs.Ytjlobjgemhapaaa.trialKnown
