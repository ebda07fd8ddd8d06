/- GraphKnown: the chapter's examples, and graphs that may not be. A closed statement: no input. -/
import Derived.Test.YtkkdgacdajojiaaGrKnownA
import Derived.Test.YtkkdgacdajojiaaLawPost
import Derived.ProofKit
import Derived.BigQuiet
import Derived.Deep.LoopGhost
import Derived.Deep.DeepCutAuto
import Derived.Deep.RegionLaw
namespace Go.Proofs.Ytkkdgacdajojiaa.graphKnown
set_option maxRecDepth 20000
open Go.ChangeShapes Go.WideShapes Go.ChangeAt Go.RowKit Go.Maps Go.Sort

theorem below_hi {w a b : World} (h : Below w.heap.size w a) (k : Below a.heap.size a b) : Below w.heap.size w b := h.trans (k.mono h.size)
theorem al (w : World) (o : Obj) : Below w.heap.size w (w.alloc o) := (Below.refl _ _).alloc (Nat.le_refl _) _
set_option maxHeartbeats 16000000 in
theorem walk (w : World) : Calls Try.prog 12 #[] w fun e w' => e = .returned (.bool true) ∧ Below w.heap.size w w' := by
  go_enter Try.func12, Try.ntmps12
  go_upto_region 1 with fail
  go_cut [1] (fun s1 wx => ∃ b : Nat, s1 = .slice (some ⟨b, 0, none⟩) 15 15 ∧ Hid (GAt wx (some ⟨b, 0, none⟩) badL) ∧ Hid (Below w.heap.size w wx))
  case first =>
    have P0 := Lib.hid (Below.refl w.heap.size w)
    go_wp2_with (first
      | (go_at_call 44; refine (of_any 3 1 (w1.alloc _)).mono ?_; rintro e w2 ⟨rfl, hb⟩; have h2 := Lib.hid hb; clear hb)
      | (go_at_call 44; (with_reducible refine (of_any 3 1 _).mono ?_); rintro e w1 ⟨rfl, hb⟩; have h1 := Lib.hid hb; clear hb)
      | (go_at_call 44; (with_reducible refine (of_any 6 2 _).mono ?_); rintro e w3 ⟨rfl, hb⟩; have h3 := Lib.hid hb; clear hb)
      | (go_at_call 44; (with_reducible refine (of_any 7 1 _).mono ?_); rintro e w4 ⟨rfl, hb⟩; have h4 := Lib.hid hb; clear hb)
      | (go_at_call 44; (with_reducible refine (of_any 2 2 _).mono ?_); rintro e w5 ⟨rfl, hb⟩; have h5 := Lib.hid hb; clear hb)
      | (go_at_call 44; (with_reducible refine (of_any 6 0 _).mono ?_); rintro e w6 ⟨rfl, hb⟩; have h6 := Lib.hid hb; clear hb))
    go_meet
    have c6 := fun (FF : World) (e6 : Below (w6.alloc (.cells #[iV 6, iV 0] 24 (0, 0))).heap.size (w6.alloc (.cells #[iV 6, iV 0] 24 (0, 0))) FF) => e6
    have c5 := fun FF e6 => below_hi (below_hi h6.out (al w6 _)) (c6 FF e6)
    have c4 := fun FF e6 => below_hi (below_hi h5.out (al w5 _)) (c5 FF e6)
    have c3 := fun FF e6 => below_hi (below_hi h4.out (al w4 _)) (c4 FF e6)
    have c2 := fun FF e6 => below_hi (below_hi h3.out (al w3 _)) (c3 FF e6)
    have c1 := fun FF e6 => below_hi (al (w2.alloc _) _) (c2 FF e6)
    have c0 := fun FF e6 => below_hi (below_hi h2.out (al w2 _)) (c1 FF e6)
    have cw := fun FF e6 => below_hi (below_hi h1.out (al w1 _)) (c0 FF e6)
    refine ⟨w6.heap.size + 1, rfl, bad_graph (s1 := w1.heap.size) (s2 := w2.heap.size) (s3 := w2.heap.size + 1) (s4 := w3.heap.size) (s5 := w4.heap.size) (s6 := w5.heap.size) (s7 := w6.heap.size) ?_ ?_ ?_ ?_ ?_ ?_ ?_ ?_, cw _ (al _ _)⟩
    · have := (Go.MapKept.heap_alloc (w6.alloc (.cells #[iV 6, iV 0] 24 (0, 0))) (.cells #[iV 4, iV 0, .slice none 0 0, .string ⟨#[]⟩, iV 0, iV 10, iV 0, .slice none 0 0, .string ⟨#[]⟩, iV 0, iV 0, iV 1, .slice none 0 0, .string ⟨#[]⟩, iV 0, iV 0, iV 0, .slice none 0 0, .string ⟨#[120]⟩, iV 0, iV 0, iV 0, .slice none 0 0, .string ⟨#[]⟩, iV 1, iV 0, iV 0, .slice (some ⟨w1.heap.size, 0, none⟩) 1 1, .string ⟨#[]⟩, iV 0, iV 6, iV (-1), .slice none 0 0, .string ⟨#[]⟩, iV 0, iV 6, iV 0, .slice none 0 0, .string ⟨#[]⟩, iV (-2), iV 6, iV 0, .slice none 0 0, .string ⟨#[120]⟩, iV 0, iV 5, iV 0, .slice (some ⟨w2.heap.size, 0, none⟩) 1 1, .string ⟨#[]⟩, iV 0, iV 6, iV 0, .slice (some ⟨w2.heap.size + 1, 0, none⟩) 1 1, .string ⟨#[]⟩, iV 0, iV 6, iV 0, .slice (some ⟨w3.heap.size, 0, none⟩) 1 1, .string ⟨#[]⟩, iV 0, iV 6, iV 0, .slice (some ⟨w4.heap.size, 0, none⟩) 1 1, .string ⟨#[]⟩, iV 0, iV 6, iV 0, .slice (some ⟨w5.heap.size, 0, none⟩) 1 1, .string ⟨#[]⟩, iV 0, iV 6, iV 0, .slice (some ⟨w6.heap.size, 0, none⟩) 1 1, .string ⟨#[]⟩, iV 0] 56 (0, 0))).1
      rw [World.size_alloc] at this
      exact this
    · exact pairs_below (pairs_alloc [(3, 1)] w1 24) (c0 _ (al _ _))
    · exact pairs_below (pairs_alloc [(3, 1)] w2 24) (c1 _ (al _ _))
    · have := pairs_alloc [(0, 0)] (w2.alloc (.cells #[iV 3, iV 1] 24 (0, 0))) 24
      rw [World.size_alloc] at this
      exact pairs_below this (c2 _ (al _ _))
    · exact pairs_below (pairs_alloc [(6, 2)] w3 24) (c3 _ (al _ _))
    · exact pairs_below (pairs_alloc [(7, 1)] w4 24) (c4 _ (al _ _))
    · exact pairs_below (pairs_alloc [(2, 2)] w5 24) (c5 _ (al _ _))
    · exact pairs_below (pairs_alloc [(6, 0)] w6 24) (c6 _ (al _ _))
  case rest =>
    obtain ⟨bd, rfl, GB, BC⟩ := hcut
    go_wp2_with fail
    go_loopg [2] 15 (fun gg s2 wr => ∃ q : Nat, q ≤ 15 ∧ 15 - q ≤ gg ∧ s2 = .int .i64 q ∧ Hid (Below wc.heap.size wc wr))
    case atStart => exact ⟨0, Nat.zero_le _, by omega, rfl, Below.refl _ _⟩
    case round =>
      obtain ⟨q, hq, hgg, rfl, BW⟩ := hrel
      by_cases hlt : q < 15
      · obtain ⟨o, ho⟩ : ∃ o, badL[q]? = some o := ⟨_, List.getElem?_eq_getElem (show q < badL.length from hlt)⟩
        obtain ⟨a, sA, sc, e, hal, ⟨o0, o1, o2, o3, o4⟩, hs⟩ := (GB.out.below BW.out) q o ho
        injection e with e
        subst e
        have ea : (⟨bd, 0, none⟩ : Addr).add (q * 5) = ⟨bd, q * 5, none⟩ := by unfold Addr.add; split <;> simp_all
        simp only [ea] at o0 o1 o2 o3 o4
        have HB1 := bad_one ho
        have G1 := Lib.hid (graph_one (sc := sc) hs)
        have CC : Hid (∀ (O : Obj) W, O = .cells #[iV o.kind, iV o.count, .slice sA o.slots.length sc, .string o.text, iV o.mark] 56 (0, 0) → Below (wr.alloc O).heap.size (wr.alloc O) W → Calls Try.prog 31 #[gV (some ⟨wr.heap.size, 0, none⟩) 1 1] W fun e w' => e = .returned (.bool false) ∧ Below W.heap.size W w') := fun O W hO hW => by
          subst hO
          have := Check_any (c := 1) (G1.out.below hW) (by simp)
          rwa [HB1] at this
        have CN : Hid (∀ (O : Obj) W, O = .cells #[iV o.kind, iV o.count, .slice sA o.slots.length sc, .string o.text, iV o.mark] 56 (0, 0) → Below (wr.alloc O).heap.size (wr.alloc O) W → Calls Try.prog 36 #[gV (some ⟨wr.heap.size, 0, none⟩) 1 1] W (GivesI [] W)) := fun O W hO hW => by
          subst hO
          have := Into_any (c := 1) (G1.out.below hW) (by simp)
          rwa [show intoL [o] = [] by simp [intoL, HB1]] at this
        have CH : Hid (∀ (O : Obj) W, O = .cells #[iV o.kind, iV o.count, .slice sA o.slots.length sc, .string o.text, iV o.mark] 56 (0, 0) → Below (wr.alloc O).heap.size (wr.alloc O) W → Calls Try.prog 40 #[gV (some ⟨wr.heap.size, 0, none⟩) 1 1, iV 1] W (GivesI [] W)) := fun O W hO hW => by
          subst hO
          have := Holders_any (c := 1) (G1.out.below hW) (by simp) 1
          rwa [show holdersL [o] 1 = [] by simp [holdersL, HB1]] at this
        have hl2 : (⟨bd, 0, none⟩ : Addr).block < wr.heap.size := hal
        clear ho hs HB1
        go_wp2_with (first
          | (go_at_call 31; refine (CC.out _ _ rfl (al _ _)).mono ?_; rintro e w1 ⟨rfl, hb⟩; have B1 := Lib.hid (below_hi (al _ _) hb); have x1 : w1.cell? ⟨wr.heap.size + 1, 0, none⟩ = some (.slice (some ⟨wr.heap.size, 0, none⟩) 1 1) := (by have := boxed hb (j := 0) rfl; simpa using this); have z1 : wr.heap.size + 1 < w1.heap.size := (by have := hb.size; simp at this; omega); clear hb)
          | (go_at_call 36; refine (CN.out _ _ rfl B1.out).mono ?_; rintro e w2 ⟨A1, c1, rfl, -, hb⟩; have B2 := Lib.hid (below_hi B1.out hb); have x2 := (hb.cell (p := ⟨wr.heap.size + 1, 0, none⟩) z1).trans x1; have z2 := Nat.lt_of_lt_of_le z1 hb.size; clear hb)
          | (go_at_call 40; refine (CH.out _ _ rfl B2.out).mono ?_; rintro e w3 ⟨A2, c2, rfl, -, hb⟩; have B3 := Lib.hid (below_hi B2.out hb); clear hb))
        go_roundg (15 - (q + 1))
        case measure => omega
        case rel => exact ⟨q + 1, by omega, by omega, by go_num, below_hi BW.out (below_hi (al _ _) B3.out)⟩
      · clear hgg hq
        go_upto_region 9 with (go_at_call 45; (with_reducible refine (four_more _).mono ?_); rintro e w4 ⟨⟨b, s, t, rfl, h1, h2, h3, h3t, h4, h5, h6⟩, hb⟩; have F4 : Hid (FourAt w4 b s t 3 7) := (show FourAt _ _ _ _ _ _ from ⟨h1, h4, h5, h6⟩); have HT := Lib.hid h3t; have B4 := Lib.hid hb; clear h1 h2 h3 h3t h4 h5 h6 hb)
        refine at_world (S := fun W => Below w4.heap.size w4 W ∧ W.cell? ⟨w4.heap.size, 0, none⟩ = some (.slice (some ⟨b, 0, none⟩) 4 4) ∧ w4.heap.size < W.heap.size) ⟨al _ _, by simp [go_sem], by simp⟩ (fun V HV => ?_)
        obtain ⟨hV, c0, zV⟩ := HV
        have BV : Hid (Below w.heap.size w V) := below_hi (below_hi BC.out BW.out) (below_hi B4.out hV)
        have FV := Lib.hid (F4.out.below hV)
        have HTW : Hid (w.heap.size ≤ t) := Nat.le_trans (below_hi BC.out BW.out).size HT.out
        obtain ⟨bx, hbx⟩ : ∃ bx, bx = w4.heap.size := ⟨_, rfl⟩
        rw [← hbx] at c0 zV ⊢
        clear hbx hV
        have hne : t ≠ b ∧ t ≠ s := ⟨by
          rintro rfl
          have h1 := FV.out.objs
          rw [FV.out.last] at h1
          injection h1 with h1; injection h1 with _ h1; exact absurd h1 (by decide), fun e => FV.out.ne.2 e.symm⟩
        have FACT : Hid (∀ W, Below V.heap.size V W → (W.cell? ⟨bx, 0, none⟩ = some (.slice (some ⟨b, 0, none⟩) 4 4) ∧ W.cell? ⟨b, 17, none⟩ = some (.slice (some ⟨t, 0, none⟩) 1 1) ∧ W.cell? ⟨t, 0, none⟩ = some (iV 5) ∧ W.cell? ⟨t, 1, none⟩ = some (iV 1) ∧ W.frozen? ⟨t, 0, none⟩ = false ∧ W.frozen? ⟨t, 1, none⟩ = false)) := fun W hW => by
          have h1 := (FV.out.below hW).objs
          have h2 := (FV.out.below hW).last
          exact ⟨(hW.cell (p := ⟨bx, 0, none⟩) zV).trans c0, by simp [World.cell?, h1], by simp [World.cell?, h2], by simp [World.cell?, h2], by simp [World.frozen?, h2], by simp [World.frozen?, h2]⟩
        have AFT : Hid (∀ W, Below V.heap.size V W → GAt ((W.setCell ⟨t, 0, none⟩ (iV 9)).setCell ⟨t, 1, none⟩ (iV 3)) (some ⟨b, 0, none⟩) fourK ∧ Below w.heap.size w ((W.setCell ⟨t, 0, none⟩ (iV 9)).setCell ⟨t, 1, none⟩ (iV 3)) ∧ ((W.setCell ⟨t, 0, none⟩ (iV 9)).setCell ⟨t, 1, none⟩ (iV 3)).cell? ⟨bx, 0, none⟩ = some (.slice (some ⟨b, 0, none⟩) 4 4)) := fun W hW => by
          have h0 := (FACT.out W hW).1
          have hbs : bx ≠ t := by
            rintro rfl
            have h2 := (FV.out.below hW).last
            simp [World.cell?, h2] at h0
          exact ⟨(FV.out.below hW).last_set hne.1 hne.2, ((below_hi BV.out hW).setCell HTW.out _).setCell HTW.out _, by rw [World.cell?_setCell_far _ _ _ _ (Ne.symm hbs), World.cell?_setCell_far _ _ _ _ (Ne.symm hbs)]; exact h0⟩
        have BB := Lib.hid ((Below.refl V.heap.size V).drew)
        go_cut [4] (fun s4 wx => s4 = bV bx ∧ Hid (GAt wx (some ⟨b, 0, none⟩) fourK ∧ Below w.heap.size w wx ∧ wx.cell? ⟨bx, 0, none⟩ = some (.slice (some ⟨b, 0, none⟩) 4 4)))
        case first =>
          obtain ⟨q0, q1, q2, q3, q4, q5⟩ := FACT.out _ BB.out
          go_region_law (go_simp; go_at_call 44; (with_reducible refine (of_any 9 3 _).mono ?_); rintro e w5 ⟨rfl, hb⟩; replace BB := Lib.hid (below_hi BB.out hb); obtain ⟨q0, q1, q2, q3, q4, q5⟩ := FACT.out _ BB.out; clear hb)
          all_goals
            go_wp2_with fail
            go_meet
            exact ⟨rfl, AFT.out _ BB.out⟩
        case rest =>
          obtain ⟨rfl, HC⟩ := hcut
          go_upto_region 10 with fail
          go_cut [4, 5] (fun s4 s5 wx => s4 = bV bx ∧ ∃ bh bc : Nat, s5 = bV bh ∧ Hid (GAt wx (some ⟨b, 0, none⟩) fourK ∧ GAt wx (some ⟨bc, 0, none⟩) coL ∧ Below w.heap.size w wx) ∧ Hid (wx.cell? ⟨bx, 0, none⟩ = some (.slice (some ⟨b, 0, none⟩) 4 4) ∧ wx.cell? ⟨bh, 0, none⟩ = some (.slice (some ⟨bc, 0, none⟩) 1 1)))
          case first =>
            obtain ⟨GK, BK, XK⟩ := HC.out
            clear HC
            have GK := Lib.hid GK
            have BK := Lib.hid BK
            have XK := Lib.hid XK
            have zK : bx < wc.heap.size := World.block_lt_of_cell? wc _ XK.out
            go_wp2_with (first
              | (go_at_call 44; (with_reducible refine (of_any 8 1 w8).mono ?_); rintro e w9 ⟨rfl, hb⟩; have h9 := Lib.hid hb; clear hb)
              | (go_at_call 44; (with_reducible refine (of_any 8 1 _).mono ?_); rintro e w8 ⟨rfl, hb⟩; have h8 := Lib.hid hb; clear hb)
              | (go_at_call 44; (with_reducible refine (of_any 1 0 _).mono ?_); rintro e w10 ⟨rfl, hb⟩; have h10 := Lib.hid hb; clear hb))
            go_meet
            have D : Below wc.heap.size wc w10 := below_hi (below_hi h8.out h9.out) h10.out
            have D3 := fun o1 o2 o3 => below_hi (below_hi (below_hi D (al w10 o1)) (al _ o2)) (al _ o3)
            have G := graph_one (o := ⟨8, 0, [(8, 1), (8, 1), (1, 0)], ⟨#[]⟩, -1⟩) (sc := 3) (sA := some ⟨w10.heap.size, 0, none⟩) ⟨pairs_alloc [(8, 1), (8, 1), (1, 0)] w10 24, by decide⟩
            rw [World.size_alloc] at G
            exact ⟨rfl, w10.heap.size + 1 + 1, w10.heap.size + 1, rfl, ⟨GK.out.below (D3 _ _ _), G.below (al _ _), below_hi BK.out (D3 _ _ _)⟩, ⟨((D3 _ _ _).cell (p := ⟨bx, 0, none⟩) zK).trans XK.out, by simp [go_sem]⟩⟩
          case rest =>
            obtain ⟨rfl, bh, bc, rfl, HG, HX⟩ := hcut
            have BB := Lib.hid (Below.refl wc.heap.size wc)
            have GK := Lib.hid HG.out.1
            have GC := Lib.hid HG.out.2.1
            have BF := Lib.hid HG.out.2.2
            obtain ⟨z4, z5⟩ := HX.out
            have XC : Hid (∀ W, Below wc.heap.size wc W → W.cell? ⟨bx, 0, none⟩ = some (.slice (some ⟨b, 0, none⟩) 4 4) ∧ W.cell? ⟨bh, 0, none⟩ = some (.slice (some ⟨bc, 0, none⟩) 1 1)) := fun W hW => ⟨(hW.cell (p := ⟨bx, 0, none⟩) (World.block_lt_of_cell? wc _ HX.out.1)).trans HX.out.1, (hW.cell (p := ⟨bh, 0, none⟩) (World.block_lt_of_cell? wc _ HX.out.2)).trans HX.out.2⟩
            have CK : Hid (∀ W, Below wc.heap.size wc W → Calls Try.prog 31 #[gV (some ⟨b, 0, none⟩) 4 4] W fun e w' => e = .returned (.bool false) ∧ Below W.heap.size W w') := fun W hW => by
              have := Check_any (c := 4) (GK.out.below hW) (by decide)
              rw [four_worse] at this
              exact this
            have CO : Hid (∀ W, Below wc.heap.size wc W → Calls Try.prog 31 #[gV (some ⟨bc, 0, none⟩) 1 1] W fun e w' => e = .returned (.bool true) ∧ Below W.heap.size W w') := fun W hW => by
              have := Check_any (c := 1) (GC.out.below hW) (by decide)
              rw [co_check] at this
              exact this
            have CZ : Hid (∀ W, Calls Try.prog 31 #[gV none 0 0] W fun e w' => e = .returned (.bool true) ∧ Below W.heap.size W w') := fun W => by
              have := Check_any (w := W) (A := none) (c := 0) (g := []) (fun i o ho => by simp at ho) (by decide)
              rw [show checkB [] = true from by kernel_rfl] at this
              exact this
            have CI : Hid (∀ W, Below wc.heap.size wc W → Calls Try.prog 36 #[gV (some ⟨bc, 0, none⟩) 1 1] W (GivesI [2] W)) := fun W hW => by
              have := Into_any (c := 1) (GC.out.below hW) (by decide)
              rw [co_into] at this
              exact this
            have CIZ : Hid (∀ W, Calls Try.prog 36 #[gV none 0 0] W (GivesI [] W)) := fun W => by
              have := Into_any (w := W) (A := none) (c := 0) (g := []) (fun i o ho => by simp at ho) (by decide)
              rw [show intoL [] = [] from by kernel_rfl] at this
              exact this
            have CE : Hid (∀ W, Below wc.heap.size wc W → Calls Try.prog 38 #[gV (some ⟨bc, 0, none⟩) 1 1, .slice none 0 0] W (GivesI [1] W)) := fun W hW => by
              have := Exact_any (c := 1) (GC.out.below hW) (by decide) (B := none) (d := 0) (more := []) (fun i o ho => by simp at ho) (by decide)
              rw [co_exact] at this
              exact this
            have CH : Hid (∀ W, Below wc.heap.size wc W → Calls Try.prog 40 #[gV (some ⟨bc, 0, none⟩) 1 1, iV 1] W (GivesI [1] W)) := fun W hW => by
              have := Holders_any (c := 1) (GC.out.below hW) (by decide) 1
              rw [co_hold] at this
              exact this
            have HF : ∀ m, holdersL fourL m = [] → Hid (∀ W (b : Nat) {s t : Nat}, FourAt W b s t 3 7 → Calls Try.prog 40 #[gV (some ⟨b, 0, none⟩) 4 4, iV m] W (GivesI [] W)) := fun m hm W b s t hF => by
              have := Holders_any (c := 4) (g := fourL) hF.graph (by decide) m
              rw [hm] at this
              exact this
            have H4p := HF 3 four_hold3
            have H4q := HF (-1) four_holdm
            have H4r := HF 99 four_hold99
            clear HF HG HX GK GC
            go_wp2_with (first
              | (go_at_call 33; (with_reducible refine (works_true _).mono ?_); rintro e x0 ⟨rfl, hb⟩; replace BB := Lib.hid (below_hi BB.out hb); obtain ⟨z4, z5⟩ := XC.out _ BB.out; clear hb)
              | (go_at_call 31; (with_reducible refine (CK.out _ BB.out).mono ?_); rintro e x1 ⟨rfl, hb⟩; replace BB := Lib.hid (below_hi BB.out hb); obtain ⟨z4, z5⟩ := XC.out _ BB.out; clear hb)
              | (go_at_call 31; (with_reducible refine (CO.out _ BB.out).mono ?_); rintro e x2 ⟨rfl, hb⟩; replace BB := Lib.hid (below_hi BB.out hb); obtain ⟨z4, z5⟩ := XC.out _ BB.out; clear hb)
              | (go_at_call 31; (with_reducible refine (CZ.out _).mono ?_); rintro e x3 ⟨rfl, hb⟩; replace BB := Lib.hid (below_hi BB.out hb); obtain ⟨z4, z5⟩ := XC.out _ BB.out; clear hb)
              | (go_at_call 36; (with_reducible refine (CI.out _ BB.out).mono ?_); rintro e vi ⟨Ai, ci, rfl, hIi, hb⟩; replace BB := Lib.hid (below_hi BB.out hb); obtain ⟨z4, z5⟩ := XC.out _ BB.out; clear hb)
              | (go_at_call 36; (with_reducible refine (CIZ.out _).mono ?_); rintro e vz ⟨Az, cz, rfl, -, hb⟩; replace BB := Lib.hid (below_hi BB.out hb); obtain ⟨z4, z5⟩ := XC.out _ BB.out; clear hb)
              | (go_at_call_of 43 Ai; have HH := ints_call (c := ci) [2] 3 hIi (by simp) 1 rfl (.cells #[.int .i64 2] 3 (0, 0)) rfl; (with_reducible refine HH.mono ?_); clear HH; rintro e xi ⟨rfl, hb⟩; replace BB := Lib.hid (below_hi BB.out (below_hi (al _ _) hb)); obtain ⟨z4, z5⟩ := XC.out _ BB.out; clear hb)
              | (go_at_call 38; (with_reducible refine (CE.out _ BB.out).mono ?_); rintro e ve ⟨Ae, ce, rfl, hIe, hb⟩; replace BB := Lib.hid (below_hi BB.out hb); obtain ⟨z4, z5⟩ := XC.out _ BB.out; clear hb)
              | (go_at_call_of 43 Ae; have HH := ints_call (c := ce) [1] 3 hIe (by simp) 1 rfl (.cells #[.int .i64 1] 3 (0, 0)) rfl; (with_reducible refine HH.mono ?_); clear HH; rintro e xe ⟨rfl, hb⟩; replace BB := Lib.hid (below_hi BB.out (below_hi (al _ _) hb)); obtain ⟨z4, z5⟩ := XC.out _ BB.out; clear hb)
              | (go_at_call 40; (with_reducible refine (CH.out _ BB.out).mono ?_); rintro e vh ⟨Ah, ch, rfl, hIh, hb⟩; replace BB := Lib.hid (below_hi BB.out hb); obtain ⟨z4, z5⟩ := XC.out _ BB.out; clear hb)
              | (go_at_call_of 43 Ah; have HH := ints_call (c := ch) [1] 3 hIh (by simp) 1 rfl (.cells #[.int .i64 1] 3 (0, 0)) rfl; (with_reducible refine HH.mono ?_); clear HH; rintro e xh ⟨rfl, hb⟩; replace BB := Lib.hid (below_hi BB.out (below_hi (al _ _) hb)); obtain ⟨z4, z5⟩ := XC.out _ BB.out; clear hb)
              | (go_at_call 45; (with_reducible refine (four_any _).mono ?_); rintro e vf ⟨⟨bf, sf, tf, rfl, h1, h2, h3, h4, h5, h6⟩, hb⟩; have FF : Hid (FourAt vf bf sf tf 3 7) := (show FourAt _ _ _ _ _ _ from ⟨h1, h4, h5, h6⟩); clear h1 h2 h3 h4 h5 h6; replace BB := Lib.hid (below_hi BB.out hb); obtain ⟨z4, z5⟩ := XC.out _ BB.out; clear hb)
              | (go_at_call 40; (with_reducible refine (H4p.out _ _ FF.out).mono ?_); rintro e vp ⟨Ap, cp, rfl, hIp, hb⟩; replace BB := Lib.hid (below_hi BB.out hb); obtain ⟨z4, z5⟩ := XC.out _ BB.out; clear hb)
              | (go_at_call_of 43 Ap; refine (ints_any Ap none cp 0 [] _ (by simp) hIp (fun i x hx => by simp at hx)).mono ?_; rintro e xp ⟨rfl, hb⟩; replace BB := Lib.hid (below_hi BB.out hb); obtain ⟨z4, z5⟩ := XC.out _ BB.out; clear hb)
              | (go_at_call 40; (with_reducible refine (H4q.out _ _ FF.out).mono ?_); rintro e vq ⟨Aq, cq, rfl, hIq, hb⟩; replace BB := Lib.hid (below_hi BB.out hb); obtain ⟨z4, z5⟩ := XC.out _ BB.out; clear hb)
              | (go_at_call_of 43 Aq; refine (ints_any Aq none cq 0 [] _ (by simp) hIq (fun i x hx => by simp at hx)).mono ?_; rintro e xq ⟨rfl, hb⟩; replace BB := Lib.hid (below_hi BB.out hb); obtain ⟨z4, z5⟩ := XC.out _ BB.out; clear hb)
              | (go_at_call 40; (with_reducible refine (H4r.out _ _ FF.out).mono ?_); rintro e vr ⟨Ar, cr, rfl, hIr, hb⟩; replace BB := Lib.hid (below_hi BB.out hb); obtain ⟨z4, z5⟩ := XC.out _ BB.out; clear hb)
              | (go_at_call_of 43 Ar; refine (ints_any Ar none cr 0 [] _ (by simp) hIr (fun i x hx => by simp at hx)).mono ?_; rintro e xr ⟨rfl, hb⟩; replace BB := Lib.hid (below_hi BB.out hb); obtain ⟨z4, z5⟩ := XC.out _ BB.out; clear hb))
            go_ret
            exact ⟨rfl, below_hi BF.out BB.out⟩
theorem own : ownKnob Try.prog.godebug = none := by kernel_rfl
theorem laidOut : laidOutB Try.prog = true := by kernel_rfl
set_option maxRecDepth 100000 in
theorem contract (H : Type) (enc : TypeId × Value → H) (W : World) (base : Nat) (args : Array Value) (ds gs : List (DataW H)) (before : List MemPlace)
    (hval : ∀ (j : Nat) t v, Try.f12.params[j]? = some t → args[j]? = some v → Value.okWide Try.prog W .any base t v)
    (hW : DataW.Whole enc Try.prog Try.f12.params.toList Rows.graphKnownSpec.vars false W args.toList ds gs before)
    (hsz0 : (DataW.weightsEach Try.prog (Try.f12.params.toList ++ Rows.graphKnownSpec.plain.varTypes Try.prog) (ds ++ gs)).all (· ≤ reachBytes) = true) :
    Calls Try.prog 12 args W fun e W' => ∃ v, e = .returned v ∧ Rows.graphKnownSpec.post enc Try.prog Try.f12 false true false false W args v W' := by
  have hW' := hW
  obtain ⟨p, q, hA0, hV, rfl, hfz, hnd⟩ := hW
  have hA : DataW.TrodAll enc Try.prog W 0 (fun _ => true) true Try.f12.params.toList args.toList ds p := hA0
  have hsz := hsz0
  rw [Try.params12] at hA hval hsz
  obtain ⟨hargs, rfl, rfl⟩ := trodAll_nil hA
  obtain rfl : args = #[] := by cases args; simp_all
  obtain ⟨rfl, rfl⟩ := trodVars_none hV
  clear hA0 hsz hsz0
  simp only [List.append_nil] at hW'
  refine (walk W).mono fun e W' ⟨he, hb⟩ => ?_
  subst he
  exact ⟨_, rfl, law_post laidOut (by kernel_rfl) (by kernel_rfl) Try.underlying4 hW' hb rfl⟩

set_option maxRecDepth 100000 in
theorem lifted (os : Os) (started : os.Started) (H : Type) (enc : TypeId × Value → H) :
    ReturnsInHanded {} Try.checked os 12 .any (Rows.graphKnownSpec.pre6 enc Try.prog Try.f12 Rows.graphKnownRow.domain false) (Rows.graphKnownSpec.post enc Try.prog Try.f12 false true false false) := by
  refine returnsInHanded_of_change_sized (C := Try.checked) own started (by kernel_rfl) Try.func12
    (ChangeSpec.witness6 (enc := enc) (C := Try.checked) false ⟨#[], #[], []⟩ 8 (by kernel_rfl) (by kernel_rfl) (by kernel_rfl) (by kernel_rfl)) ?_
  intro W base args ds gs before hval hW _ hsz _
  exact contract H enc W base args ds gs before hval hW hsz
/-- The row. -/
theorem holds : Rows.GraphKnownSaid :=
  OpenClaim.holds_of_wide 12 Try.f12 rfl rfl rfl rfl rfl rfl rfl ⟨rfl, rfl, rfl, rfl, rfl⟩ rfl rfl rfl rfl rfl (by kernel_rfl) Try.func12 (by kernel_rfl)
    (of_decide_eq_true (by kernel_rfl)) (by unfold Func.isWrapper; first | (rw [if_pos (by decide +kernel)]; kernel_rfl) | (rw [if_neg (by decide +kernel)]; exact ⟨rfl, rfl⟩))
    (fun os started H enc _ => lifted os started H enc)
end Go.Proofs.Ytkkdgacdajojiaa.graphKnown
