/- TrialMarked: who is gone is held by nobody that was told as white and is not gone, but by strings; who is marked is not gone, has a mark, and marks fall: for any graph, any numbers. Conditions: none but the form's own reach. -/
import Derived.Test.YtghnjmodnhnmfaaTrMarkM
import Derived.Test.YtghnjmodnhnmfaaTrOpen
import Derived.Test.YtghnjmodnhnmfaaLawPost
import Derived.ProofKit
import Derived.BigQuiet
import Derived.Deep.LoopGhost
import Derived.Deep.DeepCutAuto
import Derived.Deep.RegionHeld3
import Derived.Deep.RegionLaw
import Derived.IntWalk
namespace Go.Proofs.Ytghnjmodnhnmfaa.trialMarked
set_option maxRecDepth 20000
open Go.ChangeShapes Go.WideShapes Go.ChangeAt Go.RowKit Go.Maps Go.Sort

set_option maxHeartbeats 16000000 in
theorem walk (A : Option Addr) (c : Nat) (g : List OB) (B : Option Addr) (d : Nat) (l : List Int) (hz : g.length * 64 ≤ 140737488351232) (hm : l.length * 8 ≤ 140737488351232) (hd : l.length ≤ d) (w : World) (hg : GAtC w A g) (hB : IntsAt w B l ∧ ∀ x ∈ l, wf64 x) :
    Calls Try.prog 7 #[.agg #[.slice A g.length c], .slice B l.length d] w fun e w' => e = .returned (.bool true) ∧ Below w.heap.size w w' := by
  have G := Lib.hid hg.at
  have HB := Lib.hid hB.1
  have WF := Lib.hid hB.2
  have hmin : min ((l.length : Nat) : Int) 200 = ((l.take 200).length : Int) := by rw [List.length_take]; omega
  have hmd : (l.take 200).length ≤ d := by rw [List.length_take]; omega
  have hl200 : (l.take 200).length ≤ 200 := List.length_take_le _ _
  have BT : Hid (IntsAt w B (l.take 200)) := ints_take HB.out 200
  clear hg hB
  generalize hL : l.take 200 = L at *
  clear hL WF HB
  generalize l.length = nl at *
  by_cases hbig : 100 < g.length
  · have z1 : (100 : Int) < (g.length : Int) := by omega
    generalize g.length = n at *
    go_enter Try.func7, Try.ntmps7
    go_wp2_with (go_at_call 14; (with_reducible refine (works_true _).mono ?_); rintro e w1 ⟨rfl, hb⟩; have B1 := Lib.hid (below_box hb); have x1 := boxed hb (j := 0) rfl; clear hb)
    go_ret
    exact ⟨rfl, B1.out⟩
  · have z1 : ¬ (100 : Int) < (g.length : Int) := by omega
    have hn900 : g.length ≤ 900 := by omega
    have SL : Hid (∀ W, Below w.heap.size w W → Calls Try.prog 13 #[gV A g.length c] W fun e w' => (∃ z : Int, e = .returned (iV z) ∧ (¬ 2000 < z → ∀ o ∈ g, o.slots.length ≤ 2000)) ∧ Below W.heap.size W w') := fun W hW => slots_any (G.out.below hW) (by omega)
    have GO : Hid ((∀ o ∈ g, o.slots.length ≤ 2000) → checkB g = true → ∀ W, Below w.heap.size w W → Calls Try.prog 20 #[gV A g.length c, .slice B L.length d] W (GivesTwo (goneL g L) (markS g (marksL g L)) W)) := fun hs hck W hW => Gone_whole (G.out.below hW) hn900 (fun o ho => Nat.le_trans (hs o ho) (by omega)) hck (by omega) (BT.out.below hW)
    have GN : Hid (checkB g = false → ∀ W, Below w.heap.size w W → Calls Try.prog 20 #[gV A g.length c, .slice B L.length d] W (GivesTwo [] [] W)) := fun hck W hW => Gone_no (G.out.below hW) hn900 hck
    have CK : Hid (∀ W, Below w.heap.size w W → Calls Try.prog 22 #[gV A g.length c] W fun e w' => e = .returned (.bool (checkB g)) ∧ Below W.heap.size W w') := fun W hW => Check_any (G.out.below hW) (by omega)
    have HO : Hid (∀ W x, Below w.heap.size w W → Calls Try.prog 28 #[gV A g.length c, iV x] W (GivesI (holdersL g x) W)) := fun W x hW => Holders_any (G.out.below hW) (by omega) x
    have NG : Hid (g.length ≤ 900) := hn900
    obtain ⟨n, hn⟩ : ∃ n, n = g.length := ⟨_, rfl⟩
    have HN := Lib.hid hn
    rw [← hn] at z1 SL GO GN CK HO ⊢
    clear hn hbig hz
    go_enter Try.func7, Try.ntmps7
    have d1 : decide ((100 : Int) < (n : Int)) = false := decide_eq_false z1
    go_upto_region 3 with (go_at_call 14; (with_reducible refine (works_true _).mono ?_); rintro e w1 ⟨rfl, hb⟩; have B1 := Lib.hid (below_box hb); have x1 := boxed hb (j := 0) rfl; have t1 : w.heap.size < w1.heap.size := World.block_lt_of_cell? w1 _ x1; clear hb)
    go_cut [21] (fun s21 wx => ∃ bb : Bool, s21 = .bool bb ∧ Hid (Below w.heap.size w wx ∧ wx.cell? ⟨w.heap.size, 0, none⟩ = some (.slice A n c)) ∧ Hid (bb = false → ∀ o ∈ g, o.slots.length ≤ 2000))
    case first =>
      go_wp2_with (go_at_call 13; (with_reducible refine (SL.out w1 B1.out).mono ?_); rintro e w2 ⟨⟨z, rfl, hzs⟩, hb⟩; have B2 := Lib.hid (B1.out.trans (hb.mono B1.out.size)); have x2 := (hb.cell (p := ⟨w.heap.size, 0, none⟩) t1).trans x1; have ZS := Lib.hid hzs; clear hb hzs)
      go_meet
      exact ⟨decide (2000 < z), rfl, ⟨B2.out, x2⟩, fun h => ZS.out (by have := of_decide_eq_false h; omega)⟩
    case rest =>
      clear x1 t1 B1 SL
      obtain ⟨bb, rfl, HX, HS⟩ := hcut
      obtain ⟨hB3, x3⟩ := HX.out
      have B3 := Lib.hid hB3
      have t3 : w.heap.size < wc.heap.size := World.block_lt_of_cell? wc _ x3
      clear hB3 HX
      cases bb with
      | true =>
        go_wp2_with fail
        go_ret
        exact ⟨rfl, B3.out⟩
      | false =>
        have HS2 := Lib.hid (HS.out rfl)
        obtain ⟨bg, hbg⟩ : ∃ bg, bg = w.heap.size := ⟨_, rfl⟩
        have EBG := Lib.hid hbg
        rw [← hbg] at x3 t3 ⊢
        clear hbg HS z1 d1
        have CX : Hid (∀ W, Below wc.heap.size wc W → W.cell? ⟨bg, 0, none⟩ = some (.slice A n c)) := fun W hW => (hW.cell (p := ⟨bg, 0, none⟩) t3).trans x3
        have GW : Hid (∀ W, Below wc.heap.size wc W → Below w.heap.size w W) := fun W hW => B3.out.trans (hW.mono B3.out.size)
        cases hck : checkB g with
        | false =>
          have GNB := Lib.hid (GN.out hck)
          have CKB := CK.out
          rw [hck] at CKB
          have CK2 := Lib.hid CKB
          clear hck CKB GO GN
          go_wp2_with (first
            | (go_at_call 20; (with_reducible refine (GNB.out _ (GW.out _ (Below.refl _ _))).mono ?_); rintro e w4 ⟨Aa, ca, Ab, cb, rfl, -, -, hb, -, -⟩; have B4 := Lib.hid hb; have x4 := CX.out w4 hb; clear hb)
            | (go_at_call 22; (with_reducible refine (CK2.out w4 (GW.out _ B4.out)).mono ?_); rintro e w5 ⟨rfl, hb⟩; have B5 := Lib.hid (B4.out.trans (hb.mono B4.out.size)); have x5 := CX.out w5 B5.out; clear hb))
          go_ret
          exact ⟨rfl, GW.out _ B5.out⟩
        | true =>
          have GOB := Lib.hid (GO.out HS2.out hck)
          have CKB := CK.out
          rw [hck] at CKB
          have CK2 := Lib.hid CKB
          have N9 := NG.out
          have GR := Lib.hid (gone_rise g L)
          have GI : Hid (∀ x ∈ goneL g L, x ∈ L ∧ looksB g x = true) := fun x hx => gone_in N9 hx
          have GU : Hid (∀ x ∈ goneL g L, x ∉ markS g (marksL g L)) := fun x hx => gone_unmarked N9 hx
          have GL := gone_len g L
          have MI : Hid (∀ x ∈ markS g (marksL g L), x ∈ L ∧ looksB g x = true ∧ 0 < markG g x) := fun x hx => by
            obtain ⟨h1, h2⟩ := marks_has.1 hx
            obtain ⟨h3, h4⟩ := ((whites_spec g L).2 x).1 h1
            exact ⟨h3, h4, h2⟩
          have MF := Lib.hid (marks_fall g L)
          have ML := marks_len g L
          have HG : Hid (∀ x ∈ goneL g L, ∀ h ∈ holdersL g x, h ∈ L → h ∉ goneL g L → ∃ (k : Nat) (o : OB), h = (k : Int) + 1 ∧ g[k]? = some o ∧ o.kind ≤ 5) := fun x hx h hh hl hng => by
            obtain ⟨k, o, e, ho, hk⟩ := holder_gone hck N9 hx hh hl hng
            exact ⟨k, o, e, ho, Int.not_lt.1 hk⟩
          have HLN : Hid (∀ x, (holdersL g x).length ≤ g.length) := holders_len g
          have HRG : Hid (∀ x, ∀ h ∈ holdersL g x, 1 ≤ h ∧ h ≤ g.length) := fun x h hh => holders_range hh
          have hn := HN.out
          rw [← hn] at GL ML HLN HRG
          have n9 : n ≤ 900 := by rw [hn]; exact N9
          clear hck CKB GO GN N9 hn
          have MA : Hid (∀ x ∈ markS g (marksL g L), ∃ (k : Nat) (o : OB), x = (k : Int) + 1 ∧ g[k]? = some o ∧ k < n ∧ markG g x = o.mark ∧ 0 < o.mark) := fun x hx => by
            obtain ⟨h1, h2, h3⟩ := MI.out x hx
            have hr := looks_range h2
            obtain ⟨k, o, rfl, ho, hk⟩ := nth_obj hr.1 hr.2
            exact ⟨k, o, rfl, ho, by rw [HN.out]; exact hk, markG_at ho, by rw [markG_at ho] at h3; exact h3⟩
          have HGK : Hid (∀ (k : Nat) o, g[k]? = some o → k < n) := fun k o ho => by rw [HN.out]; exact (List.getElem?_eq_some_iff.1 ho).1
          have ML9 : Hid (∀ x ∈ markS g (marksL g L), x ∈ L) := fun x hx => (MI.out x hx).1
          clear MI
          generalize goneL g L = Gn at *
          generalize markS g (marksL g L) = Mk at *
          go_upto_region 9 with (first
            | (go_at_call 20; (with_reducible refine (GOB.out _ (GW.out _ (Below.refl _ _))).mono ?_); rintro e w4 ⟨Aa, ca, Ab, cb, rfl, hia, hib, hb, -, -⟩; have B4 := Lib.hid hb; have x4 := CX.out w4 hb; have Ia4 := Lib.hid hia; have Ib4 := Lib.hid hib; clear hb hia hib)
            | (go_at_call 22; (with_reducible refine (CK2.out w4 (GW.out _ B4.out)).mono ?_); rintro e w5 ⟨rfl, hb⟩; have B5 := Lib.hid (B4.out.trans (hb.mono B4.out.size)); have x5 := CX.out w5 B5.out; have Ia := Lib.hid (Ia4.out.below hb); have Ib := Lib.hid (Ib4.out.below hb); clear hb))
          clear Ia4 Ib4 x4 B4 GOB CK2
          have BTW : Hid (∀ W, Below w5.heap.size w5 W → IntsAt W B L) := fun W hW => BT.out.below (GW.out _ (B5.out.trans (hW.mono B5.out.size)))
          have CX5 : Hid (∀ W, Below w5.heap.size w5 W → W.cell? ⟨bg, 0, none⟩ = some (.slice A n c)) := fun W hW => CX.out W (B5.out.trans (hW.mono B5.out.size))
          have HO5 : Hid (∀ W x, Below w5.heap.size w5 W → Calls Try.prog 28 #[gV A n c, iV x] W (GivesI (holdersL g x) W)) := fun W x hW => HO.out W x (GW.out _ (B5.out.trans (hW.mono B5.out.size)))
          have GAT : Hid (∀ W, Below w5.heap.size w5 W → GAt W A g) := fun W hW => G.out.below (GW.out _ (B5.out.trans (hW.mono B5.out.size)))
          have F5 : Hid (Below w.heap.size w w5) := GW.out _ B5.out
          clear B5 CX HO GW G BT x3 t3 x5
          go_wp2_with fail
          go_loopg [7, 8, 9] Gn.length (fun gg s7 _ _ wr => ∃ i : Nat, i ≤ Gn.length ∧ Gn.length - i ≤ gg ∧ s7 = .int .i64 i ∧ Hid (Below w5.heap.size w5 wr))
          case atStart => exact ⟨0, Nat.zero_le _, by omega, rfl, Below.refl _ _⟩
          case round =>
            obtain ⟨i, hi, hgg, rfl, BR⟩ := hrel
            obtain ⟨R, hR⟩ : ∃ R, R = gk := ⟨_, rfl⟩
            rw [← hR] at *
            clear hR
            by_cases hlt : i < Gn.length
            · obtain ⟨x, hx⟩ : ∃ x, Gn[i]? = some x := ⟨_, List.getElem?_eq_getElem hlt⟩
              obtain ⟨ga, e, hal, hc⟩ := (Ia.out.below BR.out) i x hx
              subst e
              have hl2 : (ga.add i).block < wr.heap.size := by rw [Go.ChangeShapes.block_add]; exact hal
              have xr := CX5.out wr BR.out
              have CH := Lib.hid (HO5.out wr.drew x BR.out.drew)
              have HXM := Lib.hid (List.mem_of_getElem? hx)
              have HX := Lib.hid hx
              clear hx
              go_upto_region 12 with fail
              go_region_law (first
                | (go_simp; first | go_at_call 28 | skip
                   (refine CH.out.mono ?_)
                   rintro e w6 ⟨A6, c6, rfl, hi6, hb6⟩))
              all_goals
                have B6 : Hid (Below w5.heap.size w5 w6) := BR.out.trans ((below_d hb6).mono BR.out.size)
                have I6 := Lib.hid hi6
                clear hb6 hi6 CH
                go_wp2_with fail
                go_upto_region 13 with fail
                have HGx : Hid (∀ h ∈ holdersL g x, h ∈ L → h ∉ Gn → ∃ (k : Nat) (o : OB), h = (k : Int) + 1 ∧ g[k]? = some o ∧ o.kind ≤ 5) := fun h hh hl hng => HG.out x HXM.out h hh hl hng
                have HLx := HLN x
                generalize holdersL g x = Hl at *
                go_loopg [9] Hl.length (fun gg s9 wq => ∃ q : Nat, q ≤ Hl.length ∧ Hl.length - q ≤ gg ∧ s9 = .int .i64 q ∧ Hid (Below w6.heap.size w6 wq))
                case atStart => exact ⟨0, Nat.zero_le _, by omega, rfl, Below.refl _ _⟩
                case round =>
                  obtain ⟨q, hq, hgq, rfl, BQ⟩ := hrel
                  obtain ⟨R2, hR2⟩ : ∃ R2, R2 = gk := ⟨_, rfl⟩
                  rw [← hR2] at *
                  clear hR2
                  have BW5 : Hid (Below w5.heap.size w5 wr) := B6.out.trans (BQ.out.mono B6.out.size)
                  by_cases hlq : q < Hl.length
                  · obtain ⟨h, hh⟩ : ∃ h, Hl[q]? = some h := ⟨_, List.getElem?_eq_getElem hlq⟩
                    obtain ⟨gb, e, hal2, hc2⟩ := (I6.out.below BQ.out) q h hh
                    subst e
                    have hl3 : (gb.add q).block < wr.heap.size := by rw [Go.ChangeShapes.block_add]; exact hal2
                    have hhm := List.mem_of_getElem? hh
                    have xq := CX5.out wr BW5.out
                    have CL : Hid (∀ a : Nat, Calls Try.prog 25 #[.slice B L.length d, iV h] (wr.drewN a) fun e w' => e = .returned (.bool (decide (h ∈ L))) ∧ w' = wr.drewN a) := fun a => has_any (by omega) (BTW.out _ (below_drewN BW5.out _)) h
                    have CG : Hid (∀ a : Nat, Calls Try.prog 25 #[.slice (some ga) Gn.length ca, iV h] (wr.drewN a) fun e w' => e = .returned (.bool (decide (h ∈ Gn))) ∧ w' = wr.drewN a) := fun a => has_any (by omega) (Ia.out.below (below_drewN BW5.out _)) h
                    have hlqi : (q : Int) < (Hl.length : Int) := by omega
                    cases hL : decide (h ∈ L) with
                    | false =>
                      rw [hL] at CL
                      clear hL CG HGx hh hhm
                      go_wp2_with fail
                      go_quiet ((go_at_call 25; exact Calls.quiet_of_same (CL.out _)))
                      go_wp2_with fail
                      go_roundg (Hl.length - (q + 1))
                      case measure => omega
                      case rel => exact ⟨q + 1, by omega, by omega, by go_num, (show Below _ _ _ from below_drewN BQ.out _)⟩
                    | true =>
                      cases hG : decide (h ∈ Gn) with
                      | true =>
                        rw [hL] at CL
                        rw [hG] at CG
                        clear hL hG HGx hh hhm
                        go_wp2_with fail
                        go_quiet ((go_at_call 25; first | (with_reducible exact Calls.quiet_of_same (CL.out _)) | (with_reducible exact Calls.quiet_of_same (CG.out _))))
                        go_wp2_with fail
                        go_roundg (Hl.length - (q + 1))
                        case measure => omega
                        case rel => exact ⟨q + 1, by omega, by omega, by go_num, (show Below _ _ _ from below_drewN BQ.out _)⟩
                      | false =>
                        obtain ⟨k, o, e, ho, hkd⟩ := HGx.out h hhm (of_decide_eq_true hL) (of_decide_eq_false hG)
                        subst e
                        rw [hL] at CL
                        rw [hG] at CG
                        have hkn := HGK.out k o ho
                        obtain ⟨a, sA, sc, e, hal4, ⟨o0, o1, o2, o3, o4⟩, hs⟩ := (GAT.out wr BW5.out) k o ho
                        subst e
                        have hl4 : (a.add (k * 5)).block < wr.heap.size := by rw [Go.ChangeShapes.block_add]; exact hal4
                        have e1 : IntKind.i64.wrap ((k : Int) + 1 - 1) = (k : Int) := (IntWalk.i64_in _ (by omega)).trans (by omega)
                        have e5 : IntKind.i64.wrap (k : Int) = (k : Int) := IntWalk.i64_in _ (by omega)
                        have e2 : (0 : Int) ≤ (k : Int) := by omega
                        have e3 : ((k : Int)).toNat = k := by omega
                        have e4 : (k : Int) < (n : Int) := by omega
                        have e6 : decide ((5 : Int) < o.kind) = false := decide_eq_false (by omega)
                        generalize o.kind = kd at *
                        clear hL hG HGx hh hhm ho hs o1 o2 o3 o4 hkd
                        go_wp2_with fail
                        go_quiet ((go_at_call 25; first | (with_reducible exact Calls.quiet_of_same (CL.out _)) | (with_reducible exact Calls.quiet_of_same (CG.out _))))
                        go_wp2_with fail
                        go_roundg (Hl.length - (q + 1))
                        case measure => omega
                        case rel => exact ⟨q + 1, by omega, by omega, by go_num, (show Below _ _ _ from below_drewN BQ.out _)⟩
                  · clear HGx I6 BQ B6 hq hgq
                    obtain ⟨ga', e', hal5, hc5⟩ := (Ia.out.below BW5.out) i x HX.out
                    obtain rfl := Option.some.inj e'
                    have hl5 : (ga.add i).block < wr.heap.size := by rw [Go.ChangeShapes.block_add]; exact hal5
                    have CL : Hid (∀ a : Nat, Calls Try.prog 25 #[.slice B L.length d, iV x] (wr.drewN a) fun e w' => e = .returned (.bool true) ∧ w' = wr.drewN a) := fun a => by
                      have := has_any (by omega) (BTW.out _ (below_drewN BW5.out a)) x (c := d)
                      rw [decide_eq_true (GI.out x HXM.out).1] at this
                      exact this
                    have CM : Hid (∀ a : Nat, Calls Try.prog 25 #[.slice Ab Mk.length cb, iV x] (wr.drewN a) fun e w' => e = .returned (.bool false) ∧ w' = wr.drewN a) := fun a => by
                      have := has_any (by omega) (Ib.out.below (below_drewN BW5.out a)) x (c := cb)
                      rw [decide_eq_false (GU.out x HXM.out)] at this
                      exact this
                    have hlti : (i : Int) < (Gn.length : Int) := by omega
                    by_cases hi0 : i = 0
                    · have d0 : decide (0 < i) = false := decide_eq_false (by omega)
                      clear hi0
                      go_wp2_with fail
                      go_quiet ((go_at_call 25; first | (with_reducible exact Calls.quiet_of_same (CL.out _)) | (with_reducible exact Calls.quiet_of_same (CM.out _))))
                      go_wp2_with fail
                      go_roundg (Gn.length - (i + 1))
                      case measure => omega
                      case rel => exact ⟨i + 1, by omega, by omega, by go_num, (show Below _ _ _ from below_drewN BW5.out _)⟩
                    · obtain ⟨j, hj⟩ : ∃ j, i = j + 1 := ⟨i - 1, by omega⟩
                      obtain ⟨y, hy⟩ : ∃ y, Gn[j]? = some y := ⟨_, List.getElem?_eq_getElem (by omega)⟩
                      obtain ⟨ga', e', hal7, hc7⟩ := (Ia.out.below BW5.out) j y hy
                      obtain rfl := Option.some.inj e'
                      have hl7 : (ga.add j).block < wr.heap.size := by rw [Go.ChangeShapes.block_add]; exact hal7
                      have hyx : y < x := by
                        obtain ⟨z1, e1⟩ := List.getElem?_eq_some_iff.1 hy
                        obtain ⟨z2, e2⟩ := List.getElem?_eq_some_iff.1 HX.out
                        have := List.pairwise_iff_getElem.1 GR.out j i z1 z2 (by omega)
                        rw [e1, e2] at this
                        exact this
                      have d1 : decide (x ≤ y) = false := decide_eq_false (by omega)
                      have d0 : decide (0 < i) = true := decide_eq_true (by omega)
                      have e1 : IntKind.i64.wrap ((i : Int) - 1) = (j : Int) := (IntWalk.i64_in _ (by omega)).trans (by omega)
                      have e6 : (i : Int) - 1 = (j : Int) := by omega
                      have e5 : IntKind.i64.wrap (j : Int) = (j : Int) := IntWalk.i64_in _ (by omega)
                      have e2 : (0 : Int) ≤ (j : Int) := by omega
                      have e3 : ((j : Int)).toNat = j := by omega
                      have e4 : (j : Int) < (Gn.length : Int) := by omega
                      clear hy hyx hj
                      go_wp2_with fail
                      go_quiet ((go_at_call 25; first | (with_reducible exact Calls.quiet_of_same (CL.out _)) | (with_reducible exact Calls.quiet_of_same (CM.out _))))
                      go_wp2_with fail
                      go_roundg (Gn.length - (i + 1))
                      case measure => omega
                      case rel => exact ⟨i + 1, by omega, by omega, by go_num, (show Below _ _ _ from below_drewN BW5.out _)⟩
            · clear HG GR GI GU
              go_wp2_with fail
              obtain ⟨w7, hw7⟩ : ∃ w7, w7 = wr := ⟨_, rfl⟩
              rw [← hw7]
              go_loopg [10] Mk.length (fun gg s10 wx => ∃ q : Nat, q ≤ Mk.length ∧ Mk.length - q ≤ gg ∧ s10 = .int .i64 q ∧ Hid (Below w5.heap.size w5 wx))
              case atStart => exact ⟨0, Nat.zero_le _, by omega, rfl, hw7 ▸ BR⟩
              case round =>
                clear hw7
                obtain ⟨q, hq, hgq, rfl, BQ⟩ := hrel
                have xq := CX5.out wr BQ.out
                by_cases hlq : q < Mk.length
                · obtain ⟨x, hx⟩ : ∃ x, Mk[q]? = some x := ⟨_, List.getElem?_eq_getElem hlq⟩
                  obtain ⟨gb, e, hal2, hc2⟩ := (Ib.out.below BQ.out) q x hx
                  subst e
                  have hl3 : (gb.add q).block < wr.heap.size := by rw [Go.ChangeShapes.block_add]; exact hal2
                  have hxm := List.mem_of_getElem? hx
                  have CL : Hid (∀ a : Nat, Calls Try.prog 25 #[.slice B L.length d, iV x] (wr.drewN a) fun e w' => e = .returned (.bool true) ∧ w' = wr.drewN a) := fun a => by
                    have := has_any (by omega) (BTW.out _ (below_drewN BQ.out a)) x (c := d)
                    rw [decide_eq_true (ML9.out x hxm)] at this
                    exact this
                  obtain ⟨k, o, e, ho, hkn, hmo, hm1⟩ := MA.out x hxm
                  have HMO := Lib.hid hmo
                  clear hmo
                  obtain ⟨a, sA, sc, e', hal4, ⟨o0, o1, o2, o3, o4⟩, hs⟩ := (GAT.out wr BQ.out) k o ho
                  subst e'
                  subst e
                  have hl4 : (a.add (k * 5)).block < wr.heap.size := by rw [Go.ChangeShapes.block_add]; exact hal4
                  have e1 : IntKind.i64.wrap ((k : Int) + 1 - 1) = (k : Int) := (IntWalk.i64_in _ (by omega)).trans (by omega)
                  have e5 : IntKind.i64.wrap (k : Int) = (k : Int) := IntWalk.i64_in _ (by omega)
                  have e2 : (0 : Int) ≤ (k : Int) := by omega
                  have e3 : ((k : Int)).toNat = k := by omega
                  have e4 : (k : Int) < (n : Int) := by omega
                  have e6 : decide (o.mark < (1 : Int)) = false := decide_eq_false (by omega)
                  have hlqi : (q : Int) < (Mk.length : Int) := by omega
                  by_cases hq0 : q = 0
                  · have d0 : decide (0 < q) = false := decide_eq_false (by omega)
                    clear hq0 HMO ho hs o0 o1 o2 o3 hx hxm MA GAT
                    generalize o.mark = mk at *
                    go_wp2_with fail
                    go_quiet ((go_at_call 25; exact Calls.quiet_of_same (CL.out _)))
                    go_wp2_with fail
                    go_roundg (Mk.length - (q + 1))
                    case measure => omega
                    case rel => exact ⟨q + 1, by omega, by omega, by go_num, (show Below _ _ _ from below_drewN BQ.out _)⟩
                  · obtain ⟨j, hj⟩ : ∃ j, q = j + 1 := ⟨q - 1, by omega⟩
                    obtain ⟨y, hy⟩ : ∃ y, Mk[j]? = some y := ⟨_, List.getElem?_eq_getElem (by omega)⟩
                    obtain ⟨gb', e', hal7, hc7⟩ := (Ib.out.below BQ.out) j y hy
                    obtain rfl := Option.some.inj e'
                    have hl7 : (gb.add j).block < wr.heap.size := by rw [Go.ChangeShapes.block_add]; exact hal7
                    obtain ⟨p, oy, ey, hoy, hpn, hmy, hm2⟩ := MA.out y (List.mem_of_getElem? hy)
                    have hfall : o.mark ≤ oy.mark := by
                      obtain ⟨z1, f1⟩ := List.getElem?_eq_some_iff.1 hy
                      obtain ⟨z2, f2⟩ := List.getElem?_eq_some_iff.1 hx
                      have := List.pairwise_iff_getElem.1 MF.out j q z1 z2 (by omega)
                      rw [f1, f2, hmy, HMO.out] at this
                      exact this
                    clear hmy
                    obtain ⟨a', sA', sc', e', hal5, ⟨p0, p1, p2, p3, p4⟩, hs'⟩ := (GAT.out wr BQ.out) p oy hoy
                    obtain rfl := Option.some.inj e'
                    subst ey
                    have hl5 : (a.add (p * 5)).block < wr.heap.size := by rw [Go.ChangeShapes.block_add]; exact hal5
                    have y1 : IntKind.i64.wrap ((p : Int) + 1 - 1) = (p : Int) := (IntWalk.i64_in _ (by omega)).trans (by omega)
                    have y5 : IntKind.i64.wrap (p : Int) = (p : Int) := IntWalk.i64_in _ (by omega)
                    have y2 : (0 : Int) ≤ (p : Int) := by omega
                    have y3 : ((p : Int)).toNat = p := by omega
                    have y4 : (p : Int) < (n : Int) := by omega
                    have d1 : decide (oy.mark < o.mark) = false := decide_eq_false (by omega)
                    have d0 : decide (0 < q) = true := decide_eq_true (by omega)
                    have j1 : IntKind.i64.wrap ((q : Int) - 1) = (j : Int) := (IntWalk.i64_in _ (by omega)).trans (by omega)
                    have j6 : (q : Int) - 1 = (j : Int) := by omega
                    have j5 : IntKind.i64.wrap (j : Int) = (j : Int) := IntWalk.i64_in _ (by omega)
                    have j2 : (0 : Int) ≤ (j : Int) := by omega
                    have j3 : ((j : Int)).toNat = j := by omega
                    have j4 : (j : Int) < (Mk.length : Int) := by omega
                    clear hq0 HMO ho hs o0 o1 o2 o3 hx hxm hy hoy hfall p0 p1 p2 p3 hs' MA GAT hj
                    generalize o.mark = mk at *
                    generalize oy.mark = mky at *
                    go_wp2_with fail
                    go_quiet ((go_at_call 25; exact Calls.quiet_of_same (CL.out _)))
                    go_wp2_with fail
                    go_roundg (Mk.length - (q + 1))
                    case measure => omega
                    case rel => exact ⟨q + 1, by omega, by omega, by go_num, (show Below _ _ _ from below_drewN BQ.out _)⟩
                · go_wp2_with fail
                  go_ret
                  exact ⟨rfl, F5.out.trans (BQ.out.mono F5.out.size)⟩
theorem own : ownKnob Try.prog.godebug = none := by kernel_rfl
theorem laidOut : laidOutB Try.prog = true := by kernel_rfl
set_option maxRecDepth 100000 in
theorem contract (H : Type) (enc : TypeId × Value → H) (W : World) (base : Nat) (args : Array Value) (ds gs : List (DataW H)) (before : List MemPlace)
    (hval : ∀ (j : Nat) t v, Try.f7.params[j]? = some t → args[j]? = some v → Value.okWide Try.prog W .any base t v)
    (hW : DataW.Whole enc Try.prog Try.f7.params.toList Rows.trialMarkedSpec.vars false W args.toList ds gs before)
    (hsz0 : (DataW.weightsEach Try.prog (Try.f7.params.toList ++ Rows.trialMarkedSpec.plain.varTypes Try.prog) (ds ++ gs)).all (· ≤ reachBytes) = true) :
    Calls Try.prog 7 args W fun e W' => ∃ v, e = .returned v ∧ Rows.trialMarkedSpec.post enc Try.prog Try.f7 false true false false W args v W' := by
  have hW' := hW
  obtain ⟨p, q, hA0, hV, rfl, hfz, hnd⟩ := hW
  have hA : DataW.TrodAll enc Try.prog W 0 (fun _ => true) true Try.f7.params.toList args.toList ds p := hA0
  have hsz := hsz0
  rw [Try.params7] at hA hval hsz
  obtain ⟨v0, vs0, d0, ds0, p0, q0, hargs, rfl, rfl, h0, r0⟩ := trodAll_cons hA
  obtain ⟨v1, vs1, d1, ds1, p1, q1, rfl, rfl, rfl, h1, r1⟩ := trodAll_cons r0
  obtain ⟨rfl, rfl, rfl⟩ := trodAll_nil r1
  obtain rfl : args = #[v0, v1] := by cases args; simp_all
  obtain ⟨rfl, rfl⟩ := trodVars_none hV
  obtain ⟨A0, c0, l0, rfl, w0, z0⟩ := open_graph_c (hval 0 24 v0 rfl rfl) h0 (size_of hsz (j := 0) rfl rfl)
  obtain ⟨A1, c1, l1, rfl, q1, w1, z1⟩ := open_ints_c (hval 1 25 v1 rfl rfl) h1 (size_of hsz (j := 1) rfl rfl)
  clear hA0 hsz hsz0
  simp only [List.append_nil] at hW'
  refine (walk A0 c0 l0 A1 c1 l1 z0 z1 q1 W w0 w1).mono fun e W' ⟨he, hb⟩ => ?_
  subst he
  exact ⟨_, rfl, law_post laidOut (by kernel_rfl) (by kernel_rfl) Try.underlying4 hW' hb rfl⟩

set_option maxRecDepth 100000 in
theorem lifted (os : Os) (started : os.Started) (H : Type) (enc : TypeId × Value → H) :
    ReturnsInHanded {} Try.checked os 7 .any (Rows.trialMarkedSpec.pre6 enc Try.prog Try.f7 Rows.trialMarkedRow.domain false) (Rows.trialMarkedSpec.post enc Try.prog Try.f7 false true false false) := by
  refine returnsInHanded_of_change_sized (C := Try.checked) own started (by kernel_rfl) Try.func7
    (ChangeSpec.witness6 (enc := enc) (C := Try.checked) false ⟨#[], #[.agg #[.slice none 0 0], .slice none 0 0], []⟩ 8 (by kernel_rfl) (by kernel_rfl) (by kernel_rfl) (by kernel_rfl)) ?_
  intro W base args ds gs before hval hW _ hsz _
  exact contract H enc W base args ds gs before hval hW hsz
/-- The row. -/
theorem holds : Rows.TrialMarkedSaid :=
  OpenClaim.holds_of_wide 7 Try.f7 rfl rfl rfl rfl rfl rfl rfl ⟨rfl, rfl, rfl, rfl, rfl⟩ rfl rfl rfl rfl rfl (by kernel_rfl) Try.func7 (by kernel_rfl)
    (of_decide_eq_true (by kernel_rfl)) (by unfold Func.isWrapper; first | (rw [if_pos (by decide +kernel)]; kernel_rfl) | (rw [if_neg (by decide +kernel)]; exact ⟨rfl, rfl⟩))
    (fun os started H enc _ => lifted os started H enc)
end Go.Proofs.Ytghnjmodnhnmfaa.trialMarked
