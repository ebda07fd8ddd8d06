/- TrialRight: where counts are right just that is white of what was seen which can be reached neither from what is held beside nor from what was not seen: for any graph, any numbers, any values. Conditions: none but the form's own reach. -/
import Derived.Test.YtjlobjgemhapaaaTrWorks
import Derived.Test.YtjlobjgemhapaaaTrOpenD
import Derived.Test.YtjlobjgemhapaaaTrRightO
import Derived.Test.YtjlobjgemhapaaaTrRightG
import Derived.Test.YtjlobjgemhapaaaOldV
import Derived.ProofKit
import Derived.BigQuiet
import Derived.Deep.LoopGhost
import Derived.Deep.DeepCutAuto
import Derived.Deep.RegionHeld3
import Derived.Deep.RegionLaw
import Derived.IntWalk
namespace Go.Proofs.Ytjlobjgemhapaaa.trialRight
set_option maxRecDepth 20000
open Go.ChangeShapes Go.WideShapes Go.ChangeAt Go.RowKit Go.Maps Go.Sort Go.Proofs.Ytjlobjgemhapaaa.trRight

theorem slots_sum {g : List OB} {m : Nat} (h : ∀ o ∈ g, o.slots.length ≤ m) (hm : g.length * m ≤ 1048576 ∨ g.length ≤ 500 ∧ m = 2000) : (g.map fun o => o.slots.length).sum ≤ 1048576 := by
  have key : ∀ l : List OB, (∀ o ∈ l, o.slots.length ≤ m) → (l.map fun o => o.slots.length).sum ≤ l.length * m := by
    intro l
    induction l with
    | nil => intro _; simp
    | cons o r ih =>
      intro h
      have h1 := h o (List.mem_cons_self ..)
      have h2 := ih fun x hx => h x (List.mem_cons_of_mem _ hx)
      simp only [List.map_cons, List.sum_cons, List.length_cons, Nat.succ_mul]
      omega
  have := key g h
  rcases hm with hm | ⟨h1, rfl⟩
  · omega
  · omega
theorem pairCells_snoc (l : List (Int × Int)) (a b : Int) : pairCells (l ++ [(a, b)]) = pairCells l ++ [iV a, iV b] := by unfold pairCells; rw [List.flatMap_append]; rfl
set_option maxHeartbeats 16000000 in
theorem walk (A : Option Addr) (c : Nat) (g : List OB) (B : Option Addr) (d : Nat) (l : List Int) (B2 : Option Addr) (d2 : Nat) (more : List (Int × Int)) (hA : A = none → c = 0) (hz : g.length * 64 ≤ 140737488351232) (hm : l.length * 8 ≤ 140737488351232) (hd : l.length ≤ d) (hm2 : more.length * 16 ≤ 140737488351232) (hd2 : more.length ≤ d2) (w : World) (hg : GAtC w A g) (hB : IntsAt w B l ∧ ∀ x ∈ l, wf64 x) (hB2 : PairsAt w B2 more) :
    Calls Try.prog 5 #[.agg #[.slice A g.length c], .slice B l.length d, .slice B2 more.length d2] w fun e w' => e = .returned (.bool true) ∧ Below w.heap.size w w' := by
  have G := Lib.hid hg.at
  have HA := Lib.hid hA
  have WF : Hid (∀ x ∈ l.take 100, wf64 x) := fun x hx => hB.2 x (List.mem_of_mem_take hx)
  have hmin : min ((l.length : Nat) : Int) 100 = ((l.take 100).length : Int) := by rw [List.length_take]; omega
  have hmin2 : min ((more.length : Nat) : Int) 100 = ((more.take 100).length : Int) := by rw [List.length_take]; omega
  have hmd : (l.take 100).length ≤ d := by rw [List.length_take]; omega
  have hmd2 : (more.take 100).length ≤ d2 := by rw [List.length_take]; omega
  have hl100 : (l.take 100).length ≤ 100 := List.length_take_le _ _
  have hm100 : (more.take 100).length ≤ 100 := List.length_take_le _ _
  have BT : Hid (IntsAt w B (l.take 100)) := ints_take hB.1 100
  have BM : Hid (PairsAt w B2 (more.take 100)) := fun i p hp => by
    rw [List.getElem?_take] at hp
    split at hp
    · exact hB2 i p hp
    · cases hp
  clear hg hB hB2 hA
  generalize l.take 100 = L at *
  generalize more.take 100 = M at *
  generalize l.length = nl at *
  generalize more.length = nm at *
  by_cases hbig : 100 < g.length
  · have z1 : (100 : Int) < (g.length : Int) := by omega
    clear G HA WF BT BM
    generalize g.length = n at *
    go_enter Try.func5, Try.ntmps5
    go_wp2_with (go_at_call 10; (with_reducible refine (works_true _).mono ?_); rintro e w1 ⟨rfl, hb⟩; have B1 := Lib.hid (below_box hb); have x1 := boxed hb (j := 0) rfl; clear hb)
    go_ret
    exact ⟨rfl, B1.out⟩
  · have z1 : ¬ (100 : Int) < (g.length : Int) := by omega
    have hn900 : g.length ≤ 900 := by omega
    have SL : Hid (∀ W, Below w.heap.size w W → Calls Try.prog 9 #[gV A g.length c] W fun e w' => (∃ z : Int, e = .returned (iV z) ∧ (¬ 2000 < z → ∀ o ∈ g, o.slots.length ≤ 2000)) ∧ Below W.heap.size W w') := fun W hW => slots_any (G.out.below hW) (by omega)
    have CK : Hid (∀ W, Below w.heap.size w W → Calls Try.prog 18 #[gV A g.length c] W fun e w' => e = .returned (.bool (checkB g)) ∧ Below W.heap.size W w') := fun W hW => Check_any (G.out.below hW) (by omega)
    have NG : Hid (g.length ≤ 900) := hn900
    obtain ⟨n, hn⟩ : ∃ n, n = g.length := ⟨_, rfl⟩
    have HN := Lib.hid hn
    rw [← hn] at z1 SL CK ⊢
    clear hn hbig hz
    go_enter Try.func5, Try.ntmps5
    have d1 : decide ((100 : Int) < (n : Int)) = false := decide_eq_false z1
    go_upto_region 3 with (go_at_call 10; (with_reducible refine (works_true _).mono ?_); rintro e w1 ⟨rfl, hb⟩; have B1 := Lib.hid (below_box hb); have x1 := boxed hb (j := 0) rfl; have t1 : w.heap.size < w1.heap.size := World.block_lt_of_cell? w1 _ x1; clear hb)
    go_cut [32] (fun s32 wx => ∃ bb : Bool, s32 = .bool bb ∧ Hid (Below w.heap.size w wx ∧ wx.cell? ⟨w.heap.size, 0, none⟩ = some (.slice A n c)) ∧ Hid (bb = false → (∀ o ∈ g, o.slots.length ≤ 2000) ∧ checkB g = true))
    case first =>
      go_wp2_with fail
      (with_reducible refine (SL.out w1 B1.out).mono ?_)
      rintro e w2 ⟨⟨z, rfl, hzs⟩, hb⟩
      have B2 := Lib.hid (B1.out.trans (hb.mono B1.out.size))
      have x2 := (hb.cell (p := ⟨w.heap.size, 0, none⟩) t1).trans x1
      have t2 : w.heap.size < w2.heap.size := Nat.lt_of_lt_of_le t1 hb.size
      have ZS := Lib.hid hzs
      clear hb hzs
      by_cases hz2 : 2000 < z
      · have dz : decide (2000 < z) = true := decide_eq_true hz2
        clear ZS
        go_wp2_with fail
        go_meet
        exact ⟨true, rfl, ⟨B2.out, x2⟩, fun h => by cases h⟩
      · have dz : decide (2000 < z) = false := decide_eq_false hz2
        go_wp2_with (go_at_call 18; (with_reducible refine (CK.out w2 B2.out).mono ?_); rintro e w3 ⟨rfl, hb⟩; have B3 := Lib.hid (B2.out.trans (hb.mono B2.out.size)); have x3 := (hb.cell (p := ⟨w.heap.size, 0, none⟩) t2).trans x2; clear hb)
        go_meet
        exact ⟨!checkB g, rfl, ⟨B3.out, x3⟩, fun h => ⟨ZS.out hz2, by simpa using h⟩⟩
    case rest =>
      clear x1 t1 B1 SL CK
      obtain ⟨bb, rfl, HX, HS⟩ := hcut
      obtain ⟨hB3, x3⟩ := HX.out
      have B3 := Lib.hid hB3
      have t3 : w.heap.size < wc.heap.size := World.block_lt_of_cell? wc _ x3
      clear hB3 HX
      cases bb with
      | true =>
        go_wp2_with fail
        go_ret
        exact ⟨rfl, B3.out⟩
      | false =>
        obtain ⟨hs2, hck⟩ := HS.out rfl
        have HS2 := Lib.hid hs2
        have HCK := Lib.hid hck
        clear HS hs2 hck
        have hn := HN.out
        have RI : Hid (Calls Try.prog 19 #[gV A n c, .slice B2 M.length d2] wc fun e w' => ∃ Ah ch h, e = .returned (gV Ah n ch) ∧ h.length = n ∧ GAt w' Ah h ∧ StO g (refsL M) n h ∧ (Ah = none → ch = 0) ∧ Below wc.heap.size wc w') := by
          have := right_any (c := c) (d := d2) HA.out NG.out (slots_sum (m := 2000) HS2.out (.inr ⟨by omega, rfl⟩)) (by omega) HCK.out (G.out.below B3.out) (pairs_below BM.out B3.out) (w := wc)
          rwa [← hn] at this
        have UP : Hid (∀ h : List OB, h.length = n → StO g (refsL M) n h → checkB h = true ∧ (∀ o ∈ h, o.slots.length ≤ 2000) ∧ ∀ (i : Nat) p, h[i]? = some p → p.kind ≠ 0 → p.count = ((allRefs h).count ((i : Int) + 1) : Int) + ((refsL M).count ((i : Int) + 1) : Int)) := fun h e H => right_up HCK.out HS2.out e H
        have MR : Hid (∀ W, Below wc.heap.size wc W → Calls Try.prog 20 #[.slice B2 M.length d2] W (GivesI (refsL M) W)) := fun W hW => (Refs_any _ _ _ _ (by omega) (pairs_below BM.out (B3.out.trans (hW.mono B3.out.size)))).mono fun e w' h => GivesI.of h
        have SE : Hid (∀ W Ah cap h, Below wc.heap.size wc W → h.length = n → (∀ o ∈ h, o.slots.length ≤ 2000) → GAt W Ah h → Calls Try.prog 12 #[gV Ah n cap, .slice B L.length d] W (GivesI (seenL h L) W)) := fun W Ah cap h hW e hs hh => by
          have := (Seen_any (c := cap) hh (by rw [e]; omega) (fun o ho => Nat.le_trans (hs o ho) (by omega)) (by omega) (BT.out.below (B3.out.trans (hW.mono B3.out.size))) WF.out (d := d)).mono fun e w' h => GivesI.of h
          rwa [e] at this
        have WH : Hid (∀ W Ah cap h, Below wc.heap.size wc W → h.length = n → (∀ o ∈ h, o.slots.length ≤ 2000) → GAt W Ah h → Calls Try.prog 14 #[gV Ah n cap, .slice B L.length d] W (GivesI (whiteL h L) W)) := fun W Ah cap h hW e hs hh => by
          have := White_any (c := cap) hh (by rw [e]; omega) (fun o ho => Nat.le_trans (hs o ho) (by omega)) (by omega) (BT.out.below (B3.out.trans (hW.mono B3.out.size))) WF.out (d := d)
          rwa [e] at this
        clear hn
        go_upto_region 8 with (go_at_call 19; (with_reducible refine RI.out.mono ?_); rintro e w4 ⟨Ah, ch, h, rfl, hh1, hh2, hh3, hh5, hb4⟩)
        refine at_world (S := fun W => Below wc.heap.size wc W ∧ W.cell? ⟨w4.heap.size, 0, none⟩ = some (.slice Ah n ch) ∧ GAt W Ah h ∧ w4.heap.size < W.heap.size) ⟨below_hi hb4 (al _ _), by simp [go_sem], hh2.below (al _ _), by simp⟩ (fun V HV => ?_)
        obtain ⟨hV, xh, hH, zh⟩ := HV
        obtain ⟨hck, hsl, hcn⟩ := UP.out h hh1 hh3
        have BV := Lib.hid hV
        have HH := Lib.hid hH
        have HC := Lib.hid hck
        have HS := Lib.hid hsl
        have HCN := Lib.hid hcn
        have HL := Lib.hid hh1
        have HAH := Lib.hid hh5
        have HVW : Hid (∀ W, Below V.heap.size V W → GAt W Ah h) := fun W hW => HH.out.below hW
        have BVW : Hid (∀ W, Below V.heap.size V W → Below wc.heap.size wc W) := fun W hW => below_hi BV.out hW
        have SE2 : Hid (∀ W, Below V.heap.size V W → Calls Try.prog 12 #[gV Ah n ch, .slice B L.length d] W (GivesI (seenL h L) W)) := fun W hW => SE.out W Ah ch h (BVW.out W hW) HL.out HS.out (HVW.out W hW)
        have WH2 : Hid (∀ W, Below V.heap.size V W → Calls Try.prog 14 #[gV Ah n ch, .slice B L.length d] W (GivesI (whiteL h L) W)) := fun W hW => WH.out W Ah ch h (BVW.out W hW) HL.out HS.out (HVW.out W hW)
        have MR2 : Hid (∀ W, Below V.heap.size V W → Calls Try.prog 20 #[.slice B2 M.length d2] W (GivesI (refsL M) W)) := fun W hW => MR.out W (BVW.out W hW)
        have CX : Hid (∀ W, Below V.heap.size V W → W.cell? ⟨w4.heap.size, 0, none⟩ = some (.slice Ah n ch)) := fun W hW => (hW.cell (p := ⟨w4.heap.size, 0, none⟩) zh).trans xh
        obtain ⟨bh, hbh⟩ : ∃ bh, bh = w4.heap.size := ⟨_, rfl⟩
        rw [← hbh] at xh zh CX ⊢
        clear hV hH hck hsl hcn hh1 hh2 hh3 hh5 hb4 SE WH MR UP RI hbh HS2 x3 t3 hmin hmin2
        go_upto_region 13 with (first
          | (go_at_call 12; (with_reducible refine (SE2.out _ (Below.refl _ _)).mono ?_); rintro e w5 ⟨A5, c5, rfl, i5, hb⟩; have I5 := Lib.hid i5; have x5 := CX.out _ hb; have B5 := Lib.hid hb; clear hb i5)
          | (go_at_call 14; (with_reducible refine (WH2.out _ B5.out).mono ?_); rintro e w6 ⟨A6, c6, rfl, i6, hb⟩; have I6 := Lib.hid i6; have B6 : Hid (Below V.heap.size V w6) := B5.out.trans (hb.mono B5.out.size); have x6 := CX.out _ B6.out; have J5 := Lib.hid (I5.out.below hb); clear hb i6 I5)
          | (go_at_call 20; (with_reducible refine (MR2.out _ B6.out).mono ?_); rintro e w7 ⟨A7, c7, rfl, i7, hb⟩; have I7 := Lib.hid i7; have B7 : Hid (Below V.heap.size V w7) := B6.out.trans (hb.mono B6.out.size); have x7 := CX.out _ B7.out; have K5 := Lib.hid (J5.out.below hb); have K6 := Lib.hid (I6.out.below hb); clear hb i7 J5 I6))
        have S9 : (seenL h L).length ≤ n := by have := seen_len h L; rw [HL.out] at this; exact this
        have R9 : (refsL M).length ≤ 100 := Nat.le_trans (refsL_len M) hm100
        have NG9 := NG.out
        rw [← HN.out] at NG9
        have W9 : (whiteL h L).length ≤ n := by have := white_len h L; rw [HL.out] at this; exact this
        have WL : Hid (∀ k : Nat, (k : Int) + 1 ∈ whiteL h L ↔ (k : Int) + 1 ∈ seenL h L ∧ (k : Int) + 1 ∈ intsOf (fromL h (rootsV h (seenL h L) (refsL M) n) false)) := fun k => by
          have := white_lost HC.out (by rw [HL.out]; exact NG9) HCN.out (l := L) (seen_total HS.out (by rw [HL.out]; exact NG9) L) k
          rwa [HL.out] at this
        have WR := Lib.hid (white_rise h L)
        have WB : Hid (∀ x ∈ whiteL h L, 1 ≤ x ∧ x < (n : Int) + 1) := fun x hx => by
          have := white_le (by rw [HL.out]; exact NG9) hx
          rwa [HL.out] at this
        have FL9 : Hid (∀ l, (intsOf (fromL h l false)).length ≤ n) := fun l => by
          have := from_len h l false
          rwa [HL.out] at this
        obtain ⟨i1, hi1, hv0, hv1, hv2⟩ := info_parts val_info12
        clear SE2 WH2 MR2
        generalize hS : seenL h L = S at *
        generalize hR : refsL M = R at *
        generalize hW : whiteL h L = Wh at *
        clear hS hR hW
        have RY : Hid (∀ q, rootB h S R q = true → rootsV h S R (q + 1) = rootsV h S R q ++ [(kindN h q, (q : Int) + 1)]) := fun q e => rootsV_yes e
        have RN : Hid (∀ q, rootB h S R q = false → rootsV h S R (q + 1) = rootsV h S R q) := fun q e => rootsV_no e
        have RL : Hid (∀ q, (rootsV h S R q).length ≤ q) := fun q => by
          unfold rootsV
          rw [List.length_map]
          exact Nat.le_trans (List.length_filter_le _ _) (by simp)
        have R0 : Hid (rootsV h S R 0 = []) := (rfl : rootsV h S R 0 = [])
        have RB : Hid (∀ q, rootB h S R q = (kindN h q != 0 && (!decide ((q : Int) + 1 ∈ S) || decide ((q : Int) + 1 ∈ R)))) := fun q => rfl
        have KN : Hid (∀ q p, h[q]? = some p → kindN h q = p.kind) := fun q p hp => by unfold kindN; rw [hp]
        generalize rootsV h S R = RV at *
        generalize rootB h S R = rb at *
        generalize kindN h = kn at *
        have LO : Hid (∀ W, Below V.heap.size V W → ∀ (B : Option Addr) (d : Nat) (l : List (Int × Int)), l.length ≤ 900 → PairsAt W B l → Calls Try.prog 22 #[gV Ah n ch, .slice B l.length d] W (GivesI (intsOf (fromL h l false)) W)) := fun W hW B d l hl hp => by
          have := (Lost_any (c := ch) (d := d) (HVW.out W hW) (by rw [HL.out]; exact NG9) (by omega) hp).mono fun e w' h => GivesI.of h
          rwa [HL.out] at this
        go_wp2_with fail
        go_loopg [10, 12, 13] n (fun gg s10 s12 _ wr => ∃ q : Nat, q ≤ n ∧ n - q ≤ gg ∧ s12 = .int .i64 ((q : Int) + 1) ∧ Hid (wr.ownsRow w7.heap.size 41 2 s10 (RV q).length (pairCells (RV q))) ∧ Hid (Below w7.heap.size w7 wr))
        case atStart => exact ⟨0, Nat.zero_le _, by omega, rfl, (show World.ownsRow _ _ _ _ _ _ _ by rw [R0.out]; exact World.ownsRow_nil _ _ _ _), Below.refl _ _⟩
        case round =>
          obtain ⟨q, hq, hgg, rfl, O, BW⟩ := hrel
          have BW7 : Hid (Below V.heap.size V wr) := B7.out.trans (BW.out.mono B7.out.size)
          have x8 := CX.out wr BW7.out
          by_cases hlt : q < n
          · obtain ⟨p, hp⟩ : ∃ p, h[q]? = some p := ⟨_, List.getElem?_eq_getElem (by rw [HL.out]; exact hlt)⟩
            obtain ⟨ad, sA, sc, rfl, hal, ⟨o0, o1, o2, o3, o4⟩, hs⟩ := HVW.out wr BW7.out q p hp
            have hl2 : (ad.add (q * 5)).block < wr.heap.size := by rw [Go.ChangeShapes.block_add]; exact hal
            have e1 : IntKind.i64.wrap ((q : Int) + 1 - 1) = (q : Int) := (IntWalk.i64_in _ (by omega)).trans (by omega)
            have e5 : IntKind.i64.wrap (q : Int) = (q : Int) := IntWalk.i64_in _ (by omega)
            have e4 : (q : Int) < (n : Int) := by omega
            have e6 : (q : Int) + 1 ≤ (n : Int) := by omega
            have CS : Hid (Calls Try.prog 21 #[.slice A5 S.length c5, .int .i64 ((q : Int) + 1)] wr fun e w' => e = .returned (.bool (decide ((q : Int) + 1 ∈ S))) ∧ w' = wr) := has_any (by omega) (K5.out.below BW.out) _
            have CR : Hid (Calls Try.prog 21 #[.slice A7 R.length c7, .int .i64 ((q : Int) + 1)] wr fun e w' => e = .returned (.bool (decide ((q : Int) + 1 ∈ R))) ∧ w' = wr) := has_any (by omega) (I7.out.below BW.out) _
            have KNq := KN.out q p hp
            have RBq := RB.out q
            have RYq := RY.out q
            have RNq := RN.out q
            have RLq := RL.out q
            rw [KNq] at RBq RYq
            rw [RBq] at RYq RNq
            clear hp o1 o2 o3 o4 hs KNq RBq
            generalize hbS : decide ((q : Int) + 1 ∈ S) = bS at *
            generalize hbR : decide ((q : Int) + 1 ∈ R) = bR at *
            clear hbS hbR
            generalize p.kind = kd at *
            have hbw := BW.out.size
            cases hk : (kd != 0) with
            | false =>
              rw [hk] at RNq
              have NO := Lib.hid (RNq rfl)
              clear RYq RNq CS CR
              go_wp2_with fail
              go_roundg (n - (q + 1))
              case measure => omega
              case rel => exact ⟨q + 1, by omega, by omega, by go_num, (show World.ownsRow _ _ _ _ _ _ _ by rw [NO.out]; first | exact O.out | exact O.out.drew | exact O.out.drewN _), (show Below _ _ _ from by first | exact BW.out | exact BW.out.drew | exact below_drewN BW.out _)⟩
            | true =>
              rw [hk] at RYq RNq
              by_cases hno : bS = true ∧ bR = false
              · obtain ⟨rfl, rfl⟩ := hno
                have NO := Lib.hid (RNq rfl)
                clear RYq RNq
                go_wp2_with (first
                  | (go_at_call 21; (with_reducible refine CS.out.mono ?_); rintro e _ ⟨rfl, hww⟩; obtain rfl := hww.symm; clear hww)
                  | (go_at_call 21; (with_reducible refine CR.out.mono ?_); rintro e _ ⟨rfl, hww⟩; obtain rfl := hww.symm; clear hww))
                go_roundg (n - (q + 1))
                case measure => omega
                case rel => exact ⟨q + 1, by omega, by omega, by go_num, (show World.ownsRow _ _ _ _ _ _ _ by rw [NO.out]; exact O.out), BW.out⟩
              · have hyes : (!bS || bR) = true := by cases bS <;> cases bR <;> simp_all
                have Y := Lib.hid (RYq hyes)
                clear RYq RNq
                have RL1 := RLq
                cases bS <;> cases bR
                all_goals first | (exfalso; revert hyes hno; decide) | skip
                all_goals
                  clear hyes hno
                  go_upto_region 17 with (first
                    | (go_at_call 21; (with_reducible refine CS.out.mono ?_); rintro e _ ⟨rfl, hww⟩; obtain rfl := hww.symm; clear hww)
                    | (go_at_call 21; (with_reducible refine CR.out.mono ?_); rintro e _ ⟨rfl, hww⟩; obtain rfl := hww.symm; clear hww))
                  clear CS CR o0 x8 e1 e4 e5 e6 hl2 hal
                  go_wp2_with (at_builtin; refine wpList_append_own _ rfl (.tmp 81) (.tmp 85) _ rfl w7.heap.size 41 i1 _ 2 16 Try.underlying33 hi1 hv0 hv1 hv2 rfl (by decide) _ _ _ rfl (O.out.alloc _) ⟨wr.heap.size, 0, none⟩ 1 1 [iV kd, iV ((q : Int) + 1)] rfl rfl lit_cells12 (by simp [Value.oneCell']) (by unfold maxLen; omega) (by omega) (by simp; omega) ?_; intro v' w8 hown8 hg8 _)
                  have O8 : Hid (w8.ownsRow w7.heap.size 41 2 v' (RV (q + 1)).length (pairCells (RV (q + 1)))) := (show World.ownsRow _ _ _ _ _ _ _ by rw [Y.out, List.length_append, pairCells_snoc]; exact hown8)
                  have B8 : Hid (Below w7.heap.size w7 w8) := (BW.out.alloc BW.out.size _).grown hg8 (by simp; omega) (fun b hb => (O.out.lt b hb).1)
                  clear hown8 hg8
                  go_roundg (n - (q + 1))
                  case measure => omega
                  case rel => exact ⟨q + 1, by omega, by omega, by go_num, O8.out, B8.out⟩
          · have hqn : q = n := by omega
            have O2 := O.out
            rw [hqn] at O2
            obtain ⟨A9, c9, rfl, hp9, -⟩ := pairs_of_own12 O2
            have LX := Lib.hid (LO.out wr BW7.out A9 c9 _ (by have := RL.out n; omega) hp9)
            have K8 := Lib.hid (K5.out.below BW.out)
            have L8 := Lib.hid (K6.out.below BW.out)
            clear O O2 hp9 LO RY RN RB RL R0 hgg hq hlt i1 hi1 hv0 hv1 hv2 I7 K5 K6
            go_upto_region 21 with (go_at_call 22; (with_reducible refine LX.out.mono ?_); rintro e w9 ⟨A10, c10, rfl, i9, hb⟩; have I9 := Lib.hid i9; have B9 : Hid (Below V.heap.size V w9) := BW7.out.trans (hb.mono BW7.out.size); have x9 := CX.out _ B9.out; have K9 := Lib.hid (K8.out.below hb); have L9 := Lib.hid (L8.out.below hb); clear hb i9 K8 L8 LX)
            have FLn : (intsOf (fromL h (RV n) false)).length ≤ n := FL9.out (RV n)
            clear FL9 x8 BW7 BW HVW HCN HS HH
            generalize intsOf (fromL h (RV n) false) = Lo at *
            have BF : Hid (Below w.heap.size w w9) := below_hi B3.out (BVW.out w9 B9.out)
            clear BVW B9 B7 B6 B5 BV
            go_wp2_with fail
            go_loopg [15, 16] n (fun gg s15 s16 wr => ∃ q a : Nat, q ≤ n ∧ n - q ≤ gg ∧ s15 = .int .i64 a ∧ s16 = .int .i64 ((q : Int) + 1) ∧ Hid (AtW Wh ((q : Int) + 1) a) ∧ wr = w9)
            case atStart => exact ⟨0, 0, Nat.zero_le _, by omega, rfl, rfl, AtW.start (fun x hx => (WB.out x hx).1), rfl⟩
            case round =>
              obtain ⟨q, a, hq, hgg, rfl, rfl, AT, hw⟩ := hrel
              obtain rfl := hw.symm
              have haW := AT.out.le
              by_cases hlt : q < n
              · have e6 : (q : Int) + 1 ≤ (n : Int) := by omega
                have CS : Hid (Calls Try.prog 21 #[.slice A5 S.length c5, .int .i64 ((q : Int) + 1)] w9 fun e w' => e = .returned (.bool (decide ((q : Int) + 1 ∈ S))) ∧ w' = w9) := has_any (by omega) K9.out _
                have CL : Hid (Calls Try.prog 21 #[.slice A10 Lo.length c10, .int .i64 ((q : Int) + 1)] w9 fun e w' => e = .returned (.bool (decide ((q : Int) + 1 ∈ Lo))) ∧ w' = w9) := has_any (by omega) I9.out _
                have WLq := WL.out q
                by_cases hin : (q : Int) + 1 ∈ Wh
                · obtain ⟨hS, hL⟩ := WLq.1 hin
                  rw [decide_eq_true hS] at CS
                  rw [decide_eq_true hL] at CL
                  have ha := AT.out.now WR.out hin
                  have haL : a < Wh.length := (List.getElem?_eq_some_iff.1 ha).1
                  have A2 : Hid (AtW Wh (((q + 1 : Nat) : Int) + 1) (a + 1)) := (show AtW Wh (((q + 1 : Nat) : Int) + 1) (a + 1) by rw [show (((q + 1 : Nat) : Int)) = (q : Int) + 1 by omega]; exact AT.out.yes WR.out hin)
                  obtain ⟨aw, e, hal, hcx⟩ := L9.out a _ ha
                  subst e
                  have hl2 : (aw.add a).block < w9.heap.size := by rw [Go.ChangeShapes.block_add]; exact hal
                  have f1 : (a : Int) < (Wh.length : Int) := by omega
                  clear hS hL ha hin WLq
                  go_wp2_with (first
                    | (go_at_call 21; (with_reducible refine CS.out.mono ?_); rintro e _ ⟨rfl, hww⟩; obtain rfl := hww.symm; clear hww)
                    | (go_at_call 21; (with_reducible refine CL.out.mono ?_); rintro e _ ⟨rfl, hww⟩; obtain rfl := hww.symm; clear hww))
                  go_roundg (n - (q + 1))
                  case measure => omega
                  case rel => exact ⟨q + 1, a + 1, by omega, by omega, by go_num, by go_num, A2.out, rfl⟩
                · have A2 : Hid (AtW Wh (((q + 1 : Nat) : Int) + 1) a) := (show AtW Wh (((q + 1 : Nat) : Int) + 1) a by rw [show (((q + 1 : Nat) : Int)) = (q : Int) + 1 by omega]; exact AT.out.no hin)
                  by_cases hS : (q : Int) + 1 ∈ S
                  · have hL : (q : Int) + 1 ∉ Lo := fun h => hin (WLq.2 ⟨hS, h⟩)
                    rw [decide_eq_true hS] at CS
                    rw [decide_eq_false hL] at CL
                    clear hS hL hin WLq
                    go_wp2_with (first
                      | (go_at_call 21; (with_reducible refine CS.out.mono ?_); rintro e _ ⟨rfl, hww⟩; obtain rfl := hww.symm; clear hww)
                      | (go_at_call 21; (with_reducible refine CL.out.mono ?_); rintro e _ ⟨rfl, hww⟩; obtain rfl := hww.symm; clear hww))
                    go_roundg (n - (q + 1))
                    case measure => omega
                    case rel => exact ⟨q + 1, a, by omega, by omega, rfl, by go_num, A2.out, rfl⟩
                  · rw [decide_eq_false hS] at CS
                    clear hS hin WLq CL
                    go_wp2_with (go_at_call 21; (with_reducible refine CS.out.mono ?_); rintro e _ ⟨rfl, hww⟩; obtain rfl := hww.symm; clear hww)
                    go_roundg (n - (q + 1))
                    case measure => omega
                    case rel => exact ⟨q + 1, a, by omega, by omega, rfl, by go_num, A2.out, rfl⟩
              · have hqn : q = n := by omega
                subst hqn
                have hd := AT.out.done (fun x hx => (WB.out x hx).2)
                have f1 : (a : Int) = (Wh.length : Int) := by omega
                clear AT WB WL WR
                go_wp2_with fail
                go_ret
                exact ⟨by simp, BF.out⟩
theorem own : ownKnob Try.prog.godebug = none := by kernel_rfl
theorem laidOut : laidOutB Try.prog = true := by kernel_rfl
set_option maxRecDepth 100000 in
theorem contract (H : Type) (enc : TypeId × Value → H) (W : World) (base : Nat) (args : Array Value) (ds gs : List (DataW H)) (before : List MemPlace)
    (hval : ∀ (j : Nat) t v, Try.f5.params[j]? = some t → args[j]? = some v → Value.okWide Try.prog W .any base t v)
    (hW : DataW.Whole enc Try.prog Try.f5.params.toList Rows.trialRightSpec.vars false W args.toList ds gs before)
    (hsz0 : (DataW.weightsEach Try.prog (Try.f5.params.toList ++ Rows.trialRightSpec.plain.varTypes Try.prog) (ds ++ gs)).all (· ≤ reachBytes) = true) :
    Calls Try.prog 5 args W fun e W' => ∃ v, e = .returned v ∧ Rows.trialRightSpec.post enc Try.prog Try.f5 false true false false W args v W' := by
  have hW' := hW
  obtain ⟨p, q, hA0, hV, rfl, hfz, hnd⟩ := hW
  have hA : DataW.TrodAll enc Try.prog W 0 (fun _ => true) true Try.f5.params.toList args.toList ds p := hA0
  have hsz := hsz0
  rw [Try.params5] at hA hval hsz
  obtain ⟨v0, vs0, d0, ds0, p0, q0, hargs, rfl, rfl, h0, r0⟩ := trodAll_cons hA
  obtain ⟨v1, vs1, d1, ds1, p1, q1, rfl, rfl, rfl, h1, r1⟩ := trodAll_cons r0
  obtain ⟨v2, vs2, d2, ds2, p2, q2, rfl, rfl, rfl, h2, r2⟩ := trodAll_cons r1
  obtain ⟨rfl, rfl, rfl⟩ := trodAll_nil r2
  obtain rfl : args = #[v0, v1, v2] := by cases args; simp_all
  obtain ⟨rfl, rfl⟩ := trodVars_none hV
  obtain ⟨A0, c0, l0, rfl, t0, w0, z0⟩ := open_graph_d (hval 0 24 v0 rfl rfl) h0 (size_of hsz (j := 0) rfl rfl)
  obtain ⟨A1, c1, l1, rfl, q1, w1, z1⟩ := open_ints_c (hval 1 25 v1 rfl rfl) h1 (size_of hsz (j := 1) rfl rfl)
  obtain ⟨A2, c2, l2, rfl, q2, w2, z2⟩ := open_more_c (hval 2 33 v2 rfl rfl) h2 (size_of hsz (j := 2) rfl rfl)
  clear hA0 hsz hsz0
  simp only [List.append_nil] at hW'
  refine (walk A0 c0 l0 A1 c1 l1 A2 c2 l2 t0 z0 z1 q1 z2 q2 W w0 w1 w2).mono fun e W' ⟨he, hb⟩ => ?_
  subst he
  exact ⟨_, rfl, law_post laidOut (by kernel_rfl) (by kernel_rfl) Try.underlying4 hW' hb rfl⟩

set_option maxRecDepth 100000 in
theorem lifted (os : Os) (started : os.Started) (H : Type) (enc : TypeId × Value → H) :
    ReturnsInHanded {} Try.checked os 5 .any (Rows.trialRightSpec.pre6 enc Try.prog Try.f5 Rows.trialRightRow.domain false) (Rows.trialRightSpec.post enc Try.prog Try.f5 false true false false) := by
  refine returnsInHanded_of_change_sized (C := Try.checked) own started (by kernel_rfl) Try.func5
    (ChangeSpec.witness6 (enc := enc) (C := Try.checked) false ⟨#[], #[.agg #[.slice none 0 0], .slice none 0 0, .slice none 0 0], []⟩ 8 (by kernel_rfl) (by kernel_rfl) (by kernel_rfl) (by kernel_rfl)) ?_
  intro W base args ds gs before hval hW _ hsz _
  exact contract H enc W base args ds gs before hval hW hsz
/-- The row. -/
theorem holds : Rows.TrialRightSaid :=
  OpenClaim.holds_of_wide 5 Try.f5 rfl rfl rfl rfl rfl rfl rfl ⟨rfl, rfl, rfl, rfl, rfl⟩ rfl rfl rfl rfl rfl (by kernel_rfl) Try.func5 (by kernel_rfl)
    (of_decide_eq_true (by kernel_rfl)) (by unfold Func.isWrapper; first | (rw [if_pos (by decide +kernel)]; kernel_rfl) | (rw [if_neg (by decide +kernel)]; exact ⟨rfl, rfl⟩))
    (fun os started H enc _ => lifted os started H enc)
end Go.Proofs.Ytjlobjgemhapaaa.trialRight
