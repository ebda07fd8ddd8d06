/- TrialWhole: where counts are what slots hold, and all are suspects, all but strings are white; and where nothing is marked, all that is white is gone: for any graph. Conditions: none but the form's own reach. -/
import Derived.Test.YtjlobjgemhapaaaTrWorks
import Derived.Test.YtjlobjgemhapaaaTrOpenD
import Derived.Test.YtjlobjgemhapaaaTrWholeM
import Derived.Test.YtjlobjgemhapaaaTrRightO
import Derived.Test.YtjlobjgemhapaaaTrRightG
import Derived.Test.YtjlobjgemhapaaaOldV
import Derived.ProofKit
import Derived.BigQuiet
import Derived.Deep.LoopGhost
import Derived.Deep.DeepCutAuto
import Derived.Deep.RegionHeld3
import Derived.Deep.RegionLaw
import Derived.IntWalk
namespace Go.Proofs.Ytjlobjgemhapaaa.trialWhole
set_option maxRecDepth 20000
open Go.ChangeShapes Go.WideShapes Go.ChangeAt Go.RowKit Go.Maps Go.Sort Go.Proofs.Ytjlobjgemhapaaa.trRight

theorem slots_sum {g : List OB} {m : Nat} (h : ∀ o ∈ g, o.slots.length ≤ m) (hm : g.length * m ≤ 1048576 ∨ g.length ≤ 500 ∧ m = 2000) : (g.map fun o => o.slots.length).sum ≤ 1048576 := by
  have key : ∀ l : List OB, (∀ o ∈ l, o.slots.length ≤ m) → (l.map fun o => o.slots.length).sum ≤ l.length * m := by
    intro l
    induction l with
    | nil => intro _; simp
    | cons o r ih =>
      intro h
      have h1 := h o (List.mem_cons_self ..)
      have h2 := ih fun x hx => h x (List.mem_cons_of_mem _ hx)
      simp only [List.map_cons, List.sum_cons, List.length_cons, Nat.succ_mul]
      omega
  have := key g h
  rcases hm with hm | ⟨h1, rfl⟩
  · omega
  · omega
/-- The objects k, in an own row b of the world, or none at all. -/
def HX (w0 w : World) (A : Option Addr) (k : List OB) : Prop := (A = none ∧ k = []) ∨ ∃ b, A = some ⟨b, 0, none⟩ ∧ b < w.heap.size ∧ HAt w0 w b k
theorem HX.graph {w0 w : World} {A : Option Addr} {k : List OB} (H : HX w0 w A k) (hb : Below w0.heap.size w0 w) : GAt w A k := by
  rcases H with ⟨_, rfl⟩ | ⟨b, rfl, _, h⟩
  · intro i o ho; simp at ho
  · exact h.graph hb
theorem HX.below {w0 w w' : World} {A : Option Addr} {k : List OB} (H : HX w0 w A k) (hb : Below w.heap.size w w') : HX w0 w' A k := by
  rcases H with h | ⟨b, h1, h2, h3⟩
  · exact .inl h
  · exact .inr ⟨b, h1, Nat.lt_of_lt_of_le h2 hb.size, h3.keep (hb.block b h2)⟩
theorem HX.lt {w0 w : World} {A : Option Addr} {k : List OB} (H : HX w0 w A k) : ∀ b, A.map (·.block) = some b → w0.heap.size ≤ b ∧ b < w.heap.size := by
  rcases H with ⟨rfl, _⟩ | ⟨b, rfl, h2, h3⟩
  · intro b h; cases h
  · intro b' h; injection h with h; subst h; exact ⟨h3.1, h2⟩
theorem right_hx {A : Option Addr} {c : Nat} {g : List OB} {B : Option Addr} {d : Nat} {more : List (Int × Int)} (hA : A = none → c = 0) (hn : g.length ≤ 900) (hb1 : (g.map fun o => o.slots.length).sum ≤ 1048576) (hb2 : more.length ≤ 1048576) (hc : checkB g = true) {w : World} (hg : GAt w A g) (hB : PairsAt w B more) :
    Calls Try.prog 19 #[gV A g.length c, .slice B more.length d] w fun e w' => ∃ Ah ch h, e = .returned (gV Ah g.length ch) ∧ h.length = g.length ∧ HX w w' Ah h ∧ StO g (refsL more) g.length h ∧ Below w.heap.size w w' := by
  by_cases hne : g = []
  · subst hne
    refine (right_none hb2 hA hB).mono ?_
    rintro e w' ⟨rfl, hb⟩
    exact ⟨none, 0, [], rfl, rfl, .inl ⟨rfl, rfl⟩, ⟨(StO.start [] (refsL more)).like, fun i p _ hp => by simp at hp⟩, hb⟩
  · refine (right_some hn hb1 hb2 hc hne hg hB).mono ?_
    rintro e w' ⟨b, cap, h, rfl, h1, h2, h3, h4, hb⟩
    exact ⟨_, cap, h, rfl, h1, .inr ⟨b, rfl, h4, h2⟩, h3, hb⟩
set_option maxHeartbeats 16000000 in
theorem walk (A : Option Addr) (c : Nat) (g : List OB) (hA : A = none → c = 0) (hz : g.length * 64 ≤ 140737488351232) (w : World) (hg : GAtC w A g) :
    Calls Try.prog 6 #[.agg #[.slice A g.length c]] w fun e w' => e = .returned (.bool true) ∧ Below w.heap.size w w' := by
  obtain ⟨i0, hi, hz0, hz1, hz2⟩ := info_parts int_info
  have G := Lib.hid hg.at
  have HA := Lib.hid hA
  clear hg hA
  by_cases hbig : 100 < g.length
  · have z1 : (100 : Int) < (g.length : Int) := by omega
    clear G HA
    generalize g.length = n at *
    go_enter Try.func6, Try.ntmps6
    go_wp2_with (go_at_call 10; (with_reducible refine (works_true _).mono ?_); rintro e w1 ⟨rfl, hb⟩; have B1 := Lib.hid (below_box hb); have x1 := boxed hb (j := 0) rfl; clear hb)
    go_ret
    exact ⟨rfl, B1.out⟩
  · have z1 : ¬ (100 : Int) < (g.length : Int) := by omega
    have hn900 : g.length ≤ 900 := by omega
    have SL : Hid (∀ W, Below w.heap.size w W → Calls Try.prog 9 #[gV A g.length c] W fun e w' => (∃ z : Int, e = .returned (iV z) ∧ (¬ 2000 < z → ∀ o ∈ g, o.slots.length ≤ 2000)) ∧ Below W.heap.size W w') := fun W hW => slots_any (G.out.below hW) (by omega)
    have CK : Hid (∀ W, Below w.heap.size w W → Calls Try.prog 18 #[gV A g.length c] W fun e w' => e = .returned (.bool (checkB g)) ∧ Below W.heap.size W w') := fun W hW => Check_any (G.out.below hW) (by omega)
    have NG : Hid (g.length ≤ 900) := hn900
    obtain ⟨n, hn⟩ : ∃ n, n = g.length := ⟨_, rfl⟩
    have HN := Lib.hid hn
    rw [← hn] at z1 SL CK ⊢
    clear hn hbig hz
    go_enter Try.func6, Try.ntmps6
    have d1 : decide ((100 : Int) < (n : Int)) = false := decide_eq_false z1
    go_upto_region 3 with (go_at_call 10; (with_reducible refine (works_true _).mono ?_); rintro e w1 ⟨rfl, hb⟩; have B1 := Lib.hid (below_box hb); have x1 := boxed hb (j := 0) rfl; have t1 : w.heap.size < w1.heap.size := World.block_lt_of_cell? w1 _ x1; clear hb)
    go_cut [26] (fun s32 wx => ∃ bb : Bool, s32 = .bool bb ∧ Hid (Below w.heap.size w wx ∧ wx.cell? ⟨w.heap.size, 0, none⟩ = some (.slice A n c)) ∧ Hid (bb = false → (∀ o ∈ g, o.slots.length ≤ 2000) ∧ checkB g = true))
    case first =>
      go_wp2_with fail
      (with_reducible refine (SL.out w1 B1.out).mono ?_)
      rintro e w2 ⟨⟨z, rfl, hzs⟩, hb⟩
      have B2 := Lib.hid (B1.out.trans (hb.mono B1.out.size))
      have x2 := (hb.cell (p := ⟨w.heap.size, 0, none⟩) t1).trans x1
      have t2 : w.heap.size < w2.heap.size := Nat.lt_of_lt_of_le t1 hb.size
      have ZS := Lib.hid hzs
      clear hb hzs
      by_cases hz2 : 2000 < z
      · have dz : decide (2000 < z) = true := decide_eq_true hz2
        clear ZS
        go_wp2_with fail
        go_meet
        exact ⟨true, rfl, ⟨B2.out, x2⟩, fun h => by cases h⟩
      · have dz : decide (2000 < z) = false := decide_eq_false hz2
        go_wp2_with (go_at_call 18; (with_reducible refine (CK.out w2 B2.out).mono ?_); rintro e w3 ⟨rfl, hb⟩; have B3 := Lib.hid (B2.out.trans (hb.mono B2.out.size)); have x3 := (hb.cell (p := ⟨w.heap.size, 0, none⟩) t2).trans x2; clear hb)
        go_meet
        exact ⟨!checkB g, rfl, ⟨B3.out, x3⟩, fun h => ⟨ZS.out hz2, by simpa using h⟩⟩
    case rest =>
      clear x1 t1 B1 SL CK
      obtain ⟨bb, rfl, HXX, HS⟩ := hcut
      obtain ⟨hB3, x3⟩ := HXX.out
      have B3 := Lib.hid hB3
      have t3 : w.heap.size < wc.heap.size := World.block_lt_of_cell? wc _ x3
      clear hB3 HXX
      cases bb with
      | true =>
        go_wp2_with fail
        go_ret
        exact ⟨rfl, B3.out⟩
      | false =>
        obtain ⟨hs2, hck⟩ := HS.out rfl
        have HS2 := Lib.hid hs2
        have HCK := Lib.hid hck
        clear HS hs2 hck
        have hn := HN.out
        have RI : Hid (Calls Try.prog 19 #[gV A n c, .slice none 0 0] wc fun e w' => ∃ Ah ch h, e = .returned (gV Ah n ch) ∧ h.length = n ∧ HX wc w' Ah h ∧ StO g [] n h ∧ Below wc.heap.size wc w') := by
          have := right_hx (c := c) (d := 0) (B := none) (more := []) HA.out NG.out (slots_sum (m := 2000) HS2.out (.inr ⟨by omega, rfl⟩)) (by decide) HCK.out (G.out.below B3.out) (fun i p hp => by simp at hp) (w := wc)
          rwa [← hn] at this
        have UP : Hid (∀ h : List OB, h.length = n → StO g [] n h → checkB h = true ∧ (∀ o ∈ h, o.slots.length ≤ 2000) ∧ ∀ (i : Nat) p, h[i]? = some p → p.kind ≠ 0 → p.count = ((allRefs h).count ((i : Int) + 1) : Int)) := fun h e H => by
          obtain ⟨h1, h2, h3⟩ := right_up HCK.out HS2.out e H
          exact ⟨h1, h2, fun i p hp hk => by rw [h3 i p hp hk]; simp⟩
        clear hn
        go_upto_region 6 with (go_at_call 19; (with_reducible refine RI.out.mono ?_); rintro e w4 ⟨Ah, ch, h, rfl, hh1, hh2, hh3, hb4⟩)
        refine at_world (S := fun W => Below wc.heap.size wc W ∧ W.cell? ⟨w4.heap.size, 0, none⟩ = some (.slice Ah n ch) ∧ HX wc W Ah h ∧ w4.heap.size < W.heap.size ∧ ∀ b, Ah.map (·.block) = some b → b < w4.heap.size) ⟨below_hi hb4 (al _ _), by simp [go_sem], hh2.below (al _ _), by simp, fun b e => (hh2.lt b e).2⟩ (fun V HV => ?_)
        obtain ⟨hV, xh, hH, zh, hbl⟩ := HV
        obtain ⟨hck, hsl, hcn⟩ := UP.out h hh1 hh3
        have BV := Lib.hid hV
        have HH := Lib.hid hH
        have HC := Lib.hid hck
        have HS := Lib.hid hsl
        have HCN := Lib.hid hcn
        have HL := Lib.hid hh1
        have HB := Lib.hid hbl
        have NG9 := NG.out
        rw [← HN.out] at NG9
        obtain ⟨bh, hbh⟩ : ∃ bh, bh = w4.heap.size := ⟨_, rfl⟩
        rw [← hbh] at xh zh HB ⊢
        have BF : Hid (∀ W, Below V.heap.size V W → Below w.heap.size w W) := fun W hW => below_hi (below_hi B3.out BV.out) hW
        have BW : Hid (∀ W, Below V.heap.size V W → Below wc.heap.size wc W) := fun W hW => below_hi BV.out hW
        have CX : Hid (∀ W, Below V.heap.size V W → W.cell? ⟨bh, 0, none⟩ = some (.slice Ah n ch)) := fun W hW => (hW.cell (p := ⟨bh, 0, none⟩) zh).trans xh
        have WH : Hid (∀ W B d, Below V.heap.size V W → IntsAt W B (downL n n) → Calls Try.prog 14 #[gV Ah n ch, .slice B n d] W (GivesIH (whiteL h (downL n n)) W)) := fun W B d hW hi => by
          have := White_hi (c := ch) (d := d) ((HH.out.below hW).graph (BW.out W hW)) (by rw [HL.out]; exact NG9) (fun o ho => Nat.le_trans (HS.out o ho) (by omega)) (by rw [downL_len]; omega) hi (downL_wf n n NG9 (Nat.le_refl n))
          rwa [HL.out, downL_len] at this
        have WI : Hid (∀ x, x ∈ whiteL h (downL n n) ↔ looksB h x = true) := white_all HC.out (by rw [HL.out]; exact NG9) HCN.out (fun k hk => downL_has (by rw [← HL.out]; exact hk)) (seen_total HS.out (by rw [HL.out]; exact NG9) _)
        have WR := Lib.hid (white_rise h (downL n n))
        have W9 : (whiteL h (downL n n)).length ≤ n := by have := white_len h (downL n n); rw [HL.out] at this; exact this
        have WB : Hid (∀ x ∈ whiteL h (downL n n), 1 ≤ x ∧ x < (n : Int) + 1) := fun x hx => by
          have := white_le (by rw [HL.out]; exact NG9) hx
          rwa [HL.out] at this
        generalize whiteL h (downL n n) = Wh at *
        clear hV hH hck hsl hcn hh1 hh2 hh3 hb4 hbl UP RI hbh HS2 x3 t3 HCN
        go_wp2_with fail
        have DL : Hid (∀ q, downL n (q + 1) = downL n q ++ [(n : Int) - q]) := downL_snoc n
        have DN : Hid (∀ q, (downL n q).length = q) := downL_len n
        have D0 : Hid (downL n 0 = []) := (rfl : downL n 0 = [])
        generalize downL n = DW at *
        go_loopg [4, 5] n (fun gg s4 s5 wr => ∃ q : Nat, q ≤ n ∧ n - q ≤ gg ∧ s5 = .int .i64 ((n : Int) - q) ∧ Hid (wr.ownsRow V.heap.size 3 1 s4 q ((DW q).map (Value.int .i64))) ∧ Hid (Below V.heap.size V wr))
        case atStart => exact ⟨0, Nat.zero_le _, by omega, by go_num, (show World.ownsRow _ _ _ _ _ _ _ by rw [D0.out]; exact World.ownsRow_nil _ _ _ _), Below.refl _ _⟩
        case round =>
          obtain ⟨q, hq, hgg, rfl, O, BR⟩ := hrel
          by_cases hlt : q < n
          · have e1 : (0 : Int) < (n : Int) - q := by omega
            have e2 : IntKind.i64.wrap ((n : Int) - q - 1) = (n : Int) - q - 1 := IntWalk.i64_in _ (by omega)
            have hbw := BR.out.size
            go_wp2_with (at_builtin; refine wpList_append_own _ rfl (.tmp 36) (.tmp 38) _ rfl V.heap.size 3 i0 _ 1 8 Try.underlying25 hi hz0 hz1 hz2 rfl (by decide) _ _ _ rfl (O.out.alloc _) ⟨wr.heap.size, 0, none⟩ 1 1 [.int .i64 ((n : Int) - q)] rfl rfl one_cell (by simp [Value.oneCell']) (by unfold maxLen; omega) (by omega) (by simp; omega) ?_; intro v' w8 hown8 hg8 _)
            have O8 : Hid (w8.ownsRow V.heap.size 3 1 v' (q + 1) ((DW (q + 1)).map (Value.int .i64))) := (show World.ownsRow _ _ _ _ _ _ _ by rw [DL.out, List.map_append]; exact hown8)
            have B8 : Hid (Below V.heap.size V w8) := (BR.out.alloc BR.out.size _).grown hg8 (by simp; omega) (fun b hb => (O.out.lt b hb).1)
            clear hown8 hg8
            go_roundg (n - (q + 1))
            case measure => omega
            case rel => exact ⟨q + 1, by omega, by omega, by go_num, O8.out, B8.out⟩
          · have hqn : q = n := by omega
            obtain rfl := hqn.symm
            have xr := CX.out wr BR.out
            obtain ⟨A5, c5, rfl, i5⟩ := ints_of_own (xs := DW n) (by rw [DN.out]; exact O.out)
            have C5 := Lib.hid (WH.out wr A5 c5 BR.out i5)
            clear O i5 WH DL D0
            rw [DN.out]
            have HHr := Lib.hid (HH.out.below BR.out)
            clear HH
            go_upto_region 14 with (go_at_call 14; (with_reducible refine C5.out.mono ?_); rintro e Y ⟨A6, c6, rfl, i6, hi6, hb⟩; have I6 := Lib.hid i6; have J6 := Lib.hid hi6; have H6 := Lib.hid (HHr.out.below hb); have BY : Hid (Below V.heap.size V Y) := BR.out.trans (hb.mono BR.out.size); clear hb i6 hi6 C5 HHr)
            have JB : Hid (∀ b, Ah.map (·.block) = some b → b < bh ∧ ∀ a, A6 = some a → bh < a.block) := fun b e => ⟨HB.out b e, fun a ha => by have := J6.out a ha; have := BR.out.size; omega⟩
            have zY : bh < Y.heap.size := Nat.lt_of_lt_of_le zh BY.out.size
            have xY := CX.out Y BY.out
            have BYc := Lib.hid (BW.out Y BY.out)
            have BYw := Lib.hid (BF.out Y BY.out)
            have KX : Hid (∀ W, Y.grownBy W (Ah.map (·.block)) → W.cell? ⟨bh, 0, none⟩ = some (.slice Ah n ch) ∧ IntsAt W A6 Wh ∧ Below w.heap.size w W ∧ Below wc.heap.size wc W) := fun W hW => by
              have fr : ∀ k, k < Y.heap.size → bh ≤ k → W.heap[k]? = Y.heap[k]? := fun k hk hle => hW.block k hk (fun e => by have := (JB.out k e.symm).1; omega)
              have lo : ∀ b, Ah.map (·.block) = some b → wc.heap.size ≤ b := fun b e => (H6.out.lt b e).1
              refine ⟨?_, fun i x hx => ?_, ?_, ?_⟩
              · have := fr bh zY (Nat.le_refl _)
                simp only [World.cell?, this]
                exact xY
              · obtain ⟨ad, e, hl, hcc⟩ := I6.out i x hx
                have hbk : (ad.add i).block = ad.block := Go.ChangeShapes.block_add _ _
                have h2 : bh < ad.block := by have := J6.out ad e; have := BR.out.size; omega
                refine ⟨ad, e, Nat.lt_of_lt_of_le hl hW.size, ?_⟩
                have := fr (ad.add i).block (by rw [hbk]; exact hl) (by rw [hbk]; omega)
                simp only [World.cell?, this]
                exact hcc
              · exact ⟨hW.os.trans BYw.out.os, hW.tape.trans BYw.out.tape, hW.output.trans BYw.out.output, Nat.le_trans BYw.out.size hW.size, fun k hk => (hW.block k (Nat.lt_of_lt_of_le hk BYw.out.size) (fun e => by have := lo k e.symm; have := B3.out.size; omega)).trans (BYw.out.block k hk)⟩
              · exact ⟨hW.os.trans BYc.out.os, hW.tape.trans BYc.out.tape, hW.output.trans BYc.out.output, Nat.le_trans BYc.out.size hW.size, fun k hk => (hW.block k (Nat.lt_of_lt_of_le hk BYc.out.size) (fun e => by have := lo k e.symm; omega)).trans (BYc.out.block k hk)⟩
            clear xY zY BY BYc BYw BF BW CX xr zh JB J6 I6
            go_wp2_with fail
            go_loopg [7, 8] n (fun gg s7 s8 wr => ∃ (q a : Nat) (k : List OB), q ≤ n ∧ n - q ≤ gg ∧ s7 = .int .i64 a ∧ s8 = .int .i64 ((q : Int) + 1) ∧ Hid (AtW Wh ((q : Int) + 1) a) ∧ Hid (Clip h q k) ∧ Hid (HX wc wr Ah k) ∧ Hid (Y.grownBy wr (Ah.map (·.block))))
            case atStart => exact ⟨0, 0, h, Nat.zero_le _, by omega, rfl, rfl, AtW.start (fun x hx => (WB.out x hx).1), Clip.start h, H6.out, ⟨rfl, rfl, rfl, Nat.le_refl _, fun _ _ _ => rfl⟩⟩
            case round =>
              obtain ⟨q, a, k, hq, hgg, rfl, rfl, AT, CP, HK, GW⟩ := hrel
              obtain ⟨xr, hin6, hbw, hbc⟩ := KX.out wr GW.out
              have haW := AT.out.le
              by_cases hlt : q < n
              · obtain ⟨o, ho⟩ : ∃ o, h[q]? = some o := ⟨_, List.getElem?_eq_getElem (by rw [HL.out]; exact hlt)⟩
                have hk := CP.out.now ho
                have CP2 := Lib.hid (CP.out.set ho)
                have LK := looks_at ho
                rcases HK.out with ⟨_, e⟩ | ⟨b, eA, hbl, hH⟩
                · rw [e] at hk; simp at hk
                · subst eA
                  obtain ⟨sA, sc, ⟨o0, o1, o2, o3, o4⟩, hs⟩ := hH.2.2 q o hk
                  have fz := hH.2.1 (q * 5 + 4)
                  have H2 := Lib.hid (hH.setMark hk (min o.mark 0))
                  have G2 := Lib.hid (g_set (j := q * 5 + 4) GW.out (iV (min o.mark 0)))
                  simp only at o4
                  have WIq := WI.out ((q : Int) + 1)
                  rw [LK, decide_eq_true_iff] at WIq
                  have e1 : IntKind.i64.wrap ((q : Int) + 1 - 1) = (q : Int) := (IntWalk.i64_in _ (by omega)).trans (by omega)
                  have e5 : IntKind.i64.wrap (q : Int) = (q : Int) := IntWalk.i64_in _ (by omega)
                  have e4 : (q : Int) < (n : Int) := by omega
                  have e6 : (q : Int) + 1 ≤ (n : Int) := by omega
                  clear o1 o2 o3 hs hH hk ho LK HK CP
                  by_cases h5 : 5 < o.kind
                  · have hin := WIq.2 h5
                    have ha := AT.out.now WR.out hin
                    have haL : a < Wh.length := (List.getElem?_eq_some_iff.1 ha).1
                    have A2 : Hid (AtW Wh (((q + 1 : Nat) : Int) + 1) (a + 1)) := (show AtW Wh (((q + 1 : Nat) : Int) + 1) (a + 1) by rw [show (((q + 1 : Nat) : Int)) = (q : Int) + 1 by omega]; exact AT.out.yes WR.out hin)
                    obtain ⟨aw, e, hal, hcx⟩ := hin6 a _ ha
                    subst e
                    have hl2 : (aw.add a).block < wr.heap.size := by rw [Go.ChangeShapes.block_add]; exact hal
                    have f1 : (a : Int) < (Wh.length : Int) := by omega
                    clear ha hin WIq hin6
                    go_upto_region 20 with fail
                    go_region
                    go_wp2_with fail
                    go_roundg (n - (q + 1))
                    case measure => omega
                    case rel => exact ⟨q + 1, a + 1, _, by omega, by omega, by go_num, by go_num, A2.out, CP2.out, .inr ⟨b, rfl, by simpa using hbl, H2.out⟩, grown_drew G2.out⟩
                  · have hni : (q : Int) + 1 ∉ Wh := fun h => h5 (WIq.1 h)
                    have A2 : Hid (AtW Wh (((q + 1 : Nat) : Int) + 1) a) := (show AtW Wh (((q + 1 : Nat) : Int) + 1) a by rw [show (((q + 1 : Nat) : Int)) = (q : Int) + 1 by omega]; exact AT.out.no hni)
                    clear hni WIq hin6
                    go_upto_region 20 with fail
                    go_region
                    go_wp2_with fail
                    go_roundg (n - (q + 1))
                    case measure => omega
                    case rel => exact ⟨q + 1, a, _, by omega, by omega, by go_num, by go_num, A2.out, CP2.out, .inr ⟨b, rfl, by simpa using hbl, H2.out⟩, grown_drew G2.out⟩
              · have hqn : q = n := by omega
                obtain rfl := hqn.symm
                have hd := AT.out.done (fun x hx => (WB.out x hx).2)
                have f1 : (a : Int) = (Wh.length : Int) := by omega
                have CPn := CP.out
                rw [← HL.out] at CPn
                have ek := CPn.done
                have HKo := HK.out
                rw [ek] at HKo
                have GO : Hid (Calls Try.prog 16 #[gV Ah n ch, .slice A6 Wh.length c6] wr (GivesTwo Wh [] wr)) := by
                  have hlen : (h.map clipO).length = n := by rw [List.length_map]; exact HL.out
                  have hWl : ∀ x, x ∈ Wh ↔ looksB (h.map clipO) x = true := fun x => by rw [clip_looks]; exact WI.out x
                  have := Gone_whole (c := ch) (d := c6) (HKo.graph hbc) (by rw [hlen]; exact NG9) (fun o ho => by
                    obtain ⟨p, hp, rfl⟩ := List.mem_map.1 ho
                    have := HS.out p hp
                    exact Nat.le_trans this (by omega)) (clip_check HC.out) (by omega) hin6
                  rw [gone_all (by rw [hlen]; exact NG9) WR.out hWl (clip_marks h), marks_none (clip_marks h), hlen, show markS (h.map clipO) [] = [] by simp [markS]] at this
                  exact this
                have I6 := Lib.hid hin6
                have BX := Lib.hid hbw
                clear AT CP HK CPn ek HKo WB WI WR HS HC HL HB KX H6 hin6 hbw hbc GW
                go_wp2_with (first
                  | (go_at_call 16; (with_reducible refine GO.out.mono ?_); rintro e w9 ⟨A8, c8, A9, c9, rfl, i8, i9, hb, -, -⟩; have B9 := Lib.hid (BX.out.trans (hb.mono BX.out.size)); have I8 := Lib.hid i8; have I9 := Lib.hid (I6.out.below hb); clear hb i8 i9)
                  | (go_at_call 23; (with_reducible refine (lints_any A8 A6 c8 c6 Wh w9 (by omega) I8.out I9.out).mono ?_); rintro e w10 ⟨rfl, hb⟩; have B10 := Lib.hid (B9.out.trans (hb.mono B9.out.size)); clear hb))
                go_ret
                exact ⟨by simp, B10.out⟩
theorem own : ownKnob Try.prog.godebug = none := by kernel_rfl
theorem laidOut : laidOutB Try.prog = true := by kernel_rfl
set_option maxRecDepth 100000 in
theorem contract (H : Type) (enc : TypeId × Value → H) (W : World) (base : Nat) (args : Array Value) (ds gs : List (DataW H)) (before : List MemPlace)
    (hval : ∀ (j : Nat) t v, Try.f6.params[j]? = some t → args[j]? = some v → Value.okWide Try.prog W .any base t v)
    (hW : DataW.Whole enc Try.prog Try.f6.params.toList Rows.trialWholeSpec.vars false W args.toList ds gs before)
    (hsz0 : (DataW.weightsEach Try.prog (Try.f6.params.toList ++ Rows.trialWholeSpec.plain.varTypes Try.prog) (ds ++ gs)).all (· ≤ reachBytes) = true) :
    Calls Try.prog 6 args W fun e W' => ∃ v, e = .returned v ∧ Rows.trialWholeSpec.post enc Try.prog Try.f6 false true false false W args v W' := by
  have hW' := hW
  obtain ⟨p, q, hA0, hV, rfl, hfz, hnd⟩ := hW
  have hA : DataW.TrodAll enc Try.prog W 0 (fun _ => true) true Try.f6.params.toList args.toList ds p := hA0
  have hsz := hsz0
  rw [Try.params6] at hA hval hsz
  obtain ⟨v0, vs0, d0, ds0, p0, q0, hargs, rfl, rfl, h0, r0⟩ := trodAll_cons hA
  obtain ⟨rfl, rfl, rfl⟩ := trodAll_nil r0
  obtain rfl : args = #[v0] := by cases args; simp_all
  obtain ⟨rfl, rfl⟩ := trodVars_none hV
  obtain ⟨A0, c0, l0, rfl, t0, w0, z0⟩ := open_graph_d (hval 0 24 v0 rfl rfl) h0 (size_of hsz (j := 0) rfl rfl)
  clear hA0 hsz hsz0
  simp only [List.append_nil] at hW'
  refine (walk A0 c0 l0 t0 z0 W w0).mono fun e W' ⟨he, hb⟩ => ?_
  subst he
  exact ⟨_, rfl, law_post laidOut (by kernel_rfl) (by kernel_rfl) Try.underlying4 hW' hb rfl⟩

set_option maxRecDepth 100000 in
theorem lifted (os : Os) (started : os.Started) (H : Type) (enc : TypeId × Value → H) :
    ReturnsInHanded {} Try.checked os 6 .any (Rows.trialWholeSpec.pre6 enc Try.prog Try.f6 Rows.trialWholeRow.domain false) (Rows.trialWholeSpec.post enc Try.prog Try.f6 false true false false) := by
  refine returnsInHanded_of_change_sized (C := Try.checked) own started (by kernel_rfl) Try.func6
    (ChangeSpec.witness6 (enc := enc) (C := Try.checked) false ⟨#[], #[.agg #[.slice none 0 0]], []⟩ 8 (by kernel_rfl) (by kernel_rfl) (by kernel_rfl) (by kernel_rfl)) ?_
  intro W base args ds gs before hval hW _ hsz _
  exact contract H enc W base args ds gs before hval hW hsz
/-- The row. -/
theorem holds : Rows.TrialWholeSaid :=
  OpenClaim.holds_of_wide 6 Try.f6 rfl rfl rfl rfl rfl rfl rfl ⟨rfl, rfl, rfl, rfl, rfl⟩ rfl rfl rfl rfl rfl (by kernel_rfl) Try.func6 (by kernel_rfl)
    (of_decide_eq_true (by kernel_rfl)) (by unfold Func.isWrapper; first | (rw [if_pos (by decide +kernel)]; kernel_rfl) | (rw [if_neg (by decide +kernel)]; exact ⟨rfl, rfl⟩))
    (fun os started H enc _ => lifted os started H enc)
end Go.Proofs.Ytjlobjgemhapaaa.trialWhole
