/- DictHolds: THE STAGE'S THEOREM: what was put last is found; what is held, with what left, is all that was put: for any changes, 40 at most, any key. Conditions: none but the form's own reach. -/
import Derived.Test.YtjlakolgaableaaRDiLawB
import Derived.Test.YtjlakolgaableaaRDiWorks
import Derived.Test.YtjlakolgaableaaRLawPost
import Derived.ProofKit
import Derived.BigQuiet
import Derived.Deep.LoopGhost
import Derived.Deep.DeepCutAuto
namespace Go.Proofs.YtjlakolgaableaaR.dictHolds
set_option maxRecDepth 20000
open Go.ChangeShapes Go.WideShapes Go.ChangeAt Go.RowKit Go.Maps Go.Sort Go.BigFrame

set_option maxHeartbeats 8000000 in
theorem walk (A : Option Addr) (c : Nat) (l : List Chg) (k : VV) (hk : wfP k) (w : World) (h : ChgAt w A l ∧ l.length ≤ c ∧ c ≤ 9223372036854775807 ∧ (A = none → c = 0)) :
    Calls Try.prog 6 #[.slice A l.length c, vV k] w fun e w' => e = .returned (.bool true) ∧ Below w.heap.size w w' := by
  obtain ⟨h, hc1, hc2, hc3⟩ := h
  obtain ⟨a, b⟩ := k
  go_enter Try.func6, Try.ntmps6
  have SC := fun (W : World) (m : Nat) (h : m ≤ c) => run_cut W A l.length c m h hc3
  go_upto_region 2 with fail
  obtain ⟨m, hm⟩ : ∃ m, m = (min (l.length : Int) 40).toNat := ⟨_, rfl⟩
  rw [← hm]
  have hm1 : m ≤ 40 ∧ m ≤ l.length := by omega
  obtain ⟨L, hL⟩ : ∃ L, L = l.take m := ⟨_, rfl⟩
  have hLm : m = L.length := by rw [hL, List.length_take]; omega
  have HC0 : Hid (∀ W, Below w.heap.size w W → ChgAt W A L) := fun W hb => by rw [hL]; exact (h.take m).below (Nat.le_refl _) hb
  have HLM := Lib.hid hLm
  have hm2 := hm1.1
  clear hm hm1 hL hLm h SC hc1 hc2 hc3
  obtain ⟨t, ht⟩ := tab_any L
  have HTO := Lib.hid ht
  have LS : Hid ((tabL L).1.length ≤ 82 ∧ 2 ≤ (tabL L).1.length ∧ (tabL L).2.length ≤ 120 ∧ cutL (tabL L).1 = some t) := by
    have h1 := ht.small
    have h2 := ht.out
    have h3 := HLM.out
    have h4 : (tabL L).1.length = 2 + t.arr.length + 2 * t.prs.length := by rw [ht.lay]; simp [layT, flatQ_len]; omega
    exact ⟨by omega, by omega, by omega, by rw [ht.lay]; exact cutL_lay ht.good⟩
  have TB : Hid (∀ W, Below w.heap.size w W → Calls Try.prog 24 #[.slice A m c] W fun e w' => ∃ g off c' vo N, N = (tabL L).1.length ∧ e = .returned (.tuple #[.slice (some ⟨g, off, none⟩) N c', vo]) ∧ RowV w' g off c' (tabL L).1 ∧ OwnV w' W.heap.size vo (tabL L).2 ∧ Below W.heap.size W w') := fun W hb => by
    rw [HLM.out]
    refine (table_any (HC0.out W hb) (by have := HLM.out; omega)).mono ?_
    rintro e w' ⟨g, off, c', vo, he, h1, h2, h3⟩
    exact ⟨g, off, c', vo, _, rfl, he, h1, h2, h3⟩
  clear ht
  go_upto_region 5 with (first
    | (go_at_call 24; refine (TB.out _ ((Below.refl _ _).alloc (Nat.le_refl _) _)).mono ?_; rintro e w1 ⟨g, off, c1, vo, N, hN, rfl, hR, hO, hb⟩; obtain ⟨hn1, hb1⟩ := new_cell hb; have N1 := Lib.hid hn1; have HN := Lib.hid hN; have R1 := Lib.hid hR; have O1 := Lib.hid (hO.lower (b' := w.heap.size) (by simp)); have B1 := Lib.hid hb1; clear hb hn1 hR hO hb1 hN)
    | (go_at_call 10; refine (Check_any (l := (tabL L).1) (.inr ⟨g, off, c1, by rw [HN.out], R1.out⟩) (by have := LS.out.1; omega)).mono ?_; rintro e w2 ⟨rfl, hb2⟩; rw [LS.out.2.2.2]; have B2 := Lib.hid hb2; clear hb2))
  have K2 : Hid (∀ W, Below w2.heap.size w2 W → W.heap[w.heap.size]? = some (.cells #[.int .i64 a, .int .i64 b] 24 (0, 0))) := fun W hb => (hb.block _ (Nat.lt_of_lt_of_le (mem_block_lt N1.out) B2.out.size)).trans ((B2.out.block _ (mem_block_lt N1.out)).trans N1.out)
  have BB : Hid (Below w.heap.size w w2) := B1.out.trans (B2.out.mono B1.out.size)
  have R2 : Hid (∀ W, Below w2.heap.size w2 W → RowV W g off c1 (tabL L).1) := fun W hb => (R1.out.keep (B2.out.block _ R1.out.lt)).keep (hb.block _ (Nat.lt_of_lt_of_le R1.out.lt B2.out.size))
  have O2 : Hid (∀ W, Below w2.heap.size w2 W → OwnV W w.heap.size vo (tabL L).2) := fun W hb => (O1.out.below B2.out).below hb
  have PT : Hid (∀ W (p q : VV), wfP p → wfP q → Below w2.heap.size w2 W → Calls Try.prog 20 #[.slice (some ⟨g, off, none⟩) N c1, vV p, vV q] W (GivesPut (putL (tabL L).1 p q) W)) := fun W p q hp hq hb => by
    have h1 := LS.out
    rw [HN.out]
    exact Put_any (.inr ⟨g, off, c1, rfl, R2.out W hb, by omega⟩) (by omega) hp hq
  have hlt2 : w.heap.size < w2.heap.size := Nat.lt_of_lt_of_le (mem_block_lt N1.out) B2.out.size
  clear N1 R1 O1 B1 B2 TB
  go_wp2_with fail
  go_loopg [8, 9] (m + 1) (fun q v8 i wr => ∃ (j : Nat) (v : Value), v = v8 ∧ q + j = m + 1 ∧ j ≤ m ∧ i = Value.int .i64 (j : Int) ∧ Hid (wr.heap[w2.heap.size]? = some (.cells #[iV (wantL (L.take j) (a, b)).1, iV (wantL (L.take j) (a, b)).2] 24 (0, 0))) ∧ Hid (OwnV wr (w2.heap.size + 1) v (allL (L.take j))) ∧ Hid (Below w2.heap.size w2 wr))
  case atStart => exact ⟨0, _, rfl, rfl, Nat.zero_le _, rfl, Lib.hid (MapKept.heap_alloc w2 _).1, OwnV.nil _ _, (Below.refl _ _).alloc (Nat.le_refl _) _⟩
  case round =>
    obtain ⟨j, v, rfl, hkj, hj, rfl, WC, OA, B⟩ := hrel
    have BW : Hid (Below w.heap.size w wr) := BB.out.trans (B.out.mono BB.out.size)
    by_cases hlt : j < m
    · obtain ⟨p, hp⟩ : ∃ p, L[j]? = some p := ⟨_, List.getElem?_eq_getElem (by rw [← HLM.out]; exact hlt)⟩
      obtain ⟨hw1, hw2, ad, e, hbl, d0, d1, d2, d3⟩ := HC0.out wr BW.out j p hp
      subst e
      obtain ⟨d1, d2, d3, d4⟩ := chg_cells d1 d2 d3
      have EA := Lib.hid (allL_snoc hp)
      have EW := Lib.hid (wantL_snoc hp (a, b))
      obtain ⟨⟨a1, b1⟩, x1, x2⟩ := p
      have WP := Lib.hid (And.intro hw1 hw2)
      have HP : Hid (∀ W, Below wr.heap.size wr W → Calls Try.prog 20 #[.slice (some ⟨g, off, none⟩) N c1, .agg #[.int .i64 a1, .int .i64 b1], .agg #[.int .i64 x1, .int .i64 x2]] W (GivesPut (putL (tabL L).1 (a1, b1) (x1, x2)) W)) := fun W hb => PT.out W _ _ WP.out.1 WP.out.2 (B.out.trans (hb.mono B.out.size))
      cases hok : okC ((a1, b1), (x1, x2)) with
      | true =>
        obtain ⟨NX, GN, hE1⟩ : ∃ NX GN, putL (tabL L).1 (a1, b1) (x1, x2) = (some (NX, GN), 0) := ⟨_, _, by rw [HTO.out.lay]; exact putL_ok HTO.out.good hok⟩
        have E1 := Lib.hid hE1
        have HK := Lib.hid hok
        have LA : Hid ((allL (L.take j)).length ≤ 80) := by
          have h1 := allL_len (L.take j)
          have h2 := List.length_take_le j L
          exact Lib.hid (by omega)
        have HPJ := Lib.hid hp
        clear hok hE1 hp hw1 hw2
        go_upto_region 10 with fail
        go_cut [12] (fun s12 wx => s12 = Value.int .i64 0 ∧ Hid (Below wr.heap.size wr wx))
        case first =>
          go_region_law (go_simp; go_at_call 20; (with_reducible refine (HP.out _ ((Below.refl _ _).drew)).mono ?_); rintro e w5 ⟨hb, hP⟩; rw [E1.out] at hP; obtain ⟨g1, o1, c1, vg, rfl, -, -, -⟩ := hP; have B5 : Hid (Below wr.heap.size wr w5) := (by exact ⟨hb.os, hb.tape, hb.output, hb.size, hb.block⟩); clear hb)
          all_goals
            go_wp2_with fail
            go_meet
            exact ⟨rfl, B5.out⟩
        case rest =>
          obtain ⟨rfl, HC⟩ := hcut
          have B6 : Hid (Below w2.heap.size w2 wc) := B.out.trans (HC.out.mono B.out.size)
          have sW := mem_block_lt WC.out
          have WC6 : Hid (wc.heap[w2.heap.size]? = some (.cells #[iV (wantL (L.take j) (a, b)).1, iV (wantL (L.take j) (a, b)).2] 24 (0, 0))) := (HC.out.block _ sW).trans WC.out
          have OA6 : Hid (OwnV wc (w2.heap.size + 1) v (allL (L.take j))) := OA.out.below HC.out
          have LO : Hid (∀ k, v.ownBlock = some k → w2.heap.size + 1 ≤ k ∧ k < wc.heap.size) := fun k hk => OA6.out.1.lt k hk
          replace d0 := (HC.out.cell (World.block_lt_of_cell? _ _ d0)).trans d0
          replace d1 := (HC.out.cell (World.block_lt_of_cell? _ _ d1)).trans d1
          replace d2 := (HC.out.cell (World.block_lt_of_cell? _ _ d2)).trans d2
          replace d3 := (HC.out.cell (World.block_lt_of_cell? _ _ d3)).trans d3
          replace d4 := (HC.out.cell (World.block_lt_of_cell? _ _ d4)).trans d4
          have sC := HC.out.size
          clear hbl sW
          go_upto_region 12 with fail
          go_cut [8] (fun s8 wx => ∃ v' : Value, v' = s8 ∧ Hid (OwnV wx (w2.heap.size + 1) v' (allL (L.take j) ++ [(a1, b1), (x1, x2)]) ∧ wx.heap[w2.heap.size]? = some (.cells #[iV (wantL (L.take j) (a, b)).1, iV (wantL (L.take j) (a, b)).2] 24 (0, 0)) ∧ Below w2.heap.size w2 wx))
          case first =>
            go_region_law (refine step_append_vals rfl (.tmp 53) (.tmp 64) rfl (w2.heap.size + 1) v (allL (L.take j)) rfl (OA6.out.below (((Below.refl wc.heap.size wc).drew).alloc (Nat.le_refl _) _)) ⟨wc.heap.size, 0, none⟩ 2 2 rfl [(a1, b1), (x1, x2)] rfl news_two ?_ (by have := LA.out; simp; omega) (by simp; have := mem_block_lt WC6.out; omega) ?_; (· (intro y hy; simp at hy; rcases hy with rfl | rfl; exact WP.out.1; exact WP.out.2)); intro v7 w7 hO7 hG7)
            all_goals
              go_wp2_with fail
              go_meet
              have sW6 := mem_block_lt WC6.out
              refine ⟨v7, rfl, hO7.out, ?_, ?_⟩
              · exact (hG7.out.block _ (by simp; omega) (fun e => by have := (LO.out _ e.symm).1; omega)).trans (((((Below.refl wc.heap.size wc).drew).alloc (Nat.le_refl _) _).block _ sW6).trans WC6.out)
              · exact (B6.out.trans ((((Below.refl wc.heap.size wc).drew).alloc (Nat.le_refl _) _).mono B6.out.size)).grown hG7.out (by simp; omega) fun k hk => by have := (LO.out k hk).1; omega
          case rest =>
            obtain ⟨v8, rfl, H8⟩ := hcut
            have OA8 : Hid (OwnV wc (w2.heap.size + 1) v8 (allL (L.take (j + 1)))) := Lib.hid (by rw [EA.out, if_pos HK.out]; exact H8.out.1)
            have WC8 := Lib.hid H8.out.2.1
            have B8 := Lib.hid H8.out.2.2
            have LO8 : Hid (∀ k, v8.ownBlock = some k → w2.heap.size + 1 ≤ k ∧ k < wc.heap.size) := fun k hk => OA8.out.1.lt k hk
            obtain ⟨-, -, ad', e, -, d0, d1, d2, d3⟩ := HC0.out wc (BB.out.trans (B8.out.mono BB.out.size)) j _ HPJ.out
            obtain rfl : ad = ad' := by injection e
            obtain ⟨d1, d2, d3, d4⟩ := chg_cells d1 d2 d3
            obtain ⟨y0, y1, -, -⟩ := cells2 (K2.out wc B8.out)
            obtain ⟨y2, y3, y4, y5⟩ := cells2 WC8.out
            have sW8 := mem_block_lt WC8.out
            clear H8 OA6 WC6 B6 LO e
            by_cases he : (a1, b1) = (a, b)
            · have EW2 : Hid (wantL (L.take (j + 1)) (a, b) = (x1, x2)) := Lib.hid (by rw [EW.out, if_pos ⟨HK.out, he⟩])
              injection he with e1 e2
              have z1 : (a1 == a) = true := by simp [e1]
              have z2 : (b1 == b) = true := by simp [e2]
              go_upto_region 13 with fail
              go_quiet (fail)
              go_wp2_with fail
              go_roundg (gk - 1)
              case measure => omega
              case rel =>
                have S2 := set_two (w := wc.drewN nq) (x := iV x1) (y := iV x2) WC8.out
                refine ⟨j + 1, v8, rfl, by omega, by omega, congrArg (Value.int .i64) (by omega), Lib.hid (by rw [EW2.out]; exact S2.1), OA8.out.keep fun q hq => (S2.2 q (fun e => by have := (LO8.out q hq).1; omega)), ?_⟩
                exact below_set2 (below_drewN B8.out nq) (Nat.le_refl _) _ _
            · have EW2 : Hid (wantL (L.take (j + 1)) (a, b) = wantL (L.take j) (a, b)) := Lib.hid (by rw [EW.out, if_neg (fun h => he h.2)])
              by_cases e1 : a1 = a
              · have z1 : (a1 == a) = true := by simp [e1]
                have z2 : (b1 == b) = false := not_eq (fun e => he (by rw [e1, e]))
                clear he
                go_upto_region 13 with fail
                go_quiet (fail)
                go_wp2_with fail
                go_roundg (gk - 1)
                case measure => omega
                case rel => exact ⟨j + 1, v8, rfl, by omega, by omega, congrArg (Value.int .i64) (by omega), Lib.hid (by rw [EW2.out]; exact WC8.out), OA8.out, below_drewN B8.out _⟩
              · have z1 : (a1 == a) = false := not_eq e1
                clear he
                go_upto_region 13 with fail
                go_quiet (fail)
                go_wp2_with fail
                go_roundg (gk - 1)
                case measure => omega
                case rel => exact ⟨j + 1, v8, rfl, by omega, by omega, congrArg (Value.int .i64) (by omega), Lib.hid (by rw [EW2.out]; exact WC8.out), OA8.out, below_drewN B8.out _⟩
      | false =>
        obtain ⟨q, hE1, hq⟩ := putL_not HTO.out.good hok
        rw [← HTO.out.lay] at hE1
        have E1 := Lib.hid hE1
        have EA2 : Hid (allL (L.take (j + 1)) = allL (L.take j)) := Lib.hid (by rw [EA.out, if_neg (by rw [hok]; decide)])
        have EW2 : Hid (wantL (L.take (j + 1)) (a, b) = wantL (L.take j) (a, b)) := Lib.hid (by rw [EW.out, if_neg (fun h => by rw [hok] at h; exact absurd h.1 (by decide))])
        have zq : (q == 0) = false := not_eq (by rcases hq with rfl | rfl <;> decide)
        clear hok hE1 hp hw1 hw2 hq
        go_upto_region 10 with fail
        go_cut [12] (fun s12 wx => s12 = Value.int .i64 q ∧ Hid (Below wr.heap.size wr wx))
        case first =>
          go_region_law (go_simp; go_at_call 20; (with_reducible refine (HP.out _ ((Below.refl _ _).drew)).mono ?_); rintro e w5 ⟨hb, hP⟩; rw [E1.out] at hP; obtain rfl := hP; have B5 : Hid (Below wr.heap.size wr w5) := (by exact ⟨hb.os, hb.tape, hb.output, hb.size, hb.block⟩); clear hb)
          all_goals
            go_wp2_with fail
            go_meet
            exact ⟨rfl, B5.out⟩
        case rest =>
          obtain ⟨rfl, HC⟩ := hcut
          clear d0 d1 d2 d3 d4 hbl
          go_wp2_with fail
          go_roundg (gk - 1)
          case measure => omega
          case rel => exact ⟨j + 1, v, rfl, by omega, by omega, congrArg (Value.int .i64) (by omega), Lib.hid (by rw [EW2.out]; exact (HC.out.block _ (mem_block_lt WC.out)).trans WC.out), Lib.hid (by rw [EA2.out]; exact OA.out.below HC.out), B.out.trans (HC.out.mono B.out.size)⟩
    · have hjm : j = m := by omega
      have EL : Hid (L.take j = L) := List.take_of_length_le (by rw [← HLM.out]; omega)
      rw [EL.out] at WC OA
      have GE : Hid (getL (tabL L).1 (a, b) = wantL L (a, b)) := Lib.hid (by unfold getL; rw [LS.out.2.2.2]; exact HTO.out.get (a, b))
      have HWK := Lib.hid hk
      have GT : Hid (∀ W, Below w2.heap.size w2 W → Calls Try.prog 14 #[.slice (some ⟨g, off, none⟩) N c1, .agg #[.int .i64 a, .int .i64 b]] W fun e w' => e = .returned (vV (wantL L (a, b))) ∧ Below W.heap.size W w') := fun W hb => by
        have := Get_any (w := W) (v := .slice (some ⟨g, off, none⟩) N c1) (.inr ⟨g, off, c1, by rw [HN.out], R2.out W hb⟩) (by have := LS.out.1; omega) HWK.out
        rw [GE.out] at this
        exact this
      have LA : Hid ((allL L).length ≤ 80) := by
        have h1 := allL_len L
        have h2 := HLM.out
        exact Lib.hid (by omega)
      have PM : Hid ((refsL (allL L)).Perm (refsL (tabL L).1 ++ refsL (tabL L).2)) := HTO.out.perm
      generalize wantL L (a, b) = u at *
      obtain ⟨u1, u2⟩ := u
      obtain ⟨z0, z1, -, -⟩ := cells2 (K2.out wr B.out)
      obtain ⟨y2, y3, -, -⟩ := cells2 WC.out
      have k0 := fun d os => cell_regrown z0 d os
      have k1 := fun d os => cell_regrown z1 d os
      have k2 := fun d os => cell_regrown y2 d os
      have k3 := fun d os => cell_regrown y3 d os
      have cG := fun d os => Calls.regrown_of (GT.out _ (B.out.trans ((below_regrown wr d os).mono B.out.size)))
      clear EL GE hk hjm
      go_upto_region 15 with fail
      go_cut [82] (fun s82 wx => s82 = Value.bool false ∧ Hid (Below wr.heap.size wr wx))
      case first =>
        refine wp_region_quiet_below (by kernel_rfl) (by kernel_rfl) ?_
        repeat (go_big_quiet_step (with_reducible exact cG _ _))
        refine wpQuiet_nil ?_
        intro w3 ⟨⟨dq, osq⟩, hw3⟩
        have B3 : Hid (Below wr.heap.size wr w3) := by rw [hw3]; exact below_regrown wr dq osq
        clear hw3
        go_wp2_with fail
        go_meet
        exact ⟨rfl, B3⟩
      case rest =>
        obtain ⟨rfl, HC⟩ := hcut
        have B6 : Hid (Below w2.heap.size w2 wc) := B.out.trans (HC.out.mono B.out.size)
        have OA6 : Hid (∀ W, Below wc.heap.size wc W → OwnV W (w2.heap.size + 1) v (allL L)) := fun W hb => (OA.out.below HC.out).below hb
        have R6 : Hid (∀ W, Below wc.heap.size wc W → SlV W (.slice (some ⟨g, off, none⟩) N c1) (tabL L).1) := fun W hb => .inr ⟨g, off, c1, by rw [HN.out], R2.out W (B6.out.trans (hb.mono B6.out.size))⟩
        have O6 : Hid (∀ W, Below wc.heap.size wc W → SlV W vo (tabL L).2) := fun W hb => (O2.out W (B6.out.trans (hb.mono B6.out.size))).sl
        have rf : ∀ (x : Value) (X : List VV), (∀ W, Below wc.heap.size wc W → SlV W x X) → X.length ≤ 200 → ∀ W, Below wc.heap.size wc W → Calls Try.prog 25 #[x] W fun e w' => ∃ A n c, n = (refsL X).length ∧ e = .returned (.slice A n c) ∧ IntsAt w' A (refsL X) ∧ Below W.heap.size W w' := fun x X h hl W hb => by
          refine (refs_sl (h W hb) (by omega)).mono ?_
          rintro e w' ⟨A, c, he, h1, h2⟩
          exact ⟨A, _, c, rfl, he, h1, h2⟩
        have l1 := LA.out
        have l2 := LS.out
        have RA := Lib.hid (rf v (allL L) (fun W hb => (OA6.out W hb).sl) (by omega))
        have RS := Lib.hid (rf _ _ R6.out (by omega))
        have RG := Lib.hid (rf _ _ O6.out (by omega))
        have tm : ∀ (x : Value) (X : List VV), (∀ W, Below wc.heap.size wc W → SlV W x X) → X.length ≤ 200 → ∀ (z : Int) W, Below wc.heap.size wc W → Calls Try.prog 26 #[x, .int .i64 z] W fun e w' => e = .returned (.int .i64 ((refsL X).count z : Nat)) ∧ Below W.heap.size W w' := fun x X h hl z W hb => times_any (h W hb) (by omega) z
        have T1 := Lib.hid (tm v (allL L) (fun W hb => (OA6.out W hb).sl) (by omega))
        have T2 := Lib.hid (tm _ _ R6.out (by omega))
        have T3 := Lib.hid (tm _ _ O6.out (by omega))
        have x1 := refsL_len (allL L)
        have x2 := refsL_len (tabL L).1
        have x3 := refsL_len (tabL L).2
        generalize refsL (allL L) = X1 at *
        generalize refsL (tabL L).1 = X2 at *
        generalize refsL (tabL L).2 = X3 at *
        have y1 : X1.length ≤ 200 ∧ X2.length ≤ 200 ∧ X3.length ≤ 200 := ⟨by omega, by omega, by omega⟩
        have BBw : Hid (Below w.heap.size w wc) := BB.out.trans (B6.out.mono BB.out.size)
        clear rf tm l1 l2 x1 x2 x3 z0 z1 y2 y3 k0 k1 k2 k3 cG
        go_wp2_with (go_at_call 25; refine (RA.out _ (Below.refl _ _)).mono ?_; rintro e w4 ⟨A4, n4, c4, hn4, rfl, hi, hb⟩; have I4 := Lib.hid hi; have B4 := Lib.hid hb; have N4 := Lib.hid hn4; have n4s : n4 ≤ 200 := (by omega); clear hi hb hn4)
        go_loopg [14] (n4 + 1) (fun q i wr => ∃ j : Nat, q + j = n4 + 1 ∧ j ≤ n4 ∧ i = Value.int .i64 (j : Int) ∧ Hid (Below w4.heap.size w4 wr))
        case atStart => exact ⟨0, rfl, Nat.zero_le _, rfl, Below.refl _ _⟩
        case round =>
          obtain ⟨j, hkj, hj, rfl, BY⟩ := hrel
          have BZ : Hid (Below wc.heap.size wc wr) := B4.out.trans (BY.out.mono B4.out.size)
          by_cases hlt : j < n4
          · obtain ⟨x, hx⟩ : ∃ x, X1[j]? = some x := ⟨_, List.getElem?_eq_getElem (by rw [← N4.out]; exact hlt)⟩
            obtain ⟨ad, e, hbl, h0⟩ := I4.out j x hx
            subst e
            replace h0 := (BY.out.cell (World.block_lt_of_cell? _ _ h0)).trans h0
            have k0 := fun d os => cell_regrown h0 d os
            have EC := PM.out.count_eq x
            rw [List.count_append] at EC
            have C1 := T1.out x
            have C2 := T2.out x
            have C3 := T3.out x
            have t1 : X1.count x ≤ 200 := Nat.le_trans List.count_le_length y1.1
            have t2 : X2.count x ≤ 200 := Nat.le_trans List.count_le_length y1.2.1
            have t3 : X3.count x ≤ 200 := Nat.le_trans List.count_le_length y1.2.2
            generalize X1.count x = r1 at *
            generalize X2.count x = r2 at *
            generalize X3.count x = r3 at *
            have q1 : IntKind.i64.wrap ((r2 : Int) + (r3 : Int)) = (r2 : Int) + (r3 : Int) := IntWalk.i64_in _ (by omega)
            have zq : ((r1 : Int) == (r2 : Int) + (r3 : Int)) = true := by simp; omega
            have c1' := fun d os => Calls.regrown_of (C1 _ (BZ.out.trans ((below_regrown wr d os).mono BZ.out.size)))
            have c2' := fun d os => Calls.regrown_of (C2 _ (BZ.out.trans ((below_regrown wr d os).mono BZ.out.size)))
            have c3' := fun d os => Calls.regrown_of (C3 _ (BZ.out.trans ((below_regrown wr d os).mono BZ.out.size)))
            clear hx hbl C1 C2 C3 EC
            go_upto_region 21 with fail
            refine wp_region_quiet_below (by kernel_rfl) (by kernel_rfl) ?_
            repeat (go_big_quiet_step (first | (with_reducible exact c1' _ _) | (with_reducible exact c2' _ _) | (with_reducible exact c3' _ _)))
            refine wpQuiet_nil ?_
            intro w3 ⟨⟨dq, osq⟩, hw3⟩
            have B3 : Hid (Below wr.heap.size wr w3) := by rw [hw3]; exact below_regrown wr dq osq
            clear hw3
            go_wp2_with fail
            go_roundg (gk - 1)
            case measure => omega
            case rel => exact ⟨j + 1, by omega, by omega, congrArg (Value.int .i64) (by omega), BY.out.trans (B3.out.mono BY.out.size)⟩
          · have LE := PM.out.length_eq
            rw [List.length_append] at LE
            have q1 : IntKind.i64.wrap ((X2.length : Int) + (X3.length : Int)) = (X2.length : Int) + (X3.length : Int) := IntWalk.i64_in _ (by omega)
            have zq : ((n4 : Int) == (X2.length : Int) + (X3.length : Int)) = true := by have := N4.out; simp; omega
            obtain ⟨n2, hn2⟩ : ∃ n2, n2 = X2.length := ⟨_, rfl⟩
            obtain ⟨n3, hn3⟩ : ∃ n3, n3 = X3.length := ⟨_, rfl⟩
            rw [← hn2, ← hn3] at q1 zq
            rw [← hn2] at RS
            rw [← hn3] at RG
            clear LE y1 hn2 hn3
            go_wp2_with (first
              | (go_at_call 25; (with_reducible refine (RS.out _ BZ.out).mono ?_); rintro e w6 ⟨A6, n6, c6, rfl, rfl, -, hb⟩; replace BZ := Lib.hid (BZ.out.trans (hb.mono BZ.out.size)); clear hb)
              | (go_at_call 25; (with_reducible refine (RG.out _ BZ.out).mono ?_); rintro e w7 ⟨A7, n7, c7, rfl, rfl, -, hb⟩; replace BZ := Lib.hid (BZ.out.trans (hb.mono BZ.out.size)); clear hb)
              | (go_at_call 19; (with_reducible refine (works_true _).mono ?_); rintro e w8 ⟨rfl, hb⟩; replace BZ := Lib.hid (BZ.out.trans (hb.mono BZ.out.size)); clear hb))
            go_ret
            exact ⟨rfl, BBw.out.trans (BZ.out.mono BBw.out.size)⟩
theorem own : ownKnob Try.prog.godebug = none := by kernel_rfl
theorem laidOut : laidOutB Try.prog = true := by kernel_rfl
set_option maxRecDepth 100000 in
theorem contract (H : Type) (enc : TypeId × Value → H) (W : World) (base : Nat) (args : Array Value) (ds gs : List (DataW H)) (before : List MemPlace)
    (hval : ∀ (j : Nat) t v, Try.f6.params[j]? = some t → args[j]? = some v → Value.okWide Try.prog W .any base t v)
    (hW : DataW.Whole enc Try.prog Try.f6.params.toList Rows.dictHoldsSpec.vars false W args.toList ds gs before)
    (hsz0 : (DataW.weightsEach Try.prog (Try.f6.params.toList ++ Rows.dictHoldsSpec.plain.varTypes Try.prog) (ds ++ gs)).all (· ≤ reachBytes) = true) :
    Calls Try.prog 6 args W fun e W' => ∃ v, e = .returned v ∧ Rows.dictHoldsSpec.post enc Try.prog Try.f6 false true false false W args v W' := by
  have hW' := hW
  obtain ⟨p, q, hA0, hV, rfl, hfz, hnd⟩ := hW
  have hA : DataW.TrodAll enc Try.prog W 0 (fun _ => true) true Try.f6.params.toList args.toList ds p := hA0
  have hsz := hsz0
  rw [Try.params6] at hA hval hsz
  obtain ⟨v0, vs0, d0, ds0, p0, q0, hargs, rfl, rfl, h0, r0⟩ := trodAll_cons hA
  obtain ⟨v1, vs1, d1, ds1, p1, q1, rfl, rfl, rfl, h1, r1⟩ := trodAll_cons r0
  obtain ⟨rfl, rfl, rfl⟩ := trodAll_nil r1
  obtain rfl : args = #[v0, v1] := by cases args; simp_all
  obtain ⟨rfl, rfl⟩ := trodVars_none hV
  obtain ⟨A0, c0, l0, rfl, w0⟩ := open_chgs (hval 0 39 v0 rfl rfl) h0
  obtain ⟨k1, rfl, w1⟩ := open_val (hval 1 24 v1 rfl rfl) h1
  clear hA0 hsz hsz0
  simp only [List.append_nil] at hW'
  refine (walk A0 c0 l0 k1 w1 W w0).mono fun e W' ⟨he, hb⟩ => ?_
  subst he
  exact ⟨_, rfl, law_post laidOut (by kernel_rfl) (by kernel_rfl) Try.underlying4 hW' hb rfl⟩

set_option maxRecDepth 100000 in
theorem lifted (os : Os) (started : os.Started) (H : Type) (enc : TypeId × Value → H) :
    ReturnsInHanded {} Try.checked os 6 .any (Rows.dictHoldsSpec.pre6 enc Try.prog Try.f6 Rows.dictHoldsRow.domain false) (Rows.dictHoldsSpec.post enc Try.prog Try.f6 false true false false) := by
  refine returnsInHanded_of_change_sized (C := Try.checked) own started (by kernel_rfl) Try.func6
    (ChangeSpec.witness6 (enc := enc) (C := Try.checked) false ⟨#[], #[.slice none 0 0, .agg #[.int .i64 0, .int .i64 0]], []⟩ 8 (by kernel_rfl) (by kernel_rfl) (by kernel_rfl) (by kernel_rfl)) ?_
  intro W base args ds gs before hval hW _ hsz _
  exact contract H enc W base args ds gs before hval hW hsz
/-- The row. -/
theorem holds : Rows.DictHoldsSaid :=
  OpenClaim.holds_of_wide 6 Try.f6 rfl rfl rfl rfl rfl rfl rfl ⟨rfl, rfl, rfl, rfl, rfl⟩ rfl rfl rfl rfl rfl (by kernel_rfl) Try.func6 (by kernel_rfl)
    (of_decide_eq_true (by kernel_rfl)) (by unfold Func.isWrapper; first | (rw [if_pos (by decide +kernel)]; kernel_rfl) | (rw [if_neg (by decide +kernel)]; exact ⟨rfl, rfl⟩))
    (fun os started H enc _ => lifted os started H enc)
end Go.Proofs.YtjlakolgaableaaR.dictHolds
