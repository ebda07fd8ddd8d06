/- PoolOnce: what is taken is not handed out again, till it was given back; nothing above how many are taken, and 1: for every script of bytes (three hundred of them are looked at). Conditions: none but the form's own reach. -/
import Derived.Test.YtlbbbfmnghcdnaaPoHave
import Derived.Test.YtlbbbfmnghcdnaaLawPost
import Derived.ProofKit
import Derived.BigQuiet
import Derived.Deep.LoopGhost
import Derived.Deep.DeepCutAuto
import Derived.Deep.RegionHeld3
import Derived.IntWalk
namespace Go.Proofs.Ytlbbbfmnghcdnaa.poolOnce
set_option maxRecDepth 20000
open Go.ChangeShapes Go.WideShapes Go.ChangeAt Go.RowKit

theorem open_by {H : Type} {enc : TypeId × Value → H} {w : World} {base : Nat} {spare : Nat → Bool} {held : Bool} {r : Reach} {b0 : Nat} {v : Value} {d : DataW H} {p : List MemPlace} (hv : Value.okWide Try.prog w r b0 22 v) (h : DataW.Trod enc Try.prog w base spare held 22 v d p) :
    ∃ (A : Option Addr) (c : Nat) (l : List Nat), v = .slice A l.length c ∧ BySl w (.slice A l.length c) l := by
  obtain ⟨a, len, cap, rfl⟩ := okWide_slice Try.underlying22 hv
  obtain ⟨fuel, hf⟩ := h
  rcases Go.ChangeShapes.open_ints Try.underlying22 Try.underlying5 (by kernel_rfl) hf with ⟨hcs, _⟩ | ⟨a', len', cap', zs, hcs, _, hl, hm, hz, _, hcell, hwz⟩
  · simp [Value.cells] at hcs
    obtain ⟨rfl, rfl, rfl⟩ := hcs
    exact ⟨none, 0, [], rfl, none, 0, rfl, Nat.le_refl _, by decide, fun h => absurd rfl h⟩
  · simp [Value.cells] at hcs
    obtain ⟨rfl, rfl, rfl⟩ := hcs
    have hlen : len ≤ zs.length := by rw [hz]; split <;> omega
    have hll : ((zs.take len).map Int.toNat).length = len := by rw [List.length_map, List.length_take]; omega
    refine ⟨some a', cap, (zs.take len).map Int.toNat, by rw [hll], some a', cap, rfl, by rw [hll]; exact hl, by unfold maxLen at hm; omega, fun hne => ?_⟩
    have h0 : 0 < len := by rw [← hll]; exact List.length_pos_iff.2 hne
    refine ⟨a', rfl, ?_, fun i x hx => ?_⟩
    · have := World.block_lt_of_cell? w _ (hcell 0 (by omega))
      rwa [Go.ChangeShapes.block_add] at this
    · rw [List.getElem?_map] at hx
      obtain ⟨z, hz1, hz2⟩ := Option.map_eq_some_iff.1 hx
      have hi : i < len := by
        have := (List.getElem?_eq_some_iff.1 hz1).1
        rw [List.length_take] at this; omega
      rw [List.getElem?_take_of_lt hi] at hz1
      have hc := hcell i (by omega)
      have e : zs.getD i 0 = z := by rw [List.getD_eq_getElem?_getD, hz1]; rfl
      rw [e] at hc
      obtain ⟨b1, b2⟩ := of_wf_u8 (hwz z (List.mem_of_getElem? hz1))
      subst hz2
      have ez : ((z.toNat : Nat) : Int) = z := by omega
      exact ⟨by rw [hc, ez], by omega⟩
theorem below_alloc1 (w : World) (o : Obj) : Below w.heap.size w (w.alloc o) := (Below.refl _ _).alloc (Nat.le_refl _) _
set_option maxHeartbeats 8000000 in
theorem walk (A : Option Addr) (c : Nat) (l : List Nat) (w : World) (hb : BySl w (.slice A l.length c) l) :
    Calls Try.prog 5 #[.slice A l.length c] w fun e w' => e = .returned (.bool true) ∧ Below w.heap.size w w' := by
  have CE : Hid (l ≠ [] → ∃ a, A = some a ∧ a.block < w.heap.size ∧ ∀ (i x : Nat), l[i]? = some x → w.cell? (a.add i) = some (.int .u8 x) ∧ x ≤ 255) := by
    obtain ⟨A', c', e, _, _, h3⟩ := hb
    injection e with e1 e2 e3
    subst e1
    exact h3
  obtain ⟨len, hl⟩ : ∃ len, len = l.length := ⟨_, rfl⟩
  have hcl : len ≤ 9223372036854775807 := by obtain ⟨A', c', e, h1, h2, _⟩ := hb; omega
  rw [← hl]
  have HL := Lib.hid hl
  clear hb hl
  go_enter Try.func5, Try.ntmps5
  go_wp2_with (first
    | (go_at_call 25; (with_reducible refine (works_true _).mono ?_); rintro e w0 ⟨rfl, b0⟩; have B0 := Lib.hid b0; clear b0)
    | (go_at_call 11; (with_reducible refine (P_New _).mono ?_); rintro e w1 ⟨ps, rfl, h1, b1⟩; have H1 := Lib.hid (h1.mono B0.out.size); have B1 := Lib.hid (below_hi B0.out b1); clear h1 b1))
  go_loopg [4, 5] 300 (fun g s4 s5 wr => ∃ (j k : Nat) (T hs : List Nat) (Ah : Option Addr) (ch : Nat), s4 = .slice Ah hs.length ch ∧ s5 = nV j ∧ j + g = 300 ∧ k ≤ j ∧ Hid (PoolAt wr w.heap.size ps k T) ∧ Hid (HaveAt wr w.heap.size (.slice Ah hs.length ch) hs) ∧ Hid (hs.Nodup) ∧ Hid (∀ x, x ∈ T ↔ x ∈ hs) ∧ Hid (Below w.heap.size w wr))
  case atStart => exact ⟨0, 0, [], [], none, 0, rfl, rfl, rfl, Nat.le_refl _, H1.out, have_new _ _, List.nodup_nil, fun _ => Iff.rfl, B1.out⟩
  case round =>
    clear H1 B1
    obtain ⟨j, k, T, hs, Ah, ch, rfl, rfl, hj, hk, H, HV, ND, EQ, B⟩ := hrel
    by_cases hlt : j < len ∧ j < 300
    · obtain ⟨hlt1, hlt2⟩ := hlt
      obtain ⟨g, rfl⟩ : ∃ g, gk = g + 1 := ⟨gk - 1, by omega⟩
      have q1 : (j : Int) < (len : Int) := by omega
      have q2 : (j : Int) < 300 := by omega
      obtain ⟨x, hx⟩ : ∃ x, l[j]? = some x := ⟨_, List.getElem?_eq_getElem (by rw [← HL.out]; exact hlt1)⟩
      obtain ⟨a, rfl, ha1, ha2⟩ := CE.out (by intro h; rw [h] at hx; simp at hx)
      obtain ⟨hx1, hx2⟩ := ha2 j x hx
      have X1 : Hid (∀ W, Below w.heap.size w W → W.cell? (a.add j) = some (.int .u8 x)) := fun W hW => (hW.cell (by rw [block_of_addB]; exact ha1)).trans hx1
      clear hx hx1 ha2
      have z1 := X1.out wr B.out
      obtain ⟨hs2, hs3⟩ := have_cap HV.out
      go_upto_region 8 with fail
      go_cut [33] (fun s33 wx => wx = wr ∧ ∃ b : Bool, s33 = .bool b ∧ Hid (b = false → 128 ≤ x ∧ hs ≠ []))
      case first =>
        by_cases hx3 : x < 128
        · have q3 : (x : Int) < 128 := by omega
          go_wp2_with fail
          go_meet
          exact ⟨rfl, true, rfl, fun h => (by cases h)⟩
        · have q3 : ¬ ((x : Int) < 128) := by omega
          by_cases hz : hs.length = 0
          · have q4 : ((hs.length : Int) == 0) = true := by rw [beq_iff_eq]; omega
            have HZ := Lib.hid hz
            clear hz
            go_wp2_with fail
            go_meet
            exact ⟨rfl, true, by first | rfl | rw [q4], fun h => (by cases h)⟩
          · have q4 : ((hs.length : Int) == 0) = false := by rw [beq_eq_false_iff_ne]; omega
            go_wp2_with fail
            go_meet
            exact ⟨rfl, false, by first | rfl | rw [q4], fun _ => ⟨by omega, fun h => hz (by rw [h]; rfl)⟩⟩
      case rest =>
        obtain ⟨hwc, b, rfl, hbf⟩ := hcut
        subst hwc
        go_upto_if 33 with fail
        go_cut [4] (fun s4 wx => ∃ (k : Nat) (T hs : List Nat) (Ah : Option Addr) (ch : Nat), s4 = .slice Ah hs.length ch ∧ k ≤ j + 1 ∧ Hid (PoolAt wx w.heap.size ps k T) ∧ Hid (HaveAt wx w.heap.size (.slice Ah hs.length ch) hs) ∧ Hid (hs.Nodup) ∧ Hid (∀ x, x ∈ T ↔ x ∈ hs) ∧ Hid (Below w.heap.size w wx))
        case first =>
          cases b with
          | true =>
            have qk : k ≤ 1073741824 := by omega
            obtain ⟨i3, hi3, hz30, hz31, hz32⟩ := info_parts int_infoP
            have hls : hs.length ≤ k := by rw [← same_len H.out.nodup ND.out EQ.out]; exact H.out.small
            go_wp2_with (go_at_call 13; (with_reducible refine (P_Take H.out qk).mono ?_); rintro e w2 ⟨n, rfl, hL, hn, h2, b2, k2⟩; have n1 : (1 : Int) ≤ (n : Int) := (by have := hL.1; omega); have n2 : (n : Int) ≤ (hs.length : Int) + 1 := (by have := least_le hL; rw [same_len H.out.nodup ND.out EQ.out] at this; omega); have LL := Lib.hid hL; have H2 := Lib.hid h2; have B2 := Lib.hid (below_lo B.out b2); have HV2 := Lib.hid (HV.out.keepO k2); clear hL h2 b2 k2)
            go_loopg [7] hs.length (fun g s7 wx => ∃ q : Nat, s7 = nV q ∧ q + g = hs.length ∧ wx = w2)
            case atStart => exact ⟨0, rfl, by simp, rfl⟩
            case round =>
              obtain ⟨q, rfl, hq, rfl⟩ := hrel
              cases gk with
              | succ g2 =>
                have r1 : (q : Int) < (hs.length : Int) := by omega
                obtain ⟨y, hy⟩ : ∃ y, hs[q]? = some y := ⟨_, List.getElem?_eq_getElem (by omega)⟩
                obtain ⟨gh, rfl, hcell⟩ := have_cells HV2.out (by intro h; rw [h] at hq; simp at hq)
                have y1 := hcell q y hy
                have y2 : ((y : Int) == (n : Int)) = false := not_eq (by
                  have hm : y ∈ T := (EQ.out y).2 (List.mem_of_getElem? hy)
                  intro h
                  have : y = n := by omega
                  subst this
                  exact LL.out.2.1 hm)
                clear hcell hy
                go_wp2_with fail
                go_roundg g2
                case measure => omega
                case rel => exact ⟨q + 1, by simp, by omega, rfl⟩
              | zero =>
                have r1 : ¬ ((q : Int) < (hs.length : Int)) := by omega
                clear hq
                have NW : Hid (∀ j u, [nV n][j]? = some u → (wr.alloc (.cells #[nV n] 3)).cell? ((⟨wr.heap.size, 0, none⟩ : Addr).add j) = some u) := fun j u hj => by
                  rcases j with _ | j
                  · simp at hj; subst hj; simp [Addr.add_lit, go_sem]
                  · simp at hj
                go_wp2_with (at_builtin; refine wpList_append_own _ rfl _ _ 25 rfl w.heap.size 3 i3 _ 1 8 Try.underlying25 hi3 hz30 hz31 hz32 rfl (by decide) _ hs.length _ rfl (World.ownsRow.alloc HV2.out _) ⟨wr.heap.size, 0, none⟩ 1 1 [nV n] rfl rfl NW.out (fun u hu => by simp at hu; subst hu; rfl) (by unfold maxLen; omega) (by omega) (by have := B2.out.size; simp; omega) ?_; intro v' w3 hown hgrow hnil)
                have HN : Hid (HaveAt w3 w.heap.size v' (hs ++ [n])) := by
                  show w3.ownsRow _ _ _ _ _ _
                  rw [List.length_append, List.map_append]
                  exact hown
                have KP : Hid (KeepP wr w3) := KeepP.trans (KeepP.below (below_alloc1 wr _)) (keepP_grown (World.ownsRow.alloc HV2.out _) hgrow)
                have BB : Hid (Below w.heap.size w w3) := (B2.out.trans ((below_alloc1 wr _).mono B2.out.size)).grown hgrow (by have := B2.out.size; simp; omega) (fun i hi => own_lo HV2.out i hi)
                obtain ⟨A4, c4, e4, hv2, hv3, _⟩ := have_slice HN.out
                clear hown hgrow hnil
                subst e4
                go_wp2_with fail
                go_meet
                refine ⟨k + 1, n :: T, hs ++ [n], A4, c4, rfl, by omega, H2.out.keepP KP.out, HN.out, ?_, ?_, BB.out⟩
                · exact (List.nodup_append.2 ⟨ND.out, by simp, fun a ha b hb => by simp at hb; subst hb; rintro rfl; exact LL.out.2.1 ((EQ.out a).2 ha)⟩ : (hs ++ [n]).Nodup)
                · exact (fun x => by rw [List.mem_cons, List.mem_append, EQ.out, List.mem_singleton]; exact Or.comm : ∀ x, x ∈ n :: T ↔ x ∈ hs ++ [n])
          | false =>
            have qk : k ≤ 1073741824 := by omega
            obtain ⟨hx4, hne⟩ : 128 ≤ x ∧ hs ≠ [] := by first | exact hbf.out rfl | exact hbf.out trivial
            have hpos : 0 < hs.length := List.length_pos_iff.2 hne
            obtain ⟨r, hr⟩ : ∃ r, r = (x - 128) % hs.length := ⟨_, rfl⟩
            have hrl : r < hs.length := by rw [hr]; exact Nat.mod_lt _ hpos
            have r0 : ((x : Int) - 128) % (hs.length : Int) = (r : Int) := by
              have e : (x : Int) - 128 = ((x - 128 : Nat) : Int) := by omega
              rw [hr, e]
              first
                | rw [Int.natCast_emod]
                | rfl
            obtain ⟨y, hy⟩ : ∃ y, hs[r]? = some y := ⟨_, List.getElem?_eq_getElem hrl⟩
            obtain ⟨gh, rfl, hcell⟩ := have_cells HV.out hne
            have y1 := hcell r y hy
            have HY := Lib.hid hy
            have r1 : (0 : Int) ≤ (x : Int) - 128 := by omega
            have r2 : (x : Int) - 128 ≤ 255 := by omega
            have r3 : ¬ ((hs.length : Int) = 0) := by omega
            have r4 : (0 : Int) < (hs.length : Int) := by omega
            have r5 : (r : Int) < (hs.length : Int) := by omega
            have YM : Hid (y ∈ T) := (EQ.out y).2 (List.mem_of_getElem? hy)
            have yb := H.out.pos YM.out
            have YN : Hid (isT (T.erase y) (y : Int) = false) := by
              rw [isT_nat]
              exact decide_eq_false (fun h => ((H.out.nodup.mem_erase_iff).1 h).1 rfl)
            have NE := Lib.hid hne
            clear hr hcell hy hbf hne
            have r6 : ((r : Int) + 1).toNat = r + 1 := by omega
            have r7 : (0 : Int) ≤ (r : Int) + 1 := by omega
            have r8 : (r : Int) + 1 ≤ (hs.length : Int) := by omega
            have r9 : IntKind.i64.wrap ((r : Int) + 1) = (r : Int) + 1 := IntWalk.i64_in _ (by omega)
            have r10 : r ≤ ch := by omega
            have r11 : r ≤ hs.length := by omega
            have r12 : r + 1 ≤ hs.length := by omega
            have r13 : (r : Int) ≤ (r : Int) + 1 := by omega
            go_wp2_with (first
              | (go_at_call 17; (with_reducible refine (P_Give H.out qk y YM.out).mono ?_); rintro e w3 ⟨rfl, h3, b3, k3⟩; have H3 := Lib.hid h3; have B3 := Lib.hid (below_lo B.out b3); have HV3 := Lib.hid (HV.out.keepO k3); clear h3 b3 k3)
              | (go_at_call 19; (with_reducible refine (P_In H3.out (y : Int) (by omega) (by omega)).mono ?_); rintro e w4 ⟨rfl, h4, b4⟩; rw [YN.out]; have H4 := Lib.hid h4; have B4 := Lib.hid (below_hi B3.out b4); have HV4 := Lib.hid (HV3.out.below b4); clear h4 b4)
              | (go_at_call 17; (with_reducible refine (P_Give_no H4.out (y : Int) (by omega) (by omega) YN.out).mono ?_); rintro e w5 ⟨rfl, h5, b5⟩; have H5 := Lib.hid h5; have B5 := Lib.hid (below_hi B4.out b5); have HV5 := Lib.hid (HV4.out.below b5); clear h5 b5))
            have ML : Hid ((hs.eraseIdx r).length = hs.length - 1) := List.length_eraseIdx_of_lt hrl
            by_cases hc1 : ch = r + 1
            · go_region_law (refine step_delete rfl (.tmp 90) (.tmp 94) rfl w.heap.size gh ch r hs (by exact HV5.out) hrl ⟨gh, 0, none⟩ (hs.length - (r + 1)) (ch - (r + 1)) rfl (fun h => by omega) (by simp [Act.eval, Act.put, hc1]) (by simp [Act.eval, Act.put, hc1]) ?_; intro w6 hv6 hp6 hg6)
              go_wp2_with fail
              go_meet
              refine ⟨k, T.erase y, hs.eraseIdx r, some ⟨gh, 0, none⟩, ch, by (rw [ML.out]; first | rfl | rw [hc1]), by omega, ?_, ?_, ?_, ?_, ?_⟩
              · exact H5.out.keepP (show KeepP w5 w6 from hp6.out)
              · rw [ML.out]; exact hv6.out
              · exact (ND.out.sublist (List.eraseIdx_sublist hs r) : (hs.eraseIdx r).Nodup)
              · exact (fun x => by rw [H.out.nodup.mem_erase_iff, mem_eraseIdx_nodup ND.out HY.out, EQ.out] : ∀ x, x ∈ T.erase y ↔ x ∈ hs.eraseIdx r)
              · exact B5.out.grown (grown_of_drew hg6.out) B5.out.size (fun i hi => own_lo HV5.out i (by first | exact hi | (injection hi with hi; subst hi; rfl)))
            · go_region_law (refine step_delete rfl (.tmp 90) (.tmp 94) rfl w.heap.size gh ch r hs (by exact HV5.out) hrl ⟨gh, r + 1, none⟩ (hs.length - (r + 1)) (ch - (r + 1)) rfl (fun _ => rfl) (by simp [Act.eval, Act.put]) (by simp [Act.eval, Act.put]) ?_; intro w6 hv6 hp6 hg6)
              go_wp2_with fail
              go_meet
              refine ⟨k, T.erase y, hs.eraseIdx r, some ⟨gh, 0, none⟩, ch, by rw [ML.out], by omega, ?_, ?_, ?_, ?_, ?_⟩
              · exact H5.out.keepP (show KeepP w5 w6 from hp6.out)
              · rw [ML.out]; exact hv6.out
              · exact (ND.out.sublist (List.eraseIdx_sublist hs r) : (hs.eraseIdx r).Nodup)
              · exact (fun x => by rw [H.out.nodup.mem_erase_iff, mem_eraseIdx_nodup ND.out HY.out, EQ.out] : ∀ x, x ∈ T.erase y ↔ x ∈ hs.eraseIdx r)
              · exact B5.out.grown (grown_of_drew hg6.out) B5.out.size (fun i hi => own_lo HV5.out i (by first | exact hi | (injection hi with hi; subst hi; rfl)))
        case rest =>
          clear hbf z1 H HV ND EQ B
          obtain ⟨k, T, hs, Ah, ch, rfl, hk2, H, HV, ND, EQ, B⟩ := hcut
          have qk : k ≤ 1073741824 := by omega
          obtain ⟨hs2, hs3⟩ := have_cap HV.out
          have TL : Hid (T.length = hs.length) := same_len H.out.nodup ND.out EQ.out
          go_wp2_with fail
          go_loopg [10] hs.length (fun g s10 wx => ∃ q : Nat, s10 = nV q ∧ q + g = hs.length ∧ Hid (PoolAt wx w.heap.size ps k T) ∧ Hid (HaveAt wx w.heap.size (.slice Ah hs.length ch) hs) ∧ Hid (Below w.heap.size w wx))
          case atStart => exact ⟨0, rfl, by simp, H.out, HV.out, B.out⟩
          case round =>
            clear H HV B
            obtain ⟨q, rfl, hq, H, HV, B⟩ := hrel
            cases gk with
            | succ g2 =>
              have r1 : (q : Int) < (hs.length : Int) := by omega
              obtain ⟨y, hy⟩ : ∃ y, hs[q]? = some y := ⟨_, List.getElem?_eq_getElem (by omega)⟩
              have hne : hs ≠ [] := by intro h; rw [h] at hq; simp at hq
              have CC : Hid (∀ W, HaveAt W w.heap.size (.slice Ah hs.length ch) hs → ∃ gh, Ah = some ⟨gh, 0, none⟩ ∧ W.cell? ⟨gh, q, none⟩ = some (nV (y : Nat))) := fun W hW => by
                obtain ⟨gh, h1, h2⟩ := have_cells hW hne
                exact ⟨gh, h1, h2 q y hy⟩
              obtain ⟨gh, hAh, y1⟩ := CC.out _ HV.out
              have YM : Hid (y ∈ T) := (EQ.out y).2 (List.mem_of_getElem? hy)
              have yb := H.out.pos YM.out
              have YI : Hid (isT T (y : Int) = true) := by rw [isT_nat]; exact decide_eq_true YM.out
              clear hy hne
              subst hAh
              go_wp2_with fail
              refine wp_region_noPanic ?_
              go_region_law (first
                | (go_simp; go_at_call 19; go_loud (with_reducible refine (P_In H.out.drew (y : Int) (by omega) (by omega)).mono ?_); rintro e w3 ⟨rfl, h3, b3⟩; rw [YI.out]; have H3 := Lib.hid h3; have B3 : Hid (Below w.heap.size w w3) := (by exact below_hi B.out (below_undrew b3)); have HV3 : Hid (HaveAt w3 w.heap.size (.slice (some ⟨gh, 0, none⟩) hs.length ch) hs) := (by exact HV.out.below (below_undrew b3)); obtain ⟨_, e1, y3⟩ := CC.out _ HV3.out; cases e1; clear h3 b3)
                | (go_simp; go_at_call 23; go_loud (with_reducible refine (P_Last H3.out qk).mono ?_); rintro e w4 ⟨⟨nl, rfl, _, _, _, hmax⟩, q9, rfl⟩; have y4 : ¬ ((nl : Int) < (y : Int)) := (by have := hmax y YM.out; omega); clear hmax))
              all_goals
                refine NoPanic.normal ?_
                go_wp2_with fail
                go_roundg g2
                case measure => omega
                case rel => exact ⟨q + 1, by simp, by omega, H3.out.below (below_drewN (Below.refl _ _) _), HV3.out.below (below_drewN (Below.refl _ _) _), below_drewN B3.out _⟩
            | zero =>
              have r1 : ¬ ((q : Int) < (hs.length : Int)) := by omega
              clear hq
              by_cases hz : hs.length = 0
              · have q4 : ((hs.length : Int) == 0) = true := by rw [beq_iff_eq]; omega
                have TE : Hid (T = []) := List.length_eq_zero_iff.1 (by rw [TL.out]; exact hz)
                have HZ := Lib.hid hz
                clear hz
                go_wp2_with (first
                  | (go_at_call 21; (with_reducible refine (P_Len H.out).mono ?_); rintro e w3 ⟨rfl, rfl⟩; rw [TL.out])
                  | (go_at_call 23; (with_reducible refine (P_Last H.out qk).mono ?_); rintro e w4 ⟨⟨nl, rfl, _, hz4, _, _⟩, q9, rfl⟩; obtain rfl := hz4 TE.out; clear hz4))
                go_roundg g
                case measure => omega
                case rel => exact ⟨j + 1, k, T, hs, Ah, ch, rfl, by simp, by omega, by omega, H.out.below (below_drewN (Below.refl _ _) _), HV.out.below (below_drewN (Below.refl _ _) _), ND.out, EQ.out, below_drewN B.out _⟩
              · have q4 : ((hs.length : Int) == 0) = false := by rw [beq_eq_false_iff_ne]; omega
                clear hz
                go_wp2_with (go_at_call 21; (with_reducible refine (P_Len H.out).mono ?_); rintro e w3 ⟨rfl, rfl⟩; rw [TL.out])
                go_roundg g
                case measure => omega
                case rel => exact ⟨j + 1, k, T, hs, Ah, ch, rfl, by simp, by omega, by omega, H.out, HV.out, ND.out, EQ.out, B.out⟩
    · clear CE
      by_cases hc : j < len
      · have q1 : (j : Int) < (len : Int) := by omega
        have q2 : ¬ ((j : Int) < 300) := by omega
        go_wp2_with fail
        go_ret
        exact ⟨rfl, B.out⟩
      · have q1 : ¬ ((j : Int) < (len : Int)) := by omega
        go_wp2_with fail
        go_ret
        exact ⟨rfl, B.out⟩
theorem own : ownKnob Try.prog.godebug = none := by kernel_rfl
theorem laidOut : laidOutB Try.prog = true := by kernel_rfl
set_option maxRecDepth 100000 in
theorem contract (H : Type) (enc : TypeId × Value → H) (W : World) (base : Nat) (args : Array Value) (ds gs : List (DataW H)) (before : List MemPlace)
    (hval : ∀ (j : Nat) t v, Try.f5.params[j]? = some t → args[j]? = some v → Value.okWide Try.prog W .any base t v)
    (hW : DataW.Whole enc Try.prog Try.f5.params.toList Rows.poolOnceSpec.vars false W args.toList ds gs before)
    (hsz0 : (DataW.weightsEach Try.prog (Try.f5.params.toList ++ Rows.poolOnceSpec.plain.varTypes Try.prog) (ds ++ gs)).all (· ≤ reachBytes) = true) :
    Calls Try.prog 5 args W fun e W' => ∃ v, e = .returned v ∧ Rows.poolOnceSpec.post enc Try.prog Try.f5 false true false false W args v W' := by
  have hW' := hW
  obtain ⟨p, q, hA0, hV, rfl, hfz, hnd⟩ := hW
  have hA : DataW.TrodAll enc Try.prog W 0 (fun _ => true) true Try.f5.params.toList args.toList ds p := hA0
  have hsz := hsz0
  rw [Try.params5] at hA hval hsz
  obtain ⟨v0, vs0, d0, ds0, p0, q0, hargs, rfl, rfl, h0, r0⟩ := trodAll_cons hA
  obtain ⟨rfl, rfl, rfl⟩ := trodAll_nil r0
  obtain rfl : args = #[v0] := by cases args; simp_all
  obtain ⟨rfl, rfl⟩ := trodVars_none hV
  obtain ⟨A0, c0, l0, rfl, w0⟩ := open_by (hval 0 22 v0 rfl rfl) h0
  clear hA0 hsz hsz0
  simp only [List.append_nil] at hW'
  refine (walk A0 c0 l0 W w0).mono fun e W' ⟨he, hb⟩ => ?_
  subst he
  exact ⟨_, rfl, law_post laidOut (by kernel_rfl) (by kernel_rfl) Try.underlying4 hW' hb rfl⟩

set_option maxRecDepth 100000 in
theorem lifted (os : Os) (started : os.Started) (H : Type) (enc : TypeId × Value → H) :
    ReturnsInHanded {} Try.checked os 5 .any (Rows.poolOnceSpec.pre6 enc Try.prog Try.f5 Rows.poolOnceRow.domain false) (Rows.poolOnceSpec.post enc Try.prog Try.f5 false true false false) := by
  refine returnsInHanded_of_change_sized (C := Try.checked) own started (by kernel_rfl) Try.func5
    (ChangeSpec.witness6 (enc := enc) (C := Try.checked) false ⟨#[], #[.slice none 0 0], []⟩ 8 (by kernel_rfl) (by kernel_rfl) (by kernel_rfl) (by kernel_rfl)) ?_
  intro W base args ds gs before hval hW _ hsz _
  exact contract H enc W base args ds gs before hval hW hsz
/-- The row. -/
theorem holds : Rows.PoolOnceSaid :=
  OpenClaim.holds_of_wide 5 Try.f5 rfl rfl rfl rfl rfl rfl rfl ⟨rfl, rfl, rfl, rfl, rfl⟩ rfl rfl rfl rfl rfl (by kernel_rfl) Try.func5 (by kernel_rfl)
    (of_decide_eq_true (by kernel_rfl)) (by unfold Func.isWrapper; first | (rw [if_pos (by decide +kernel)]; kernel_rfl) | (rw [if_neg (by decide +kernel)]; exact ⟨rfl, rfl⟩))
    (fun os started H enc _ => lifted os started H enc)
end Go.Proofs.Ytlbbbfmnghcdnaa.poolOnce
