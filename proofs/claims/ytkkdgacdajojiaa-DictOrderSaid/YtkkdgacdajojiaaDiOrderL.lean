/- DictOrder: ints from 1 on lie in the array, in whatever order they come; without the last one it is as long as the longest row that has no nil at its end. Conditions: none but the form's own reach. -/
import Derived.Test.YtkkdgacdajojiaaDiLawB
import Derived.Test.YtkkdgacdajojiaaDiOrderA
import Derived.Test.YtkkdgacdajojiaaDiWorks
import Derived.Test.YtkkdgacdajojiaaLawPost
import Derived.ProofKit
import Derived.BigQuiet
import Derived.Deep.LoopGhost
import Derived.Deep.DeepCutAuto
namespace Go.Proofs.Ytkkdgacdajojiaa.dictOrder
set_option maxRecDepth 20000
open Go.ChangeShapes Go.WideShapes Go.ChangeAt Go.RowKit Go.Maps Go.Sort Go.BigFrame

theorem held_keep {w0 w1 w2 : World} {p : Addr} {v : Value} (h : ∀ W, Below w0.heap.size w0 W → W.cell? p = some v) (hs : w1.cell? p = some v ∧ Below w0.heap.size w0 w1) (hb : Below w1.heap.size w1 w2) : w2.cell? p = some v ∧ Below w0.heap.size w0 w2 :=
  ⟨h _ (hs.2.trans (hb.mono hs.2.size)), hs.2.trans (hb.mono hs.2.size)⟩
theorem held_keep3 {w0 w1 w2 : World} {p q r : Addr} {v x y : Value} (h : ∀ W, Below w0.heap.size w0 W → W.cell? p = some v ∧ W.cell? q = some x ∧ W.cell? r = some y) (hs : w1.cell? p = some v ∧ w1.cell? q = some x ∧ w1.cell? r = some y ∧ Below w0.heap.size w0 w1) (hb : Below w1.heap.size w1 w2) : w2.cell? p = some v ∧ w2.cell? q = some x ∧ w2.cell? r = some y ∧ Below w0.heap.size w0 w2 :=
  have h2 := h _ (hs.2.2.2.trans (hb.mono hs.2.2.2.size))
  ⟨h2.1, h2.2.1, h2.2.2, hs.2.2.2.trans (hb.mono hs.2.2.2.size)⟩
set_option maxHeartbeats 8000000 in
theorem walk (a : Int) (A : Option Addr) (c : Nat) (l : List Nat) (hl : 0 ≤ a) (hu : a ≤ 255) (w : World) (h : BySl w (.slice A l.length c) l) :
    Calls Try.prog 6 #[.int .u8 a, .slice A l.length c] w fun e w' => e = .returned (.bool true) ∧ Below w.heap.size w w' := by
  obtain ⟨i0, hi0, hz0, hz1, hz2⟩ := info_parts int64_info
  obtain ⟨m, hm⟩ : ∃ m : Nat, (m : Int) = 1 + a % 20 := ⟨(1 + a % 20).toNat, by omega⟩
  have hm1 : 1 ≤ m ∧ m ≤ 20 := by omega
  have CB : Hid (∀ W, Below w.heap.size w W → l ≠ [] → ∃ a, A = some a ∧ a.block < W.heap.size ∧ ∀ (i x : Nat), l[i]? = some x → W.cell? (a.add i) = some (.int .u8 x) ∧ x ≤ 255) := fun W hb hne => by
    obtain ⟨A', c', e, _, _, h3⟩ := h
    injection e with e1 e2 e3
    subst e1
    obtain ⟨ad, e, hlt, h4⟩ := h3 hne
    exact ⟨ad, e, Nat.lt_of_lt_of_le hlt hb.size, fun i x hx => ⟨(hb.cell (by rw [Go.ChangeShapes.block_add]; exact hlt)).trans (h4 i x hx).1, (h4 i x hx).2⟩⟩
  have hl9 : l.length ≤ 9223372036854775807 := by obtain ⟨A', c', e, h1, h2, _⟩ := h; omega
  obtain ⟨n, hn⟩ : ∃ n, n = l.length := ⟨_, rfl⟩
  have HN := Lib.hid hn
  rw [← hn] at hl9 ⊢
  clear h hn
  go_enter Try.func6, Try.ntmps6
  go_upto_region 2 with fail
  rw [← hm]
  clear hm hl hu
  go_wp2_with fail
  go_loopg [6, 7] (m + 1) (fun q v6 i wr => ∃ (j : Nat) (v : Value), v = v6 ∧ q + j = m + 1 ∧ j ≤ m ∧ i = Value.int .i64 (j : Int) ∧ Hid (wr.ownsRow w.heap.size 2 1 v j ((upTo j).map (Value.int .i64))) ∧ Hid (Below w.heap.size w wr))
  case atStart => exact ⟨0, _, rfl, rfl, Nat.zero_le _, rfl, World.ownsRow_nil _ _ _ _, Below.refl _ _⟩
  case round =>
    obtain ⟨j, v, rfl, hkj, hj, rfl, O, B⟩ := hrel
    by_cases hlt : j < m
    · have q1 : IntKind.i64.wrap ((j : Int) + 1) = (j : Int) + 1 := IntWalk.i64_in _ (by omega)
      have hs := B.out.size
      go_wp2_with (at_builtin; refine wpList_append_own _ rfl (.tmp 33) (.tmp 36) _ rfl w.heap.size 2 i0 _ 1 8 Try.underlying40 hi0 hz0 hz1 hz2 rfl (by decide) _ _ _ rfl (O.out.alloc _) ⟨wr.heap.size, 0, none⟩ 1 1 [.int .i64 ((j : Int) + 1)] rfl rfl (cell_one_new _ _ _) (by simp [Value.oneCell']) (by unfold maxLen; omega) (by omega) (by simp; omega) ?_; intro v2 w2 hown2 hg2 _)
      have OW := Lib.hid hown2
      have GW := Lib.hid hg2
      clear hown2 hg2
      go_roundg (gk - 1)
      case measure => omega
      case rel => exact ⟨j + 1, v2, rfl, by omega, by omega, congrArg (Value.int .i64) (by omega), Lib.hid (by rw [upTo_succ, List.map_append]; exact OW.out), (B.out.alloc hs _).grown GW.out (by simp; omega) fun k hk => (O.out.lt k hk).1⟩
    · have hjm : j = m := by omega
      subst hjm
      obtain ⟨g, co, e, hR, hg⟩ := rowN_of_own O.out (upTo_len j).symm (by omega)
      subst e
      have RN := Lib.hid hR
      have GL := Lib.hid hg
      clear O hR hg hlt hj hkj
      go_wp2_with fail
      go_loopg [8] 42 (fun q i wr => ∃ (ii : Nat) (P : List Int), q + ii = 42 ∧ ii ≤ 40 ∧ i = Value.int .i64 (ii : Int) ∧ Hid (P.Perm (upTo j)) ∧ Hid (RowN wr g P) ∧ Hid (Below w.heap.size w wr))
      case atStart => exact ⟨0, _, rfl, by omega, rfl, List.Perm.refl _, RN.out, B.out⟩
      case round =>
        obtain ⟨ii, P, hki, hii, rfl, PM, RP, BP⟩ := hrel
        obtain ⟨V, rfl⟩ : ∃ V, V = wr := ⟨_, rfl⟩
        have hPl : P.length = j := by rw [PM.out.length_eq, upTo_len]
        by_cases hlt : ii < n ∧ ii < 40
        · obtain ⟨hlt1, hlt2⟩ := hlt
          obtain ⟨x, hx⟩ : ∃ x, l[ii]? = some x := ⟨_, List.getElem?_eq_getElem (by rw [← HN.out]; exact hlt1)⟩
          obtain ⟨ad, e, hbl, h4⟩ := CB.out V BP.out (by rintro rfl; simp at hx)
          subst e
          obtain ⟨h5, h6⟩ := h4 ii x hx
          clear h4 hx
          go_upto_region 10 with fail
          go_region
          obtain ⟨p, hp⟩ : ∃ p : Nat, (p : Int) = (ii : Int) % (j : Int) := ⟨ii % j, by simp⟩
          obtain ⟨b, hb⟩ : ∃ b : Nat, (b : Int) = (x : Int) % (j : Int) := ⟨x % j, by simp⟩
          have hpj : p < j := by have := Int.emod_lt_of_pos (ii : Int) (show (0 : Int) < (j : Int) by omega); omega
          have hbj : b < j := by have := Int.emod_lt_of_pos (x : Int) (show (0 : Int) < (j : Int) by omega); omega
          rw [← hp, ← hb]
          have RP0 : Hid (RowN V.drew g P) := Lib.hid (RP.out.keep rfl)
          have BP0 : Hid (Below w.heap.size w V.drew) := BP.out.drew
          obtain ⟨y1, hy1⟩ : ∃ y, P[p]? = some y := ⟨_, List.getElem?_eq_getElem (by omega)⟩
          obtain ⟨y2, hy2⟩ : ∃ y, P[b]? = some y := ⟨_, List.getElem?_eq_getElem (by omega)⟩
          obtain ⟨c1, c2⟩ := RP0.out.cell hy1
          obtain ⟨c3, c4⟩ := RP0.out.cell hy2
          have sg := RP0.out.lt
          have SW : Hid (((P.set p y2).set b y1).Perm (upTo j)) := by
            have e1 := (List.getElem?_eq_some_iff.1 hy1).2
            have e2 := (List.getElem?_eq_some_iff.1 hy2).2
            have := swap_perm (l := P) (i := p) (j := b) (by omega) (by omega)
            rw [e1, e2] at this
            exact this.trans PM.out
          clear hp hb h5 h6 hbl hy1 hy2
          go_upto_region 13 with fail
          have R1 : Hid (RowN (V.setCell ⟨g, p, none⟩ (.int .i64 y2)).drew g (P.set p y2)) := Lib.hid ((RP.out.set (i := p) (by omega) y2).keep rfl)
          have B1 : Hid (Below w.heap.size w (V.setCell ⟨g, p, none⟩ (.int .i64 y2)).drew) := (BP.out.setCell (p := ⟨g, p, none⟩) GL.out (.int .i64 y2)).drew
          clear c1 c2 c3 c4 RP0 BP0 sg
          generalize (V.setCell ⟨g, p, none⟩ (.int .i64 y2)).drew = V1 at *
          obtain ⟨y3, hy3⟩ : ∃ y, (P.set p y2)[b]? = some y := ⟨_, List.getElem?_eq_getElem (by simp; omega)⟩
          obtain ⟨c3, c4⟩ := R1.out.cell hy3
          have sg := R1.out.lt
          clear hy3
          go_wp2_with fail
          go_roundg (gk - 1)
          case measure => omega
          case rel => exact ⟨ii + 1, (P.set p y2).set b y1, by omega, by omega, congrArg (Value.int .i64) (by omega), SW.out, R1.out.set (by simp; omega) y1, B1.out.setCell (p := ⟨g, b, none⟩) GL.out _⟩
        · have KP : Hid (∀ (k : Nat) (x : Int), P[k]? = some x → (1 ≤ x ∧ x ≤ 20) ∧ x ∉ P.take k ∧ x ∉ P.drop (k + 1)) := fun k x hx => by
            have h1 := upTo_mem.1 (PM.out.mem_iff.1 (List.mem_of_getElem? hx))
            have hn : P.Nodup := PM.out.nodup_iff.2 (upTo_nodup j)
            obtain ⟨hk, e⟩ := List.getElem?_eq_some_iff.1 hx
            have e2 : P = P.take k ++ x :: P.drop (k + 1) := by
              have := List.take_append_drop k P
              rw [List.drop_eq_getElem_cons hk, e] at this
              exact this.symm
            rw [e2] at hn
            obtain ⟨_, h3, h4⟩ := List.nodup_append.1 hn
            refine ⟨by omega, fun hm => h4 x hm x (by simp) rfl, (List.nodup_cons.1 h3).1⟩
          have HPL := Lib.hid hPl
          clear HN CB hPl RN
          go_upto_region 8 with fail
          go_cut [45] (fun s45 wx => s45 = Value.bool false ∧ Hid (wx = V))
          case first =>
            by_cases h1 : ii < n
            · have h2 : ¬ ii < 40 := fun h => hlt ⟨h1, h⟩
              go_wp2_with fail
              go_meet
              exact ⟨congrArg Value.bool (decide_eq_false (by omega)), rfl⟩
            · go_wp2_with fail
              go_meet
              exact ⟨rfl, rfl⟩
          case rest =>
            obtain ⟨rfl, hq⟩ := hcut
            obtain rfl := hq.out.symm
            clear hlt
            go_wp2_with (go_at_call 21; refine (New_any _).mono ?_; rintro e w1 ⟨g0, o0, c0, rfl, hR0, hg0, hb⟩; have R0 := Lib.hid hR0; have B0 := Lib.hid hb; clear hb hR0 hg0)
            have BX : Hid (Below w.heap.size w w1) := BP.out.trans (B0.out.mono BP.out.size)
            have RX : Hid (RowN w1 g P) := RP.out.keep (B0.out.block g RP.out.lt)
            go_loopg [12, 13] (j + 1) (fun q s i wr => ∃ (k N g2 o2 c2 : Nat) (t : Tab), q + k = j + 1 ∧ k ≤ j ∧ i = Value.int .i64 (k : Int) ∧ s = .slice (some ⟨g2, o2, none⟩) N c2 ∧ Hid (N = (layT t).length) ∧ Hid (Ordered t (P.take k)) ∧ Hid (t.arr.length + 2 * t.prs.length ≤ 2 * k) ∧ Hid (RowV wr g2 o2 c2 (layT t)) ∧ Hid (RowN wr g P) ∧ Hid (Below w.heap.size w wr))
            case atStart => exact ⟨0, 2, g0, o0, c0, ⟨nilP, [], []⟩, rfl, Nat.zero_le _, rfl, rfl, rfl, Ordered.start, Nat.le_refl _, R0.out, RX.out, BX.out⟩
            case round =>
              clear R0 B0 BX RX BP RP B
              obtain ⟨k, N, g2, o2, c2, t, hkk, hkj, rfl, rfl, HNN, HO, HS, R, RP, BP⟩ := hrel
              obtain ⟨V2, rfl⟩ : ∃ V2, V2 = wr := ⟨_, rfl⟩
              have HLY : Hid ((layT t).length = 2 + t.arr.length + 2 * t.prs.length) := Lib.hid (by simp [layT, flatQ_len]; omega)
              by_cases hlt : k < j
              · obtain ⟨x, hx⟩ : ∃ x, P[k]? = some x := ⟨_, List.getElem?_eq_getElem (by rw [HPL.out]; exact hlt)⟩
                obtain ⟨hx1, hx2, -⟩ := KP.out k x hx
                obtain ⟨e1, e2⟩ := HO.out.put hx1 hx2
                have E1 := Lib.hid e1
                have E2 : Hid (Ordered (putT t (intP x) (5, x)).1 (P.take (k + 1))) := Lib.hid (by rw [List.take_add_one, hx]; exact e2)
                have E3 : Hid ((putT t (intP x) (5, x)).1.arr.length + 2 * (putT t (intP x) (5, x)).1.prs.length ≤ 2 * (k + 1)) := Lib.hid (by have := put_len t (intP x) (5, x); have := HS.out; omega)
                generalize (putT t (intP x) (5, x)).1 = t2 at *
                have CX : Hid (∀ W, Below V2.heap.size V2 W → W.cell? ⟨g, k, none⟩ = some (.int .i64 x)) := fun W hb => ((RP.out.keep (hb.block g RP.out.lt)).cell hx).1
                have WFX : Hid (wfP (3, x) ∧ wfP (5, x)) := ⟨⟨⟨by simp, by simp⟩, by simp; omega, by simp; omega⟩, ⟨by simp, by simp⟩, by simp; omega, by simp; omega⟩
                have CPU : Hid (∀ W, Below V2.heap.size V2 W → Calls Try.prog 24 #[.slice (some ⟨g2, o2, none⟩) N c2, .agg #[.int .i64 3, .int .i64 x], .agg #[.int .i64 5, .int .i64 x]] W (GivesPut (some (layT t2, []), 0) W)) := fun W hb => by
                  have := Put_any (w := W) (v := .slice (some ⟨g2, o2, none⟩) N c2) (l := layT t) (k := intP x) (x := (5, x)) (.inr ⟨g2, o2, c2, by rw [HNN.out], R.out.keep (hb.block _ R.out.lt), by have := HLY.out; omega⟩) (by have := HLY.out; have := HS.out; omega) WFX.out.1 WFX.out.2
                  rw [E1.out] at this
                  exact this
                have h0 := (RP.out.cell hx).1
                have BB : Hid (Below V2.heap.size V2 V2.drew) := (Below.refl _ _).drew
                clear hx hx1 hx2 e1 e2
                go_upto_region 18 with fail
                go_cut [14, 15, 16] (fun s14 s15 s16 wx => ∃ (g3 o3 c3 d3 : Nat) (A3 : Option Addr), s14 = Value.slice (some ⟨g3, o3, none⟩) (layT t2).length c3 ∧ s15 = Value.slice A3 0 d3 ∧ s16 = Value.int .i64 0 ∧ Hid (RowV wx g3 o3 c3 (layT t2)) ∧ Hid (Below V2.heap.size V2 wx))
                case first =>
                  clear KP PM HPL E1 E2 E3 HO HS HLY RP R BP WFX
                  go_region_held3 (fun w' => w'.cell? ⟨g, k, none⟩ = some (.int .i64 x) ∧ Below V2.heap.size V2 w') (first | exact ⟨h0, (Below.refl _ _).drew⟩ | exact held_keep (fun W => CX.out W) (by assumption) (by assumption))
                    (first
                    | (go_at_call 28; (with_reducible refine (in_any _ _).mono ?_); rintro e w3 ⟨rfl, hb⟩)
                    | (go_at_call 29; (with_reducible refine (str_any _ _).mono ?_); rintro e w4 ⟨rfl, hb⟩)
                    | (go_at_call 24; (with_reducible refine (CPU.out _ (by exact (by assumption : _ ∧ Below V2.heap.size V2 _).2)).mono ?_); rintro e w5 ⟨hb, g3, o3, c3, vg, rfl, hR3, -, hO3⟩; obtain ⟨A3, d3, ev, -⟩ := hO3.sl.pairs; have ev2 : vg = .slice A3 0 d3 := ev; subst ev2))
                  go_wp2_with fail
                  go_meet
                  exact ⟨g3, o3, c3, d3, A3, rfl, rfl, rfl, hR3, (by assumption : _ ∧ Below V2.heap.size V2 w5).2⟩
                case rest =>
                  obtain ⟨g3, o3, c3, d3, A3, rfl, rfl, rfl, R3, B3⟩ := hcut
                  clear h0
                  go_wp2_with fail
                  go_roundg (gk - 1)
                  case measure => omega
                  case rel => exact ⟨k + 1, (layT t2).length, g3, o3, c3, t2, by omega, by omega, congrArg (Value.int .i64) (by omega), rfl, rfl, E2.out, E3.out, R3.out, RP.out.keep (B3.out.block g RP.out.lt), BP.out.trans (B3.out.mono BP.out.size)⟩
              · have hkj2 : k = j := by omega
                have ET : Hid (P.take k = P) := Lib.hid (List.take_of_length_le (by rw [HPL.out]; omega))
                rw [ET.out] at HO
                have MP : Hid (∀ x : Int, x ∈ P ↔ 1 ≤ x ∧ x ≤ j) := fun x => PM.out.mem_iff.trans upTo_mem
                have FA : Hid (t.arr.length = j ∧ t.prs = []) := tab_full HO.out.good (fun x h1 h2 => (HO.out.ne _).2 ⟨(x : Int), (MP.out _).2 (by omega), rfl⟩) (fun kk hne => by
                  obtain ⟨x, hx, e⟩ := (HO.out.ne kk).1 hne
                  have := (MP.out x).1 hx
                  exact ⟨x.toNat, by omega, by omega, by rw [e]; congr 1; omega⟩)
                have CLN : Hid (∀ W, Below V2.heap.size V2 W → Calls Try.prog 16 #[.slice (some ⟨g2, o2, none⟩) N c2] W fun e w' => e = .returned (.int .i64 (j : Int)) ∧ Below W.heap.size W w') := fun W hb => by
                  have := Len_any (w := W) (v := .slice (some ⟨g2, o2, none⟩) N c2) (l := layT t) (.inr ⟨g2, o2, c2, by rw [HNN.out], R.out.keep (hb.block _ R.out.lt)⟩) (by have := HLY.out; have := HS.out; omega)
                  unfold lenL at this
                  rw [cutL_lay HO.out.good] at this
                  simp only [FA.out.1] at this
                  exact this
                have hN : (N : Int) = 2 + (j : Int) := by rw [HNN.out, HLY.out, FA.out.1, FA.out.2]; simp
                have q2 : IntKind.i64.wrap (2 + (j : Int)) = 2 + (j : Int) := IntWalk.i64_in _ (by omega)
                have z2 : ((N : Int) == 2 + (j : Int)) = true := by simp [hN]
                have z3 : ((N : Int) != 2 + (j : Int)) = false := by simp [hN]
                clear hkj2 hN
                go_upto_region 24 with (go_at_call 16; refine (CLN.out _ (Below.refl _ _)).mono ?_; rintro e w6 ⟨rfl, hb⟩; have B6 := Lib.hid hb; clear hb)
                have BN : Hid (Below w.heap.size w w6) := BP.out.trans (B6.out.mono BP.out.size)
                have RN6 : Hid (RowN w6 g P) := RP.out.keep (B6.out.block g RP.out.lt)
                have R6 : Hid (RowV w6 g2 o2 c2 (layT t)) := R.out.keep (B6.out.block _ R.out.lt)
                have FA2 := FA.out
                clear q2 z2 z3 CLN B6 HLY HS RP R
                go_wp2_with fail
                go_loopg [12, 18] (j + 1) (fun q s i wr => ∃ (k N g2 o2 c2 : Nat) (t : Tab), q + k = j + 1 ∧ k ≤ j ∧ i = Value.int .i64 (k : Int) ∧ s = .slice (some ⟨g2, o2, none⟩) N c2 ∧ Hid (N = (layT t).length) ∧ Hid (Ordered t (P.drop k)) ∧ Hid (t.prs = [] ∧ t.arr.length ≤ 20) ∧ Hid (RowV wr g2 o2 c2 (layT t)) ∧ Hid (RowN wr g P) ∧ Hid (wr.heap[w6.heap.size]? = some (.cells #[.int .i64 1, .int .i64 0] 24 (0, 0))) ∧ Hid (Below w.heap.size w wr))
                case atStart =>
                  have ha := MapKept.heap_alloc w6 (.cells #[.int .i64 1, .int .i64 0] 24)
                  exact ⟨0, N, g2, o2, c2, t, rfl, Nat.zero_le _, rfl, rfl, HNN.out, HO.out, ⟨FA2.2, by omega⟩, R6.out.keep (ha.2 _ R6.out.lt), RN6.out.keep (ha.2 _ RN6.out.lt), ha.1, BN.out.alloc BN.out.size _⟩
                case round =>
                  clear FA2 R6 RN6 BN HNN HO
                  obtain ⟨k, N, g2, o2, c2, t, hkk, hkj, rfl, rfl, HNN, HO, HS, R, RP, NC, BP⟩ := hrel
                  obtain ⟨G4, rfl⟩ : ∃ G4, G4 = gk := ⟨_, rfl⟩
                  obtain ⟨V3, rfl⟩ : ∃ V3, V3 = wr := ⟨_, rfl⟩
                  have HLY : Hid ((layT t).length = 2 + t.arr.length) := Lib.hid (by simp [layT, HS.out.1, flatQ]; omega)
                  by_cases hlt : k < j
                  · obtain ⟨x, hx⟩ : ∃ x, P[k]? = some x := ⟨_, List.getElem?_eq_getElem (by rw [HPL.out]; exact hlt)⟩
                    obtain ⟨hx1, -, hx3⟩ := KP.out k x hx
                    have hdr : P.drop k = x :: P.drop (k + 1) := by rw [List.drop_eq_getElem_cons (by rw [HPL.out]; exact hlt), (List.getElem?_eq_some_iff.1 hx).2]
                    rw [hdr] at HO
                    obtain ⟨e1, e2, e3⟩ := HO.out.out HS.out.1 hx1 hx3
                    have E1 := Lib.hid e1
                    have E2 := Lib.hid e2
                    have E3 := Lib.hid e3
                    generalize (putT t (intP x) nilP).1 = t2 at *
                    have CX : Hid (∀ W, Below V3.heap.size V3 W → W.cell? ⟨g, k, none⟩ = some (.int .i64 x) ∧ W.heap[w6.heap.size]? = some (.cells #[.int .i64 1, .int .i64 0] 24 (0, 0))) := fun W hb => ⟨((RP.out.keep (hb.block g RP.out.lt)).cell hx).1, (hb.block _ (mem_block_lt NC.out)).trans NC.out⟩
                    have WFX : Hid (wfP (3, x) ∧ wfP (5, x)) := ⟨⟨⟨by simp, by simp⟩, by simp; omega, by simp; omega⟩, ⟨by simp, by simp⟩, by simp; omega, by simp; omega⟩
                    have CPU : Hid (∀ W, Below V3.heap.size V3 W → Calls Try.prog 24 #[.slice (some ⟨g2, o2, none⟩) N c2, .agg #[.int .i64 3, .int .i64 x], .agg #[.int .i64 1, .int .i64 0]] W (GivesPut (some (layT t2, [(5, x)]), 0) W)) := fun W hb => by
                      have := Put_any (w := W) (v := .slice (some ⟨g2, o2, none⟩) N c2) (l := layT t) (k := intP x) (x := nilP) (.inr ⟨g2, o2, c2, by rw [HNN.out], R.out.keep (hb.block _ R.out.lt), by have := HLY.out; omega⟩) (by have := HLY.out; have := HS.out.2; omega) WFX.out.1 (wf_dec (by decide))
                      rw [E1.out] at this
                      exact this
                    have h0 := (RP.out.cell hx).1
                    obtain ⟨z0, z1, -, -⟩ := cells2 NC.out
                    have BB : Hid (Below V3.heap.size V3 V3.drew) := (Below.refl _ _).drew
                    have HXK := Lib.hid hx
                    have HXB := Lib.hid hx1
                    clear hx hx1 hx3 e1 e2 e3 hdr
                    go_upto_region 28 with fail
                    have CX3 : ∀ W, Below V3.heap.size V3 W → W.cell? ⟨g, k, none⟩ = some (.int .i64 x) ∧ W.cell? ⟨w6.heap.size, 0, none⟩ = some (.int .i64 1) ∧ W.cell? ⟨w6.heap.size, 1, none⟩ = some (.int .i64 0) := fun W hb => ⟨(CX.out W hb).1, (cells2 (CX.out W hb).2).1, (cells2 (CX.out W hb).2).2.1⟩
                    go_region_held3 (fun w' => w'.cell? ⟨g, k, none⟩ = some (.int .i64 x) ∧ w'.cell? ⟨w6.heap.size, 0, none⟩ = some (.int .i64 1) ∧ w'.cell? ⟨w6.heap.size, 1, none⟩ = some (.int .i64 0) ∧ Below V3.heap.size V3 w') (first | exact ⟨h0, z0, z1, (Below.refl _ _).drew⟩ | exact held_keep3 CX3 (by assumption) (by assumption))
                      (first
                      | (go_at_call 28; (with_reducible refine (in_any _ _).mono ?_); rintro e w7 ⟨rfl, hb⟩)
                      | (go_at_call 24; (with_reducible refine (CPU.out _ (by exact (by assumption : _ ∧ _ ∧ _ ∧ Below V3.heap.size V3 _).2.2.2)).mono ?_); rintro e w8 ⟨hb, g3, o3, c3, vg, rfl, hR3, -, hO3⟩; have hs3 := hO3.sl; obtain ⟨A3, d3, ev, -⟩ := hs3.pairs; have ev2 : vg = .slice A3 1 d3 := ev; subst ev2))
                    have R3 := Lib.hid hR3
                    have S3 := Lib.hid hs3
                    have B3 : Hid (Below V3.heap.size V3 w8) := (by assumption : _ ∧ _ ∧ _ ∧ Below V3.heap.size V3 w8).2.2.2
                    obtain ⟨N3, HN3⟩ : ∃ N3, Hid (N3 = (layT t2).length) := ⟨_, rfl⟩
                    rw [← HN3.out]
                    obtain ⟨wc, rfl⟩ : ∃ wc, wc = w8 := ⟨_, rfl⟩
                    clear hR3 hs3
                    have h0 := (CX.out _ B3.out).1
                    have q1 : IntKind.i64.wrap ((k : Int) + 1) = (k : Int) + 1 := IntWalk.i64_in _ (by omega)
                    clear z0 z1
                    go_upto_region 31 with (first
                      | (go_at_call 29; refine (str_any _ _).mono ?_; rintro e w7 ⟨rfl, hb⟩; have B7 := Lib.hid hb; clear hb)
                      | (go_at_call 30; refine (is_any (la := [(5, x)]) (lb := [(5, x)]) (S3.out.keep (B7.out.alloc B7.out.size _)) (.inr ⟨w7.heap.size, 0, 1, rfl, ⟨[.int .i64 5, .int .i64 x], (MapKept.heap_alloc w7 _).1, by simp, rfl⟩, by simp, by decide, fun v hv => by simp at hv; subst hv; exact WFX.out.2⟩) (by simp)).mono ?_; rintro e w8 ⟨rfl, hb⟩; rw [decide_eq_true rfl]; have B8 := Lib.hid ((B7.out.alloc B7.out.size _).trans (hb.mono (B7.out.alloc B7.out.size _).size)); clear hb))
                    have B8x : Hid (Below V3.heap.size V3 w8) := B3.out.trans (B8.out.mono B3.out.size)
                    have RP8 : Hid (RowN w8 g P) := RP.out.keep (B8x.out.block g RP.out.lt)
                    have R8 : Hid (RowV w8 g3 o3 c3 (layT t2)) := R3.out.keep (B8.out.block _ R3.out.lt)
                    have NC8 : Hid (w8.heap[w6.heap.size]? = some (.cells #[.int .i64 1, .int .i64 0] 24 (0, 0))) := (CX.out _ B8x.out).2
                    have BP8 : Hid (Below w.heap.size w w8) := BP.out.trans (B8x.out.mono BP.out.size)
                    clear CPU CX CX3 B7 B8 B8x R3 S3 B3 h0 BB WFX RP R NC BP HO HS HLY HNN
                    obtain ⟨Z, rfl⟩ : ∃ Z, Z = w8 := ⟨_, rfl⟩
                    go_wp2_with fail
                    go_loopg [22, 23] (j + 1) (fun q s22 s23 wr => ∃ (jj : Nat) (mo : Int), j + 1 ≤ q + jj ∧ k + 1 ≤ jj ∧ jj ≤ j ∧ s23 = .int .i64 (jj : Int) ∧ s22 = .int .i64 mo ∧ 0 ≤ mo ∧ mo ≤ 20 ∧ Hid ((∀ (i : Nat) y, k + 1 ≤ i → i < jj → P[i]? = some y → y ≤ mo) ∧ (mo = 0 ∨ ∃ i, k + 1 ≤ i ∧ P[i]? = some mo)) ∧ Hid (wr = Z))
                    case atStart =>
                      exact ⟨k + 1, 0, by omega, Nat.le_refl _, by omega, congrArg (Value.int .i64) (by omega), rfl, by omega, by omega, ⟨fun i y h1 h2 => by omega, .inl rfl⟩, rfl⟩
                    case round =>
                      obtain ⟨jj, mo, hjk, hk1, hjj, rfl, rfl, hm0, hm20, MO, HZ⟩ := hrel
                      obtain rfl := HZ.out
                      by_cases hlt5 : jj < j
                      · obtain ⟨y, hy⟩ : ∃ y, P[jj]? = some y := ⟨_, List.getElem?_eq_getElem (by rw [HPL.out]; exact hlt5)⟩
                        obtain ⟨hy1, -, -⟩ := KP.out jj y hy
                        obtain ⟨c5, -⟩ := RP8.out.cell hy
                        have sg := RP8.out.lt
                        have HY := Lib.hid hy
                        have MO2 : Hid ((∀ (i : Nat) y', k + 1 ≤ i → i < jj + 1 → P[i]? = some y' → y' ≤ max mo y) ∧ (max mo y = 0 ∨ ∃ i, k + 1 ≤ i ∧ P[i]? = some (max mo y))) := by
                          refine ⟨fun i y' h1 h2 h3 => ?_, ?_⟩
                          · by_cases hi : i < jj
                            · exact Int.le_trans (MO.out.1 i y' h1 hi h3) (Int.le_max_left _ _)
                            · obtain rfl : i = jj := by omega
                              rw [hy] at h3
                              injection h3 with h3
                              subst h3
                              exact Int.le_max_right _ _
                          · by_cases hle : mo ≤ y
                            · rw [Int.max_eq_right hle]; exact .inr ⟨jj, hk1, hy⟩
                            · rw [Int.max_eq_left (by omega)]; exact MO.out.2
                        clear hy
                        go_wp2_with fail
                        go_roundg (gk - 1)
                        case measure => omega
                        case rel => exact ⟨jj + 1, max mo y, by omega, by omega, by omega, by go_num, rfl, by omega, by omega, MO2, rfl⟩
                      · skip
                        have hjj2 : jj = j := by omega
                        have ML : Hid (mo = t2.arr.length) := tab_top E2.out.good E3.out (R := P.drop (k + 1)) (fun x hx => by
                            obtain ⟨i, hi⟩ := List.getElem?_of_mem hx
                            rw [List.getElem?_drop] at hi
                            exact ⟨(KP.out _ x hi).1.1, (E2.out.ne _).2 ⟨x, hx, rfl⟩⟩) (fun kk hne => (E2.out.ne kk).1 hne) (fun x hx => by
                            obtain ⟨i, hi⟩ := List.getElem?_of_mem hx
                            rw [List.getElem?_drop] at hi
                            have := (List.getElem?_eq_some_iff.1 hi).1
                            rw [HPL.out] at this
                            exact MO.out.1 _ x (by omega) (by omega) hi) (MO.out.2.imp id fun ⟨i, h1, h2⟩ => List.mem_of_getElem? (i := i - (k + 1)) (by rw [List.getElem?_drop, show k + 1 + (i - (k + 1)) = i by omega]; exact h2))
                        obtain ⟨la, hla⟩ : ∃ la : Nat, la = t2.arr.length := ⟨_, rfl⟩
                        obtain rfl : mo = (la : Int) := by rw [hla]; exact ML.out
                        have HLA := Lib.hid hla
                        clear hla
                        have CLN : Hid (∀ W, Below wr.heap.size wr W → Calls Try.prog 16 #[.slice (some ⟨g3, o3, none⟩) N3 c3] W fun e w' => e = .returned (.int .i64 (la : Int)) ∧ Below W.heap.size W w') := fun W hb => by
                          have := Len_any (w := W) (v := .slice (some ⟨g3, o3, none⟩) N3 c3) (l := layT t2) (.inr ⟨g3, o3, c3, by rw [HN3.out], R8.out.keep (hb.block _ R8.out.lt)⟩) (by simp [layT, E3.out, flatQ]; have := HLA.out; omega)
                          unfold lenL at this
                          rw [cutL_lay E2.out.good] at this
                          simp only [← HLA.out] at this
                          exact this
                        have hN : (N3 : Int) = 2 + (la : Int) := by rw [HN3.out]; simp [layT, E3.out, flatQ]; have := HLA.out; omega
                        have q2 : IntKind.i64.wrap (2 + (la : Int)) = 2 + (la : Int) := IntWalk.i64_in _ (by omega)
                        have z2 : ((N3 : Int) == 2 + (la : Int)) = true := by simp [hN]
                        have hla20 : la ≤ 20 := by omega
                        clear hjj2 hN MO ML
                        go_upto_region 27 with (go_at_call 16; refine (CLN.out _ (Below.refl _ _)).mono ?_; rintro e w9 ⟨rfl, hb⟩; have B9 := Lib.hid hb; clear hb)
                        go_wp2_with fail
                        go_roundg (G4 - 1)
                        case measure => omega
                        case rel => exact ⟨k + 1, N3, g3, o3, c3, t2, by omega, by omega, congrArg (Value.int .i64) (by omega), rfl, HN3.out, E2.out, ⟨E3.out, by rw [← HLA.out]; exact hla20⟩, R8.out.keep (B9.out.block _ R8.out.lt), RP8.out.keep (B9.out.block g RP8.out.lt), (B9.out.block _ (mem_block_lt NC8.out)).trans NC8.out, BP8.out.trans (B9.out.mono BP8.out.size)⟩
                  · have ED : Hid (P.drop k = []) := Lib.hid (List.drop_eq_nil_of_le (by rw [HPL.out]; omega))
                    rw [ED.out] at HO
                    have FA : (0 : Int) = t.arr.length := tab_top HO.out.good HS.out.1 (R := []) (fun x hx => by simp at hx) (fun kk hne => by obtain ⟨x, hx, _⟩ := (HO.out.ne kk).1 hne; simp at hx) (fun x hx => by simp at hx) (.inl rfl)
                    have hA : t.arr = [] := List.length_eq_zero_iff.1 (by omega)
                    have HT : Hid (layT t = [(1, 0), (3, 0)]) := Lib.hid (by unfold layT; rw [hA, HS.out.1, HO.out.head]; rfl)
                    rw [HT.out] at HNN R
                    obtain rfl : N = 2 := HNN.out
                    have CI : Hid (∀ W Y, Below V3.heap.size V3 W → PairsAt W (some Y) [(1, 0), (3, 0)] → Calls Try.prog 30 #[.slice (some ⟨g2, o2, none⟩) 2 c2, .slice (some Y) 2 2] W fun e w' => e = .returned (.bool true) ∧ Below W.heap.size W w') := fun W Y hb hY => by
                      obtain ⟨A, c, e, hp⟩ := SlV.pairs (.inr ⟨g2, o2, c2, rfl, R.out.keep (hb.block _ R.out.lt)⟩ : SlV W (.slice (some ⟨g2, o2, none⟩) 2 c2) [(1, 0), (3, 0)])
                      injection e with e1 e2 e3
                      subst e1
                      have := is_pairs (c := c2) (d := 2) hp hY (by decide)
                      rw [decide_eq_true rfl] at this
                      exact this
                    have NW : Hid (∀ W, Below V3.heap.size V3 W → W.heap[w6.heap.size]? = some (.cells #[.int .i64 1, .int .i64 0] 24 (0, 0))) := fun W hb => (hb.block _ (mem_block_lt NC.out)).trans NC.out
                    clear HT ED FA hA HO HS HLY RP R
                    go_upto_region 39 with fail
                    have BB := Lib.hid ((Below.refl V3.heap.size V3).drew)
                    obtain ⟨z0, z1, -, -⟩ := cells2 (NW.out _ BB.out)
                    go_region_law (first
                      | (go_simp; go_at_call 28; refine (in_any _ _).mono ?_; rintro e wx ⟨rfl, hb⟩; replace BB := Lib.hid (BB.out.trans (hb.mono BB.out.size)); obtain ⟨z0, z1, -, -⟩ := cells2 (NW.out _ BB.out); clear hb)
                      | (go_simp; go_at_call 30; refine (CI.out _ _ (BB.out.alloc BB.out.size _) (pairs_alloc [(1, 0), (3, 0)] _ _)).mono ?_; rintro e wx ⟨rfl, hb⟩; replace BB := Lib.hid ((BB.out.alloc BB.out.size _).trans (hb.mono (BB.out.alloc BB.out.size _).size)); obtain ⟨z0, z1, -, -⟩ := cells2 (NW.out _ BB.out); clear hb)
                      | (go_simp; go_at_call 23; (with_reducible refine (works_true _).mono ?_); rintro e wx ⟨rfl, hb⟩; replace BB := Lib.hid (BB.out.trans (hb.mono BB.out.size)); obtain ⟨z0, z1, -, -⟩ := cells2 (NW.out _ BB.out); clear hb))
                    all_goals
                      go_wp2_with fail
                      go_ret
                      exact ⟨rfl, BP.out.trans (BB.out.mono BP.out.size)⟩
theorem own : ownKnob Try.prog.godebug = none := by kernel_rfl
theorem laidOut : laidOutB Try.prog = true := by kernel_rfl
set_option maxRecDepth 100000 in
theorem contract (H : Type) (enc : TypeId × Value → H) (W : World) (base : Nat) (args : Array Value) (ds gs : List (DataW H)) (before : List MemPlace)
    (hval : ∀ (j : Nat) t v, Try.f6.params[j]? = some t → args[j]? = some v → Value.okWide Try.prog W .any base t v)
    (hW : DataW.Whole enc Try.prog Try.f6.params.toList Rows.dictOrderSpec.vars false W args.toList ds gs before)
    (hsz0 : (DataW.weightsEach Try.prog (Try.f6.params.toList ++ Rows.dictOrderSpec.plain.varTypes Try.prog) (ds ++ gs)).all (· ≤ reachBytes) = true) :
    Calls Try.prog 6 args W fun e W' => ∃ v, e = .returned v ∧ Rows.dictOrderSpec.post enc Try.prog Try.f6 false true false false W args v W' := by
  have hW' := hW
  obtain ⟨p, q, hA0, hV, rfl, hfz, hnd⟩ := hW
  have hA : DataW.TrodAll enc Try.prog W 0 (fun _ => true) true Try.f6.params.toList args.toList ds p := hA0
  have hsz := hsz0
  rw [Try.params6] at hA hval hsz
  obtain ⟨v0, vs0, d0, ds0, p0, q0, hargs, rfl, rfl, h0, r0⟩ := trodAll_cons hA
  obtain ⟨v1, vs1, d1, ds1, p1, q1, rfl, rfl, rfl, h1, r1⟩ := trodAll_cons r0
  obtain ⟨rfl, rfl, rfl⟩ := trodAll_nil r1
  obtain rfl : args = #[v0, v1] := by cases args; simp_all
  obtain ⟨rfl, rfl⟩ := trodVars_none hV
  obtain ⟨a0, rfl, rfl, rfl, w0⟩ := open_int Try.underlying5 (hval 0 5 v0 rfl rfl) h0
  obtain ⟨l0, u0⟩ := of_wf_u8 w0
  obtain ⟨A1, c1, l1, rfl, w1⟩ := open_by (hval 1 39 v1 rfl rfl) h1
  clear hA0 hsz hsz0
  simp only [List.append_nil] at hW'
  refine (walk a0 A1 c1 l1 l0 u0 W w1).mono fun e W' ⟨he, hb⟩ => ?_
  subst he
  exact ⟨_, rfl, law_post laidOut (by kernel_rfl) (by kernel_rfl) Try.underlying4 hW' hb rfl⟩

set_option maxRecDepth 100000 in
theorem lifted (os : Os) (started : os.Started) (H : Type) (enc : TypeId × Value → H) :
    ReturnsInHanded {} Try.checked os 6 .any (Rows.dictOrderSpec.pre6 enc Try.prog Try.f6 Rows.dictOrderRow.domain false) (Rows.dictOrderSpec.post enc Try.prog Try.f6 false true false false) := by
  refine returnsInHanded_of_change_sized (C := Try.checked) own started (by kernel_rfl) Try.func6
    (ChangeSpec.witness6 (enc := enc) (C := Try.checked) false ⟨#[], #[.int .u8 0, .slice none 0 0], []⟩ 8 (by kernel_rfl) (by kernel_rfl) (by kernel_rfl) (by kernel_rfl)) ?_
  intro W base args ds gs before hval hW _ hsz _
  exact contract H enc W base args ds gs before hval hW hsz
/-- The row. -/
theorem holds : Rows.DictOrderSaid :=
  OpenClaim.holds_of_wide 6 Try.f6 rfl rfl rfl rfl rfl rfl rfl ⟨rfl, rfl, rfl, rfl, rfl⟩ rfl rfl rfl rfl rfl (by kernel_rfl) Try.func6 (by kernel_rfl)
    (of_decide_eq_true (by kernel_rfl)) (by unfold Func.isWrapper; first | (rw [if_pos (by decide +kernel)]; kernel_rfl) | (rw [if_neg (by decide +kernel)]; exact ⟨rfl, rfl⟩))
    (fun os started H enc _ => lifted os started H enc)
end Go.Proofs.Ytkkdgacdajojiaa.dictOrder
