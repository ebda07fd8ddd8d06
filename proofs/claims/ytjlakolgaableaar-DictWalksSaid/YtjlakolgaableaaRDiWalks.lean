/- DictWalks: the keys that Next tells, one behind the other, are just those that have something else than nil, each once: for any changes, 40 at most. Conditions: none but the form's own reach. -/
import Derived.Test.YtjlakolgaableaaRDiLawB
import Derived.Test.YtjlakolgaableaaRDiWalk
import Derived.Test.YtjlakolgaableaaRDiWorks
import Derived.Test.YtjlakolgaableaaRLawPost
import Derived.ProofKit
import Derived.BigQuiet
import Derived.Deep.LoopGhost
import Derived.Deep.DeepCutAuto
namespace Go.Proofs.YtjlakolgaableaaR.dictWalks
set_option maxRecDepth 20000
open Go.ChangeShapes Go.WideShapes Go.ChangeAt Go.RowKit Go.Maps Go.Sort Go.BigFrame

theorem row_one {w : World} {x : VV} (hx : wfP x) : RowV (w.alloc (.cells #[iV x.1, iV x.2] 24)) w.heap.size 0 1 [x] :=
  ⟨⟨[iV x.1, iV x.2], (MapKept.heap_alloc w _).1, by simp, rfl⟩, by simp, by decide, fun v hv => by simp at hv; subst hv; exact hx⟩
theorem keys_wf {t : Tab} (h : ∀ v ∈ layT t, wfP v) (hl : t.arr.length ≤ 1073741824) : ∀ x ∈ restT t 0, wfP x := by
  intro x hx
  unfold restT at hx
  rw [Nat.zero_sub, Nat.zero_div, List.drop_zero, List.drop_zero] at hx
  rcases List.mem_append.1 hx with hx | hx
  · obtain ⟨i, v, h1, _, h3⟩ := (arrKeys_mem _ _ _).1 hx
    have hi := (List.getElem?_eq_some_iff.1 h1).1
    rw [h3]
    exact ⟨⟨by simp [intP], by simp [intP]⟩, by simp [intP]; omega, by simp [intP]; omega⟩
  · obtain ⟨y, hy, e⟩ := List.mem_map.1 hx
    obtain ⟨i, hi⟩ := List.mem_iff_getElem?.1 hy
    have := List.mem_of_getElem? (flatQ_at _ _ _ hi).1
    rw [← e]
    exact h _ (by unfold layT; simp [this])
theorem keys_nn {t : Tab} (h : Good t) : ∀ x ∈ restT t 0, x ≠ nilP := by
  intro x hx
  unfold restT at hx
  rw [Nat.zero_sub, Nat.zero_div, List.drop_zero, List.drop_zero] at hx
  rcases List.mem_append.1 hx with hx | hx
  · obtain ⟨i, v, h1, _, h3⟩ := (arrKeys_mem _ _ _).1 hx
    rw [h3]
    unfold intP nilP
    intro e
    injection e with e
    exact absurd e (by decide)
  · obtain ⟨y, hy, e⟩ := List.mem_map.1 hx
    rw [← e]
    exact key_nil (pairOk_iff.1 (h.prs y hy)).1
theorem step_append_one {ops : Array Oper} {rest : List Oper} {o : Oper} {a : Act} {w : World} {Q : Exit → Act → World → Prop} (hgd : o.guard = none) (s x : Operand)
    (ho : o.op = .call { callee := .builtin .append, args := #[s, x], argTypes := #[22, 22] }) (base : Nat) (v : Value) (L : List VV) (hs : a.eval s = v) (u : World) (y : VV) (hw : w = u.alloc (.cells #[iV y.1, iV y.2] 24)) (hown : OwnV u base v L)
    (hx : a.eval x = .slice (some ⟨u.heap.size, 0, none⟩) 1 1) (hy : wfP y) (hlen : L.length ≤ 1000000) (hbase : base ≤ u.heap.size)
    (h : ∀ v' w', Hid (OwnV w' base v' (L ++ [y])) → Hid (w.grownBy w' v.ownBlock) → (v'.ownBlock = v.ownBlock ∨ v'.ownBlock = some w.heap.size) → wpList Try.prog ops Q rest (a.put o.dst v') w') : wpList Try.prog ops Q (o :: rest) a w := by
  subst hw
  exact wpList_append_vals hgd s x ho base v L hs (hown.below ((Below.refl _ _).alloc (Nat.le_refl _) _)) _ [y] hx (.inr ⟨u.heap.size, 0, 1, rfl, row_one hy⟩) (by simp; omega) (by simp; omega) h
set_option maxHeartbeats 8000000 in
theorem walk (A : Option Addr) (c : Nat) (l : List Chg) (w : World) (h : ChgAt w A l ∧ l.length ≤ c ∧ c ≤ 9223372036854775807 ∧ (A = none → c = 0)) :
    Calls Try.prog 7 #[.slice A l.length c] w fun e w' => e = .returned (.bool true) ∧ Below w.heap.size w w' := by
  obtain ⟨h, hc1, hc2, hc3⟩ := h
  go_enter Try.func7, Try.ntmps7
  have SC := fun (W : World) (m : Nat) (h : m ≤ c) => run_cut W A l.length c m h hc3
  go_upto_region 2 with fail
  obtain ⟨m, hm⟩ : ∃ m, m = (min (l.length : Int) 40).toNat := ⟨_, rfl⟩
  rw [← hm]
  have hm1 : m ≤ 40 ∧ m ≤ l.length := by omega
  obtain ⟨L, hL⟩ : ∃ L, L = l.take m := ⟨_, rfl⟩
  have hLm : m = L.length := by rw [hL, List.length_take]; omega
  have HC0 : Hid (∀ W, Below w.heap.size w W → ChgAt W A L) := fun W hb => by rw [hL]; exact (h.take m).below (Nat.le_refl _) hb
  have HLM := Lib.hid hLm
  have hm2 := hm1.1
  clear hm hm1 hL hLm h SC hc1 hc2 hc3
  obtain ⟨t, ht⟩ := tab_any L
  have HTO := Lib.hid ht
  have LS : Hid ((tabL L).1.length ≤ 82 ∧ 2 ≤ (tabL L).1.length ∧ (tabL L).1 = layT t ∧ cutL (tabL L).1 = some t ∧ t.arr.length + t.prs.length ≤ 80 ∧ t.arr.length + 2 * t.prs.length ≤ 80) := by
    have h1 := ht.small
    have h2 := ht.out
    have h3 := HLM.out
    have h4 : (tabL L).1.length = 2 + t.arr.length + 2 * t.prs.length := by rw [ht.lay]; simp [layT, flatQ_len]; omega
    exact ⟨by omega, by omega, ht.lay, by rw [ht.lay]; exact cutL_lay ht.good, by omega, by omega⟩
  have TB : Hid (∀ W, Below w.heap.size w W → Calls Try.prog 24 #[.slice A m c] W fun e w' => ∃ g off c' vo N, N = (tabL L).1.length ∧ e = .returned (.tuple #[.slice (some ⟨g, off, none⟩) N c', vo]) ∧ RowV w' g off c' (tabL L).1 ∧ Below W.heap.size W w') := fun W hb => by
    rw [HLM.out]
    refine (table_any (HC0.out W hb) (by have := HLM.out; omega)).mono ?_
    rintro e w' ⟨g, off, c', vo, he, h1, h2, h3⟩
    exact ⟨g, off, c', vo, _, rfl, he, h1, h3⟩
  clear ht
  go_upto_region 5 with (go_at_call 24; refine (TB.out _ (Below.refl _ _)).mono ?_; rintro e w1 ⟨g, off, c1, vo, N, hN, rfl, hR, hb⟩; have HN := Lib.hid hN; have R1 := Lib.hid hR; have B1 := Lib.hid hb; clear hb hR hN)
  have R2 : Hid (∀ W, Below (w1.alloc (.cells #[.int .i64 1, .int .i64 0] 24)).heap.size (w1.alloc (.cells #[.int .i64 1, .int .i64 0] 24)) W → RowV W g off c1 (tabL L).1) := fun W hb => (R1.out.keep ((MapKept.heap_alloc w1 _).2 _ R1.out.lt)).keep (hb.block _ (by have := R1.out.lt; simp; omega))
  have N2 : Hid (∀ W, Below (w1.alloc (.cells #[.int .i64 1, .int .i64 0] 24)).heap.size (w1.alloc (.cells #[.int .i64 1, .int .i64 0] 24)) W → W.heap[w1.heap.size]? = some (.cells #[.int .i64 1, .int .i64 0] 24 (0, 0))) := fun W hb => (hb.block _ (by simp)).trans (MapKept.heap_alloc w1 _).1
  have BB : Hid (Below w.heap.size w (w1.alloc (.cells #[.int .i64 1, .int .i64 0] 24))) := B1.out.alloc B1.out.size _
  have sz1 : w1.heap.size < (w1.alloc (.cells #[.int .i64 1, .int .i64 0] 24)).heap.size := by simp
  obtain ⟨z0, z1, -, -⟩ := cells2 (N2.out _ (Below.refl _ _))
  generalize w1.alloc (.cells #[.int .i64 1, .int .i64 0] 24) = w2 at *
  have l0 := LS.out
  have NX : Hid (∀ W kk p, elemOk kk = true → wfP kk → behindT t kk = some p → Below w2.heap.size w2 W → Calls Try.prog 22 #[.slice (some ⟨g, off, none⟩) N c1, vV kk] W fun e w' => e = .returned (.tuple #[vV (fromT t p), .int .i64 0]) ∧ Below W.heap.size W w') := fun W kk p h1 h2 h3 hb => by
    have := Next_any (w := W) (v := .slice (some ⟨g, off, none⟩) N c1) (.inr ⟨g, off, c1, by rw [HN.out], R2.out W hb⟩) (by omega) h2
    rw [l0.2.2.1, next_of HTO.out.good h1 h3] at this
    exact this
  have GT : Hid (∀ W x, wfP x → Below w2.heap.size w2 W → Calls Try.prog 14 #[.slice (some ⟨g, off, none⟩) N c1, vV x] W fun e w' => e = .returned (vV (getT t x)) ∧ Below W.heap.size W w') := fun W x h2 hb => by
    have := Get_any (w := W) (v := .slice (some ⟨g, off, none⟩) N c1) (.inr ⟨g, off, c1, by rw [HN.out], R2.out W hb⟩) (by omega) h2
    unfold getL at this
    rw [l0.2.2.2.1] at this
    exact this
  have KN : Hid (restT t 0).Nodup := keys_nodup HTO.out.good
  have KL : Hid ((restT t 0).length ≤ 80) := Lib.hid (Nat.le_trans (keys_len t) l0.2.2.2.2.1)
  have KM : Hid (∀ x, x ∈ restT t 0 ↔ getT t x ≠ nilP) := keys_mem HTO.out.good
  have KW : Hid (∀ x ∈ restT t 0, wfP x) := keys_wf (by rw [← l0.2.2.1]; exact R1.out.wf) (by omega)
  have KV : Hid (∀ x ∈ restT t 0, x ≠ nilP) := keys_nn HTO.out.good
  have RN : Hid (∀ (p : Nat) (x : VV) (r : List VV), PlaceT t p → restT t p = x :: r → ∃ p', behindT t x = some p' ∧ PlaceT t p' ∧ restT t p' = r ∧ elemOk x = true) := fun p x r h1 h2 => rest_next HTO.out.good h1 h2
  have r0 : Hid (restT t 0 = (restT t 0).drop 0) := rfl
  obtain ⟨KK, hKK⟩ : ∃ KK, KK = restT t 0 := ⟨_, rfl⟩
  have RK : Hid (restT t 0 = KK) := hKK.symm
  rw [← hKK] at KN KL KM KW KV
  clear hKK r0 l0 TB R1 B1
  go_wp2_with fail
  go_loopg [6, 8] 83 (fun q v6 i wr => ∃ (j : Nat) (v : Value) (kk : VV), v = v6 ∧ q + j = 83 ∧ j ≤ KK.length ∧ i = Value.int .i64 (j : Int) ∧ Hid (elemOk kk = true ∧ wfP kk ∧ ∃ p, behindT t kk = some p ∧ PlaceT t p ∧ restT t p = KK.drop j) ∧ Hid (wr.heap[w2.heap.size]? = some (.cells #[iV kk.1, iV kk.2] 24 (0, 0))) ∧ Hid (OwnV wr (w2.heap.size + 1) v (KK.take j)) ∧ Hid (Below w2.heap.size w2 wr))
  case atStart => exact ⟨0, _, nilP, rfl, rfl, Nat.zero_le _, rfl, ⟨by decide, ⟨by decide, by decide⟩, 0, behind_nilT t, .inl (Nat.zero_le _), RK.out⟩, Lib.hid (MapKept.heap_alloc w2 _).1, OwnV.nil _ _, (Below.refl _ _).alloc (Nat.le_refl _) _⟩
  case round =>
    obtain ⟨j, v, kk, rfl, hkj, hj, rfl, HKK, WC, OA, B⟩ := hrel
    obtain ⟨G, rfl⟩ : ∃ G, G = gk := ⟨_, rfl⟩
    obtain ⟨As, cs, es, -⟩ := OA.out.sl.pairs
    rw [List.length_take, Nat.min_eq_left hj] at es
    subst es
    obtain ⟨k1, k2, p, k3, k4, k5⟩ := HKK.out
    have CN : Hid (∀ W, Below w2.heap.size w2 W → Calls Try.prog 22 #[.slice (some ⟨g, off, none⟩) N c1, .agg #[.int .i64 kk.1, .int .i64 kk.2]] W fun e w' => e = .returned (.tuple #[vV ((KK.drop j).headD nilP), .int .i64 0]) ∧ Below W.heap.size W w') := fun W hb => by
      have := NX.out W kk p k1 k2 k3 hb
      rw [from_rest k4, k5] at this
      exact this
    have hj80 : (j : Int) ≤ 80 := by have := KL.out; omega
    obtain ⟨y0, y1, y2, y3⟩ := cells2 WC.out
    have sW := mem_block_lt WC.out
    by_cases hlt : j < KK.length
    · obtain ⟨x, hx⟩ : ∃ x, KK[j]? = some x := ⟨_, List.getElem?_eq_getElem hlt⟩
      have hd : KK.drop j = x :: KK.drop (j + 1) := by rw [List.drop_eq_getElem_cons hlt, (List.getElem?_eq_some_iff.1 hx).2]
      have HX := Lib.hid hx
      obtain ⟨p', n1, n2, n3, n4⟩ := RN.out p x _ k4 (k5.trans hd)
      have HN2 : Hid (elemOk x = true ∧ wfP x ∧ ∃ p, behindT t x = some p ∧ PlaceT t p ∧ restT t p = KK.drop (j + 1)) := ⟨n4, KW.out x (List.mem_of_getElem? hx), p', n1, n2, n3⟩
      rw [hd, List.headD_cons] at CN
      obtain ⟨x1, x2⟩ := x
      clear k1 k2 k3 k4 k5 n1 n2 n3 n4 HKK hd hx
      go_upto_region 10 with (go_at_call 22; refine (CN.out _ B.out).mono ?_; rintro e w5 ⟨rfl, hb⟩; have B5 := Lib.hid hb; clear hb)
      have HNN : Hid ((x1, x2) ≠ nilP) := KV.out _ (List.mem_of_getElem? HX.out)
      have B55 := Lib.hid (B.out.trans (B5.out.mono B.out.size))
      have s5 := Nat.lt_of_lt_of_le sW B5.out.size
      have ha := MapKept.heap_alloc w5 (.cells #[.int .i64 x1, .int .i64 x2] 24)
      have B6 : Hid (Below w2.heap.size w2 (w5.alloc (.cells #[.int .i64 x1, .int .i64 x2] 24))) := B55.out.alloc B55.out.size _
      have WC6 : Hid ((w5.alloc (.cells #[.int .i64 x1, .int .i64 x2] 24)).heap[w2.heap.size]? = some (.cells #[iV kk.1, iV kk.2] 24 (0, 0))) := Lib.hid ((ha.2 _ s5).trans ((B5.out.block _ sW).trans WC.out))
      have N6 : Hid ((w5.alloc (.cells #[.int .i64 x1, .int .i64 x2] 24)).heap[w5.heap.size]? = some (.cells #[.int .i64 x1, .int .i64 x2] 24 (0, 0))) := Lib.hid ha.1
      have OA6 : Hid (OwnV (w5.alloc (.cells #[.int .i64 x1, .int .i64 x2] 24)) (w2.heap.size + 1) (.slice As j cs) (KK.take j)) := (OA.out.below B5.out).below ((Below.refl _ _).alloc (Nat.le_refl _) _)
      clear ha
      generalize w5.alloc (.cells #[.int .i64 x1, .int .i64 x2] 24) = w6 at *
      obtain ⟨y0, y1, y2, y3⟩ := cells2 WC6.out
      obtain ⟨y4, y5, -, -⟩ := cells2 N6.out
      have l6 := mem_block_lt WC6.out
      have l7 := mem_block_lt N6.out
      go_upto_region 13 with fail
      have S2 := set_two (x := .int .i64 x1) (y := .int .i64 x2) WC6.out
      have B7 := Lib.hid (below_set2 (a := 0) (b := 1) B6.out (Nat.le_refl _) (.int .i64 x1) (.int .i64 x2))
      have WC7 := Lib.hid S2.1
      have OA7 := Lib.hid (OA6.out.keep fun q hq => S2.2 q (fun e => by have := (OA6.out.1.lt q hq).1; omega))
      clear S2 y0 y1 y2 y3 y4 y5 l6 l7 N6 OA6 B6 WC6
      generalize (w6.setCell ⟨w2.heap.size, 0, none⟩ (.int .i64 x1)).setCell ⟨w2.heap.size, 1, none⟩ (.int .i64 x2) = w7 at *
      obtain ⟨y0, y1, y2, y3⟩ := cells2 WC7.out
      obtain ⟨z0, z1, -, -⟩ := cells2 (N2.out _ B7.out)
      go_cut [42] (fun s42 wx => s42 = Value.bool false ∧ Hid (wx = w7))
      case first =>
        by_cases e1 : x1 = 1
        · have e2 : (x2 == 0) = false := not_eq (fun e => HNN.out (by rw [e1, e]; rfl))
          have e3 : (x1 == 1) = true := by simp [e1]
          go_wp2_with fail
          go_meet
          exact ⟨rfl, rfl⟩
        · have e3 : (x1 == 1) = false := not_eq e1
          go_wp2_with fail
          go_meet
          exact ⟨rfl, rfl⟩
      case rest =>
        obtain ⟨rfl, hq⟩ := hcut
        obtain rfl := hq.out.symm
        obtain ⟨A7, c7, e7, PA⟩ := OA7.out.sl.pairs
        have e8 : A7 = As := by injection e7 with e7; exact e7.symm
        subst e8
        have PA7 := Lib.hid PA
        clear e7 PA
        go_wp2_with fail
        go_loopg [11] (j + 1) (fun q i wr => ∃ jj n : Nat, q + jj = j + 1 ∧ jj ≤ j ∧ i = Value.int .i64 (jj : Int) ∧ wr = w7.drewN n)
        case atStart => exact ⟨0, 0, rfl, Nat.zero_le _, rfl, rfl⟩
        case round =>
          obtain ⟨jj, n, hkj2, hjj, rfl, rfl⟩ := hrel
          by_cases hlt2 : jj < j
          · obtain ⟨y, hy⟩ : ∃ y, KK[jj]? = some y := ⟨_, List.getElem?_eq_getElem (by omega)⟩
            have hyx : y ≠ (x1, x2) := fun e => by
              obtain ⟨l1, e1⟩ := List.getElem?_eq_some_iff.1 hy
              obtain ⟨l2, e2⟩ := List.getElem?_eq_some_iff.1 HX.out
              have := (List.getElem_inj KN.out).1 (e1.trans (e.trans e2.symm))
              omega
            obtain ⟨ad, e, -, h0, h1⟩ := PA7.out jj y (by rw [List.getElem?_take_of_lt hlt2]; exact hy)
            subst e
            rw [add_one] at h1
            obtain ⟨v1, v2⟩ := y
            have HYX := Lib.hid hyx
            clear hy hyx
            by_cases e1 : v1 = x1
            · have e2 : (v2 == x2) = false := not_eq (fun e => HYX.out (by rw [e1, e]))
              have e3 : (v1 == x1) = true := by simp [e1]
              clear e1
              go_wp2_with fail
              go_quiet (fail)
              go_wp2_with fail
              go_roundg (gk - 1)
              case measure => omega
              case rel => exact ⟨jj + 1, _, by omega, by omega, congrArg (Value.int .i64) (by omega), rfl⟩
            · have e3 : (v1 == x1) = false := not_eq e1
              clear e1
              go_wp2_with fail
              go_quiet (fail)
              go_wp2_with fail
              go_roundg (gk - 1)
              case measure => omega
              case rel => exact ⟨jj + 1, _, by omega, by omega, congrArg (Value.int .i64) (by omega), rfl⟩
          · have B8 : Hid (Below w2.heap.size w2 (w7.drewN n)) := below_drewN B7.out n
            have WC8 : Hid ((w7.drewN n).heap[w2.heap.size]? = some (.cells #[.int .i64 x1, .int .i64 x2] 24 (0, 0))) := Lib.hid WC7.out
            have OA8 : Hid (OwnV (w7.drewN n) (w2.heap.size + 1) (.slice A7 j cs) (KK.take j)) := Lib.hid (OA7.out.keep fun _ _ => rfl)
            clear y0 y1 y2 y3 z0 z1 PA7 B7 WC7 OA7
            generalize w7.drewN n = w8 at *
            obtain ⟨y0, y1, y2, y3⟩ := cells2 WC8.out
            obtain ⟨z0, z1, -, -⟩ := cells2 (N2.out _ B8.out)
            have hun := (KM.out (x1, x2)).1 (List.mem_of_getElem? HX.out)
            have CG := GT.out
            have cG := fun d os => Calls.regrown_of (CG _ (x1, x2) HN2.out.2.1 (B8.out.trans ((below_regrown w8 d os).mono B8.out.size)))
            clear CG
            generalize getT t (x1, x2) = u at *
            obtain ⟨u1, u2⟩ := u
            have HU := Lib.hid hun
            have k0 := fun d os => cell_regrown y0 d os
            have k1 := fun d os => cell_regrown y1 d os
            have k2 := fun d os => cell_regrown z0 d os
            have k3 := fun d os => cell_regrown z1 d os
            clear hun
            go_upto_region 19 with fail
            go_cut [59] (fun s59 wx => s59 = Value.bool false ∧ Hid (Below w8.heap.size w8 wx))
            case first =>
              by_cases e1 : u1 = 1
              · have e2 : (u2 == 0) = false := not_eq (fun e => HU.out (by rw [e1, e]; rfl))
                have e3 : (u1 == 1) = true := by simp [e1]
                refine wp_region_quiet_below (by kernel_rfl) (by kernel_rfl) ?_
                repeat (go_big_quiet_step (with_reducible exact cG _ _))
                refine wpQuiet_nil ?_
                intro w3 ⟨⟨dq, osq⟩, hw3⟩
                have B3 : Hid (Below w8.heap.size w8 w3) := by rw [hw3]; exact below_regrown w8 dq osq
                clear hw3
                go_wp2_with fail
                go_meet
                exact ⟨rfl, B3⟩
              · have e3 : (u1 == 1) = false := not_eq e1
                refine wp_region_quiet_below (by kernel_rfl) (by kernel_rfl) ?_
                repeat (go_big_quiet_step (with_reducible exact cG _ _))
                refine wpQuiet_nil ?_
                intro w3 ⟨⟨dq, osq⟩, hw3⟩
                have B3 : Hid (Below w8.heap.size w8 w3) := by rw [hw3]; exact below_regrown w8 dq osq
                clear hw3
                go_wp2_with fail
                go_meet
                exact ⟨rfl, B3⟩
            case rest =>
              obtain ⟨rfl, HC⟩ := hcut
              have B9 : Hid (Below w2.heap.size w2 wc) := B8.out.trans (HC.out.mono B8.out.size)
              have l8 := mem_block_lt WC8.out
              have WC9 : Hid (wc.heap[w2.heap.size]? = some (.cells #[.int .i64 x1, .int .i64 x2] 24 (0, 0))) := (HC.out.block _ l8).trans WC8.out
              have OA9 : Hid (OwnV wc (w2.heap.size + 1) (.slice A7 j cs) (KK.take j)) := OA8.out.below HC.out
              obtain ⟨y0, y1, -, -⟩ := cells2 WC9.out
              have l9 := mem_block_lt WC9.out
              have ET : Hid (KK.take (j + 1) = KK.take j ++ [(x1, x2)]) := Lib.hid (by rw [List.take_add_one, HX.out]; rfl)
              clear k0 k1 k2 k3 cG z0 z1 l8 OA8 WC8 HU
              go_wp2_with (at_builtin; refine step_append_one rfl (.tmp 60) (.tmp 62) rfl (w2.heap.size + 1) (.slice A7 j cs) (KK.take j) rfl wc (x1, x2) rfl OA9.out rfl HN2.out.2.1 (by rw [List.length_take]; have := KL.out; omega) l9 ?_; intro v10 w10 hO10 hG10 hat)
              have LO : Hid (∀ q, (Value.slice A7 j cs).ownBlock = some q → w2.heap.size + 1 ≤ q) := fun q hq => (OA9.out.1.lt q hq).1
              have B10 : Hid (Below w2.heap.size w2 w10) := (B9.out.alloc B9.out.size _).grown hG10.out (by simp; have := B9.out.size; omega) fun q hq => Nat.le_of_succ_le (LO.out q hq)
              have WC10 : Hid (w10.heap[w2.heap.size]? = some (.cells #[.int .i64 x1, .int .i64 x2] 24 (0, 0))) := (hG10.out.block _ (by simp; omega) (fun e => by have := LO.out _ e.symm; omega)).trans (((MapKept.heap_alloc wc _).2 _ l9).trans WC9.out)
              go_roundg (G - 1)
              case measure => omega
              case rel => exact ⟨j + 1, v10, (x1, x2), rfl, by omega, by omega, congrArg (Value.int .i64) (by omega), HN2.out, WC10.out, Lib.hid (by rw [ET.out]; exact hO10.out), B10.out⟩
    · have hjl : j = KK.length := by omega
      have hd : KK.drop j = [] := List.drop_of_length_le (by omega)
      have ET : Hid (KK.take j = KK) := Lib.hid (List.take_of_length_le (by omega))
      rw [hd, List.headD_nil] at CN
      replace CN : Hid (∀ W, Below w2.heap.size w2 W → Calls Try.prog 22 #[.slice (some ⟨g, off, none⟩) N c1, .agg #[.int .i64 kk.1, .int .i64 kk.2]] W fun e w' => e = .returned (.tuple #[vV (1, 0), .int .i64 0]) ∧ Below W.heap.size W w') := CN
      have HNL := Lib.hid hjl
      have hn80 : j ≤ 80 := by omega
      clear k1 k2 k3 k4 k5 HKK hd hjl hlt hj
      go_upto_region 10 with (go_at_call 22; refine (CN.out _ B.out).mono ?_; rintro e w5 ⟨rfl, hb⟩; have B5 := Lib.hid hb; clear hb)
      have B55 := Lib.hid (B.out.trans (B5.out.mono B.out.size))
      have s5 := Nat.lt_of_lt_of_le sW B5.out.size
      have ha := MapKept.heap_alloc w5 (.cells #[.int .i64 1, .int .i64 0] 24)
      have B6 : Hid (Below w2.heap.size w2 (w5.alloc (.cells #[.int .i64 1, .int .i64 0] 24))) := B55.out.alloc B55.out.size _
      have WC6 : Hid ((w5.alloc (.cells #[.int .i64 1, .int .i64 0] 24)).heap[w2.heap.size]? = some (.cells #[iV kk.1, iV kk.2] 24 (0, 0))) := Lib.hid ((ha.2 _ s5).trans ((B5.out.block _ sW).trans WC.out))
      have N6 : Hid ((w5.alloc (.cells #[.int .i64 1, .int .i64 0] 24)).heap[w5.heap.size]? = some (.cells #[.int .i64 1, .int .i64 0] 24 (0, 0))) := Lib.hid ha.1
      have OA6 : Hid (OwnV (w5.alloc (.cells #[.int .i64 1, .int .i64 0] 24)) (w2.heap.size + 1) (.slice As j cs) (KK.take j)) := (OA.out.below B5.out).below ((Below.refl _ _).alloc (Nat.le_refl _) _)
      clear ha
      generalize w5.alloc (.cells #[.int .i64 1, .int .i64 0] 24) = w6 at *
      obtain ⟨y0, y1, y2, y3⟩ := cells2 WC6.out
      obtain ⟨y4, y5, -, -⟩ := cells2 N6.out
      have l6 := mem_block_lt WC6.out
      have l7 := mem_block_lt N6.out
      go_upto_region 13 with fail
      have S2 := set_two (x := .int .i64 1) (y := .int .i64 0) WC6.out
      have B7 := Lib.hid (below_set2 (a := 0) (b := 1) B6.out (Nat.le_refl _) (.int .i64 1) (.int .i64 0))
      have WC7 := Lib.hid S2.1
      have OA7 := Lib.hid (OA6.out.keep fun q hq => S2.2 q (fun e => by have := (OA6.out.1.lt q hq).1; omega))
      clear S2 y0 y1 y2 y3 y4 y5 l6 l7 N6 OA6 B6 WC6
      generalize (w6.setCell ⟨w2.heap.size, 0, none⟩ (.int .i64 1)).setCell ⟨w2.heap.size, 1, none⟩ (.int .i64 0) = w7 at *
      obtain ⟨y0, y1, y2, y3⟩ := cells2 WC7.out
      obtain ⟨z0, z1, -, -⟩ := cells2 (N2.out _ B7.out)
      obtain ⟨A7, c7, e7, PA⟩ := OA7.out.sl.pairs
      have e8 : A7 = As := by injection e7 with e7; exact e7.symm
      subst e8
      rw [ET.out] at PA
      have PA7 := Lib.hid PA
      have B7w : Hid (Below w.heap.size w w7) := BB.out.trans (B7.out.mono BB.out.size)
      obtain ⟨n, hnj⟩ : ∃ n, n = j := ⟨_, rfl⟩
      subst hnj
      clear e7 PA hkj CN WC OA B B5 B55 s5 sW hj80
      go_wp2_with fail
      go_loopg [12] (m + 1) (fun q i wr => ∃ ii : Nat, q + ii = m + 1 ∧ ii ≤ m ∧ i = Value.int .i64 (ii : Int) ∧ Hid (Below w7.heap.size w7 wr))
      case atStart => exact ⟨0, rfl, Nat.zero_le _, rfl, Below.refl _ _⟩
      case round =>
        obtain ⟨ii, hki, hii, rfl, BV⟩ := hrel
        obtain ⟨G3, rfl⟩ : ∃ G3, G3 = gk := ⟨_, rfl⟩
        obtain ⟨V, rfl⟩ : ∃ V, V = wr := ⟨_, rfl⟩
        by_cases hlt3 : ii < m
        · obtain ⟨p3, hp3⟩ : ∃ p3, L[ii]? = some p3 := ⟨_, List.getElem?_eq_getElem (by rw [← HLM.out]; exact hlt3)⟩
          obtain ⟨hw1, -, ad3, e, hbl, d0, d1, -, -⟩ := HC0.out V (B7w.out.trans (BV.out.mono B7w.out.size)) ii p3 hp3
          subst e
          rw [add_one] at d1
          obtain ⟨⟨a1, b1⟩, x3⟩ := p3
          have HW1 := Lib.hid hw1
          clear hp3 hw1 hbl y0 y1 y2 y3 z0 z1
          go_wp2_with fail
          go_loopg [13, 14] (n + 1) (fun q th i wr => ∃ jj : Nat, q + jj = n + 1 ∧ jj ≤ n ∧ i = Value.int .i64 (jj : Int) ∧ th = Value.bool (decide ((a1, b1) ∈ KK.take jj)) ∧ Hid (Below V.heap.size V wr))
          case atStart => exact ⟨0, rfl, Nat.zero_le _, rfl, by simp, Below.refl _ _⟩
          case round =>
            obtain ⟨jj, hkj4, hjj4, rfl, rfl, BX⟩ := hrel
            by_cases hlt4 : jj < n
            · obtain ⟨y, hy⟩ : ∃ y, KK[jj]? = some y := ⟨_, List.getElem?_eq_getElem (by rw [← HNL.out]; exact hlt4)⟩
              obtain ⟨ad, e, hb4, h0, h1⟩ := PA7.out jj y hy
              subst e
              rw [add_one] at h1
              replace h0 := (BV.out.cell (World.block_lt_of_cell? _ _ h0)).trans h0
              replace h1 := (BV.out.cell (World.block_lt_of_cell? _ _ h1)).trans h1
              replace h0 := (BX.out.cell (World.block_lt_of_cell? _ _ h0)).trans h0
              replace h1 := (BX.out.cell (World.block_lt_of_cell? _ _ h1)).trans h1
              have d0' := (BX.out.cell (World.block_lt_of_cell? _ _ d0)).trans d0
              have d1' := (BX.out.cell (World.block_lt_of_cell? _ _ d1)).trans d1
              have k0 := fun d os => cell_regrown h0 d os
              have k1 := fun d os => cell_regrown h1 d os
              have k2 := fun d os => cell_regrown d0' d os
              have k3 := fun d os => cell_regrown d1' d os
              have M1 : decide ((a1, b1) ∈ KK.take (jj + 1)) = (decide ((a1, b1) ∈ KK.take jj) || decide ((a1, b1) = y)) := by
                rw [List.take_add_one, hy, Option.toList_some]
                simp [List.mem_append, Bool.decide_or]
              obtain ⟨v1, v2⟩ := y
              clear hy hb4 d0' d1'
              cases hm : decide ((a1, b1) ∈ KK.take jj) with
              | true =>
                rw [hm, Bool.true_or] at M1
                have M2 := Lib.hid M1
                clear M1 hm
                go_upto_region 31 with fail
                refine wp_region_quiet_below (by kernel_rfl) (by kernel_rfl) ?_
                repeat (go_big_quiet_step (fail))
                refine wpQuiet_nil ?_
                intro w3 ⟨⟨dq, osq⟩, hw3⟩
                have B3 : Hid (Below wr.heap.size wr w3) := by rw [hw3]; exact below_regrown wr dq osq
                clear hw3
                go_wp2_with fail
                go_roundg (gk - 1)
                case measure => omega
                case rel => exact ⟨jj + 1, by omega, by omega, congrArg (Value.int .i64) (by omega), congrArg Value.bool M2.out.symm, BX.out.trans (B3.out.mono BX.out.size)⟩
              | false =>
                rw [hm, Bool.false_or] at M1
                clear hm
                by_cases he : (a1, b1) = (v1, v2)
                · have M2 : Hid (decide ((a1, b1) ∈ KK.take (jj + 1)) = true) := Lib.hid (by rw [M1, he]; simp)
                  injection he with e1 e2
                  have z1 : (v1 == a1) = true := by simp [e1]
                  have z2 : (v2 == b1) = true := by simp [e2]
                  clear M1 e1 e2
                  go_upto_region 31 with fail
                  refine wp_region_quiet_below (by kernel_rfl) (by kernel_rfl) ?_
                  repeat (go_big_quiet_step (fail))
                  refine wpQuiet_nil ?_
                  intro w3 ⟨⟨dq, osq⟩, hw3⟩
                  have B3 : Hid (Below wr.heap.size wr w3) := by rw [hw3]; exact below_regrown wr dq osq
                  clear hw3
                  go_wp2_with fail
                  go_roundg (gk - 1)
                  case measure => omega
                  case rel => exact ⟨jj + 1, by omega, by omega, congrArg (Value.int .i64) (by omega), congrArg Value.bool M2.out.symm, BX.out.trans (B3.out.mono BX.out.size)⟩
                · have M2 : Hid (decide ((a1, b1) ∈ KK.take (jj + 1)) = false) := Lib.hid (by rw [M1]; exact decide_eq_false he)
                  clear M1
                  by_cases e1 : v1 = a1
                  · have z1 : (v1 == a1) = true := by simp [e1]
                    have z2 : (v2 == b1) = false := not_eq (fun e => he (by rw [e1, e]))
                    clear he e1
                    go_upto_region 31 with fail
                    refine wp_region_quiet_below (by kernel_rfl) (by kernel_rfl) ?_
                    repeat (go_big_quiet_step (fail))
                    refine wpQuiet_nil ?_
                    intro w3 ⟨⟨dq, osq⟩, hw3⟩
                    have B3 : Hid (Below wr.heap.size wr w3) := by rw [hw3]; exact below_regrown wr dq osq
                    clear hw3
                    go_wp2_with fail
                    go_roundg (gk - 1)
                    case measure => omega
                    case rel => exact ⟨jj + 1, by omega, by omega, congrArg (Value.int .i64) (by omega), congrArg Value.bool M2.out.symm, BX.out.trans (B3.out.mono BX.out.size)⟩
                  · have z1 : (v1 == a1) = false := not_eq e1
                    clear he e1
                    go_upto_region 31 with fail
                    refine wp_region_quiet_below (by kernel_rfl) (by kernel_rfl) ?_
                    repeat (go_big_quiet_step (fail))
                    refine wpQuiet_nil ?_
                    intro w3 ⟨⟨dq, osq⟩, hw3⟩
                    have B3 : Hid (Below wr.heap.size wr w3) := by rw [hw3]; exact below_regrown wr dq osq
                    clear hw3
                    go_wp2_with fail
                    go_roundg (gk - 1)
                    case measure => omega
                    case rel => exact ⟨jj + 1, by omega, by omega, congrArg (Value.int .i64) (by omega), congrArg Value.bool M2.out.symm, BX.out.trans (B3.out.mono BX.out.size)⟩
            · have hjn4 : jj = n := by omega
              have EK : Hid (KK.take jj = KK) := Lib.hid (List.take_of_length_le (by rw [← HNL.out]; omega))
              have BZ : Hid (Below w2.heap.size w2 wr) := B7.out.trans ((BV.out.trans (BX.out.mono BV.out.size)).mono B7.out.size)
              have hun := KM.out (a1, b1)
              have CG := GT.out
              have cG := fun d os => Calls.regrown_of (CG _ (a1, b1) HW1.out (BZ.out.trans ((below_regrown wr d os).mono BZ.out.size)))
              clear CG
              generalize getT t (a1, b1) = u at *
              obtain ⟨u1, u2⟩ := u
              obtain ⟨z0, z1, -, -⟩ := cells2 (N2.out _ BZ.out)
              have d0' := (BX.out.cell (World.block_lt_of_cell? _ _ d0)).trans d0
              have d1' := (BX.out.cell (World.block_lt_of_cell? _ _ d1)).trans d1
              have k0 := fun d os => cell_regrown z0 d os
              have k1 := fun d os => cell_regrown z1 d os
              have k2 := fun d os => cell_regrown d0' d os
              have k3 := fun d os => cell_regrown d1' d os
              rw [EK.out]
              clear hjn4
              cases hm : decide ((a1, b1) ∈ KK) with
              | true =>
                have HU := Lib.hid (hun.1 (of_decide_eq_true hm))
                clear hun hm
                go_upto_region 32 with fail
                go_cut [102] (fun s102 wx => s102 = Value.bool false ∧ Hid (Below wr.heap.size wr wx))
                case first =>
                  by_cases e1 : u1 = 1
                  · have e2 : (u2 == 0) = false := not_eq (fun e => HU.out (by rw [e1, e]; rfl))
                    have e3 : (u1 == 1) = true := by simp [e1]
                    refine wp_region_quiet_below (by kernel_rfl) (by kernel_rfl) ?_
                    repeat (go_big_quiet_step (with_reducible exact cG _ _))
                    refine wpQuiet_nil ?_
                    intro w3 ⟨⟨dq, osq⟩, hw3⟩
                    have B3 : Hid (Below wr.heap.size wr w3) := by rw [hw3]; exact below_regrown wr dq osq
                    clear hw3
                    go_wp2_with fail
                    go_meet
                    exact ⟨rfl, B3⟩
                  · have e3 : (u1 == 1) = false := not_eq e1
                    refine wp_region_quiet_below (by kernel_rfl) (by kernel_rfl) ?_
                    repeat (go_big_quiet_step (with_reducible exact cG _ _))
                    refine wpQuiet_nil ?_
                    intro w3 ⟨⟨dq, osq⟩, hw3⟩
                    have B3 : Hid (Below wr.heap.size wr w3) := by rw [hw3]; exact below_regrown wr dq osq
                    clear hw3
                    go_wp2_with fail
                    go_meet
                    exact ⟨rfl, B3⟩
                case rest =>
                  obtain ⟨rfl, HC⟩ := hcut
                  go_wp2_with fail
                  go_roundg (G3 - 1)
                  case measure => omega
                  case rel => exact ⟨ii + 1, by omega, by omega, congrArg (Value.int .i64) (by omega), BV.out.trans ((BX.out.trans (HC.out.mono BX.out.size)).mono BV.out.size)⟩
              | false =>
                have HU : (u1, u2) = nilP := Classical.byContradiction fun e => absurd (hun.2 e) (of_decide_eq_false hm)
                injection HU with e1 e2
                subst e1; subst e2
                clear hun hm
                go_upto_region 32 with fail
                go_cut [102] (fun s102 wx => s102 = Value.bool false ∧ Hid (Below wr.heap.size wr wx))
                case first =>
                  refine wp_region_quiet_below (by kernel_rfl) (by kernel_rfl) ?_
                  repeat (go_big_quiet_step (with_reducible exact cG _ _))
                  refine wpQuiet_nil ?_
                  intro w3 ⟨⟨dq, osq⟩, hw3⟩
                  have B3 : Hid (Below wr.heap.size wr w3) := by rw [hw3]; exact below_regrown wr dq osq
                  clear hw3
                  go_wp2_with fail
                  go_meet
                  exact ⟨rfl, B3⟩
                case rest =>
                  obtain ⟨rfl, HC⟩ := hcut
                  go_wp2_with fail
                  go_roundg (G3 - 1)
                  case measure => omega
                  case rel => exact ⟨ii + 1, by omega, by omega, congrArg (Value.int .i64) (by omega), BV.out.trans ((BX.out.trans (HC.out.mono BX.out.size)).mono BV.out.size)⟩
        · go_wp2_with (go_at_call 19; (with_reducible refine (works_true _).mono ?_); rintro e w8 ⟨rfl, hb⟩; have BW := Lib.hid hb; clear hb)
          go_ret
          exact ⟨rfl, B7w.out.trans ((BV.out.trans (BW.out.mono BV.out.size)).mono B7w.out.size)⟩
theorem own : ownKnob Try.prog.godebug = none := by kernel_rfl
theorem laidOut : laidOutB Try.prog = true := by kernel_rfl
set_option maxRecDepth 100000 in
theorem contract (H : Type) (enc : TypeId × Value → H) (W : World) (base : Nat) (args : Array Value) (ds gs : List (DataW H)) (before : List MemPlace)
    (hval : ∀ (j : Nat) t v, Try.f7.params[j]? = some t → args[j]? = some v → Value.okWide Try.prog W .any base t v)
    (hW : DataW.Whole enc Try.prog Try.f7.params.toList Rows.dictWalksSpec.vars false W args.toList ds gs before)
    (hsz0 : (DataW.weightsEach Try.prog (Try.f7.params.toList ++ Rows.dictWalksSpec.plain.varTypes Try.prog) (ds ++ gs)).all (· ≤ reachBytes) = true) :
    Calls Try.prog 7 args W fun e W' => ∃ v, e = .returned v ∧ Rows.dictWalksSpec.post enc Try.prog Try.f7 false true false false W args v W' := by
  have hW' := hW
  obtain ⟨p, q, hA0, hV, rfl, hfz, hnd⟩ := hW
  have hA : DataW.TrodAll enc Try.prog W 0 (fun _ => true) true Try.f7.params.toList args.toList ds p := hA0
  have hsz := hsz0
  rw [Try.params7] at hA hval hsz
  obtain ⟨v0, vs0, d0, ds0, p0, q0, hargs, rfl, rfl, h0, r0⟩ := trodAll_cons hA
  obtain ⟨rfl, rfl, rfl⟩ := trodAll_nil r0
  obtain rfl : args = #[v0] := by cases args; simp_all
  obtain ⟨rfl, rfl⟩ := trodVars_none hV
  obtain ⟨A0, c0, l0, rfl, w0⟩ := open_chgs (hval 0 39 v0 rfl rfl) h0
  clear hA0 hsz hsz0
  simp only [List.append_nil] at hW'
  refine (walk A0 c0 l0 W w0).mono fun e W' ⟨he, hb⟩ => ?_
  subst he
  exact ⟨_, rfl, law_post laidOut (by kernel_rfl) (by kernel_rfl) Try.underlying4 hW' hb rfl⟩

set_option maxRecDepth 100000 in
theorem lifted (os : Os) (started : os.Started) (H : Type) (enc : TypeId × Value → H) :
    ReturnsInHanded {} Try.checked os 7 .any (Rows.dictWalksSpec.pre6 enc Try.prog Try.f7 Rows.dictWalksRow.domain false) (Rows.dictWalksSpec.post enc Try.prog Try.f7 false true false false) := by
  refine returnsInHanded_of_change_sized (C := Try.checked) own started (by kernel_rfl) Try.func7
    (ChangeSpec.witness6 (enc := enc) (C := Try.checked) false ⟨#[], #[.slice none 0 0], []⟩ 8 (by kernel_rfl) (by kernel_rfl) (by kernel_rfl) (by kernel_rfl)) ?_
  intro W base args ds gs before hval hW _ hsz _
  exact contract H enc W base args ds gs before hval hW hsz
/-- The row. -/
theorem holds : Rows.DictWalksSaid :=
  OpenClaim.holds_of_wide 7 Try.f7 rfl rfl rfl rfl rfl rfl rfl ⟨rfl, rfl, rfl, rfl, rfl⟩ rfl rfl rfl rfl rfl (by kernel_rfl) Try.func7 (by kernel_rfl)
    (of_decide_eq_true (by kernel_rfl)) (by unfold Func.isWrapper; first | (rw [if_pos (by decide +kernel)]; kernel_rfl) | (rw [if_neg (by decide +kernel)]; exact ⟨rfl, rfl⟩))
    (fun os started H enc _ => lifted os started H enc)
end Go.Proofs.YtjlakolgaableaaR.dictWalks
