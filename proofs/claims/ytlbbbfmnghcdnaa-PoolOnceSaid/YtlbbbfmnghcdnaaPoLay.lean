/- The closure that lays a number among the free ones. -/
import Derived.Test.YtlbbbfmnghcdnaaPoReplace
import Derived.Test.YtlbbbfmnghcdnaaPoSearch
import Derived.RegionTactic
import Derived.ChangeAlike
import Derived.Deep.DeepCutAuto
namespace Go.Proofs.Ytlbbbfmnghcdnaa
set_option maxRecDepth 20000
open Go.RowKit Go.Maps

theorem at_world {P : Program} {c : Code} {Q : Exit → Act → World → Prop} {a : Act} {W : World} (S : World → Prop) (hS : S W) (h : ∀ W', S W' → Code.wp P c Q a W') : Code.wp P c Q a W := h W hS
theorem Replace_z (w : World) (g off n c i j vb : Nat) (zi zj : Int) (hzi : zi = (i : Int)) (hzj : zj = (j : Int)) (es : List Value) (x y : Value) (hrow : RowF w g off n c es) (h1 : ∀ v ∈ es, v.oneCell' = true) (hn : n ≤ 1099511627776)
    (hv : w.heap[vb]? = some (.cells #[x, y] 77 (0, 0))) (hx : x.oneCell' = true) (hy : y.oneCell' = true) (hne : vb ≠ g) (hij : i ≤ j) (hj : j ≤ n) (hji : j ≤ i + 2) (hi : i < n) :
    Calls Try.prog 46 #[.slice (some ⟨g, off, none⟩) n c, nV zi, nV zj, .slice (some ⟨vb, 0, none⟩) 1 1] w fun e w' => GoodR w g (i + 1 + (n - j)) (es.take (2 * i) ++ x :: y :: es.drop (2 * j)) e w' := by
  subst hzi; subst hzj
  exact Replace_any w g off n c i vb es x y hrow h1 hn hv hx hy hne j hij hj hji hi
theorem cell_after {W w6 : World} {o : Obj} {g : Nat} {a : Addr} {v : Value} (k : (W.alloc o).grownBy w6 (some g)) (h : W.cell? a = some v) (hne : a.block ≠ g) : w6.cell? a = some v :=
  k.cell ((World.cell?_alloc_lt W _ a (World.block_lt_of_cell? W a h)).trans h) (by simpa using hne)
theorem froz_after {W w6 : World} {o : Obj} {g : Nat} {a : Addr} {v : Bool} (k : (W.alloc o).grownBy w6 (some g)) (ha : a.block < W.heap.size) (h : W.frozen? a = v) (hne : a.block ≠ g) : w6.frozen? a = v :=
  (World.frozen?_of_block (a := a) (k.block a.block (by simp; omega) (by simpa using hne))).trans ((World.frozen?_of_block (a := a) (Below.heap_alloc W _ _ ha)).trans h)
theorem alloc_drew_new (W : World) (o : Obj) : (W.alloc o).drew.heap[W.heap.size]? = some o := (MapKept.heap_alloc W o).1
theorem alloc_drew_old (W : World) (o : Obj) (k : Nat) (hk : k < W.heap.size) : (W.alloc o).drew.heap[k]? = W.heap[k]? := Below.heap_alloc W o k hk
theorem grown_of_drew {a b : World} {row : Option Nat} (h : a.drew.grownBy b row) : a.grownBy b row := ⟨h.os, h.tape, h.output, h.size, h.block⟩
theorem set_pair0 {W : World} {gb : Nat} {x y u : Value} {T : TypeId} (h : W.heap[gb]? = some (.cells #[x, y] T (0, 0))) : (W.setCell ⟨gb, 0, none⟩ u).heap[gb]? = some (.cells #[u, y] T (0, 0)) := by
  rw [setCell_eq_setRow W gb 0 _ _ _ u h, setRow_heap W gb _ _ _ _ h]
  rfl
theorem set_pair1 {W : World} {gb : Nat} {x y u : Value} {T : TypeId} (h : W.heap[gb]? = some (.cells #[x, y] T (0, 0))) : (W.setCell ⟨gb, 1, none⟩ u).heap[gb]? = some (.cells #[x, u] T (0, 0)) := by
  rw [setCell_eq_setRow W gb 1 _ _ _ u h, setRow_heap W gb _ _ _ _ h]
  rfl
theorem num_eq {z : Int} {n : Nat} (h : z = (n : Int)) : Value.int .i64 z = nV n := by rw [h]
theorem le_of_alloc {W : World} {o : Obj} {g : Nat} (h : (W.alloc o).drew.heap.size ≤ g) : W.heap.size ≤ g := by have : (W.alloc o).heap.size ≤ g := h; simp at this; omega
theorem below_drew1 {B : Nat} {a w : World} (h : Below B a w) : Below B a w.drew := ⟨h.os, h.tape, h.output, h.size, h.block⟩
theorem below_box2 {w w1 : World} (hb : Below w.heap.size w w1) (o : Obj) : Below w.heap.size w (w1.alloc o) := hb.alloc hb.size o
set_option maxHeartbeats 2000000 in
theorem lay_any {F : List (Nat × Nat)} {top : Nat} (hr : Rise F top) (htop : top ≤ 1099511627776) (n : Nat) (h1n : 1 ≤ n) (hn : n ≤ 1099511627776) (hfree : ¬ FreeIn F n) (w : World) (ps bx g off c : Nat)
    (hrow : RowF w g off F.length c (flatF F)) (c2 : w.cell? ⟨ps, 2, none⟩ = some (.slice (some ⟨g, off, none⟩) F.length c)) (cb : w.cell? ⟨bx, 0, none⟩ = some (bV ps)) (fz : w.frozen? ⟨ps, 2, none⟩ = false) (n2 : ps ≠ g) (n3 : bx ≠ g) :
    Calls Try.prog 42 #[nV n, bV bx] w fun e w' => e = .returned (.tuple #[]) ∧ ∃ w1 F' g' off' c', w' = w1.setCell ⟨ps, 2, none⟩ (.slice (some ⟨g', off', none⟩) F'.length c') ∧ RowF w1 g' off' F'.length c' (flatF F') ∧ (g' = g ∨ w.heap.size ≤ g') ∧ w.grownBy w1 (some g) ∧
      (∃ top', Rise F' top' ∧ top' ≤ top) ∧ (∀ m, FreeIn F' m ↔ FreeIn F m ∨ m = n) := by
  have hlen : F.length ≤ 1099511627776 := Nat.le_trans hr.length htop
  have SE := fun (w : World) h => Search_any hr hlen n w g off c h
  have S1 := Lib.hid SE
  obtain ⟨K, hK⟩ : ∃ K, K = placeF F n := ⟨_, rfl⟩
  rw [← hK] at S1
  obtain ⟨A, B, hAB, hA, hpA, hpB⟩ := place_parts hr n
  have hKl : K < F.length := by
    obtain ⟨S, hS, _, _⟩ := hr.form
    have hB : B ≠ [] := by
      rintro rfl
      have : (top, topM) ∈ A := by rw [List.append_nil] at hAB; rw [← hAB, hS]; simp
      have h3 := hpA _ this
      exact hfree ⟨(top, topM), by rw [hS]; simp, Nat.le_of_lt h3, by unfold topM; omega⟩
    have := List.length_pos_iff.2 hB
    rw [hAB, List.length_append, hA, ← hK]; omega
  obtain ⟨q, hq⟩ : ∃ q, F[K]? = some q := ⟨_, List.getElem?_eq_getElem hKl⟩
  have cells : ∀ (W : World), Below w.heap.size w W → ∀ i p, F[i]? = some p → W.cell? ⟨g, off + i * 2, none⟩ = some (nV p.1) ∧ W.cell? ⟨g, off + i * 2 + 1, none⟩ = some (nV p.2) := fun W hW i p hp => by
    have hk := hrow.keep (hW.block g (by obtain ⟨cur, r1, _⟩ := hrow; exact mem_block_lt r1))
    have := flat_at F i p hp
    rw [Nat.mul_comm] at this
    exact ⟨hk.cell this.1, hk.cell this.2⟩
  have CE := Lib.hid cells
  have C2 : Hid (∀ (W : World), Below w.heap.size w W → W.cell? ⟨ps, 2, none⟩ = some (.slice (some ⟨g, off, none⟩) F.length c) ∧ W.cell? ⟨bx, 0, none⟩ = some (bV ps) ∧ W.frozen? ⟨ps, 2, none⟩ = false) := fun W hW => by
    have hp : ps < w.heap.size := World.block_lt_of_cell? w _ c2
    have hb : bx < w.heap.size := World.block_lt_of_cell? w _ cb
    exact ⟨(hW.cell (p := ⟨ps, 2, none⟩) hp).trans c2, (hW.cell (p := ⟨bx, 0, none⟩) hb).trans cb, (hW.frozen (p := ⟨ps, 2, none⟩) hp).trans fz⟩
  obtain ⟨len, hl⟩ : ∃ len, len = F.length := ⟨_, rfl⟩
  have hc : F.length ≤ c := hrow.room
  have ROW := Lib.hid hrow
  have RISE := Lib.hid hr
  have FREE := Lib.hid hfree
  have HQ := Lib.hid hq
  have HK := Lib.hid hK
  have HL := Lib.hid hl
  have hpl : ps < w.heap.size := World.block_lt_of_cell? w _ c2
  have hbl : bx < w.heap.size := World.block_lt_of_cell? w _ cb
  have hgl : g < w.heap.size := by obtain ⟨cur, r1, _⟩ := hrow; exact mem_block_lt r1
  rw [← hl] at c2 C2 S1 hKl hlen hc ROW
  have FIN : Hid (∀ (f t a e : Nat) (w5 w1 : World) (g' off' c' : Nat), GiveP F n K f t a e → Below w.heap.size w w5 → RowF w1 g' off' (f + 1 + (F.length - t)) c' ((flatF F).take (2 * f) ++ nV a :: nV e :: (flatF F).drop (2 * t)) → (g' = g ∨ w5.heap.size ≤ g') → w5.grownBy w1 (some g) →
      ∃ w1' F' g'' off'' c'', w1.setCell ⟨ps, 2, none⟩ (.slice (some ⟨g', off', none⟩) (f + 1 + (F.length - t)) c') = w1'.setCell ⟨ps, 2, none⟩ (.slice (some ⟨g'', off'', none⟩) F'.length c'') ∧ RowF w1' g'' off'' F'.length c'' (flatF F') ∧ (g'' = g ∨ w.heap.size ≤ g'') ∧ w.grownBy w1' (some g) ∧
      (∃ top', Rise F' top' ∧ top' ≤ top) ∧ (∀ m, FreeIn F' m ↔ FreeIn F m ∨ m = n)) := fun f t a e w5 w1 g' off' c' hG hB hR hg hw => by
    obtain ⟨e1, e2, e3, e4, e5⟩ := give_rise RISE.out h1n FREE.out (by unfold topM; omega) HK.out hG
    have hlen2 : (F.take f ++ (a, e) :: F.drop t).length = f + 1 + (F.length - t) := by
      have : f ≤ F.length := by omega
      simp [List.length_take]; omega
    have hflat : flatF (F.take f ++ (a, e) :: F.drop t) = (flatF F).take (2 * f) ++ nV a :: nV e :: (flatF F).drop (2 * t) := by
      rw [flat_append, flat_take, flat_drop]; rfl
    refine ⟨w1, F.take f ++ (a, e) :: F.drop t, g', off', c', by rw [hlen2], by rw [hlen2, hflat]; exact hR, ?_, ?_, e4, e5⟩
    · rcases hg with h | h
      · exact .inl h
      · exact .inr (Nat.le_trans hB.size h)
    · exact grown_then ⟨hB.os, hB.tape, hB.output, hB.size, fun k hk _ => hB.block k hk⟩ hw
  clear cells hr SE hAB hpA hpB hA hq hK hl hfree hrow RISE
  have k0 : (K : Int) < (len : Int) := by omega
  go_enter Try.func42, Try.ntmps42
  go_upto_region 2 with (first
    | (go_at_call 43; (with_reducible refine (S1.out _ ROW.out).mono ?_); rintro e w1 ⟨⟨b0, rfl⟩, hb1⟩; have B1 := Lib.hid hb1; clear hb1))
  refine at_world (S := fun W => Below w.heap.size w W ∧ W.heap[w1.heap.size]? = some (.cells #[nV n, nV n] 77 (0, 0))) ⟨(by repeat (first | exact below_box2 B1.out _ | refine below_drew1 ?_)), (MapKept.heap_alloc w1 _).1⟩ (fun W2 H2 => ?_)
  generalize hgb : w1.heap.size = gb at *
  have u0 : w.heap.size ≤ gb := by rw [← hgb]; exact B1.out.size
  clear hgb
  have B2 := Lib.hid H2.1
  have G2 := Lib.hid H2.2
  clear H2
  have X2 : Hid (W2.cell? ⟨bx, 0, none⟩ = some (bV ps) ∧ W2.cell? ⟨ps, 2, none⟩ = some (.slice (some ⟨g, off, none⟩) len c)) := ⟨(C2.out _ B2.out).2.1, (C2.out _ B2.out).1⟩
  go_cut [37] (fun s37 wx => wx = W2 ∧ ∃ b : Bool, s37 = .bool b ∧ Hid (b = true → ∃ p, F[K - 1]? = some p ∧ 0 < K ∧ p.2 = n - 1) ∧ Hid (b = false → 0 < K → ∀ p, F[K - 1]? = some p → p.2 ≠ n - 1))
  case first =>
    obtain ⟨x2, x1⟩ := X2.out
    by_cases hK0 : K = 0
    · have k4 : ¬ ((0 : Int) < (K : Int)) := by omega
      have HK0 := Lib.hid hK0
      clear hK0
      go_wp2_with fail
      go_meet
      exact ⟨rfl, false, rfl, fun h => (by cases h), fun _ h => by have := HK0.out; omega⟩
    · obtain ⟨p, hp⟩ : ∃ p, F[K - 1]? = some p := ⟨_, List.getElem?_eq_getElem (by rw [← HL.out]; omega)⟩
      have HP := Lib.hid hp
      obtain ⟨p1, p2⟩ := CE.out _ B2.out _ _ hp
      clear hp
      have k1 : (0 : Int) ≤ (K : Int) - 1 := by omega
      have k2 : ((K : Int) - 1).toNat = K - 1 := by omega
      have k3 : ((K : Int) - 1) < (len : Int) := by omega
      have k4 : (0 : Int) < (K : Int) := by omega
      by_cases hj : p.2 = n - 1
      · have j1 : ((p.2 : Int) == (n : Int) - 1) = true := by rw [hj, beq_iff_eq]; omega
        have HJ := Lib.hid hj
        clear hj
        go_wp2_with fail
        go_meet
        exact ⟨rfl, true, by first | rfl | rw [j1], fun _ => ⟨p, HP.out, by omega, HJ.out⟩, fun h => (by cases h)⟩
      · have j1 : ((p.2 : Int) == (n : Int) - 1) = false := by rw [beq_eq_false_iff_ne]; omega
        have HJ := Lib.hid hj
        clear hj
        go_wp2_with fail
        go_meet
        exact ⟨rfl, false, by first | rfl | rw [j1], fun h => (by cases h), fun _ _ q hq => by rw [HP.out] at hq; injection hq with hq; subst hq; exact HJ.out⟩
  case rest =>
    obtain ⟨rfl, b, rfl, hbt, hbf⟩ := hcut
    go_upto_if 37 with fail
    go_cut [5] (fun s5 wx => ∃ f a : Nat, s5 = nV f ∧ Hid ((f = K ∧ a = n ∧ (0 < K → ∀ p, F[K - 1]? = some p → p.2 ≠ n - 1)) ∨ (f + 1 = K ∧ F[f]? = some (a, n - 1))) ∧ Hid (Below w.heap.size w wx ∧ wx.heap[gb]? = some (.cells #[nV a, nV n] 77 (0, 0))))
    case first =>
      cases b with
      | false =>
        go_wp2_with fail
        go_meet
        exact ⟨K, n, rfl, Or.inl ⟨rfl, rfl, by first | exact hbf.out rfl | exact hbf.out trivial⟩, ⟨B2.out, G2.out⟩⟩
      | true =>
        obtain ⟨p, hp, hk, hpn⟩ := hbt.out rfl
        obtain ⟨x2, x1⟩ := X2.out
        obtain ⟨p1, p2⟩ := CE.out _ B2.out _ _ hp
        have HP := Lib.hid hp
        have HPN := Lib.hid hpn
        clear hp hpn
        have k1 : (0 : Int) ≤ (K : Int) - 1 := by omega
        have k2 : ((K : Int) - 1).toNat = K - 1 := by omega
        have k3 : ((K : Int) - 1) < (len : Int) := by omega
        have z0 : wc.cell? ⟨gb, 0, none⟩ = some (nV n) := by simp [World.cell?, G2.out]
        have zf : wc.frozen? ⟨gb, 0, none⟩ = false := by simp [World.frozen?, G2.out]
        have zl := mem_block_lt G2.out
        go_wp2_with fail
        go_region
        all_goals
          go_wp2_with fail
          go_meet
          exact ⟨K - 1, p.1, num_eq (by omega), Or.inr ⟨by omega, by rw [HP.out, ← HPN.out]⟩, ⟨below_drew1 (B2.out.setCell u0 _), set_pair0 G2.out⟩⟩
    case rest =>
      clear hbt hbf B2 G2 X2
      obtain ⟨f, a, rfl, HLF, HWG⟩ := hcut
      go_upto_region 4 with fail
      have B2 := Lib.hid HWG.out.1
      have G2 := Lib.hid HWG.out.2
      clear HWG
      have zl := mem_block_lt G2.out
      obtain ⟨x1, x2, x4⟩ := C2.out _ B2.out
      obtain ⟨q1, q2⟩ := CE.out _ B2.out _ _ HQ.out
      have z0 : wc.cell? ⟨gb, 1, none⟩ = some (nV n) := by simp [World.cell?, G2.out]
      have zf : wc.frozen? ⟨gb, 1, none⟩ = false := by simp [World.frozen?, G2.out]
      obtain ⟨b2, hb2⟩ : ∃ b2, b2 = decide (q.1 = n + 1) := ⟨_, rfl⟩
      have b3 : ((q.1 : Int) == (n : Int) + 1) = b2 := by
        rw [hb2]
        by_cases h : q.1 = n + 1
        · rw [decide_eq_true h, beq_iff_eq]; omega
        · rw [decide_eq_false h, beq_eq_false_iff_ne]; omega
      have HB2 := Lib.hid hb2
      clear hb2
      go_upto_if 60 with fail
      go_cut [6] (fun s6 wx => ∃ t e : Nat, s6 = nV t ∧ Hid ((t = K ∧ e = n ∧ (∀ p, F[K]? = some p → p.1 ≠ n + 1)) ∨ (t = K + 1 ∧ F[K]? = some (n + 1, e))) ∧ Hid (Below w.heap.size w wx ∧ wx.heap[gb]? = some (.cells #[nV a, nV e] 77 (0, 0))))
      case first =>
        cases b2 with
        | false =>
          go_wp2_with fail
          go_meet
          have hq1 : q.1 ≠ n + 1 := fun h => by have := HB2.out; rw [decide_eq_true h] at this; cases this
          exact ⟨K, n, rfl, Or.inl ⟨rfl, rfl, fun p hp => by rw [HQ.out] at hp; injection hp with hp; subst hp; exact hq1⟩, ⟨B2.out, G2.out⟩⟩
        | true =>
          go_wp2_with fail
          go_region
          all_goals
            go_wp2_with fail
            go_meet
            have hq1 : q.1 = n + 1 := by have := HB2.out; exact of_decide_eq_true this.symm
            exact ⟨K + 1, q.2, num_eq (by omega), Or.inr ⟨rfl, by rw [HQ.out, ← hq1]⟩, ⟨below_drew1 (B2.out.setCell u0 _), set_pair1 G2.out⟩⟩
      case rest =>
        clear z0 zf q1 q2 b3 HB2 B2 G2 zl x1 x2 x4
        obtain ⟨t, e, rfl, HRT, HWG⟩ := hcut
        have B5 := Lib.hid HWG.out.1
        have G5 := Lib.hid HWG.out.2
        clear HWG
        have GP : Hid (GiveP F n K f t a e) := ⟨HLF.out, HRT.out⟩
        have fk : f ≤ K := by rcases HLF.out with h | h <;> omega
        have fk2 : K ≤ f + 1 := by rcases HLF.out with h | h <;> omega
        have tk : K ≤ t := by rcases HRT.out with h | h <;> omega
        have tk2 : t ≤ K + 1 := by rcases HRT.out with h | h <;> omega
        have v1 := Nat.lt_of_lt_of_le hpl B5.out.size
        have v2 := Nat.lt_of_lt_of_le hbl B5.out.size
        have v3 := Nat.lt_of_lt_of_le hgl B5.out.size
        have v4 := mem_block_lt G5.out
        obtain ⟨y2, y3, y4⟩ := C2.out _ B5.out
        have g0 : wc.cell? ⟨gb, 0, none⟩ = some (nV a) := by simp [World.cell?, G5.out]
        have g1 : wc.cell? ⟨gb, 1, none⟩ = some (nV e) := by simp [World.cell?, G5.out]
        clear HLF HRT CE C2 HQ HK
        go_wp2_with fail
        go_region_law (go_simp; go_at_call 46; go_loud ((with_reducible refine (Replace_z _ g off len c f t _ (f : Int) (t : Int) rfl rfl (flatF F) (nV a) (nV e) (by exact ROW.out.keep ((alloc_drew_old wc _ g v3).trans (B5.out.block g hgl))) (flat_one F) hlen (by exact alloc_drew_new wc _) rfl rfl (by simp; omega) (by omega) (by omega) (by omega) (by omega)).mono ?_)); rintro e6 w6 ⟨g', off', c', rfl, k1, k2, k3⟩; have k4 := grown_of_drew k3; have x2 := cell_after k4 y2 n2; have x4 := froz_after k4 v1 y4 n2; have x3 := cell_after k4 y3 n3; have K1 := Lib.hid k1; have K2 := Lib.hid k2; have K3 := Lib.hid k4; clear k1 k2 k3 k4)
        all_goals
          refine bodyPost_end (results_none rfl _ _ _) rfl ?_
          have r := FIN.out f t a e wc w6 g' off' c' GP.out B5.out (by rw [← HL.out]; exact K1.out) (K2.out.imp id (fun h => le_of_alloc h)) (grown_then (World.grownBy_alloc wc _ _) K3.out)
          rw [← HL.out] at r
          exact ⟨rfl, r⟩
end Go.Proofs.Ytlbbbfmnghcdnaa
