/- print.writer: an expression, at a fuel and one. -/
import Derived.Test.YtoggkigfijgbfaaGreatDoorZAbb
import Derived.Test.YtoggkigfijgbfaaGreatDoorZPrExprB
import Derived.Lib.ItoaLen
import Derived.Deep.RegionHeld2
namespace Go.Proofs.YtoggkigfijgbfaaGreatDoor.P6
set_option maxRecDepth 20000
open Go.RowKit

theorem WAt.drewN {w : World} {p : Nat} {s : List UInt8} {k : Nat} (h : WAt w p s k) (n : Nat) : WAt (w.drewN n) p s k := h.below (below_dN (Below.refl _ _) n)
theorem WK.drewN {p : Nat} {a w : World} (h : WK p a w) (hp : p ≤ w.heap.size) (n : Nat) : WK p a (w.drewN n) := h.newer hp (below_dN (Below.refl _ _) n)
theorem Box2.drewN {w : World} {p q0 q1 : Nat} {v0 v1 : Value} (h : Box2 w p q0 q1 v0 v1) (n : Nat) : Box2 (w.drewN n) p q0 q1 v0 v1 := h.below (below_dN (Below.refl _ _) n)
theorem enter_expr1 (args : Array Value) (w : World) : (callFunc 202 args).run Tryz.prog w = .ok (.enter 202 args) w := enters_of Tryz.func202 (by kernel_rfl) rfl args w
set_option maxHeartbeats 4000000 in
theorem clo_expr1 {b w : World} {p n q0 q1 j : Nat} (C : Env6 b p) (S : Spec b p n) {e : Tree} {g : Nat} {l : Int} {va vb vk vs vp vy : Value} {s : List UInt8} {k : Nat} (hB : Below b.heap.size b w) (h : WAt w p s k) (hX : Box2 w p q0 q1 (pV p) (pV g)) (hx : ExB b e g l va vb vk vs vp vy) (hj : j < lenT (argsT e)) (hD : printF n (.expr (getT (argsT e) j)) s k ≠ .out) : Calls Tryz.prog 202 #[iV j, pV q0, pV q1] w (WEnds p (printF n (.expr (getT (argsT e) j)) s k) w) := by
  have hle := C.le
  have hp0 : p ≤ w.heap.size := Nat.le_of_lt h.lt
  obtain ⟨A, c, rfl⟩ := hx.args.sl
  obtain ⟨gA, xA, rfl, hgA, hcA, tA⟩ := hx.args.getE j hj
  have q7 := (hB.cell (p := ⟨g, 7, none⟩) hx.lt).trans hx.c.c7
  have qA := (hB.cell (p := ⟨gA, j, none⟩) hgA).trans hcA

  have x0 := hX.b0.cell
  have x1 := hX.b1.cell
  have k0 : (0 : Int) ≤ (j : Int) := by omega
  have k1 : (j : Int) < (lenT (argsT e) : Int) := by omega
  obtain ⟨R, hR1⟩ : ∃ R, printF n (.expr (getT (argsT e) j)) s k = R := ⟨_, rfl⟩
  rw [hR1] at hD ⊢
  have hR : Hid ((printF n (.expr (getT (argsT e) j)) s k).bind .ok = R) := Lib.hid (by rw [bind_ok]; exact hR1)
  have H := Lib.hid h
  have HB := Lib.hid hB
  have KK := Lib.hid (WK.refl p w)
  have SS := Lib.hid S
  have HD := Lib.hid hD
  clear hR1 hD h hB hX hx hj hcA hgA S 
  go_enter Tryz.func202, Tryz.ntmps202
  go_wp2
  go_still_tail 8, (by kernel_rfl)
  change wpList _ _ _ _ _ (World.drew _)
  go_wp2_with (first
    | (go_at_call 159; (with_reducible refine (SS.out.expr_step ?_ ?_ (by assumption) hR.out HD.out).mono ?_); (· exact ab4); (· exact ab9); rintro e w1 hE; rcases hE with ⟨c, hq, rfl, hk⟩ | ⟨s1, k1, hq, rfl, hh, hk⟩; (· exact ⟨rfl, ends_bad hq ab3 hk⟩); replace hR := Lib.hid hq; replace H := Lib.hid hh; (have KN : WK p w w1 := WK.trans ab3 hk); (have HN : Below b.heap.size b w1 := Below.trans ab4 (hk.below.mono hle)); replace KK := Lib.hid KN; replace HB := Lib.hid HN; clear hq hh hk KN HN))
  go_end0
  exact ends_ok hR.out H.out KK.out
theorem enter_expr2 (args : Array Value) (w : World) : (callFunc 207 args).run Tryz.prog w = .ok (.enter 207 args) w := enters_of Tryz.func207 (by kernel_rfl) rfl args w
set_option maxHeartbeats 4000000 in
theorem clo_expr2 {b w : World} {p n q0 q1 j : Nat} (C : Env6 b p) (S : Spec b p n) {e : Tree} {g : Nat} {l : Int} {va vb vk vs vp vy : Value} {s : List UInt8} {k : Nat} (hB : Below b.heap.size b w) (h : WAt w p s k) (hX : Box2 w p q0 q1 (pV p) (pV g)) (hx : ExB b e g l va vb vk vs vp vy) (hl : lenT (keysT e) = lenT (argsT e)) (hj : j < lenT (argsT e)) (hD : printF n (.item (getT (keysT e) j) (getT (argsT e) j)) s k ≠ .out) : Calls Tryz.prog 207 #[iV j, pV q0, pV q1] w (WEnds p (printF n (.item (getT (keysT e) j) (getT (argsT e) j)) s k) w) := by
  have hle := C.le
  have hp0 : p ≤ w.heap.size := Nat.le_of_lt h.lt
  obtain ⟨A, c, rfl⟩ := hx.args.sl
  obtain ⟨gA, xA, rfl, hgA, hcA, tA⟩ := hx.args.getE j hj
  have q7 := (hB.cell (p := ⟨g, 7, none⟩) hx.lt).trans hx.c.c7
  have qA := (hB.cell (p := ⟨gA, j, none⟩) hgA).trans hcA
  obtain ⟨B, d, rfl⟩ := hx.keys.sl
  obtain ⟨gB, xB, rfl, hgB, hcB, tB⟩ := hx.keys.getE j (by omega)
  rw [hl] at hx
  have q6 := (hB.cell (p := ⟨g, 6, none⟩) hx.lt).trans hx.c.c6
  have qB := (hB.cell (p := ⟨gB, j, none⟩) hgB).trans hcB
  have x0 := hX.b0.cell
  have x1 := hX.b1.cell
  have k0 : (0 : Int) ≤ (j : Int) := by omega
  have k1 : (j : Int) < (lenT (argsT e) : Int) := by omega
  obtain ⟨R, hR1⟩ : ∃ R, printF n (.item (getT (keysT e) j) (getT (argsT e) j)) s k = R := ⟨_, rfl⟩
  rw [hR1] at hD ⊢
  have hR : Hid ((printF n (.item (getT (keysT e) j) (getT (argsT e) j)) s k).bind .ok = R) := Lib.hid (by rw [bind_ok]; exact hR1)
  have H := Lib.hid h
  have HB := Lib.hid hB
  have KK := Lib.hid (WK.refl p w)
  have SS := Lib.hid S
  have HD := Lib.hid hD
  clear hR1 hD h hB hX hx hj hcA hgA S hl hcB hgB
  go_enter Tryz.func207, Tryz.ntmps207
  go_wp2
  go_still_tail 15, (by kernel_rfl)
  change wpList _ _ _ _ _ (World.drew _)
  go_wp2_with (first
    | (go_at_call 208; (with_reducible refine (SS.out.item_step ?_ ?_ (by assumption) (by assumption) hR.out HD.out).mono ?_); (· exact ab4); (· exact ab9); rintro e w1 hE; rcases hE with ⟨c, hq, rfl, hk⟩ | ⟨s1, k1, hq, rfl, hh, hk⟩; (· exact ⟨rfl, ends_bad hq ab3 hk⟩); replace hR := Lib.hid hq; replace H := Lib.hid hh; (have KN : WK p w w1 := WK.trans ab3 hk); (have HN : Below b.heap.size b w1 := Below.trans ab4 (hk.below.mono hle)); replace KK := Lib.hid KN; replace HB := Lib.hid HN; clear hq hh hk KN HN))
  go_end0
  exact ends_ok hR.out H.out KK.out
/-- Facts that no call of the writer changes. -/
theorem hold_all {b W : World} {p q0 q1 g i : Nat} {v0 v1 u : Value} (hB : Below b.heap.size b W) (hX : Box2 W p q0 q1 v0 v1) (hl : g < b.heap.size) (hc : b.cell? ⟨g, i, none⟩ = some u) : W.cell? ⟨q0, 0, none⟩ = some v0 ∧ W.cell? ⟨q1, 0, none⟩ = some v1 ∧ W.cell? ⟨g, i, none⟩ = some u := ⟨hX.b0.cell, hX.b1.cell, (hB.cell (p := ⟨g, i, none⟩) hl).trans hc⟩
theorem text_next {b w W W' : World} {p q0 q1 k : Nat} {v0 v1 : Value} {s : List UInt8} (h : WAt W p s k) (hk : WK p w W) (hB : Below b.heap.size b W) (hX : Box2 W p q0 q1 v0 v1) (hb : Below W.heap.size W W') : WAt W' p s k ∧ WK p w W' ∧ Below b.heap.size b W' ∧ Box2 W' p q0 q1 v0 v1 := ⟨h.below hb, hk.newer (Nat.le_of_lt h.lt) hb, hB.trans (hb.mono hB.size), hX.below hb⟩
theorem itoa_short {n : Int} (h0 : -9223372036854775808 ≤ n) (h1 : n ≤ 9223372036854775807) : (Lib.itoa n).length ≤ 1099511627776 := by
  have := Lib.itoa_length_le n h0 h1
  omega
set_option maxHeartbeats 40000000 in
theorem expr_next {b w : World} {p n : Nat} (C : Env6 b p) (S : Spec b p n) {e : Tree} {v : Value} {s : List UInt8} {k : Nat} (hB : Below b.heap.size b w) (h : WAt w p s k) (q0 : TE b e v) (hD : printF (n + 1) (.expr e) s k ≠ .out) : Calls Tryz.prog 159 #[pV p, v] w (WEnds p (printF (n + 1) (.expr e) s k) w) := by
  have hpl := h.lt
  rcases q0.cases with ⟨rfl, rfl⟩ | ⟨g, l, va, vb, vk, vs, vp, vy, rfl, hx⟩
  · clear q0
    have hle := C.le
    have hp0 : p ≤ w.heap.size := Nat.le_of_lt h.lt
    obtain ⟨R, hR1⟩ : ∃ R, printF (n + 1) (.expr .nil) s k = R := ⟨_, rfl⟩
    rw [hR1] at hD ⊢
    have hR0 : (printF (n + 1) (.expr .nil) s k).bind .ok = R := by rw [bind_ok]; exact hR1
    clear hR1
    unfold printF at hR0
    have XB : Hid (Box2 ((w.alloc (.cells #[pV p] 161)).alloc (.cells #[.pointer none] 49)) p w.heap.size (w.heap.size + 1) (pV p) (.pointer none)) := Lib.hid (box2_new h.lt)
    have H : Hid (WAt ((w.alloc (.cells #[pV p] 161)).alloc (.cells #[.pointer none] 49)) p s k) := Lib.hid ((h.alloc _).alloc _)
    have HB : Hid (Below b.heap.size b ((w.alloc (.cells #[pV p] 161)).alloc (.cells #[.pointer none] 49))) := Lib.hid (below_al (below_al hB _) _)
    have KK : Hid (WK p w ((w.alloc (.cells #[pV p] 161)).alloc (.cells #[.pointer none] 49))) := Lib.hid (((WK.refl p w).more hp0 _).more hp0 _)
    have SS := Lib.hid S
    have HD := Lib.hid hD
    clear h hB hD S
    simp only [if_pos (show badE .nil = true from rfl)] at hR0
    repeat (first | simp only at hR0 | simp only [bind_bind] at hR0 | simp only [ok_bind] at hR0 | simp only [bad_bind] at hR0)
    go_enter Tryz.func159, Tryz.ntmps159
    go_wp2_with fail
    generalize ((w.alloc (.cells #[pV p] 161)).alloc (.cells #[.pointer none] 49)) = w2 at H KK HB XB ⊢
    have x0 := XB.out.b0.cell
    have x1 := XB.out.b1.cell
    have z0 := XB.out.b0.lt
    have z1 := XB.out.b1.lt
    go_quiet (fail)
    go_wp2
    exact ⟨rfl, ends_bad hR0.symm (KK.out.drewN (Nat.le_of_lt H.out.lt) _) (WK.refl _ _)⟩
  · have hle := C.le
    have hp0 : p ≤ w.heap.size := Nat.le_of_lt h.lt
    obtain ⟨R, hR1⟩ : ∃ R, printF (n + 1) (.expr e) s k = R := ⟨_, rfl⟩
    rw [hR1] at hD ⊢
    have hR0 : (printF (n + 1) (.expr e) s k).bind .ok = R := by rw [bind_ok]; exact hR1
    clear hR1
    unfold printF at hR0
    have XB : Hid (Box2 ((w.alloc (.cells #[pV p] 161)).alloc (.cells #[pV g] 49)) p w.heap.size (w.heap.size + 1) (pV p) (pV g)) := Lib.hid (box2_new h.lt)
    have H : Hid (WAt ((w.alloc (.cells #[pV p] 161)).alloc (.cells #[pV g] 49)) p s k) := Lib.hid ((h.alloc _).alloc _)
    have HB : Hid (Below b.heap.size b ((w.alloc (.cells #[pV p] 161)).alloc (.cells #[pV g] 49))) := Lib.hid (below_al (below_al hB _) _)
    have KK : Hid (WK p w ((w.alloc (.cells #[pV p] 161)).alloc (.cells #[pV g] 49))) := Lib.hid (((WK.refl p w).more hp0 _).more hp0 _)
    have SS := Lib.hid S
    have HD := Lib.hid hD
    clear h hB hD S
    have XC := Lib.hid hx; have tl := hx.l; have tr := hx.r; have hsh := hx.short; have XI := Lib.hid hx.is
    have hA := hx.args
    have hK := hx.keys
    have hfew := hx.args.few
    obtain ⟨A, cA, rfl⟩ := hA.sl
    obtain ⟨A2, cA2, rfl⟩ := hK.sl
    by_cases h1 : kindT e < 1
    · simp only [if_pos (show badE e = true from by unfold badE; rw [hx.is, decide_eq_true h1]; rfl)] at hR0
      repeat (first | simp only at hR0 | simp only [bind_bind] at hR0 | simp only [ok_bind] at hR0 | simp only [bad_bind] at hR0)
      have b1 : decide (kindT e < 1) = true := decide_eq_true h1
      clear hx hA hK h1
      go_enter Tryz.func159, Tryz.ntmps159
      go_wp2_with fail
      generalize ((w.alloc (.cells #[pV p] 161)).alloc (.cells #[pV g] 49)) = w2 at H KK HB XB ⊢
      have x0 := XB.out.b0.cell
      have x1 := XB.out.b1.cell
      have z0 := XB.out.b0.lt
      have z1 := XB.out.b1.lt
      have q0 := (HB.out.cell (p := ⟨g, 0, none⟩) XC.out.lt).trans XC.out.c.c0
      go_quiet (fail)
      go_wp2
      exact ⟨rfl, ends_bad hR0.symm (KK.out.drewN (Nat.le_of_lt H.out.lt) _) (WK.refl _ _)⟩
    by_cases h2 : 12 < kindT e
    · simp only [if_pos (show badE e = true from by unfold badE; rw [hx.is, decide_eq_false h1, decide_eq_true h2]; rfl)] at hR0
      repeat (first | simp only at hR0 | simp only [bind_bind] at hR0 | simp only [ok_bind] at hR0 | simp only [bad_bind] at hR0)
      have b1 : decide (kindT e < 1) = false := decide_eq_false h1
      have b2 : decide (12 < kindT e) = true := decide_eq_true h2
      clear hx hA hK h1 h2
      go_enter Tryz.func159, Tryz.ntmps159
      go_wp2_with fail
      generalize ((w.alloc (.cells #[pV p] 161)).alloc (.cells #[pV g] 49)) = w2 at H KK HB XB ⊢
      have x0 := XB.out.b0.cell
      have x1 := XB.out.b1.cell
      have z0 := XB.out.b0.lt
      have z1 := XB.out.b1.lt
      have q0 := (HB.out.cell (p := ⟨g, 0, none⟩) XC.out.lt).trans XC.out.c.c0
      go_quiet (fail)
      go_wp2
      exact ⟨rfl, ends_bad hR0.symm (KK.out.drewN (Nat.le_of_lt H.out.lt) _) (WK.refl _ _)⟩
    by_cases h3 : kindT e = 12
    · by_cases hl : lenT (keysT e) = lenT (argsT e)
      · simp only [if_neg (show ¬ badE e = true from by unfold badE; rw [hx.is, decide_eq_false h1, decide_eq_false h2, decide_eq_true hl]; simp)] at hR0
        simp only [h3] at hR0
        have nl : (((lenT (keysT e) : Nat) : Int) == ((lenT (argsT e) : Nat) : Int)) = true := beq_iff_eq.2 (by omega)
        replace hl := Lib.hid hl
        repeat (first | simp only at hR0 | simp only [bind_bind] at hR0 | simp only [ok_bind] at hR0 | simp only [bad_bind] at hR0 | simp only [Int.reduceEq] at hR0 | simp only [reduceIte] at hR0 | simp only [if_true] at hR0 | simp only [if_false] at hR0)
        have hR := Lib.hid hR0; clear hR0
        have c0E : iV (kindT e) = iV (kindT e) := rfl
        conv at c0E => rhs; rw [h3]
        have HE := Lib.hid c0E
        clear c0E hx hA hK h3
        go_enter Tryz.func159, Tryz.ntmps159
        go_wp2_with fail
        generalize ((w.alloc (.cells #[pV p] 161)).alloc (.cells #[pV g] 49)) = w2 at H KK HB XB ⊢
        have x0 := XB.out.b0.cell
        have x1 := XB.out.b1.cell
        have z0 := XB.out.b0.lt
        have z1 := XB.out.b1.lt
        have q6 := (HB.out.cell (p := ⟨g, 6, none⟩) XC.out.lt).trans XC.out.c.c6; have q7 := (HB.out.cell (p := ⟨g, 7, none⟩) XC.out.lt).trans XC.out.c.c7
        have q0c := ((HB.out.cell (p := ⟨g, 0, none⟩) XC.out.lt).trans XC.out.c.c0).trans (congrArg some HE.out)
        go_quiet (fail)
        replace H := Lib.hid (H.out.drewN nq)
        replace KK := Lib.hid (KK.out.drewN (Nat.le_of_lt (Nat.lt_of_lt_of_le hpl KK.out.below.size)) nq)
        replace HB := Lib.hid (below_dN HB.out nq)
        replace XB := Lib.hid (XB.out.drewN nq)
        generalize World.drewN _ nq = w3 at H KK HB XB ⊢
        have x0 := XB.out.b0.cell
        have x1 := XB.out.b1.cell
        have z0 := XB.out.b0.lt
        have z1 := XB.out.b1.lt
        go_wp2_with (first
            | (go_at_call 157; (with_reducible refine (begin_step ?_ hR.out).mono ?_); (· exact ab9); rintro e w1 hE; rcases hE with ⟨c, hq, rfl, hk⟩ | ⟨s1, k1, hq, rfl, hh, hk⟩; (· exact ⟨rfl, ends_bad hq ab3 hk⟩); replace hR := Lib.hid hq; replace H := Lib.hid hh; (have KN : WK p w w1 := WK.trans ab3 hk); (have HN : Below b.heap.size b w1 := Below.trans ab4 (hk.below.mono hle)); (have XN : Box2 w1 p w.heap.size (w.heap.size + 1) (pV p) (pV g) := Box2.keep ab7 hk); replace KK := Lib.hid KN; replace HB := Lib.hid HN; replace XB := Lib.hid XN; have x0 := XB.out.b0.cell; have x1 := XB.out.b1.cell; have z0 := XB.out.b0.lt; have z1 := XB.out.b1.lt; clear XN; have q7 := (HB.out.cell (p := ⟨g, 7, none⟩) XC.out.lt).trans XC.out.c.c7; have q0c := ((HB.out.cell (p := ⟨g, 0, none⟩) XC.out.lt).trans XC.out.c.c0).trans (congrArg some HE.out); clear hq hh hk KN HN))
        go_still_tail 7, (by kernel_rfl)
        change wpList _ _ _ _ _ (World.drew _)
        replace H := Lib.hid H.out.drew
        replace KK := Lib.hid KK.out.drew
        replace HB := Lib.hid HB.out.drew
        replace XB := Lib.hid XB.out.drew
        generalize World.drew _ = w2 at H KK HB XB ⊢
        have x0 := XB.out.b0.cell
        have x1 := XB.out.b1.cell
        have z0 := XB.out.b0.lt
        have z1 := XB.out.b1.lt
        have q7 := (HB.out.cell (p := ⟨g, 7, none⟩) XC.out.lt).trans XC.out.c.c7
        go_wp2_with (first
            | (go_at_call 201; (with_reducible refine (list_step H.out ?_ ?_ hfew (fun j w1 s1 k1 hj a b' c => clo_expr2 C SS.out (HB.out.trans (a.below.mono hle)) b' (XB.out.keep a) XC.out hl.out hj c) enter_expr2 hR.out HD.out).mono ?_); (· simp); (· simp); rintro e w1 hE; rcases hE with ⟨c, hq, rfl, hk⟩ | ⟨s1, k1, hq, rfl, hh, hk⟩; (· exact ⟨rfl, ends_bad hq ab3 hk⟩); replace hR := Lib.hid hq; replace H := Lib.hid hh; (have KN : WK p w w1 := WK.trans ab3 hk); (have HN : Below b.heap.size b w1 := Below.trans ab4 (hk.below.mono hle)); (have XN : Box2 w1 p w.heap.size (w.heap.size + 1) (pV p) (pV g) := Box2.keep ab7 hk); replace KK := Lib.hid KN; replace HB := Lib.hid HN; replace XB := Lib.hid XN; have x0 := XB.out.b0.cell; have x1 := XB.out.b1.cell; have z0 := XB.out.b0.lt; have z1 := XB.out.b1.lt; clear XN; clear hq hh hk KN HN))
        go_end0
        exact ends_ok hR.out H.out KK.out
      · simp only [if_pos (show badE e = true from by unfold badE; rw [hx.is, decide_eq_false h1, decide_eq_false h2, decide_eq_false hl, h3]; rfl)] at hR0
        have nl : (((lenT (keysT e) : Nat) : Int) == ((lenT (argsT e) : Nat) : Int)) = false := beq_eq_false_iff_ne.2 (by omega)
        repeat (first | simp only at hR0 | simp only [bind_bind] at hR0 | simp only [ok_bind] at hR0 | simp only [bad_bind] at hR0)
        clear hx hA hK h1 h2 hl
        go_enter Tryz.func159, Tryz.ntmps159
        go_wp2_with fail
        generalize ((w.alloc (.cells #[pV p] 161)).alloc (.cells #[pV g] 49)) = w2 at H KK HB XB ⊢
        have x0 := XB.out.b0.cell
        have x1 := XB.out.b1.cell
        have z0 := XB.out.b0.lt
        have z1 := XB.out.b1.lt
        have q6 := (HB.out.cell (p := ⟨g, 6, none⟩) XC.out.lt).trans XC.out.c.c6; have q7 := (HB.out.cell (p := ⟨g, 7, none⟩) XC.out.lt).trans XC.out.c.c7
        have q0 := ((HB.out.cell (p := ⟨g, 0, none⟩) XC.out.lt).trans XC.out.c.c0).trans (congrArg some (congrArg iV h3))
        go_quiet (fail)
        go_wp2
        exact ⟨rfl, ends_bad hR0.symm (KK.out.drewN (Nat.le_of_lt H.out.lt) _) (WK.refl _ _)⟩
    · simp only [if_neg (show ¬ badE e = true from by unfold badE; rw [hx.is, decide_eq_false h1, decide_eq_false h2, beq_eq_false_iff_ne.2 h3]; simp)] at hR0
      have hk : kindT e = 1 ∨ kindT e = 2 ∨ kindT e = 3 ∨ kindT e = 4 ∨ kindT e = 5 ∨ kindT e = 6 ∨ kindT e = 7 ∨ kindT e = 8 ∨ kindT e = 9 ∨ kindT e = 10 ∨ kindT e = 11 := by omega
      clear h1 h2 h3
      rcases hk with h3 | h3 | h3 | h3 | h3 | h3 | h3 | h3 | h3 | h3 | h3
      all_goals simp only [h3] at hR0
      · repeat (first | simp only at hR0 | simp only [bind_bind] at hR0 | simp only [ok_bind] at hR0 | simp only [bad_bind] at hR0 | simp only [Int.reduceEq] at hR0 | simp only [reduceIte] at hR0 | simp only [if_true] at hR0 | simp only [if_false] at hR0)
        have hR := Lib.hid hR0; clear hR0
        have c0E : iV (kindT e) = iV (kindT e) := rfl
        conv at c0E => rhs; rw [h3]
        have HE := Lib.hid c0E
        clear c0E hx hA hK h3
        go_enter Tryz.func159, Tryz.ntmps159
        go_wp2_with fail
        generalize ((w.alloc (.cells #[pV p] 161)).alloc (.cells #[pV g] 49)) = w2 at H KK HB XB ⊢
        have x0 := XB.out.b0.cell
        have x1 := XB.out.b1.cell
        have z0 := XB.out.b0.lt
        have z1 := XB.out.b1.lt
        have q0c := ((HB.out.cell (p := ⟨g, 0, none⟩) XC.out.lt).trans XC.out.c.c0).trans (congrArg some HE.out)
        go_quiet (fail)
        replace H := Lib.hid (H.out.drewN nq)
        replace KK := Lib.hid (KK.out.drewN (Nat.le_of_lt (Nat.lt_of_lt_of_le hpl KK.out.below.size)) nq)
        replace HB := Lib.hid (below_dN HB.out nq)
        replace XB := Lib.hid (XB.out.drewN nq)
        generalize World.drewN _ nq = w3 at H KK HB XB ⊢
        have x0 := XB.out.b0.cell
        have x1 := XB.out.b1.cell
        have z0 := XB.out.b0.lt
        have z1 := XB.out.b1.lt
        go_wp2_with (first
            | (go_at_call 157; (with_reducible refine (begin_step ?_ hR.out).mono ?_); (· exact ab9); rintro e w1 hE; rcases hE with ⟨c, hq, rfl, hk⟩ | ⟨s1, k1, hq, rfl, hh, hk⟩; (· exact ⟨rfl, ends_bad hq ab3 hk⟩); replace hR := Lib.hid hq; replace H := Lib.hid hh; (have KN : WK p w w1 := WK.trans ab3 hk); (have HN : Below b.heap.size b w1 := Below.trans ab4 (hk.below.mono hle)); (have XN : Box2 w1 p w.heap.size (w.heap.size + 1) (pV p) (pV g) := Box2.keep ab7 hk); replace KK := Lib.hid KN; replace HB := Lib.hid HN; replace XB := Lib.hid XN; have x0 := XB.out.b0.cell; have x1 := XB.out.b1.cell; have z0 := XB.out.b0.lt; have z1 := XB.out.b1.lt; clear XN; have q0c := ((HB.out.cell (p := ⟨g, 0, none⟩) XC.out.lt).trans XC.out.c.c0).trans (congrArg some HE.out); clear hq hh hk KN HN)
            | (go_at_call 116; (with_reducible refine (put_step ?_ ?_ hR.out ?_).mono ?_); (· exact ab9); (· rfl); (· first | (simp; done) | (simp; omega) | omega); rintro e w1 hE; rcases hE with ⟨c, hq, rfl, hk⟩ | ⟨s1, k1, hq, rfl, hh, hk⟩; (· exact ⟨rfl, ends_bad hq ab3 hk⟩); replace hR := Lib.hid hq; replace H := Lib.hid hh; (have KN : WK p w w1 := WK.trans ab3 hk); (have HN : Below b.heap.size b w1 := Below.trans ab4 (hk.below.mono hle)); (have XN : Box2 w1 p w.heap.size (w.heap.size + 1) (pV p) (pV g) := Box2.keep ab7 hk); replace KK := Lib.hid KN; replace HB := Lib.hid HN; replace XB := Lib.hid XN; have x0 := XB.out.b0.cell; have x1 := XB.out.b1.cell; have z0 := XB.out.b0.lt; have z1 := XB.out.b1.lt; clear XN; clear hq hh hk KN HN))
        go_end0
        exact ends_ok hR.out H.out KK.out
      · repeat (first | simp only at hR0 | simp only [bind_bind] at hR0 | simp only [ok_bind] at hR0 | simp only [bad_bind] at hR0 | simp only [Int.reduceEq] at hR0 | simp only [reduceIte] at hR0 | simp only [if_true] at hR0 | simp only [if_false] at hR0)
        have hR := Lib.hid hR0; clear hR0
        have c0E : iV (kindT e) = iV (kindT e) := rfl
        conv at c0E => rhs; rw [h3]
        have HE := Lib.hid c0E
        clear c0E hx hA hK h3
        go_enter Tryz.func159, Tryz.ntmps159
        go_wp2_with fail
        generalize ((w.alloc (.cells #[pV p] 161)).alloc (.cells #[pV g] 49)) = w2 at H KK HB XB ⊢
        have x0 := XB.out.b0.cell
        have x1 := XB.out.b1.cell
        have z0 := XB.out.b0.lt
        have z1 := XB.out.b1.lt
        have q0c := ((HB.out.cell (p := ⟨g, 0, none⟩) XC.out.lt).trans XC.out.c.c0).trans (congrArg some HE.out)
        go_quiet (fail)
        replace H := Lib.hid (H.out.drewN nq)
        replace KK := Lib.hid (KK.out.drewN (Nat.le_of_lt (Nat.lt_of_lt_of_le hpl KK.out.below.size)) nq)
        replace HB := Lib.hid (below_dN HB.out nq)
        replace XB := Lib.hid (XB.out.drewN nq)
        generalize World.drewN _ nq = w3 at H KK HB XB ⊢
        have x0 := XB.out.b0.cell
        have x1 := XB.out.b1.cell
        have z0 := XB.out.b0.lt
        have z1 := XB.out.b1.lt
        go_wp2_with (first
            | (go_at_call 157; (with_reducible refine (begin_step ?_ hR.out).mono ?_); (· exact ab9); rintro e w1 hE; rcases hE with ⟨c, hq, rfl, hk⟩ | ⟨s1, k1, hq, rfl, hh, hk⟩; (· exact ⟨rfl, ends_bad hq ab3 hk⟩); replace hR := Lib.hid hq; replace H := Lib.hid hh; (have KN : WK p w w1 := WK.trans ab3 hk); (have HN : Below b.heap.size b w1 := Below.trans ab4 (hk.below.mono hle)); (have XN : Box2 w1 p w.heap.size (w.heap.size + 1) (pV p) (pV g) := Box2.keep ab7 hk); replace KK := Lib.hid KN; replace HB := Lib.hid HN; replace XB := Lib.hid XN; have x0 := XB.out.b0.cell; have x1 := XB.out.b1.cell; have z0 := XB.out.b0.lt; have z1 := XB.out.b1.lt; clear XN; have q0c := ((HB.out.cell (p := ⟨g, 0, none⟩) XC.out.lt).trans XC.out.c.c0).trans (congrArg some HE.out); clear hq hh hk KN HN)
            | (go_at_call 116; (with_reducible refine (put_step ?_ ?_ hR.out ?_).mono ?_); (· exact ab9); (· rfl); (· first | (simp; done) | (simp; omega) | omega); rintro e w1 hE; rcases hE with ⟨c, hq, rfl, hk⟩ | ⟨s1, k1, hq, rfl, hh, hk⟩; (· exact ⟨rfl, ends_bad hq ab3 hk⟩); replace hR := Lib.hid hq; replace H := Lib.hid hh; (have KN : WK p w w1 := WK.trans ab3 hk); (have HN : Below b.heap.size b w1 := Below.trans ab4 (hk.below.mono hle)); (have XN : Box2 w1 p w.heap.size (w.heap.size + 1) (pV p) (pV g) := Box2.keep ab7 hk); replace KK := Lib.hid KN; replace HB := Lib.hid HN; replace XB := Lib.hid XN; have x0 := XB.out.b0.cell; have x1 := XB.out.b1.cell; have z0 := XB.out.b0.lt; have z1 := XB.out.b1.lt; clear XN; clear hq hh hk KN HN))
        go_end0
        exact ends_ok hR.out H.out KK.out
      · repeat (first | simp only at hR0 | simp only [bind_bind] at hR0 | simp only [ok_bind] at hR0 | simp only [bad_bind] at hR0 | simp only [Int.reduceEq] at hR0 | simp only [reduceIte] at hR0 | simp only [if_true] at hR0 | simp only [if_false] at hR0)
        have hR := Lib.hid hR0; clear hR0
        have c0E : iV (kindT e) = iV (kindT e) := rfl
        conv at c0E => rhs; rw [h3]
        have HE := Lib.hid c0E
        clear c0E hx hA hK h3
        go_enter Tryz.func159, Tryz.ntmps159
        go_wp2_with fail
        generalize ((w.alloc (.cells #[pV p] 161)).alloc (.cells #[pV g] 49)) = w2 at H KK HB XB ⊢
        have x0 := XB.out.b0.cell
        have x1 := XB.out.b1.cell
        have z0 := XB.out.b0.lt
        have z1 := XB.out.b1.lt
        have q0c := ((HB.out.cell (p := ⟨g, 0, none⟩) XC.out.lt).trans XC.out.c.c0).trans (congrArg some HE.out)
        go_quiet (fail)
        replace H := Lib.hid (H.out.drewN nq)
        replace KK := Lib.hid (KK.out.drewN (Nat.le_of_lt (Nat.lt_of_lt_of_le hpl KK.out.below.size)) nq)
        replace HB := Lib.hid (below_dN HB.out nq)
        replace XB := Lib.hid (XB.out.drewN nq)
        generalize World.drewN _ nq = w3 at H KK HB XB ⊢
        have x0 := XB.out.b0.cell
        have x1 := XB.out.b1.cell
        have z0 := XB.out.b0.lt
        have z1 := XB.out.b1.lt
        go_wp2_with (first
            | (go_at_call 157; (with_reducible refine (begin_step ?_ hR.out).mono ?_); (· exact ab9); rintro e w1 hE; rcases hE with ⟨c, hq, rfl, hk⟩ | ⟨s1, k1, hq, rfl, hh, hk⟩; (· exact ⟨rfl, ends_bad hq ab3 hk⟩); replace hR := Lib.hid hq; replace H := Lib.hid hh; (have KN : WK p w w1 := WK.trans ab3 hk); (have HN : Below b.heap.size b w1 := Below.trans ab4 (hk.below.mono hle)); (have XN : Box2 w1 p w.heap.size (w.heap.size + 1) (pV p) (pV g) := Box2.keep ab7 hk); replace KK := Lib.hid KN; replace HB := Lib.hid HN; replace XB := Lib.hid XN; have x0 := XB.out.b0.cell; have x1 := XB.out.b1.cell; have z0 := XB.out.b0.lt; have z1 := XB.out.b1.lt; clear XN; have q0c := ((HB.out.cell (p := ⟨g, 0, none⟩) XC.out.lt).trans XC.out.c.c0).trans (congrArg some HE.out); clear hq hh hk KN HN)
            | (go_at_call 116; (with_reducible refine (put_step ?_ ?_ hR.out ?_).mono ?_); (· exact ab9); (· rfl); (· first | (simp; done) | (simp; omega) | omega); rintro e w1 hE; rcases hE with ⟨c, hq, rfl, hk⟩ | ⟨s1, k1, hq, rfl, hh, hk⟩; (· exact ⟨rfl, ends_bad hq ab3 hk⟩); replace hR := Lib.hid hq; replace H := Lib.hid hh; (have KN : WK p w w1 := WK.trans ab3 hk); (have HN : Below b.heap.size b w1 := Below.trans ab4 (hk.below.mono hle)); (have XN : Box2 w1 p w.heap.size (w.heap.size + 1) (pV p) (pV g) := Box2.keep ab7 hk); replace KK := Lib.hid KN; replace HB := Lib.hid HN; replace XB := Lib.hid XN; have x0 := XB.out.b0.cell; have x1 := XB.out.b1.cell; have z0 := XB.out.b0.lt; have z1 := XB.out.b1.lt; clear XN; clear hq hh hk KN HN))
        go_end0
        exact ends_ok hR.out H.out KK.out
      · repeat (first | simp only at hR0 | simp only [bind_bind] at hR0 | simp only [ok_bind] at hR0 | simp only [bad_bind] at hR0 | simp only [Int.reduceEq] at hR0 | simp only [reduceIte] at hR0 | simp only [if_true] at hR0 | simp only [if_false] at hR0)
        have hR := Lib.hid hR0; clear hR0
        have c0E : iV (kindT e) = iV (kindT e) := rfl
        conv at c0E => rhs; rw [h3]
        have HE := Lib.hid c0E
        clear c0E hx hA hK h3
        go_enter Tryz.func159, Tryz.ntmps159
        go_wp2_with fail
        generalize ((w.alloc (.cells #[pV p] 161)).alloc (.cells #[pV g] 49)) = w2 at H KK HB XB ⊢
        have x0 := XB.out.b0.cell
        have x1 := XB.out.b1.cell
        have z0 := XB.out.b0.lt
        have z1 := XB.out.b1.lt
        have q0c := ((HB.out.cell (p := ⟨g, 0, none⟩) XC.out.lt).trans XC.out.c.c0).trans (congrArg some HE.out)
        go_quiet (fail)
        replace H := Lib.hid (H.out.drewN nq)
        replace KK := Lib.hid (KK.out.drewN (Nat.le_of_lt (Nat.lt_of_lt_of_le hpl KK.out.below.size)) nq)
        replace HB := Lib.hid (below_dN HB.out nq)
        replace XB := Lib.hid (XB.out.drewN nq)
        generalize World.drewN _ nq = w3 at H KK HB XB ⊢
        have x0 := XB.out.b0.cell
        have x1 := XB.out.b1.cell
        have z0 := XB.out.b0.lt
        have z1 := XB.out.b1.lt
        go_wp2_with (first
            | (go_at_call 157; (with_reducible refine (begin_step ?_ hR.out).mono ?_); (· exact ab9); rintro e w1 hE; rcases hE with ⟨c, hq, rfl, hk⟩ | ⟨s1, k1, hq, rfl, hh, hk⟩; (· exact ⟨rfl, ends_bad hq ab3 hk⟩); replace hR := Lib.hid hq; replace H := Lib.hid hh; (have KN : WK p w w1 := WK.trans ab3 hk); (have HN : Below b.heap.size b w1 := Below.trans ab4 (hk.below.mono hle)); (have XN : Box2 w1 p w.heap.size (w.heap.size + 1) (pV p) (pV g) := Box2.keep ab7 hk); replace KK := Lib.hid KN; replace HB := Lib.hid HN; replace XB := Lib.hid XN; have x0 := XB.out.b0.cell; have x1 := XB.out.b1.cell; have z0 := XB.out.b0.lt; have z1 := XB.out.b1.lt; clear XN; have q2 := (HB.out.cell (p := ⟨g, 2, none⟩) XC.out.lt).trans XC.out.c.c2; have q0c := ((HB.out.cell (p := ⟨g, 0, none⟩) XC.out.lt).trans XC.out.c.c0).trans (congrArg some HE.out); clear hq hh hk KN HN))
        have hn0 := XC.out.n0
        have hn1 := XC.out.n1
        have hit : (Lib.itoa (numT e)).length ≤ 1099511627776 := itoa_short hn0 hn1
        go_region_held2 (fun w' => w'.cell? ⟨w.heap.size, 0, none⟩ = some (pV p) ∧ w'.cell? ⟨w.heap.size + 1, 0, none⟩ = some (pV g) ∧ w'.cell? ⟨g, 2, none⟩ = some (iV (numT e))) (first | assumption | (refine ⟨?_, ?_, ?_⟩ <;> assumption) | ((refine hold_all (p := p) (q0 := w.heap.size) (q1 := w.heap.size + 1) ?_ ?_ XC.out.lt XC.out.c.c2); (· exact ab4); (· exact ab7)))
            (first
              | (go_at_call 197; (with_reducible refine (Text_any _ hn0 hn1 _ (C.env.below HB.out.drew).num).mono ?_); rintro e w1 ⟨rfl, hb⟩; obtain ⟨hh, kk, bb, xx⟩ := text_next H.out.drew KK.out.drew HB.out.drew XB.out.drew hb; replace H := Lib.hid hh; replace KK := Lib.hid kk; replace HB := Lib.hid bb; replace XB := Lib.hid xx; have x0 := XB.out.b0.cell; have x1 := XB.out.b1.cell; have z0 := XB.out.b0.lt; have z1 := XB.out.b1.lt; clear hh kk bb xx hb)
              | (go_at_call 116; (with_reducible refine (put1_at ?_ ?_ ?_ hR.out ?_).mono ?_); (· exact ab9); (· exact ⟨_, heap_alloc_new _ _⟩); (· have := H.out.lt; omega); (· first | (simp; done) | (simp; omega) | omega); rintro e w1 hE; rcases hE with ⟨c, hq, rfl, hk⟩ | ⟨s1, k1, hq, rfl, hh, hk⟩; (· exact ⟨rfl, ends_bad hq ab3 hk⟩); replace hR := Lib.hid hq; replace H := Lib.hid hh; (have KN : WK p w w1 := WK.trans ab3 hk); (have HN : Below b.heap.size b w1 := Below.trans ab4 (hk.below.mono hle)); (have XN : Box2 w1 p w.heap.size (w.heap.size + 1) (pV p) (pV g) := Box2.keep ab7 hk); replace KK := Lib.hid KN; replace HB := Lib.hid HN; replace XB := Lib.hid XN; have x0 := XB.out.b0.cell; have x1 := XB.out.b1.cell; have z0 := XB.out.b0.lt; have z1 := XB.out.b1.lt; clear XN; clear hq hh hk KN HN))
        all_goals
          go_wp2_with fail
          go_end0
          exact ends_ok hR.out H.out KK.out
      · repeat (first | simp only at hR0 | simp only [bind_bind] at hR0 | simp only [ok_bind] at hR0 | simp only [bad_bind] at hR0 | simp only [Int.reduceEq] at hR0 | simp only [reduceIte] at hR0 | simp only [if_true] at hR0 | simp only [if_false] at hR0)
        have hR := Lib.hid hR0; clear hR0
        have c0E : iV (kindT e) = iV (kindT e) := rfl
        conv at c0E => rhs; rw [h3]
        have HE := Lib.hid c0E
        clear c0E hx hA hK h3
        go_enter Tryz.func159, Tryz.ntmps159
        go_wp2_with fail
        generalize ((w.alloc (.cells #[pV p] 161)).alloc (.cells #[pV g] 49)) = w2 at H KK HB XB ⊢
        have x0 := XB.out.b0.cell
        have x1 := XB.out.b1.cell
        have z0 := XB.out.b0.lt
        have z1 := XB.out.b1.lt
        have q0c := ((HB.out.cell (p := ⟨g, 0, none⟩) XC.out.lt).trans XC.out.c.c0).trans (congrArg some HE.out)
        go_quiet (fail)
        replace H := Lib.hid (H.out.drewN nq)
        replace KK := Lib.hid (KK.out.drewN (Nat.le_of_lt (Nat.lt_of_lt_of_le hpl KK.out.below.size)) nq)
        replace HB := Lib.hid (below_dN HB.out nq)
        replace XB := Lib.hid (XB.out.drewN nq)
        generalize World.drewN _ nq = w3 at H KK HB XB ⊢
        have x0 := XB.out.b0.cell
        have x1 := XB.out.b1.cell
        have z0 := XB.out.b0.lt
        have z1 := XB.out.b1.lt
        go_wp2_with (first
            | (go_at_call 157; (with_reducible refine (begin_step ?_ hR.out).mono ?_); (· exact ab9); rintro e w1 hE; rcases hE with ⟨c, hq, rfl, hk⟩ | ⟨s1, k1, hq, rfl, hh, hk⟩; (· exact ⟨rfl, ends_bad hq ab3 hk⟩); replace hR := Lib.hid hq; replace H := Lib.hid hh; (have KN : WK p w w1 := WK.trans ab3 hk); (have HN : Below b.heap.size b w1 := Below.trans ab4 (hk.below.mono hle)); (have XN : Box2 w1 p w.heap.size (w.heap.size + 1) (pV p) (pV g) := Box2.keep ab7 hk); replace KK := Lib.hid KN; replace HB := Lib.hid HN; replace XB := Lib.hid XN; have x0 := XB.out.b0.cell; have x1 := XB.out.b1.cell; have z0 := XB.out.b0.lt; have z1 := XB.out.b1.lt; clear XN; have q3 := (HB.out.cell (p := ⟨g, 3, none⟩) XC.out.lt).trans XC.out.c.c3; have q0c := ((HB.out.cell (p := ⟨g, 0, none⟩) XC.out.lt).trans XC.out.c.c0).trans (congrArg some HE.out); clear hq hh hk KN HN))
        go_still_tail 5, (by kernel_rfl)
        change wpList _ _ _ _ _ (World.drew _)
        replace H := Lib.hid H.out.drew
        replace KK := Lib.hid KK.out.drew
        replace HB := Lib.hid HB.out.drew
        replace XB := Lib.hid XB.out.drew
        generalize World.drew _ = w2 at H KK HB XB ⊢
        have x0 := XB.out.b0.cell
        have x1 := XB.out.b1.cell
        have z0 := XB.out.b0.lt
        have z1 := XB.out.b1.lt
        have q3 := (HB.out.cell (p := ⟨g, 3, none⟩) XC.out.lt).trans XC.out.c.c3
        go_wp2_with (first
            | (go_at_call 198; (with_reducible refine (Spec.quoted_step H.out hsh hR.out).mono ?_); rintro e w1 hE; rcases hE with ⟨c, hq, rfl, hk⟩ | ⟨s1, k1, hq, rfl, hh, hk⟩; (· exact ⟨rfl, ends_bad hq ab3 hk⟩); replace hR := Lib.hid hq; replace H := Lib.hid hh; (have KN : WK p w w1 := WK.trans ab3 hk); (have HN : Below b.heap.size b w1 := Below.trans ab4 (hk.below.mono hle)); (have XN : Box2 w1 p w.heap.size (w.heap.size + 1) (pV p) (pV g) := Box2.keep ab7 hk); replace KK := Lib.hid KN; replace HB := Lib.hid HN; replace XB := Lib.hid XN; have x0 := XB.out.b0.cell; have x1 := XB.out.b1.cell; have z0 := XB.out.b0.lt; have z1 := XB.out.b1.lt; clear XN; clear hq hh hk KN HN))
        go_end0
        exact ends_ok hR.out H.out KK.out
      · repeat (first | simp only at hR0 | simp only [bind_bind] at hR0 | simp only [ok_bind] at hR0 | simp only [bad_bind] at hR0 | simp only [Int.reduceEq] at hR0 | simp only [reduceIte] at hR0 | simp only [if_true] at hR0 | simp only [if_false] at hR0)
        have hR := Lib.hid hR0; clear hR0
        have c0E : iV (kindT e) = iV (kindT e) := rfl
        conv at c0E => rhs; rw [h3]
        have HE := Lib.hid c0E
        clear c0E hx hA hK h3
        go_enter Tryz.func159, Tryz.ntmps159
        go_wp2_with fail
        generalize ((w.alloc (.cells #[pV p] 161)).alloc (.cells #[pV g] 49)) = w2 at H KK HB XB ⊢
        have x0 := XB.out.b0.cell
        have x1 := XB.out.b1.cell
        have z0 := XB.out.b0.lt
        have z1 := XB.out.b1.lt
        have q0c := ((HB.out.cell (p := ⟨g, 0, none⟩) XC.out.lt).trans XC.out.c.c0).trans (congrArg some HE.out)
        go_quiet (fail)
        replace H := Lib.hid (H.out.drewN nq)
        replace KK := Lib.hid (KK.out.drewN (Nat.le_of_lt (Nat.lt_of_lt_of_le hpl KK.out.below.size)) nq)
        replace HB := Lib.hid (below_dN HB.out nq)
        replace XB := Lib.hid (XB.out.drewN nq)
        generalize World.drewN _ nq = w3 at H KK HB XB ⊢
        have x0 := XB.out.b0.cell
        have x1 := XB.out.b1.cell
        have z0 := XB.out.b0.lt
        have z1 := XB.out.b1.lt
        go_wp2_with (first
            | (go_at_call 157; (with_reducible refine (begin_step ?_ hR.out).mono ?_); (· exact ab9); rintro e w1 hE; rcases hE with ⟨c, hq, rfl, hk⟩ | ⟨s1, k1, hq, rfl, hh, hk⟩; (· exact ⟨rfl, ends_bad hq ab3 hk⟩); replace hR := Lib.hid hq; replace H := Lib.hid hh; (have KN : WK p w w1 := WK.trans ab3 hk); (have HN : Below b.heap.size b w1 := Below.trans ab4 (hk.below.mono hle)); (have XN : Box2 w1 p w.heap.size (w.heap.size + 1) (pV p) (pV g) := Box2.keep ab7 hk); replace KK := Lib.hid KN; replace HB := Lib.hid HN; replace XB := Lib.hid XN; have x0 := XB.out.b0.cell; have x1 := XB.out.b1.cell; have z0 := XB.out.b0.lt; have z1 := XB.out.b1.lt; clear XN; have q3 := (HB.out.cell (p := ⟨g, 3, none⟩) XC.out.lt).trans XC.out.c.c3; have q0c := ((HB.out.cell (p := ⟨g, 0, none⟩) XC.out.lt).trans XC.out.c.c0).trans (congrArg some HE.out); clear hq hh hk KN HN))
        go_region_held2 (fun w' => w'.cell? ⟨w.heap.size, 0, none⟩ = some (pV p) ∧ w'.cell? ⟨w.heap.size + 1, 0, none⟩ = some (pV g) ∧ w'.cell? ⟨g, 3, none⟩ = some (sV (nameT6 e))) (first | assumption | (refine ⟨?_, ?_, ?_⟩ <;> assumption) | ((refine hold_all (p := p) (q0 := w.heap.size) (q1 := w.heap.size + 1) ?_ ?_ XC.out.lt XC.out.c.c3); (· exact ab4); (· exact ab7)))
            (first
              | (go_at_call 116; (with_reducible refine (put1_at ?_ ?_ ?_ hR.out ?_).mono ?_); (· exact ab9); (· exact ⟨_, heap_alloc_new _ _⟩); (· have := H.out.lt; omega); (· first | (simp; done) | (simp; omega) | omega); rintro e w1 hE; rcases hE with ⟨c, hq, rfl, hk⟩ | ⟨s1, k1, hq, rfl, hh, hk⟩; (· exact ⟨rfl, ends_bad hq ab3 hk⟩); replace hR := Lib.hid hq; replace H := Lib.hid hh; (have KN : WK p w w1 := WK.trans ab3 hk); (have HN : Below b.heap.size b w1 := Below.trans ab4 (hk.below.mono hle)); (have XN : Box2 w1 p w.heap.size (w.heap.size + 1) (pV p) (pV g) := Box2.keep ab7 hk); replace KK := Lib.hid KN; replace HB := Lib.hid HN; replace XB := Lib.hid XN; have x0 := XB.out.b0.cell; have x1 := XB.out.b1.cell; have z0 := XB.out.b0.lt; have z1 := XB.out.b1.lt; clear XN; clear hq hh hk KN HN))
        all_goals
          go_wp2_with fail
          go_end0
          exact ends_ok hR.out H.out KK.out
      · repeat (first | simp only at hR0 | simp only [bind_bind] at hR0 | simp only [ok_bind] at hR0 | simp only [bad_bind] at hR0 | simp only [Int.reduceEq] at hR0 | simp only [reduceIte] at hR0 | simp only [if_true] at hR0 | simp only [if_false] at hR0)
        have hR := Lib.hid hR0; clear hR0
        have c0E : iV (kindT e) = iV (kindT e) := rfl
        conv at c0E => rhs; rw [h3]
        have HE := Lib.hid c0E
        clear c0E hx hA hK h3
        go_enter Tryz.func159, Tryz.ntmps159
        go_wp2_with fail
        generalize ((w.alloc (.cells #[pV p] 161)).alloc (.cells #[pV g] 49)) = w2 at H KK HB XB ⊢
        have x0 := XB.out.b0.cell
        have x1 := XB.out.b1.cell
        have z0 := XB.out.b0.lt
        have z1 := XB.out.b1.lt
        have q0c := ((HB.out.cell (p := ⟨g, 0, none⟩) XC.out.lt).trans XC.out.c.c0).trans (congrArg some HE.out)
        go_quiet (fail)
        replace H := Lib.hid (H.out.drewN nq)
        replace KK := Lib.hid (KK.out.drewN (Nat.le_of_lt (Nat.lt_of_lt_of_le hpl KK.out.below.size)) nq)
        replace HB := Lib.hid (below_dN HB.out nq)
        replace XB := Lib.hid (XB.out.drewN nq)
        generalize World.drewN _ nq = w3 at H KK HB XB ⊢
        have x0 := XB.out.b0.cell
        have x1 := XB.out.b1.cell
        have z0 := XB.out.b0.lt
        have z1 := XB.out.b1.lt
        go_wp2_with (first
            | (go_at_call 157; (with_reducible refine (begin_step ?_ hR.out).mono ?_); (· exact ab9); rintro e w1 hE; rcases hE with ⟨c, hq, rfl, hk⟩ | ⟨s1, k1, hq, rfl, hh, hk⟩; (· exact ⟨rfl, ends_bad hq ab3 hk⟩); replace hR := Lib.hid hq; replace H := Lib.hid hh; (have KN : WK p w w1 := WK.trans ab3 hk); (have HN : Below b.heap.size b w1 := Below.trans ab4 (hk.below.mono hle)); (have XN : Box2 w1 p w.heap.size (w.heap.size + 1) (pV p) (pV g) := Box2.keep ab7 hk); replace KK := Lib.hid KN; replace HB := Lib.hid HN; replace XB := Lib.hid XN; have x0 := XB.out.b0.cell; have x1 := XB.out.b1.cell; have z0 := XB.out.b0.lt; have z1 := XB.out.b1.lt; clear XN; have q4 := (HB.out.cell (p := ⟨g, 4, none⟩) XC.out.lt).trans XC.out.c.c4; have q5 := (HB.out.cell (p := ⟨g, 5, none⟩) XC.out.lt).trans XC.out.c.c5; have q0c := ((HB.out.cell (p := ⟨g, 0, none⟩) XC.out.lt).trans XC.out.c.c0).trans (congrArg some HE.out); clear hq hh hk KN HN))
        go_still_tail 5, (by kernel_rfl)
        change wpList _ _ _ _ _ (World.drew _)
        replace H := Lib.hid H.out.drew
        replace KK := Lib.hid KK.out.drew
        replace HB := Lib.hid HB.out.drew
        replace XB := Lib.hid XB.out.drew
        generalize World.drew _ = w2 at H KK HB XB ⊢
        have x0 := XB.out.b0.cell
        have x1 := XB.out.b1.cell
        have z0 := XB.out.b0.lt
        have z1 := XB.out.b1.lt
        have q4 := (HB.out.cell (p := ⟨g, 4, none⟩) XC.out.lt).trans XC.out.c.c4; have q5 := (HB.out.cell (p := ⟨g, 5, none⟩) XC.out.lt).trans XC.out.c.c5
        go_wp2_with (first
            | (go_at_call 199; (with_reducible refine (SS.out.post_step ?_ ?_ (by assumption) hR.out HD.out).mono ?_); (· exact ab4); (· exact ab9); rintro e w1 hE; rcases hE with ⟨c, hq, rfl, hk⟩ | ⟨s1, k1, hq, rfl, hh, hk⟩; (· exact ⟨rfl, ends_bad hq ab3 hk⟩); replace hR := Lib.hid hq; replace H := Lib.hid hh; (have KN : WK p w w1 := WK.trans ab3 hk); (have HN : Below b.heap.size b w1 := Below.trans ab4 (hk.below.mono hle)); (have XN : Box2 w1 p w.heap.size (w.heap.size + 1) (pV p) (pV g) := Box2.keep ab7 hk); replace KK := Lib.hid KN; replace HB := Lib.hid HN; replace XB := Lib.hid XN; have x0 := XB.out.b0.cell; have x1 := XB.out.b1.cell; have z0 := XB.out.b0.lt; have z1 := XB.out.b1.lt; clear XN; have q5 := (HB.out.cell (p := ⟨g, 5, none⟩) XC.out.lt).trans XC.out.c.c5; clear hq hh hk KN HN))
        go_still_tail 5, (by kernel_rfl)
        change wpList _ _ _ _ _ (World.drew _)
        replace H := Lib.hid H.out.drew
        replace KK := Lib.hid KK.out.drew
        replace HB := Lib.hid HB.out.drew
        replace XB := Lib.hid XB.out.drew
        generalize World.drew _ = w2 at H KK HB XB ⊢
        have x0 := XB.out.b0.cell
        have x1 := XB.out.b1.cell
        have z0 := XB.out.b0.lt
        have z1 := XB.out.b1.lt
        have q5 := (HB.out.cell (p := ⟨g, 5, none⟩) XC.out.lt).trans XC.out.c.c5
        go_wp2_with (first
            | (go_at_call 200; (with_reducible refine (SS.out.index_step ?_ ?_ (by assumption) hR.out HD.out).mono ?_); (· exact ab4); (· exact ab9); rintro e w1 hE; rcases hE with ⟨c, hq, rfl, hk⟩ | ⟨s1, k1, hq, rfl, hh, hk⟩; (· exact ⟨rfl, ends_bad hq ab3 hk⟩); replace hR := Lib.hid hq; replace H := Lib.hid hh; (have KN : WK p w w1 := WK.trans ab3 hk); (have HN : Below b.heap.size b w1 := Below.trans ab4 (hk.below.mono hle)); (have XN : Box2 w1 p w.heap.size (w.heap.size + 1) (pV p) (pV g) := Box2.keep ab7 hk); replace KK := Lib.hid KN; replace HB := Lib.hid HN; replace XB := Lib.hid XN; have x0 := XB.out.b0.cell; have x1 := XB.out.b1.cell; have z0 := XB.out.b0.lt; have z1 := XB.out.b1.lt; clear XN; clear hq hh hk KN HN))
        go_end0
        exact ends_ok hR.out H.out KK.out
      · repeat (first | simp only at hR0 | simp only [bind_bind] at hR0 | simp only [ok_bind] at hR0 | simp only [bad_bind] at hR0 | simp only [Int.reduceEq] at hR0 | simp only [reduceIte] at hR0 | simp only [if_true] at hR0 | simp only [if_false] at hR0)
        have hR := Lib.hid hR0; clear hR0
        have c0E : iV (kindT e) = iV (kindT e) := rfl
        conv at c0E => rhs; rw [h3]
        have HE := Lib.hid c0E
        clear c0E hx hA hK h3
        go_enter Tryz.func159, Tryz.ntmps159
        go_wp2_with fail
        generalize ((w.alloc (.cells #[pV p] 161)).alloc (.cells #[pV g] 49)) = w2 at H KK HB XB ⊢
        have x0 := XB.out.b0.cell
        have x1 := XB.out.b1.cell
        have z0 := XB.out.b0.lt
        have z1 := XB.out.b1.lt
        have q0c := ((HB.out.cell (p := ⟨g, 0, none⟩) XC.out.lt).trans XC.out.c.c0).trans (congrArg some HE.out)
        go_quiet (fail)
        replace H := Lib.hid (H.out.drewN nq)
        replace KK := Lib.hid (KK.out.drewN (Nat.le_of_lt (Nat.lt_of_lt_of_le hpl KK.out.below.size)) nq)
        replace HB := Lib.hid (below_dN HB.out nq)
        replace XB := Lib.hid (XB.out.drewN nq)
        generalize World.drewN _ nq = w3 at H KK HB XB ⊢
        have x0 := XB.out.b0.cell
        have x1 := XB.out.b1.cell
        have z0 := XB.out.b0.lt
        have z1 := XB.out.b1.lt
        go_wp2_with (first
            | (go_at_call 157; (with_reducible refine (begin_step ?_ hR.out).mono ?_); (· exact ab9); rintro e w1 hE; rcases hE with ⟨c, hq, rfl, hk⟩ | ⟨s1, k1, hq, rfl, hh, hk⟩; (· exact ⟨rfl, ends_bad hq ab3 hk⟩); replace hR := Lib.hid hq; replace H := Lib.hid hh; (have KN : WK p w w1 := WK.trans ab3 hk); (have HN : Below b.heap.size b w1 := Below.trans ab4 (hk.below.mono hle)); (have XN : Box2 w1 p w.heap.size (w.heap.size + 1) (pV p) (pV g) := Box2.keep ab7 hk); replace KK := Lib.hid KN; replace HB := Lib.hid HN; replace XB := Lib.hid XN; have x0 := XB.out.b0.cell; have x1 := XB.out.b1.cell; have z0 := XB.out.b0.lt; have z1 := XB.out.b1.lt; clear XN; have q4 := (HB.out.cell (p := ⟨g, 4, none⟩) XC.out.lt).trans XC.out.c.c4; have q7 := (HB.out.cell (p := ⟨g, 7, none⟩) XC.out.lt).trans XC.out.c.c7; have q0c := ((HB.out.cell (p := ⟨g, 0, none⟩) XC.out.lt).trans XC.out.c.c0).trans (congrArg some HE.out); clear hq hh hk KN HN))
        go_still_tail 5, (by kernel_rfl)
        change wpList _ _ _ _ _ (World.drew _)
        replace H := Lib.hid H.out.drew
        replace KK := Lib.hid KK.out.drew
        replace HB := Lib.hid HB.out.drew
        replace XB := Lib.hid XB.out.drew
        generalize World.drew _ = w2 at H KK HB XB ⊢
        have x0 := XB.out.b0.cell
        have x1 := XB.out.b1.cell
        have z0 := XB.out.b0.lt
        have z1 := XB.out.b1.lt
        have q4 := (HB.out.cell (p := ⟨g, 4, none⟩) XC.out.lt).trans XC.out.c.c4; have q7 := (HB.out.cell (p := ⟨g, 7, none⟩) XC.out.lt).trans XC.out.c.c7
        go_wp2_with (first
            | (go_at_call 199; (with_reducible refine (SS.out.post_step ?_ ?_ (by assumption) hR.out HD.out).mono ?_); (· exact ab4); (· exact ab9); rintro e w1 hE; rcases hE with ⟨c, hq, rfl, hk⟩ | ⟨s1, k1, hq, rfl, hh, hk⟩; (· exact ⟨rfl, ends_bad hq ab3 hk⟩); replace hR := Lib.hid hq; replace H := Lib.hid hh; (have KN : WK p w w1 := WK.trans ab3 hk); (have HN : Below b.heap.size b w1 := Below.trans ab4 (hk.below.mono hle)); (have XN : Box2 w1 p w.heap.size (w.heap.size + 1) (pV p) (pV g) := Box2.keep ab7 hk); replace KK := Lib.hid KN; replace HB := Lib.hid HN; replace XB := Lib.hid XN; have x0 := XB.out.b0.cell; have x1 := XB.out.b1.cell; have z0 := XB.out.b0.lt; have z1 := XB.out.b1.lt; clear XN; have q7 := (HB.out.cell (p := ⟨g, 7, none⟩) XC.out.lt).trans XC.out.c.c7; clear hq hh hk KN HN))
        go_still_tail 7, (by kernel_rfl)
        change wpList _ _ _ _ _ (World.drew _)
        replace H := Lib.hid H.out.drew
        replace KK := Lib.hid KK.out.drew
        replace HB := Lib.hid HB.out.drew
        replace XB := Lib.hid XB.out.drew
        generalize World.drew _ = w2 at H KK HB XB ⊢
        have x0 := XB.out.b0.cell
        have x1 := XB.out.b1.cell
        have z0 := XB.out.b0.lt
        have z1 := XB.out.b1.lt
        have q7 := (HB.out.cell (p := ⟨g, 7, none⟩) XC.out.lt).trans XC.out.c.c7
        go_wp2_with (first
            | (go_at_call 201; (with_reducible refine (list_step H.out ?_ ?_ hfew (fun j w1 s1 k1 hj a b' c => clo_expr1 C SS.out (HB.out.trans (a.below.mono hle)) b' (XB.out.keep a) XC.out hj c) enter_expr1 hR.out HD.out).mono ?_); (· simp); (· simp); rintro e w1 hE; rcases hE with ⟨c, hq, rfl, hk⟩ | ⟨s1, k1, hq, rfl, hh, hk⟩; (· exact ⟨rfl, ends_bad hq ab3 hk⟩); replace hR := Lib.hid hq; replace H := Lib.hid hh; (have KN : WK p w w1 := WK.trans ab3 hk); (have HN : Below b.heap.size b w1 := Below.trans ab4 (hk.below.mono hle)); (have XN : Box2 w1 p w.heap.size (w.heap.size + 1) (pV p) (pV g) := Box2.keep ab7 hk); replace KK := Lib.hid KN; replace HB := Lib.hid HN; replace XB := Lib.hid XN; have x0 := XB.out.b0.cell; have x1 := XB.out.b1.cell; have z0 := XB.out.b0.lt; have z1 := XB.out.b1.lt; clear XN; clear hq hh hk KN HN))
        go_end0
        exact ends_ok hR.out H.out KK.out
      · repeat (first | simp only at hR0 | simp only [bind_bind] at hR0 | simp only [ok_bind] at hR0 | simp only [bad_bind] at hR0 | simp only [Int.reduceEq] at hR0 | simp only [reduceIte] at hR0 | simp only [if_true] at hR0 | simp only [if_false] at hR0)
        have hR := Lib.hid hR0; clear hR0
        have c0E : iV (kindT e) = iV (kindT e) := rfl
        conv at c0E => rhs; rw [h3]
        have HE := Lib.hid c0E
        clear c0E hx hA hK h3
        go_enter Tryz.func159, Tryz.ntmps159
        go_wp2_with fail
        generalize ((w.alloc (.cells #[pV p] 161)).alloc (.cells #[pV g] 49)) = w2 at H KK HB XB ⊢
        have x0 := XB.out.b0.cell
        have x1 := XB.out.b1.cell
        have z0 := XB.out.b0.lt
        have z1 := XB.out.b1.lt
        have q0c := ((HB.out.cell (p := ⟨g, 0, none⟩) XC.out.lt).trans XC.out.c.c0).trans (congrArg some HE.out)
        go_quiet (fail)
        replace H := Lib.hid (H.out.drewN nq)
        replace KK := Lib.hid (KK.out.drewN (Nat.le_of_lt (Nat.lt_of_lt_of_le hpl KK.out.below.size)) nq)
        replace HB := Lib.hid (below_dN HB.out nq)
        replace XB := Lib.hid (XB.out.drewN nq)
        generalize World.drewN _ nq = w3 at H KK HB XB ⊢
        have x0 := XB.out.b0.cell
        have x1 := XB.out.b1.cell
        have z0 := XB.out.b0.lt
        have z1 := XB.out.b1.lt
        go_wp2_with (first
            | (go_at_call 157; (with_reducible refine (begin_step ?_ hR.out).mono ?_); (· exact ab9); rintro e w1 hE; rcases hE with ⟨c, hq, rfl, hk⟩ | ⟨s1, k1, hq, rfl, hh, hk⟩; (· exact ⟨rfl, ends_bad hq ab3 hk⟩); replace hR := Lib.hid hq; replace H := Lib.hid hh; (have KN : WK p w w1 := WK.trans ab3 hk); (have HN : Below b.heap.size b w1 := Below.trans ab4 (hk.below.mono hle)); (have XN : Box2 w1 p w.heap.size (w.heap.size + 1) (pV p) (pV g) := Box2.keep ab7 hk); replace KK := Lib.hid KN; replace HB := Lib.hid HN; replace XB := Lib.hid XN; have x0 := XB.out.b0.cell; have x1 := XB.out.b1.cell; have z0 := XB.out.b0.lt; have z1 := XB.out.b1.lt; clear XN; have q0c := ((HB.out.cell (p := ⟨g, 0, none⟩) XC.out.lt).trans XC.out.c.c0).trans (congrArg some HE.out); clear hq hh hk KN HN)
            | (go_at_call 116; (with_reducible refine (put_step ?_ ?_ hR.out ?_).mono ?_); (· exact ab9); (· rfl); (· first | (simp; done) | (simp; omega) | omega); rintro e w1 hE; rcases hE with ⟨c, hq, rfl, hk⟩ | ⟨s1, k1, hq, rfl, hh, hk⟩; (· exact ⟨rfl, ends_bad hq ab3 hk⟩); replace hR := Lib.hid hq; replace H := Lib.hid hh; (have KN : WK p w w1 := WK.trans ab3 hk); (have HN : Below b.heap.size b w1 := Below.trans ab4 (hk.below.mono hle)); (have XN : Box2 w1 p w.heap.size (w.heap.size + 1) (pV p) (pV g) := Box2.keep ab7 hk); replace KK := Lib.hid KN; replace HB := Lib.hid HN; replace XB := Lib.hid XN; have x0 := XB.out.b0.cell; have x1 := XB.out.b1.cell; have z0 := XB.out.b0.lt; have z1 := XB.out.b1.lt; clear XN; clear hq hh hk KN HN)
            | (go_at_call 203; (with_reducible refine (SS.out.body_step ?_ ?_ (by assumption) ?_ hR.out HD.out).mono ?_); (· exact ab4); (· exact ab9); (· first | exact XI.out | exact XR.out); rintro e w1 hE; rcases hE with ⟨c, hq, rfl, hk⟩ | ⟨s1, k1, hq, rfl, hh, hk⟩; (· exact ⟨rfl, ends_bad hq ab3 hk⟩); replace hR := Lib.hid hq; replace H := Lib.hid hh; (have KN : WK p w w1 := WK.trans ab3 hk); (have HN : Below b.heap.size b w1 := Below.trans ab4 (hk.below.mono hle)); (have XN : Box2 w1 p w.heap.size (w.heap.size + 1) (pV p) (pV g) := Box2.keep ab7 hk); replace KK := Lib.hid KN; replace HB := Lib.hid HN; replace XB := Lib.hid XN; have x0 := XB.out.b0.cell; have x1 := XB.out.b1.cell; have z0 := XB.out.b0.lt; have z1 := XB.out.b1.lt; clear XN; clear hq hh hk KN HN))
        go_end0
        exact ends_ok hR.out H.out KK.out
      · repeat (first | simp only at hR0 | simp only [bind_bind] at hR0 | simp only [ok_bind] at hR0 | simp only [bad_bind] at hR0 | simp only [Int.reduceEq] at hR0 | simp only [reduceIte] at hR0 | simp only [if_true] at hR0 | simp only [if_false] at hR0)
        have hR := Lib.hid hR0; clear hR0
        have c0E : iV (kindT e) = iV (kindT e) := rfl
        conv at c0E => rhs; rw [h3]
        have HE := Lib.hid c0E
        clear c0E hx hA hK h3
        go_enter Tryz.func159, Tryz.ntmps159
        go_wp2_with fail
        generalize ((w.alloc (.cells #[pV p] 161)).alloc (.cells #[pV g] 49)) = w2 at H KK HB XB ⊢
        have x0 := XB.out.b0.cell
        have x1 := XB.out.b1.cell
        have z0 := XB.out.b0.lt
        have z1 := XB.out.b1.lt
        have q0c := ((HB.out.cell (p := ⟨g, 0, none⟩) XC.out.lt).trans XC.out.c.c0).trans (congrArg some HE.out)
        go_quiet (fail)
        replace H := Lib.hid (H.out.drewN nq)
        replace KK := Lib.hid (KK.out.drewN (Nat.le_of_lt (Nat.lt_of_lt_of_le hpl KK.out.below.size)) nq)
        replace HB := Lib.hid (below_dN HB.out nq)
        replace XB := Lib.hid (XB.out.drewN nq)
        generalize World.drewN _ nq = w3 at H KK HB XB ⊢
        have x0 := XB.out.b0.cell
        have x1 := XB.out.b1.cell
        have z0 := XB.out.b0.lt
        have z1 := XB.out.b1.lt
        go_wp2_with (first
            | (go_at_call 157; (with_reducible refine (begin_step ?_ hR.out).mono ?_); (· exact ab9); rintro e w1 hE; rcases hE with ⟨c, hq, rfl, hk⟩ | ⟨s1, k1, hq, rfl, hh, hk⟩; (· exact ⟨rfl, ends_bad hq ab3 hk⟩); replace hR := Lib.hid hq; replace H := Lib.hid hh; (have KN : WK p w w1 := WK.trans ab3 hk); (have HN : Below b.heap.size b w1 := Below.trans ab4 (hk.below.mono hle)); (have XN : Box2 w1 p w.heap.size (w.heap.size + 1) (pV p) (pV g) := Box2.keep ab7 hk); replace KK := Lib.hid KN; replace HB := Lib.hid HN; replace XB := Lib.hid XN; have x0 := XB.out.b0.cell; have x1 := XB.out.b1.cell; have z0 := XB.out.b0.lt; have z1 := XB.out.b1.lt; clear XN; have q3 := (HB.out.cell (p := ⟨g, 3, none⟩) XC.out.lt).trans XC.out.c.c3; have q5 := (HB.out.cell (p := ⟨g, 5, none⟩) XC.out.lt).trans XC.out.c.c5; have q0c := ((HB.out.cell (p := ⟨g, 0, none⟩) XC.out.lt).trans XC.out.c.c0).trans (congrArg some HE.out); clear hq hh hk KN HN))
        go_region_held2 (fun w' => w'.cell? ⟨w.heap.size, 0, none⟩ = some (pV p) ∧ w'.cell? ⟨w.heap.size + 1, 0, none⟩ = some (pV g) ∧ w'.cell? ⟨g, 3, none⟩ = some (sV (nameT6 e))) (first | assumption | (refine ⟨?_, ?_, ?_⟩ <;> assumption) | ((refine hold_all (p := p) (q0 := w.heap.size) (q1 := w.heap.size + 1) ?_ ?_ XC.out.lt XC.out.c.c3); (· exact ab4); (· exact ab7)))
            (first
              | (go_at_call 116; (with_reducible refine (put2_at ?_ ?_ ?_ hR.out ?_).mono ?_); (· exact ab9); (· exact ⟨_, heap_alloc_new _ _⟩); (· have := H.out.lt; omega); (· first | (simp; done) | (simp; omega) | omega); rintro e w1 hE; rcases hE with ⟨c, hq, rfl, hk⟩ | ⟨s1, k1, hq, rfl, hh, hk⟩; (· exact ⟨rfl, ends_bad hq ab3 hk⟩); replace hR := Lib.hid hq; replace H := Lib.hid hh; (have KN : WK p w w1 := WK.trans ab3 hk); (have HN : Below b.heap.size b w1 := Below.trans ab4 (hk.below.mono hle)); (have XN : Box2 w1 p w.heap.size (w.heap.size + 1) (pV p) (pV g) := Box2.keep ab7 hk); replace KK := Lib.hid KN; replace HB := Lib.hid HN; replace XB := Lib.hid XN; have x0 := XB.out.b0.cell; have x1 := XB.out.b1.cell; have z0 := XB.out.b0.lt; have z1 := XB.out.b1.lt; clear XN; have q5 := (HB.out.cell (p := ⟨g, 5, none⟩) XC.out.lt).trans XC.out.c.c5; clear hq hh hk KN HN))
        all_goals
          go_wp2_with fail
          have IO := Lib.hid (fun (W : World) (g2 : Nat) (qb : Below b.heap.size b W) (qi : Ints W g2 [11]) => isOf_one 11 qb tr qi)
          go_region_held2 (fun w' => w'.cell? ⟨w.heap.size, 0, none⟩ = some (pV p) ∧ w'.cell? ⟨w.heap.size + 1, 0, none⟩ = some (pV g) ∧ w'.cell? ⟨g, 5, none⟩ = some (vb)) (first | assumption | (refine ⟨?_, ?_, ?_⟩ <;> assumption) | ((refine hold_all (p := p) (q0 := w.heap.size) (q1 := w.heap.size + 1) ?_ ?_ XC.out.lt XC.out.c.c5); (· exact ab4); (· exact ab7)))
              (first
                | (go_at_call 205; (with_reducible refine (IO.out _ _ ?_ ?_).mono ?_); (· exact ab4); (· exact ⟨_, heap_alloc_new _ _⟩); rintro e w1 ⟨rfl, hq⟩; obtain rfl := hq.symm)
                | (go_at_call 204; (with_reducible refine (SS.out.operand_step ?_ ?_ (by assumption) hR.out HD.out).mono ?_); (· exact ab4); (· exact ab9); rintro e w1 hE; rcases hE with ⟨c, hq, rfl, hk⟩ | ⟨s1, k1, hq, rfl, hh, hk⟩; (· exact ⟨rfl, ends_bad hq ab3 hk⟩); replace hR := Lib.hid hq; replace H := Lib.hid hh; (have KN : WK p w w1 := WK.trans ab3 hk); (have HN : Below b.heap.size b w1 := Below.trans ab4 (hk.below.mono hle)); (have XN : Box2 w1 p w.heap.size (w.heap.size + 1) (pV p) (pV g) := Box2.keep ab7 hk); replace KK := Lib.hid KN; replace HB := Lib.hid HN; replace XB := Lib.hid XN; have x0 := XB.out.b0.cell; have x1 := XB.out.b1.cell; have z0 := XB.out.b0.lt; have z1 := XB.out.b1.lt; clear XN; clear hq hh hk KN HN))
          all_goals
            go_wp2_with fail
            go_end0
            exact ends_ok hR.out H.out KK.out
      · repeat (first | simp only at hR0 | simp only [bind_bind] at hR0 | simp only [ok_bind] at hR0 | simp only [bad_bind] at hR0 | simp only [Int.reduceEq] at hR0 | simp only [reduceIte] at hR0 | simp only [if_true] at hR0 | simp only [if_false] at hR0)
        have hR := Lib.hid hR0; clear hR0
        have c0E : iV (kindT e) = iV (kindT e) := rfl
        conv at c0E => rhs; rw [h3]
        have HE := Lib.hid c0E
        clear c0E hx hA hK h3
        go_enter Tryz.func159, Tryz.ntmps159
        go_wp2_with fail
        generalize ((w.alloc (.cells #[pV p] 161)).alloc (.cells #[pV g] 49)) = w2 at H KK HB XB ⊢
        have x0 := XB.out.b0.cell
        have x1 := XB.out.b1.cell
        have z0 := XB.out.b0.lt
        have z1 := XB.out.b1.lt
        have q0c := ((HB.out.cell (p := ⟨g, 0, none⟩) XC.out.lt).trans XC.out.c.c0).trans (congrArg some HE.out)
        go_quiet (fail)
        replace H := Lib.hid (H.out.drewN nq)
        replace KK := Lib.hid (KK.out.drewN (Nat.le_of_lt (Nat.lt_of_lt_of_le hpl KK.out.below.size)) nq)
        replace HB := Lib.hid (below_dN HB.out nq)
        replace XB := Lib.hid (XB.out.drewN nq)
        generalize World.drewN _ nq = w3 at H KK HB XB ⊢
        have x0 := XB.out.b0.cell
        have x1 := XB.out.b1.cell
        have z0 := XB.out.b0.lt
        have z1 := XB.out.b1.lt
        go_wp2_with (first
            | (go_at_call 157; (with_reducible refine (begin_step ?_ hR.out).mono ?_); (· exact ab9); rintro e w1 hE; rcases hE with ⟨c, hq, rfl, hk⟩ | ⟨s1, k1, hq, rfl, hh, hk⟩; (· exact ⟨rfl, ends_bad hq ab3 hk⟩); replace hR := Lib.hid hq; replace H := Lib.hid hh; (have KN : WK p w w1 := WK.trans ab3 hk); (have HN : Below b.heap.size b w1 := Below.trans ab4 (hk.below.mono hle)); (have XN : Box2 w1 p w.heap.size (w.heap.size + 1) (pV p) (pV g) := Box2.keep ab7 hk); replace KK := Lib.hid KN; replace HB := Lib.hid HN; replace XB := Lib.hid XN; have x0 := XB.out.b0.cell; have x1 := XB.out.b1.cell; have z0 := XB.out.b0.lt; have z1 := XB.out.b1.lt; clear XN; have q0c := ((HB.out.cell (p := ⟨g, 0, none⟩) XC.out.lt).trans XC.out.c.c0).trans (congrArg some HE.out); clear hq hh hk KN HN)
            | (go_at_call 206; (with_reducible refine (SS.out.operation_step ?_ ?_ (by assumption) ?_ hR.out HD.out).mono ?_); (· exact ab4); (· exact ab9); (· first | exact XI.out | exact XR.out); rintro e w1 hE; rcases hE with ⟨c, hq, rfl, hk⟩ | ⟨s1, k1, hq, rfl, hh, hk⟩; (· exact ⟨rfl, ends_bad hq ab3 hk⟩); replace hR := Lib.hid hq; replace H := Lib.hid hh; (have KN : WK p w w1 := WK.trans ab3 hk); (have HN : Below b.heap.size b w1 := Below.trans ab4 (hk.below.mono hle)); (have XN : Box2 w1 p w.heap.size (w.heap.size + 1) (pV p) (pV g) := Box2.keep ab7 hk); replace KK := Lib.hid KN; replace HB := Lib.hid HN; replace XB := Lib.hid XN; have x0 := XB.out.b0.cell; have x1 := XB.out.b1.cell; have z0 := XB.out.b0.lt; have z1 := XB.out.b1.lt; clear XN; clear hq hh hk KN HN))
        go_end0
        exact ends_ok hR.out H.out KK.out
end Go.Proofs.YtoggkigfijgbfaaGreatDoor.P6
