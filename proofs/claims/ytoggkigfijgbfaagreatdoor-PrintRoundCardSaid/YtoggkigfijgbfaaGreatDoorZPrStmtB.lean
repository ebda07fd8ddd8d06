/- print.writer: blocks and statements, at a fuel and one. -/
import Derived.Test.YtoggkigfijgbfaaGreatDoorZAbb
import Derived.Test.YtoggkigfijgbfaaGreatDoorZPrStmtA
namespace Go.Proofs.YtoggkigfijgbfaaGreatDoor.P6
set_option maxRecDepth 20000
open Go.RowKit

set_option maxHeartbeats 4000000 in
theorem blocks_next {b w : World} {p n : Nat} (C : Env6 b p) (S : Spec b p n) {t : Tree} {v : Value} {s : List UInt8} {k : Nat} (hB : Below b.heap.size b w) (h : WAt w p s k) (q0 : TS b t v) (q1 : isS t = true) (q2 : (kindT t = 4 ∨ kindT t = 5 ∨ kindT t = 6 ∨ kindT t = 7 ∨ kindT t = 10)) (hD : printF (n + 1) (.blocks t) s k ≠ .out) : Calls Tryz.prog 161 #[pV p, v] w (WEnds p (printF (n + 1) (.blocks t) s k) w) := by
  have hle := C.le
  have hp0 : p ≤ w.heap.size := Nat.le_of_lt h.lt
  obtain ⟨R, hR1⟩ : ∃ R, printF (n + 1) (.blocks t) s k = R := ⟨_, rfl⟩
  rw [hR1] at hD ⊢
  have hR0 : (printF (n + 1) (.blocks t) s k).bind .ok = R := by rw [bind_ok]; exact hR1
  clear hR1
  unfold printF at hR0
  have H := Lib.hid h
  have HB := Lib.hid hB
  have SS := Lib.hid S
  have HD := Lib.hid hD
  have KK := Lib.hid (WK.refl p w)
  clear h hB hD S
  obtain ⟨g, l, va, vb, vo, vx, vy, rfl, hx⟩ := q0.node q1
  have XI := Lib.hid q1; have XC := Lib.hid hx; have tl := hx.l; have tr := hx.r; have tt := hx.to; have ta := hx.aa; have tb := hx.bb; have hsh := hx.short
  have q0 := (HB.out.cell (p := ⟨g, 0, none⟩) XC.out.lt).trans XC.out.c.c0
  have q2c := (HB.out.cell (p := ⟨g, 2, none⟩) XC.out.lt).trans XC.out.c.c2; have q4 := (HB.out.cell (p := ⟨g, 4, none⟩) XC.out.lt).trans XC.out.c.c4; have q5 := (HB.out.cell (p := ⟨g, 5, none⟩) XC.out.lt).trans XC.out.c.c5; have q6 := (HB.out.cell (p := ⟨g, 6, none⟩) XC.out.lt).trans XC.out.c.c6; have q7 := (HB.out.cell (p := ⟨g, 7, none⟩) XC.out.lt).trans XC.out.c.c7
  clear hx
  rcases q2 with hk | hk | hk | hk | hk
  all_goals
    simp only [hk] at hR0 q0
    repeat (first | simp only at hR0 | simp only [bind_bind] at hR0 | simp only [ok_bind] at hR0 | simp only [bad_bind] at hR0 | simp only [Int.reduceEq] at hR0 | simp only [reduceIte] at hR0 | simp only [if_true] at hR0 | simp only [if_false] at hR0)
    have hR := Lib.hid hR0; clear hR0
    clear hk
    go_enter Tryz.func161, Tryz.ntmps161
    go_wp2_with (first
      | (go_at_call 116; (with_reducible refine (put_step ?_ ?_ hR.out ?_).mono ?_); (· exact ab10); (· rfl); (· first | (simp; done) | (simp; omega) | omega); rintro e w1 hE; rcases hE with ⟨c, hq, rfl, hk⟩ | ⟨s1, k1, hq, rfl, hh, hk⟩; (· exact ⟨rfl, ends_bad hq (ab5 : WK p w _) hk⟩); replace hR := Lib.hid hq; replace H := Lib.hid hh; replace KK := Lib.hid ((ab5 : WK p w _).trans hk); replace HB := Lib.hid ((ab8 : Below b.heap.size b _).trans (hk.below.mono hle)); have q2c := (HB.out.cell (p := ⟨g, 2, none⟩) XC.out.lt).trans XC.out.c.c2; have q4 := (HB.out.cell (p := ⟨g, 4, none⟩) XC.out.lt).trans XC.out.c.c4; have q5 := (HB.out.cell (p := ⟨g, 5, none⟩) XC.out.lt).trans XC.out.c.c5; have q6 := (HB.out.cell (p := ⟨g, 6, none⟩) XC.out.lt).trans XC.out.c.c6; have q7 := (HB.out.cell (p := ⟨g, 7, none⟩) XC.out.lt).trans XC.out.c.c7; clear hq hh hk)
      | (go_at_call 116; (with_reducible refine (puts2_step ?_ ?_ hR.out ?_).mono ?_); (· exact ab10); (· rfl); (· first | (simp; done) | (simp; omega) | omega); rintro e w1 hE; rcases hE with ⟨c, hq, rfl, hk⟩ | ⟨s1, k1, hq, rfl, hh, hk⟩; (· exact ⟨rfl, ends_bad hq (ab5 : WK p w _) hk⟩); replace hR := Lib.hid hq; replace H := Lib.hid hh; replace KK := Lib.hid ((ab5 : WK p w _).trans hk); replace HB := Lib.hid ((ab8 : Below b.heap.size b _).trans (hk.below.mono hle)); have q2c := (HB.out.cell (p := ⟨g, 2, none⟩) XC.out.lt).trans XC.out.c.c2; have q4 := (HB.out.cell (p := ⟨g, 4, none⟩) XC.out.lt).trans XC.out.c.c4; have q5 := (HB.out.cell (p := ⟨g, 5, none⟩) XC.out.lt).trans XC.out.c.c5; have q6 := (HB.out.cell (p := ⟨g, 6, none⟩) XC.out.lt).trans XC.out.c.c6; have q7 := (HB.out.cell (p := ⟨g, 7, none⟩) XC.out.lt).trans XC.out.c.c7; clear hq hh hk)
      | (go_at_call 116; (with_reducible refine (puts3_step ?_ ?_ hR.out ?_).mono ?_); (· exact ab10); (· rfl); (· first | (simp; done) | (simp; omega) | omega); rintro e w1 hE; rcases hE with ⟨c, hq, rfl, hk⟩ | ⟨s1, k1, hq, rfl, hh, hk⟩; (· exact ⟨rfl, ends_bad hq (ab5 : WK p w _) hk⟩); replace hR := Lib.hid hq; replace H := Lib.hid hh; replace KK := Lib.hid ((ab5 : WK p w _).trans hk); replace HB := Lib.hid ((ab8 : Below b.heap.size b _).trans (hk.below.mono hle)); have q2c := (HB.out.cell (p := ⟨g, 2, none⟩) XC.out.lt).trans XC.out.c.c2; have q4 := (HB.out.cell (p := ⟨g, 4, none⟩) XC.out.lt).trans XC.out.c.c4; have q5 := (HB.out.cell (p := ⟨g, 5, none⟩) XC.out.lt).trans XC.out.c.c5; have q6 := (HB.out.cell (p := ⟨g, 6, none⟩) XC.out.lt).trans XC.out.c.c6; have q7 := (HB.out.cell (p := ⟨g, 7, none⟩) XC.out.lt).trans XC.out.c.c7; clear hq hh hk)
      | (go_at_call 159; (with_reducible refine (SS.out.expr_step ?_ ?_ (by assumption) hR.out HD.out).mono ?_); (· exact ab8); (· exact ab10); rintro e w1 hE; rcases hE with ⟨c, hq, rfl, hk⟩ | ⟨s1, k1, hq, rfl, hh, hk⟩; (· exact ⟨rfl, ends_bad hq (ab5 : WK p w _) hk⟩); replace hR := Lib.hid hq; replace H := Lib.hid hh; replace KK := Lib.hid ((ab5 : WK p w _).trans hk); replace HB := Lib.hid ((ab8 : Below b.heap.size b _).trans (hk.below.mono hle)); have q2c := (HB.out.cell (p := ⟨g, 2, none⟩) XC.out.lt).trans XC.out.c.c2; have q4 := (HB.out.cell (p := ⟨g, 4, none⟩) XC.out.lt).trans XC.out.c.c4; have q5 := (HB.out.cell (p := ⟨g, 5, none⟩) XC.out.lt).trans XC.out.c.c5; have q6 := (HB.out.cell (p := ⟨g, 6, none⟩) XC.out.lt).trans XC.out.c.c6; have q7 := (HB.out.cell (p := ⟨g, 7, none⟩) XC.out.lt).trans XC.out.c.c7; clear hq hh hk)
      | (go_at_call 209; (with_reducible refine (SS.out.block_step ?_ ?_ (by assumption) hR.out HD.out).mono ?_); (· exact ab8); (· exact ab10); rintro e w1 hE; rcases hE with ⟨c, hq, rfl, hk⟩ | ⟨s1, k1, hq, rfl, hh, hk⟩; (· exact ⟨rfl, ends_bad hq (ab5 : WK p w _) hk⟩); replace hR := Lib.hid hq; replace H := Lib.hid hh; replace KK := Lib.hid ((ab5 : WK p w _).trans hk); replace HB := Lib.hid ((ab8 : Below b.heap.size b _).trans (hk.below.mono hle)); have q2c := (HB.out.cell (p := ⟨g, 2, none⟩) XC.out.lt).trans XC.out.c.c2; have q4 := (HB.out.cell (p := ⟨g, 4, none⟩) XC.out.lt).trans XC.out.c.c4; have q5 := (HB.out.cell (p := ⟨g, 5, none⟩) XC.out.lt).trans XC.out.c.c5; have q6 := (HB.out.cell (p := ⟨g, 6, none⟩) XC.out.lt).trans XC.out.c.c6; have q7 := (HB.out.cell (p := ⟨g, 7, none⟩) XC.out.lt).trans XC.out.c.c7; clear hq hh hk)
      | (go_at_call 210; (with_reducible refine (SS.out.choice_step ?_ ?_ (by assumption) ?_ hR.out HD.out).mono ?_); (· exact ab8); (· exact ab10); (· first | exact XI.out | exact XR.out); rintro e w1 hE; rcases hE with ⟨c, hq, rfl, hk⟩ | ⟨s1, k1, hq, rfl, hh, hk⟩; (· exact ⟨rfl, ends_bad hq (ab5 : WK p w _) hk⟩); replace hR := Lib.hid hq; replace H := Lib.hid hh; replace KK := Lib.hid ((ab5 : WK p w _).trans hk); replace HB := Lib.hid ((ab8 : Below b.heap.size b _).trans (hk.below.mono hle)); clear hq hh hk))
    go_end0
    exact ends_ok hR.out H.out KK.out
set_option maxHeartbeats 4000000 in
theorem stmt_next {b w : World} {p n : Nat} (C : Env6 b p) (S : Spec b p n) {t : Tree} {v : Value} {s : List UInt8} {k : Nat} (hB : Below b.heap.size b w) (h : WAt w p s k) (q0 : TS b t v) (hD : printF (n + 1) (.stmt t) s k ≠ .out) : Calls Tryz.prog 115 #[pV p, v] w (WEnds p (printF (n + 1) (.stmt t) s k) w) := by
  have hle := C.le
  have hp0 : p ≤ w.heap.size := Nat.le_of_lt h.lt
  obtain ⟨R, hR1⟩ : ∃ R, printF (n + 1) (.stmt t) s k = R := ⟨_, rfl⟩
  rw [hR1] at hD ⊢
  have hR0 : (printF (n + 1) (.stmt t) s k).bind .ok = R := by rw [bind_ok]; exact hR1
  clear hR1
  unfold printF at hR0
  have H := Lib.hid h
  have HB := Lib.hid hB
  have SS := Lib.hid S
  have HD := Lib.hid hD
  have KK := Lib.hid (WK.refl p w)
  clear h hB hD S
  rcases q0.cases with ⟨rfl, rfl⟩ | ⟨g, l, va, vb, vo, vx, vy, rfl, hx⟩
  · simp only [isS, true_or, if_true] at hR0
    repeat (first | simp only at hR0 | simp only [bind_bind] at hR0 | simp only [ok_bind] at hR0 | simp only [bad_bind] at hR0 | simp only [Int.reduceEq] at hR0 | simp only [reduceIte] at hR0 | simp only [if_true] at hR0 | simp only [if_false] at hR0)
    go_enter Tryz.func115, Tryz.ntmps115
    go_wp2
    exact ⟨rfl, ends_bad hR0.symm KK.out (WK.refl _ _)⟩
  · have q1 := hx.is
    have XI := Lib.hid q1; have XC := Lib.hid hx; have tl := hx.l; have tr := hx.r; have tt := hx.to; have ta := hx.aa; have tb := hx.bb; have hsh := hx.short
    have q0c := (HB.out.cell (p := ⟨g, 0, none⟩) XC.out.lt).trans XC.out.c.c0
    have q2 := (HB.out.cell (p := ⟨g, 2, none⟩) XC.out.lt).trans XC.out.c.c2; have q3 := (HB.out.cell (p := ⟨g, 3, none⟩) XC.out.lt).trans XC.out.c.c3; have q4 := (HB.out.cell (p := ⟨g, 4, none⟩) XC.out.lt).trans XC.out.c.c4
    by_cases h1 : kindT t < 1
    · simp only [if_pos (show isS t = false ∨ kindT t < 1 ∨ 11 < kindT t from .inr (.inl h1))] at hR0
      repeat (first | simp only at hR0 | simp only [bind_bind] at hR0 | simp only [ok_bind] at hR0 | simp only [bad_bind] at hR0 | simp only [Int.reduceEq] at hR0 | simp only [reduceIte] at hR0 | simp only [if_true] at hR0 | simp only [if_false] at hR0)
      clear hx
      go_enter Tryz.func115, Tryz.ntmps115
      go_wp2
      exact ⟨rfl, ends_bad hR0.symm KK.out (WK.refl _ _)⟩
    · by_cases h2 : 11 < kindT t
      · simp only [if_pos (show isS t = false ∨ kindT t < 1 ∨ 11 < kindT t from .inr (.inr h2))] at hR0
        repeat (first | simp only at hR0 | simp only [bind_bind] at hR0 | simp only [ok_bind] at hR0 | simp only [bad_bind] at hR0 | simp only [Int.reduceEq] at hR0 | simp only [reduceIte] at hR0 | simp only [if_true] at hR0 | simp only [if_false] at hR0)
        clear hx
        go_enter Tryz.func115, Tryz.ntmps115
        go_wp2
        exact ⟨rfl, ends_bad hR0.symm KK.out (WK.refl _ _)⟩
      · simp only [if_neg (show ¬ (isS t = false ∨ kindT t < 1 ∨ 11 < kindT t) from by rw [hx.is]; simp; omega)] at hR0
        clear hx
        have hk : kindT t = 1 ∨ kindT t = 2 ∨ kindT t = 3 ∨ kindT t = 4 ∨ kindT t = 5 ∨ kindT t = 6 ∨ kindT t = 7 ∨ kindT t = 8 ∨ kindT t = 9 ∨ kindT t = 10 ∨ kindT t = 11 := by omega
        clear h1 h2
        rcases hk with hk | hk | hk | hk | hk | hk | hk | hk | hk | hk | hk
        all_goals
          simp only [hk] at hR0 q0c
          have HK := Lib.hid hk
          have c0E : iV (kindT t) = iV (kindT t) := rfl
          conv at c0E => rhs; rw [hk]
          have HE := Lib.hid c0E
          clear c0E
          repeat (first | simp only at hR0 | simp only [bind_bind] at hR0 | simp only [ok_bind] at hR0 | simp only [bad_bind] at hR0 | simp only [Int.reduceEq] at hR0 | simp only [reduceIte] at hR0 | simp only [if_true] at hR0 | simp only [if_false] at hR0)
          have hR := Lib.hid hR0; clear hR0
          clear hk
          go_enter Tryz.func115, Tryz.ntmps115
          go_wp2_with (first
            | (go_at_call 157; (with_reducible refine (begin_step ?_ hR.out).mono ?_); (· exact ab10); rintro e w1 hE; rcases hE with ⟨c, hq, rfl, hk⟩ | ⟨s1, k1, hq, rfl, hh, hk⟩; (· exact ⟨rfl, ends_bad hq (ab5 : WK p w _) hk⟩); replace hR := Lib.hid hq; replace H := Lib.hid hh; replace KK := Lib.hid ((ab5 : WK p w _).trans hk); replace HB := Lib.hid ((ab8 : Below b.heap.size b _).trans (hk.below.mono hle)); have q2 := (HB.out.cell (p := ⟨g, 2, none⟩) XC.out.lt).trans XC.out.c.c2; have q3 := (HB.out.cell (p := ⟨g, 3, none⟩) XC.out.lt).trans XC.out.c.c3; have q4 := (HB.out.cell (p := ⟨g, 4, none⟩) XC.out.lt).trans XC.out.c.c4; have q0c := ((HB.out.cell (p := ⟨g, 0, none⟩) XC.out.lt).trans XC.out.c.c0).trans (congrArg some HE.out); clear hq hh hk)
            | (go_at_call 116; (with_reducible refine (put_step ?_ ?_ hR.out ?_).mono ?_); (· exact ab10); (· rfl); (· first | (simp; done) | (simp; omega) | omega); rintro e w1 hE; rcases hE with ⟨c, hq, rfl, hk⟩ | ⟨s1, k1, hq, rfl, hh, hk⟩; (· exact ⟨rfl, ends_bad hq (ab5 : WK p w _) hk⟩); replace hR := Lib.hid hq; replace H := Lib.hid hh; replace KK := Lib.hid ((ab5 : WK p w _).trans hk); replace HB := Lib.hid ((ab8 : Below b.heap.size b _).trans (hk.below.mono hle)); have q2 := (HB.out.cell (p := ⟨g, 2, none⟩) XC.out.lt).trans XC.out.c.c2; have q3 := (HB.out.cell (p := ⟨g, 3, none⟩) XC.out.lt).trans XC.out.c.c3; have q4 := (HB.out.cell (p := ⟨g, 4, none⟩) XC.out.lt).trans XC.out.c.c4; clear hq hh hk)
            | (go_at_call 116; (with_reducible refine (puts2_step ?_ ?_ hR.out ?_).mono ?_); (· exact ab10); (· rfl); (· first | (simp; done) | (simp; omega) | omega); rintro e w1 hE; rcases hE with ⟨c, hq, rfl, hk⟩ | ⟨s1, k1, hq, rfl, hh, hk⟩; (· exact ⟨rfl, ends_bad hq (ab5 : WK p w _) hk⟩); replace hR := Lib.hid hq; replace H := Lib.hid hh; replace KK := Lib.hid ((ab5 : WK p w _).trans hk); replace HB := Lib.hid ((ab8 : Below b.heap.size b _).trans (hk.below.mono hle)); have q2 := (HB.out.cell (p := ⟨g, 2, none⟩) XC.out.lt).trans XC.out.c.c2; have q3 := (HB.out.cell (p := ⟨g, 3, none⟩) XC.out.lt).trans XC.out.c.c3; have q4 := (HB.out.cell (p := ⟨g, 4, none⟩) XC.out.lt).trans XC.out.c.c4; clear hq hh hk)
            | (go_at_call 116; (with_reducible refine (puts3_step ?_ ?_ hR.out ?_).mono ?_); (· exact ab10); (· rfl); (· first | (simp; done) | (simp; omega) | omega); rintro e w1 hE; rcases hE with ⟨c, hq, rfl, hk⟩ | ⟨s1, k1, hq, rfl, hh, hk⟩; (· exact ⟨rfl, ends_bad hq (ab5 : WK p w _) hk⟩); replace hR := Lib.hid hq; replace H := Lib.hid hh; replace KK := Lib.hid ((ab5 : WK p w _).trans hk); replace HB := Lib.hid ((ab8 : Below b.heap.size b _).trans (hk.below.mono hle)); have q2 := (HB.out.cell (p := ⟨g, 2, none⟩) XC.out.lt).trans XC.out.c.c2; have q3 := (HB.out.cell (p := ⟨g, 3, none⟩) XC.out.lt).trans XC.out.c.c3; have q4 := (HB.out.cell (p := ⟨g, 4, none⟩) XC.out.lt).trans XC.out.c.c4; clear hq hh hk)
            | (go_at_call 159; (with_reducible refine (SS.out.expr_step ?_ ?_ (by assumption) hR.out HD.out).mono ?_); (· exact ab8); (· exact ab10); rintro e w1 hE; rcases hE with ⟨c, hq, rfl, hk⟩ | ⟨s1, k1, hq, rfl, hh, hk⟩; (· exact ⟨rfl, ends_bad hq (ab5 : WK p w _) hk⟩); replace hR := Lib.hid hq; replace H := Lib.hid hh; replace KK := Lib.hid ((ab5 : WK p w _).trans hk); replace HB := Lib.hid ((ab8 : Below b.heap.size b _).trans (hk.below.mono hle)); have q2 := (HB.out.cell (p := ⟨g, 2, none⟩) XC.out.lt).trans XC.out.c.c2; have q3 := (HB.out.cell (p := ⟨g, 3, none⟩) XC.out.lt).trans XC.out.c.c3; have q4 := (HB.out.cell (p := ⟨g, 4, none⟩) XC.out.lt).trans XC.out.c.c4; clear hq hh hk)
            | (go_at_call 158; (with_reducible refine (SS.out.value_step ?_ ?_ ?_ (by assumption) hR.out HD.out).mono ?_); (· exact ab8); (· exact ab10); (· simp); rintro e w1 hE; rcases hE with ⟨c, hq, rfl, hk⟩ | ⟨s1, k1, hq, rfl, hh, hk⟩; (· exact ⟨rfl, ends_bad hq (ab5 : WK p w _) hk⟩); replace hR := Lib.hid hq; replace H := Lib.hid hh; replace KK := Lib.hid ((ab5 : WK p w _).trans hk); replace HB := Lib.hid ((ab8 : Below b.heap.size b _).trans (hk.below.mono hle)); have q2 := (HB.out.cell (p := ⟨g, 2, none⟩) XC.out.lt).trans XC.out.c.c2; have q3 := (HB.out.cell (p := ⟨g, 3, none⟩) XC.out.lt).trans XC.out.c.c3; have q4 := (HB.out.cell (p := ⟨g, 4, none⟩) XC.out.lt).trans XC.out.c.c4; clear hq hh hk)
            | (go_at_call 160; (with_reducible refine (SS.out.named_step ?_ ?_ (by assumption) ?_ hR.out HD.out).mono ?_); (· exact ab8); (· exact ab10); (· first | exact XI.out | exact XR.out); rintro e w1 hE; rcases hE with ⟨c, hq, rfl, hk⟩ | ⟨s1, k1, hq, rfl, hh, hk⟩; (· exact ⟨rfl, ends_bad hq (ab5 : WK p w _) hk⟩); replace hR := Lib.hid hq; replace H := Lib.hid hh; replace KK := Lib.hid ((ab5 : WK p w _).trans hk); replace HB := Lib.hid ((ab8 : Below b.heap.size b _).trans (hk.below.mono hle)); clear hq hh hk)
            | (go_at_call 161; (with_reducible refine (SS.out.blocks_step ?_ ?_ (by assumption) ?_ ?_ hR.out HD.out).mono ?_); (· exact ab8); (· exact ab10); (· first | exact XI.out | exact XR.out); (· simp [HK.out]); rintro e w1 hE; rcases hE with ⟨c, hq, rfl, hk⟩ | ⟨s1, k1, hq, rfl, hh, hk⟩; (· exact ⟨rfl, ends_bad hq (ab5 : WK p w _) hk⟩); replace hR := Lib.hid hq; replace H := Lib.hid hh; replace KK := Lib.hid ((ab5 : WK p w _).trans hk); replace HB := Lib.hid ((ab8 : Below b.heap.size b _).trans (hk.below.mono hle)); clear hq hh hk))
          go_end0
          exact ends_ok hR.out H.out KK.out
structure SeqRel (p n : Nat) (f : Nat → List UInt8 → Nat → WRes) (w0 : World) (R : WRes) (j : Nat) (wr : World) : Prop where
  rest : ∃ s k, WAt wr p s k ∧ seqT f j (n - j) s k = R
  kept : WK p w0 wr
set_option maxHeartbeats 4000000 in
theorem stmts_next {b w : World} {p n : Nat} (C : Env6 b p) (S : Spec b p n) {t : Tree} {v : Value} {s : List UInt8} {k : Nat} (hB : Below b.heap.size b w) (h : WAt w p s k) (q0 : TL b .ss t v) (hD : printF (n + 1) (.stmts t) s k ≠ .out) : Calls Tryz.prog 60 #[pV p, v] w (WEnds p (printF (n + 1) (.stmts t) s k) w) := by
  have hle := C.le
  have hp0 : p ≤ w.heap.size := Nat.le_of_lt h.lt
  obtain ⟨R, hR1⟩ : ∃ R, printF (n + 1) (.stmts t) s k = R := ⟨_, rfl⟩
  rw [hR1] at hD ⊢
  have hR0 : (printF (n + 1) (.stmts t) s k).bind .ok = R := by rw [bind_ok]; exact hR1
  clear hR1
  unfold printF at hR0
  have H := Lib.hid h
  have HB := Lib.hid hB
  have SS := Lib.hid S
  have HD := Lib.hid hD
  have KK := Lib.hid (WK.refl p w)
  clear h hB hD S
  rw [bind_ok] at hR0
  have REL0 : Hid (SeqRel p (lenT t) (fun i s k => (printF n (.stmt (getT t i)) s k).bind (putT [10])) w R 0 w) := Lib.hid ⟨⟨s, k, H.out, by rw [Nat.sub_zero]; exact hR0⟩, WK.refl _ _⟩
  obtain ⟨A, cb, rfl⟩ := q0.sl
  have TLH := Lib.hid q0
  have hfew := q0.few
  clear hR0 H KK q0
  generalize hN : lenT t = N at REL0 TLH hfew
  go_enter Tryz.func60, Tryz.ntmps60
  go_wp2
  go_loopw [5, 8] (fun u i wr => ∃ j : Nat, j ≤ N ∧ i = iV j ∧ Hid (SeqRel p N (fun i s k => (printF n (.stmt (getT t i)) s k).bind (putT [10])) w R j wr)) (fun _ i _ => N - (intOf i).toNat)
  case atStart => exact ⟨0, Nat.zero_le _, rfl, REL0⟩
  case round =>
    obtain ⟨j, hj, rfl, hF⟩ := hrel
    clear REL0
    obtain ⟨s, k, hW, hR0⟩ := hF.out.rest
    have KK := Lib.hid hF.out.kept
    have HB := Lib.hid (HB.out.trans (KK.out.below.mono hle))
    have H := Lib.hid hW
    by_cases hlt : j < N
    · obtain ⟨gA, x, rfl, hgA, hc, tx⟩ := TLH.out.getS j (by omega)
      have q9 := (HB.out.cell (p := ⟨gA, j, none⟩) hgA).trans hc
      have k0 : (0 : Int) ≤ (j : Int) := by omega
      have k1 : (j : Int) < (N : Int) := by omega
      rw [show N - j = (N - (j + 1)) + 1 by omega] at hR0
      unfold seqT at hR0
      repeat (first | simp only at hR0 | simp only [bind_bind] at hR0 | simp only [ok_bind] at hR0 | simp only [bad_bind] at hR0 | simp only [Int.reduceEq] at hR0 | simp only [reduceIte] at hR0 | simp only [if_true] at hR0 | simp only [if_false] at hR0)
      have hR := Lib.hid hR0; clear hR0
      clear hlt hW hc hgA
      go_wp2_with (first
        | (go_at_call 116; (with_reducible refine (put_step ?_ ?_ hR.out ?_).mono ?_); (· exact ab10); (· rfl); (· first | (simp; done) | (simp; omega) | omega); rintro e w1 hE; rcases hE with ⟨c, hq, rfl, hk⟩ | ⟨s1, k1, hq, rfl, hh, hk⟩; (· exact ⟨rfl, ends_bad hq (ab5 : WK p w _) hk⟩); replace hR := Lib.hid hq; replace H := Lib.hid hh; replace KK := Lib.hid ((ab5 : WK p w _).trans hk); replace HB := Lib.hid ((ab8 : Below b.heap.size b _).trans (hk.below.mono hle)); clear hq hh hk)
        | (go_at_call 115; (with_reducible refine (SS.out.stmt_step ?_ ?_ (by assumption) hR.out HD.out).mono ?_); (· exact ab8); (· exact ab10); rintro e w1 hE; rcases hE with ⟨c, hq, rfl, hk⟩ | ⟨s1, k1, hq, rfl, hh, hk⟩; (· exact ⟨rfl, ends_bad hq (ab5 : WK p w _) hk⟩); replace hR := Lib.hid hq; replace H := Lib.hid hh; replace KK := Lib.hid ((ab5 : WK p w _).trans hk); replace HB := Lib.hid ((ab8 : Below b.heap.size b _).trans (hk.below.mono hle)); clear hq hh hk))
      go_roundw
      case rel => exact ⟨j + 1, by omega, by go_num, Lib.hid ⟨⟨_, _, H.out, hR.out⟩, KK.out⟩⟩
      case measure => show _ - (((j : Int) + 1)).toNat < _ - ((j : Int)).toNat; omega
    · obtain rfl : j = N := by omega
      rw [Nat.sub_self] at hR0
      have k1 : ¬ (j : Int) < (j : Int) := by omega
      go_wp2
      go_end0
      exact ends_ok hR0 hW hF.out.kept
end Go.Proofs.YtoggkigfijgbfaaGreatDoor.P6
