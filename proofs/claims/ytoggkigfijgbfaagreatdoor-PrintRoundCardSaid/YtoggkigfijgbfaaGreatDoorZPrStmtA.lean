/- print.writer: the statements' calls, at a fuel and one. -/
import Derived.Test.YtoggkigfijgbfaaGreatDoorZAbb
import Derived.Test.YtoggkigfijgbfaaGreatDoorZG
import Derived.Deep.QuietTactic
import Derived.BigQuiet
namespace Go.Proofs.YtoggkigfijgbfaaGreatDoor.P6
set_option maxRecDepth 20000
open Go.RowKit

set_option maxHeartbeats 4000000 in
theorem block_next {b w : World} {p n : Nat} (C : Env6 b p) (S : Spec b p n) {t : Tree} {v : Value} {s : List UInt8} {k : Nat} (hB : Below b.heap.size b w) (h : WAt w p s k) (q0 : TL b .ss t v) (hD : printF (n + 1) (.block t) s k ≠ .out) : Calls Tryz.prog 209 #[pV p, v] w (WEnds p (printF (n + 1) (.block t) s k) w) := by
  have hle := C.le
  have hp0 : p ≤ w.heap.size := Nat.le_of_lt h.lt
  obtain ⟨R, hR1⟩ : ∃ R, printF (n + 1) (.block t) s k = R := ⟨_, rfl⟩
  rw [hR1] at hD ⊢
  have hR0 : (printF (n + 1) (.block t) s k).bind .ok = R := by rw [bind_ok]; exact hR1
  clear hR1
  unfold printF at hR0
  have H := Lib.hid h
  have HB := Lib.hid hB
  have SS := Lib.hid S
  have HD := Lib.hid hD
  have KK := Lib.hid (WK.refl p w)
  clear h hB hD S
  repeat (first | simp only at hR0 | simp only [bind_bind] at hR0 | simp only [ok_bind] at hR0 | simp only [bad_bind] at hR0)
  have hR := Lib.hid hR0; clear hR0
  go_enter Tryz.func209, Tryz.ntmps209
  go_wp2_with (first
    | (go_at_call 116; (with_reducible refine (put_step ?_ ?_ hR.out ?_).mono ?_); (· exact ab10); (· rfl); (· first | (simp; done) | (simp; omega) | omega); rintro e w1 hE; rcases hE with ⟨c, hq, rfl, hk⟩ | ⟨s1, k1, hq, rfl, hh, hk⟩; (· exact ⟨rfl, ends_bad hq (ab5 : WK p w _) hk⟩); replace hR := Lib.hid hq; replace H := Lib.hid hh; replace KK := Lib.hid ((ab5 : WK p w _).trans hk); replace HB := Lib.hid ((ab8 : Below b.heap.size b _).trans (hk.below.mono hle)); clear hq hh hk)
    | (go_at_call 60; (with_reducible refine (SS.out.stmts_step ?_ ?_ (by assumption) hR.out HD.out).mono ?_); (· exact ab8); (· exact ab10); rintro e w1 hE; rcases hE with ⟨c, hq, rfl, hk⟩ | ⟨s1, k1, hq, rfl, hh, hk⟩; (· exact ⟨rfl, ends_bad hq (ab5 : WK p w _) hk⟩); replace hR := Lib.hid hq; replace H := Lib.hid hh; replace KK := Lib.hid ((ab5 : WK p w _).trans hk); replace HB := Lib.hid ((ab8 : Below b.heap.size b _).trans (hk.below.mono hle)); clear hq hh hk))
  go_end0
  exact ends_ok hR.out H.out KK.out
set_option maxHeartbeats 4000000 in
theorem value_next {b w : World} {p n : Nat} (C : Env6 b p) (S : Spec b p n) {e : Tree} {v : Value} {ahead : List UInt8} {s : List UInt8} {k : Nat} (hB : Below b.heap.size b w) (h : WAt w p s k) (q0 : ahead.length ≤ 1000) (q1 : TE b e v) (hD : printF (n + 1) (.value ahead e) s k ≠ .out) : Calls Tryz.prog 158 #[pV p, sV ahead, v] w (WEnds p (printF (n + 1) (.value ahead e) s k) w) := by
  have hle := C.le
  have hp0 : p ≤ w.heap.size := Nat.le_of_lt h.lt
  obtain ⟨R, hR1⟩ : ∃ R, printF (n + 1) (.value ahead e) s k = R := ⟨_, rfl⟩
  rw [hR1] at hD ⊢
  have hR0 : (printF (n + 1) (.value ahead e) s k).bind .ok = R := by rw [bind_ok]; exact hR1
  clear hR1
  unfold printF at hR0
  have H := Lib.hid h
  have HB := Lib.hid hB
  have SS := Lib.hid S
  have HD := Lib.hid hD
  have KK := Lib.hid (WK.refl p w)
  clear h hB hD S
  rcases q1.cases with ⟨rfl, rfl⟩ | ⟨g, l, va, vb, vk, vs, vp, vy, rfl, hx⟩
  · simp only [isX, Bool.false_eq_true, if_false] at hR0
    repeat (first | simp only at hR0 | simp only [bind_bind] at hR0 | simp only [ok_bind] at hR0 | simp only [bad_bind] at hR0)
    go_enter Tryz.func158, Tryz.ntmps158
    go_wp2
    go_end0
    exact ends_ok hR0 H.out KK.out
  · simp only [if_pos hx.is] at hR0
    repeat (first | simp only at hR0 | simp only [bind_bind] at hR0 | simp only [ok_bind] at hR0 | simp only [bad_bind] at hR0)
    have hR := Lib.hid hR0; clear hR0
    clear hx
    go_enter Tryz.func158, Tryz.ntmps158
    go_wp2_with (first
      | (go_at_call 116; (with_reducible refine (put_step ?_ ?_ hR.out ?_).mono ?_); (· exact ab10); (· rfl); (· first | (simp; done) | (simp; omega) | omega); rintro e w1 hE; rcases hE with ⟨c, hq, rfl, hk⟩ | ⟨s1, k1, hq, rfl, hh, hk⟩; (· exact ⟨rfl, ends_bad hq (ab5 : WK p w _) hk⟩); replace hR := Lib.hid hq; replace H := Lib.hid hh; replace KK := Lib.hid ((ab5 : WK p w _).trans hk); replace HB := Lib.hid ((ab8 : Below b.heap.size b _).trans (hk.below.mono hle)); clear hq hh hk)
      | (go_at_call 159; (with_reducible refine (SS.out.expr_step ?_ ?_ (by assumption) hR.out HD.out).mono ?_); (· exact ab8); (· exact ab10); rintro e w1 hE; rcases hE with ⟨c, hq, rfl, hk⟩ | ⟨s1, k1, hq, rfl, hh, hk⟩; (· exact ⟨rfl, ends_bad hq (ab5 : WK p w _) hk⟩); replace hR := Lib.hid hq; replace H := Lib.hid hh; replace KK := Lib.hid ((ab5 : WK p w _).trans hk); replace HB := Lib.hid ((ab8 : Below b.heap.size b _).trans (hk.below.mono hle)); clear hq hh hk))
    go_end0
    exact ends_ok hR.out H.out KK.out
set_option maxHeartbeats 4000000 in
theorem named_next {b w : World} {p n : Nat} (C : Env6 b p) (S : Spec b p n) {t : Tree} {v : Value} {s : List UInt8} {k : Nat} (hB : Below b.heap.size b w) (h : WAt w p s k) (q0 : TS b t v) (q1 : isS t = true) (hD : printF (n + 1) (.named t) s k ≠ .out) : Calls Tryz.prog 160 #[pV p, v] w (WEnds p (printF (n + 1) (.named t) s k) w) := by
  have hle := C.le
  have hp0 : p ≤ w.heap.size := Nat.le_of_lt h.lt
  obtain ⟨R, hR1⟩ : ∃ R, printF (n + 1) (.named t) s k = R := ⟨_, rfl⟩
  rw [hR1] at hD ⊢
  have hR0 : (printF (n + 1) (.named t) s k).bind .ok = R := by rw [bind_ok]; exact hR1
  clear hR1
  unfold printF at hR0
  have H := Lib.hid h
  have HB := Lib.hid hB
  have SS := Lib.hid S
  have HD := Lib.hid hD
  have KK := Lib.hid (WK.refl p w)
  clear h hB hD S
  obtain ⟨g, l, va, vb, vo, vx, vy, rfl, hx⟩ := q0.node q1
  have XI := Lib.hid q1; have XC := Lib.hid hx; have tl := hx.l; have tr := hx.r; have tt := hx.to; have ta := hx.aa; have tb := hx.bb; have hsh := hx.short
  have q2 := (HB.out.cell (p := ⟨g, 2, none⟩) XC.out.lt).trans XC.out.c.c2; have q4 := (HB.out.cell (p := ⟨g, 4, none⟩) XC.out.lt).trans XC.out.c.c4
  have IO := Lib.hid (fun (W : World) (qb : Below b.heap.size b W) => isOf_one 9 (below_al qb (intsO 9)) tr (ints_new W 9))
  clear hx
  by_cases hk : isOf (rightT t) 9 = true
  · have XR := Lib.hid (show isX (rightT t) = true by unfold isOf at hk; simp only [Bool.and_eq_true] at hk; exact hk.1)
    simp only [hk] at IO
    simp only [if_pos hk] at hR0
    repeat (first | simp only at hR0 | simp only [bind_bind] at hR0 | simp only [ok_bind] at hR0 | simp only [bad_bind] at hR0)
    have hR := Lib.hid hR0; clear hR0
    clear hk
    go_enter Tryz.func160, Tryz.ntmps160
    go_wp2_with (first
      | (go_at_call 116; (with_reducible refine (puts2_step ?_ ?_ hR.out ?_).mono ?_); (· exact ab10); (· rfl); (· first | (simp; done) | (simp; omega) | omega); rintro e w1 hE; rcases hE with ⟨c, hq, rfl, hk⟩ | ⟨s1, k1, hq, rfl, hh, hk⟩; (· exact ⟨rfl, ends_bad hq (ab5 : WK p w _) hk⟩); replace hR := Lib.hid hq; replace H := Lib.hid hh; replace KK := Lib.hid ((ab5 : WK p w _).trans hk); replace HB := Lib.hid ((ab8 : Below b.heap.size b _).trans (hk.below.mono hle)); have q4 := (HB.out.cell (p := ⟨g, 4, none⟩) XC.out.lt).trans XC.out.c.c4; clear hq hh hk)
      | (go_at_call 205; (with_reducible refine (IO.out _ HB.out).mono ?_); rintro e w1 ⟨rfl, hq⟩; obtain rfl := hq.symm)
      | (go_at_call 157; (with_reducible refine (begin_step ?_ hR.out).mono ?_); (· exact ab10); rintro e w1 hE; rcases hE with ⟨c, hq, rfl, hk⟩ | ⟨s1, k1, hq, rfl, hh, hk⟩; (· exact ⟨rfl, ends_bad hq (ab5 : WK p w _) hk⟩); replace hR := Lib.hid hq; replace H := Lib.hid hh; replace KK := Lib.hid ((ab5 : WK p w _).trans hk); replace HB := Lib.hid ((ab8 : Below b.heap.size b _).trans (hk.below.mono hle)); have q4 := (HB.out.cell (p := ⟨g, 4, none⟩) XC.out.lt).trans XC.out.c.c4; clear hq hh hk)
      | (go_at_call 203; (with_reducible refine (SS.out.body_step ?_ ?_ (by assumption) ?_ hR.out HD.out).mono ?_); (· exact ab8); (· exact ab10); (· first | exact XI.out | exact XR.out); rintro e w1 hE; rcases hE with ⟨c, hq, rfl, hk⟩ | ⟨s1, k1, hq, rfl, hh, hk⟩; (· exact ⟨rfl, ends_bad hq (ab5 : WK p w _) hk⟩); replace hR := Lib.hid hq; replace H := Lib.hid hh; replace KK := Lib.hid ((ab5 : WK p w _).trans hk); replace HB := Lib.hid ((ab8 : Below b.heap.size b _).trans (hk.below.mono hle)); clear hq hh hk))
    go_end0
    exact ends_ok hR.out H.out KK.out
  · simp only [if_neg hk] at hR0
    have hk2 : isOf (rightT t) 9 = false := by simpa using hk
    simp only [hk2] at IO
    repeat (first | simp only at hR0 | simp only [bind_bind] at hR0 | simp only [ok_bind] at hR0 | simp only [bad_bind] at hR0)
    have hR := Lib.hid hR0; clear hR0
    clear hk hk2
    go_enter Tryz.func160, Tryz.ntmps160
    go_wp2_with (first
      | (go_at_call 116; (with_reducible refine (puts2_step ?_ ?_ hR.out ?_).mono ?_); (· exact ab10); (· rfl); (· first | (simp; done) | (simp; omega) | omega); rintro e w1 hE; rcases hE with ⟨c, hq, rfl, hk⟩ | ⟨s1, k1, hq, rfl, hh, hk⟩; (· exact ⟨rfl, ends_bad hq (ab5 : WK p w _) hk⟩); replace hR := Lib.hid hq; replace H := Lib.hid hh; replace KK := Lib.hid ((ab5 : WK p w _).trans hk); replace HB := Lib.hid ((ab8 : Below b.heap.size b _).trans (hk.below.mono hle)); have q4 := (HB.out.cell (p := ⟨g, 4, none⟩) XC.out.lt).trans XC.out.c.c4; clear hq hh hk)
      | (go_at_call 205; (with_reducible refine (IO.out _ HB.out).mono ?_); rintro e w1 ⟨rfl, hq⟩; obtain rfl := hq.symm)
      | (go_at_call 157; (with_reducible refine (begin_step ?_ hR.out).mono ?_); (· exact ab10); rintro e w1 hE; rcases hE with ⟨c, hq, rfl, hk⟩ | ⟨s1, k1, hq, rfl, hh, hk⟩; (· exact ⟨rfl, ends_bad hq (ab5 : WK p w _) hk⟩); replace hR := Lib.hid hq; replace H := Lib.hid hh; replace KK := Lib.hid ((ab5 : WK p w _).trans hk); replace HB := Lib.hid ((ab8 : Below b.heap.size b _).trans (hk.below.mono hle)); have q4 := (HB.out.cell (p := ⟨g, 4, none⟩) XC.out.lt).trans XC.out.c.c4; clear hq hh hk)
      | (go_at_call 203; (with_reducible refine (SS.out.body_step ?_ ?_ (by assumption) ?_ hR.out HD.out).mono ?_); (· exact ab8); (· exact ab10); (· first | exact XI.out | exact XR.out); rintro e w1 hE; rcases hE with ⟨c, hq, rfl, hk⟩ | ⟨s1, k1, hq, rfl, hh, hk⟩; (· exact ⟨rfl, ends_bad hq (ab5 : WK p w _) hk⟩); replace hR := Lib.hid hq; replace H := Lib.hid hh; replace KK := Lib.hid ((ab5 : WK p w _).trans hk); replace HB := Lib.hid ((ab8 : Below b.heap.size b _).trans (hk.below.mono hle)); clear hq hh hk))
    exact ⟨rfl, ends_bad hR.out.symm KK.out ((WK.refl _ _).alloc (Nat.le_of_lt H.out.lt) _)⟩
set_option maxHeartbeats 4000000 in
theorem choice_next {b w : World} {p n : Nat} (C : Env6 b p) (S : Spec b p n) {t : Tree} {v : Value} {s : List UInt8} {k : Nat} (hB : Below b.heap.size b w) (h : WAt w p s k) (q0 : TS b t v) (q1 : isS t = true) (hD : printF (n + 1) (.choice t) s k ≠ .out) : Calls Tryz.prog 210 #[pV p, v] w (WEnds p (printF (n + 1) (.choice t) s k) w) := by
  have hle := C.le
  have hp0 : p ≤ w.heap.size := Nat.le_of_lt h.lt
  obtain ⟨R, hR1⟩ : ∃ R, printF (n + 1) (.choice t) s k = R := ⟨_, rfl⟩
  rw [hR1] at hD ⊢
  have hR0 : (printF (n + 1) (.choice t) s k).bind .ok = R := by rw [bind_ok]; exact hR1
  clear hR1
  unfold printF at hR0
  have H := Lib.hid h
  have HB := Lib.hid hB
  have SS := Lib.hid S
  have HD := Lib.hid hD
  have KK := Lib.hid (WK.refl p w)
  clear h hB hD S
  obtain ⟨g, l, va, vb, vo, vx, vy, rfl, hx⟩ := q0.node q1
  have XI := Lib.hid q1; have XC := Lib.hid hx; have tl := hx.l; have tr := hx.r; have tt := hx.to; have ta := hx.aa; have tb := hx.bb; have hsh := hx.short
  have q4 := (HB.out.cell (p := ⟨g, 4, none⟩) XC.out.lt).trans XC.out.c.c4; have q6 := (HB.out.cell (p := ⟨g, 6, none⟩) XC.out.lt).trans XC.out.c.c6; have q7 := (HB.out.cell (p := ⟨g, 7, none⟩) XC.out.lt).trans XC.out.c.c7
  repeat (first | simp only at hR0 | simp only [bind_bind] at hR0 | simp only [ok_bind] at hR0 | simp only [bad_bind] at hR0)
  obtain ⟨A, cb, rfl⟩ := tb.sl
  clear hx
  by_cases hl0 : lenT (bT t) = 0
  · rw [hl0] at XC q7
    simp only [if_pos hl0] at hR0
    repeat (first | simp only at hR0 | simp only [bind_bind] at hR0 | simp only [ok_bind] at hR0 | simp only [bad_bind] at hR0)
    have hR := Lib.hid hR0; clear hR0
    clear hl0 tb
    go_enter Tryz.func210, Tryz.ntmps210
    go_wp2_with (first
      | (go_at_call 116; (with_reducible refine (put_step ?_ ?_ hR.out ?_).mono ?_); (· exact ab10); (· rfl); (· first | (simp; done) | (simp; omega) | omega); rintro e w1 hE; rcases hE with ⟨c, hq, rfl, hk⟩ | ⟨s1, k1, hq, rfl, hh, hk⟩; (· exact ⟨rfl, ends_bad hq (ab5 : WK p w _) hk⟩); replace hR := Lib.hid hq; replace H := Lib.hid hh; replace KK := Lib.hid ((ab5 : WK p w _).trans hk); replace HB := Lib.hid ((ab8 : Below b.heap.size b _).trans (hk.below.mono hle)); have q4 := (HB.out.cell (p := ⟨g, 4, none⟩) XC.out.lt).trans XC.out.c.c4; have q6 := (HB.out.cell (p := ⟨g, 6, none⟩) XC.out.lt).trans XC.out.c.c6; have q7 := (HB.out.cell (p := ⟨g, 7, none⟩) XC.out.lt).trans XC.out.c.c7; clear hq hh hk)
      | (go_at_call 159; (with_reducible refine (SS.out.expr_step ?_ ?_ (by assumption) hR.out HD.out).mono ?_); (· exact ab8); (· exact ab10); rintro e w1 hE; rcases hE with ⟨c, hq, rfl, hk⟩ | ⟨s1, k1, hq, rfl, hh, hk⟩; (· exact ⟨rfl, ends_bad hq (ab5 : WK p w _) hk⟩); replace hR := Lib.hid hq; replace H := Lib.hid hh; replace KK := Lib.hid ((ab5 : WK p w _).trans hk); replace HB := Lib.hid ((ab8 : Below b.heap.size b _).trans (hk.below.mono hle)); have q4 := (HB.out.cell (p := ⟨g, 4, none⟩) XC.out.lt).trans XC.out.c.c4; have q6 := (HB.out.cell (p := ⟨g, 6, none⟩) XC.out.lt).trans XC.out.c.c6; have q7 := (HB.out.cell (p := ⟨g, 7, none⟩) XC.out.lt).trans XC.out.c.c7; clear hq hh hk)
      | (go_at_call 209; (with_reducible refine (SS.out.block_step ?_ ?_ (by assumption) hR.out HD.out).mono ?_); (· exact ab8); (· exact ab10); rintro e w1 hE; rcases hE with ⟨c, hq, rfl, hk⟩ | ⟨s1, k1, hq, rfl, hh, hk⟩; (· exact ⟨rfl, ends_bad hq (ab5 : WK p w _) hk⟩); replace hR := Lib.hid hq; replace H := Lib.hid hh; replace KK := Lib.hid ((ab5 : WK p w _).trans hk); replace HB := Lib.hid ((ab8 : Below b.heap.size b _).trans (hk.below.mono hle)); have q4 := (HB.out.cell (p := ⟨g, 4, none⟩) XC.out.lt).trans XC.out.c.c4; have q6 := (HB.out.cell (p := ⟨g, 6, none⟩) XC.out.lt).trans XC.out.c.c6; have q7 := (HB.out.cell (p := ⟨g, 7, none⟩) XC.out.lt).trans XC.out.c.c7; clear hq hh hk))
    go_end0
    exact ends_ok hR.out H.out KK.out
  · simp only [if_neg hl0] at hR0
    by_cases hl1 : lenT (bT t) = 1
    · obtain ⟨g5, x5, rfl, hg5, hc5, t5⟩ := tb.getS 0 (by omega)
      rw [hl1] at XC q7 tb
      rcases t5.cases with ⟨e5, rfl⟩ | ⟨g6, l6, va6, vb6, vo6, vx6, vy6, rfl, hx6⟩
      · have c5 := (HB.out.cell (p := ⟨g5, 0, none⟩) hg5).trans hc5
        have HC5 := Lib.hid hc5
        have hn : ¬ (lenT (bT t) = 1 ∧ isS (getT (bT t) 0) = true ∧ kindT (getT (bT t) 0) = 6) := by rw [e5]; simp [isS]
        simp only [if_neg hn] at hR0
        repeat (first | simp only at hR0 | simp only [bind_bind] at hR0 | simp only [ok_bind] at hR0 | simp only [bad_bind] at hR0)
        have hR := Lib.hid hR0; clear hR0
        clear hc5 hn e5 hl0 hl1
        go_enter Tryz.func210, Tryz.ntmps210
        go_wp2_with (first
          | (go_at_call 116; (with_reducible refine (put_step ?_ ?_ hR.out ?_).mono ?_); (· exact ab10); (· rfl); (· first | (simp; done) | (simp; omega) | omega); rintro e w1 hE; rcases hE with ⟨c, hq, rfl, hk⟩ | ⟨s1, k1, hq, rfl, hh, hk⟩; (· exact ⟨rfl, ends_bad hq (ab5 : WK p w _) hk⟩); replace hR := Lib.hid hq; replace H := Lib.hid hh; replace KK := Lib.hid ((ab5 : WK p w _).trans hk); replace HB := Lib.hid ((ab8 : Below b.heap.size b _).trans (hk.below.mono hle)); have q4 := (HB.out.cell (p := ⟨g, 4, none⟩) XC.out.lt).trans XC.out.c.c4; have q6 := (HB.out.cell (p := ⟨g, 6, none⟩) XC.out.lt).trans XC.out.c.c6; have q7 := (HB.out.cell (p := ⟨g, 7, none⟩) XC.out.lt).trans XC.out.c.c7; have c5 := (HB.out.cell (p := ⟨g5, 0, none⟩) hg5).trans HC5.out; clear hq hh hk)
          | (go_at_call 159; (with_reducible refine (SS.out.expr_step ?_ ?_ (by assumption) hR.out HD.out).mono ?_); (· exact ab8); (· exact ab10); rintro e w1 hE; rcases hE with ⟨c, hq, rfl, hk⟩ | ⟨s1, k1, hq, rfl, hh, hk⟩; (· exact ⟨rfl, ends_bad hq (ab5 : WK p w _) hk⟩); replace hR := Lib.hid hq; replace H := Lib.hid hh; replace KK := Lib.hid ((ab5 : WK p w _).trans hk); replace HB := Lib.hid ((ab8 : Below b.heap.size b _).trans (hk.below.mono hle)); have q4 := (HB.out.cell (p := ⟨g, 4, none⟩) XC.out.lt).trans XC.out.c.c4; have q6 := (HB.out.cell (p := ⟨g, 6, none⟩) XC.out.lt).trans XC.out.c.c6; have q7 := (HB.out.cell (p := ⟨g, 7, none⟩) XC.out.lt).trans XC.out.c.c7; have c5 := (HB.out.cell (p := ⟨g5, 0, none⟩) hg5).trans HC5.out; clear hq hh hk)
          | (go_at_call 209; (with_reducible refine (SS.out.block_step ?_ ?_ (by assumption) hR.out HD.out).mono ?_); (· exact ab8); (· exact ab10); rintro e w1 hE; rcases hE with ⟨c, hq, rfl, hk⟩ | ⟨s1, k1, hq, rfl, hh, hk⟩; (· exact ⟨rfl, ends_bad hq (ab5 : WK p w _) hk⟩); replace hR := Lib.hid hq; replace H := Lib.hid hh; replace KK := Lib.hid ((ab5 : WK p w _).trans hk); replace HB := Lib.hid ((ab8 : Below b.heap.size b _).trans (hk.below.mono hle)); have q4 := (HB.out.cell (p := ⟨g, 4, none⟩) XC.out.lt).trans XC.out.c.c4; have q6 := (HB.out.cell (p := ⟨g, 6, none⟩) XC.out.lt).trans XC.out.c.c6; have q7 := (HB.out.cell (p := ⟨g, 7, none⟩) XC.out.lt).trans XC.out.c.c7; have c5 := (HB.out.cell (p := ⟨g5, 0, none⟩) hg5).trans HC5.out; clear hq hh hk))
        go_end0
        exact ends_ok hR.out H.out KK.out
      · have c5 := (HB.out.cell (p := ⟨g5, 0, none⟩) hg5).trans hc5
        have HC5 := Lib.hid hc5
        have X6 := Lib.hid hx6
        have c6 := (HB.out.cell (p := ⟨g6, 0, none⟩) X6.out.lt).trans X6.out.c.c0
        by_cases hk : kindT (getT (bT t) 0) = 6
        · have XR := Lib.hid hx6.is
          have HK := Lib.hid hk
          rw [hk] at c6
          have c6T : ∀ W, World.cell? W ⟨g6, 0, none⟩ = some (iV (kindT (getT (bT t) 0))) → World.cell? W ⟨g6, 0, none⟩ = some (iV 6) := fun W e => by rw [e, HK.out]
          have c6T := fun {W} e => c6T W e
          simp only [if_pos (show lenT (bT t) = 1 ∧ isS (getT (bT t) 0) = true ∧ kindT (getT (bT t) 0) = 6 from ⟨hl1, hx6.is, hk⟩)] at hR0
          repeat (first | simp only at hR0 | simp only [bind_bind] at hR0 | simp only [ok_bind] at hR0 | simp only [bad_bind] at hR0)
          have hR := Lib.hid hR0; clear hR0
          clear hc5 hx6 hk hl0 hl1
          go_enter Tryz.func210, Tryz.ntmps210
          go_wp2_with (first
            | (go_at_call 116; (with_reducible refine (put_step ?_ ?_ hR.out ?_).mono ?_); (· exact ab10); (· rfl); (· first | (simp; done) | (simp; omega) | omega); rintro e w1 hE; rcases hE with ⟨c, hq, rfl, hk⟩ | ⟨s1, k1, hq, rfl, hh, hk⟩; (· exact ⟨rfl, ends_bad hq (ab5 : WK p w _) hk⟩); replace hR := Lib.hid hq; replace H := Lib.hid hh; replace KK := Lib.hid ((ab5 : WK p w _).trans hk); replace HB := Lib.hid ((ab8 : Below b.heap.size b _).trans (hk.below.mono hle)); have q4 := (HB.out.cell (p := ⟨g, 4, none⟩) XC.out.lt).trans XC.out.c.c4; have q6 := (HB.out.cell (p := ⟨g, 6, none⟩) XC.out.lt).trans XC.out.c.c6; have q7 := (HB.out.cell (p := ⟨g, 7, none⟩) XC.out.lt).trans XC.out.c.c7; have c5 := (HB.out.cell (p := ⟨g5, 0, none⟩) hg5).trans HC5.out; have c6 := c6T ( (HB.out.cell (p := ⟨g6, 0, none⟩) X6.out.lt).trans X6.out.c.c0); clear hq hh hk)
            | (go_at_call 159; (with_reducible refine (SS.out.expr_step ?_ ?_ (by assumption) hR.out HD.out).mono ?_); (· exact ab8); (· exact ab10); rintro e w1 hE; rcases hE with ⟨c, hq, rfl, hk⟩ | ⟨s1, k1, hq, rfl, hh, hk⟩; (· exact ⟨rfl, ends_bad hq (ab5 : WK p w _) hk⟩); replace hR := Lib.hid hq; replace H := Lib.hid hh; replace KK := Lib.hid ((ab5 : WK p w _).trans hk); replace HB := Lib.hid ((ab8 : Below b.heap.size b _).trans (hk.below.mono hle)); have q4 := (HB.out.cell (p := ⟨g, 4, none⟩) XC.out.lt).trans XC.out.c.c4; have q6 := (HB.out.cell (p := ⟨g, 6, none⟩) XC.out.lt).trans XC.out.c.c6; have q7 := (HB.out.cell (p := ⟨g, 7, none⟩) XC.out.lt).trans XC.out.c.c7; have c5 := (HB.out.cell (p := ⟨g5, 0, none⟩) hg5).trans HC5.out; have c6 := c6T ( (HB.out.cell (p := ⟨g6, 0, none⟩) X6.out.lt).trans X6.out.c.c0); clear hq hh hk)
            | (go_at_call 209; (with_reducible refine (SS.out.block_step ?_ ?_ (by assumption) hR.out HD.out).mono ?_); (· exact ab8); (· exact ab10); rintro e w1 hE; rcases hE with ⟨c, hq, rfl, hk⟩ | ⟨s1, k1, hq, rfl, hh, hk⟩; (· exact ⟨rfl, ends_bad hq (ab5 : WK p w _) hk⟩); replace hR := Lib.hid hq; replace H := Lib.hid hh; replace KK := Lib.hid ((ab5 : WK p w _).trans hk); replace HB := Lib.hid ((ab8 : Below b.heap.size b _).trans (hk.below.mono hle)); have q4 := (HB.out.cell (p := ⟨g, 4, none⟩) XC.out.lt).trans XC.out.c.c4; have q6 := (HB.out.cell (p := ⟨g, 6, none⟩) XC.out.lt).trans XC.out.c.c6; have q7 := (HB.out.cell (p := ⟨g, 7, none⟩) XC.out.lt).trans XC.out.c.c7; have c5 := (HB.out.cell (p := ⟨g5, 0, none⟩) hg5).trans HC5.out; have c6 := c6T ( (HB.out.cell (p := ⟨g6, 0, none⟩) X6.out.lt).trans X6.out.c.c0); clear hq hh hk)
            | (go_at_call 157; (with_reducible refine (begin_step ?_ hR.out).mono ?_); (· exact ab10); rintro e w1 hE; rcases hE with ⟨c, hq, rfl, hk⟩ | ⟨s1, k1, hq, rfl, hh, hk⟩; (· exact ⟨rfl, ends_bad hq (ab5 : WK p w _) hk⟩); replace hR := Lib.hid hq; replace H := Lib.hid hh; replace KK := Lib.hid ((ab5 : WK p w _).trans hk); replace HB := Lib.hid ((ab8 : Below b.heap.size b _).trans (hk.below.mono hle)); have q4 := (HB.out.cell (p := ⟨g, 4, none⟩) XC.out.lt).trans XC.out.c.c4; have q6 := (HB.out.cell (p := ⟨g, 6, none⟩) XC.out.lt).trans XC.out.c.c6; have q7 := (HB.out.cell (p := ⟨g, 7, none⟩) XC.out.lt).trans XC.out.c.c7; have c5 := (HB.out.cell (p := ⟨g5, 0, none⟩) hg5).trans HC5.out; have c6 := c6T ( (HB.out.cell (p := ⟨g6, 0, none⟩) X6.out.lt).trans X6.out.c.c0); clear hq hh hk)
            | (go_at_call 210; (with_reducible refine (SS.out.choice_step ?_ ?_ (by assumption) ?_ hR.out HD.out).mono ?_); (· exact ab8); (· exact ab10); (· first | exact XI.out | exact XR.out); rintro e w1 hE; rcases hE with ⟨c, hq, rfl, hk⟩ | ⟨s1, k1, hq, rfl, hh, hk⟩; (· exact ⟨rfl, ends_bad hq (ab5 : WK p w _) hk⟩); replace hR := Lib.hid hq; replace H := Lib.hid hh; replace KK := Lib.hid ((ab5 : WK p w _).trans hk); replace HB := Lib.hid ((ab8 : Below b.heap.size b _).trans (hk.below.mono hle)); clear hq hh hk))
          go_end0
          exact ends_ok hR.out H.out KK.out
        · simp only [if_neg (show ¬ (lenT (bT t) = 1 ∧ isS (getT (bT t) 0) = true ∧ kindT (getT (bT t) 0) = 6) from fun h => hk h.2.2)] at hR0
          have hk6 : (kindT (getT (bT t) 0) == 6) = false := beq_eq_false_iff_ne.2 hk
          repeat (first | simp only at hR0 | simp only [bind_bind] at hR0 | simp only [ok_bind] at hR0 | simp only [bad_bind] at hR0)
          have hR := Lib.hid hR0; clear hR0
          clear hc5 hx6 hk hl0 hl1
          go_enter Tryz.func210, Tryz.ntmps210
          go_wp2_with (first
            | (go_at_call 116; (with_reducible refine (put_step ?_ ?_ hR.out ?_).mono ?_); (· exact ab10); (· rfl); (· first | (simp; done) | (simp; omega) | omega); rintro e w1 hE; rcases hE with ⟨c, hq, rfl, hk⟩ | ⟨s1, k1, hq, rfl, hh, hk⟩; (· exact ⟨rfl, ends_bad hq (ab5 : WK p w _) hk⟩); replace hR := Lib.hid hq; replace H := Lib.hid hh; replace KK := Lib.hid ((ab5 : WK p w _).trans hk); replace HB := Lib.hid ((ab8 : Below b.heap.size b _).trans (hk.below.mono hle)); have q4 := (HB.out.cell (p := ⟨g, 4, none⟩) XC.out.lt).trans XC.out.c.c4; have q6 := (HB.out.cell (p := ⟨g, 6, none⟩) XC.out.lt).trans XC.out.c.c6; have q7 := (HB.out.cell (p := ⟨g, 7, none⟩) XC.out.lt).trans XC.out.c.c7; have c5 := (HB.out.cell (p := ⟨g5, 0, none⟩) hg5).trans HC5.out; have c6 := (HB.out.cell (p := ⟨g6, 0, none⟩) X6.out.lt).trans X6.out.c.c0; clear hq hh hk)
            | (go_at_call 159; (with_reducible refine (SS.out.expr_step ?_ ?_ (by assumption) hR.out HD.out).mono ?_); (· exact ab8); (· exact ab10); rintro e w1 hE; rcases hE with ⟨c, hq, rfl, hk⟩ | ⟨s1, k1, hq, rfl, hh, hk⟩; (· exact ⟨rfl, ends_bad hq (ab5 : WK p w _) hk⟩); replace hR := Lib.hid hq; replace H := Lib.hid hh; replace KK := Lib.hid ((ab5 : WK p w _).trans hk); replace HB := Lib.hid ((ab8 : Below b.heap.size b _).trans (hk.below.mono hle)); have q4 := (HB.out.cell (p := ⟨g, 4, none⟩) XC.out.lt).trans XC.out.c.c4; have q6 := (HB.out.cell (p := ⟨g, 6, none⟩) XC.out.lt).trans XC.out.c.c6; have q7 := (HB.out.cell (p := ⟨g, 7, none⟩) XC.out.lt).trans XC.out.c.c7; have c5 := (HB.out.cell (p := ⟨g5, 0, none⟩) hg5).trans HC5.out; have c6 := (HB.out.cell (p := ⟨g6, 0, none⟩) X6.out.lt).trans X6.out.c.c0; clear hq hh hk)
            | (go_at_call 209; (with_reducible refine (SS.out.block_step ?_ ?_ (by assumption) hR.out HD.out).mono ?_); (· exact ab8); (· exact ab10); rintro e w1 hE; rcases hE with ⟨c, hq, rfl, hk⟩ | ⟨s1, k1, hq, rfl, hh, hk⟩; (· exact ⟨rfl, ends_bad hq (ab5 : WK p w _) hk⟩); replace hR := Lib.hid hq; replace H := Lib.hid hh; replace KK := Lib.hid ((ab5 : WK p w _).trans hk); replace HB := Lib.hid ((ab8 : Below b.heap.size b _).trans (hk.below.mono hle)); have q4 := (HB.out.cell (p := ⟨g, 4, none⟩) XC.out.lt).trans XC.out.c.c4; have q6 := (HB.out.cell (p := ⟨g, 6, none⟩) XC.out.lt).trans XC.out.c.c6; have q7 := (HB.out.cell (p := ⟨g, 7, none⟩) XC.out.lt).trans XC.out.c.c7; have c5 := (HB.out.cell (p := ⟨g5, 0, none⟩) hg5).trans HC5.out; have c6 := (HB.out.cell (p := ⟨g6, 0, none⟩) X6.out.lt).trans X6.out.c.c0; clear hq hh hk))
          go_end0
          exact ends_ok hR.out H.out KK.out
    · simp only [if_neg (show ¬ (lenT (bT t) = 1 ∧ isS (getT (bT t) 0) = true ∧ kindT (getT (bT t) 0) = 6) from fun h => hl1 h.1)] at hR0
      obtain ⟨m, hm⟩ : ∃ m, lenT (bT t) = m + 2 := ⟨lenT (bT t) - 2, by omega⟩
      rw [hm] at XC q7 tb
      have n0 : (((m + 2 : Nat) : Int) == 0) = false := beq_eq_false_iff_ne.2 (by omega)
      have n1 : (((m + 2 : Nat) : Int) == 1) = false := beq_eq_false_iff_ne.2 (by omega)
      repeat (first | simp only at hR0 | simp only [bind_bind] at hR0 | simp only [ok_bind] at hR0 | simp only [bad_bind] at hR0)
      have hR := Lib.hid hR0; clear hR0
      clear hl0 hl1 hm
      go_enter Tryz.func210, Tryz.ntmps210
      go_wp2_with (first
        | (go_at_call 116; (with_reducible refine (put_step ?_ ?_ hR.out ?_).mono ?_); (· exact ab10); (· rfl); (· first | (simp; done) | (simp; omega) | omega); rintro e w1 hE; rcases hE with ⟨c, hq, rfl, hk⟩ | ⟨s1, k1, hq, rfl, hh, hk⟩; (· exact ⟨rfl, ends_bad hq (ab5 : WK p w _) hk⟩); replace hR := Lib.hid hq; replace H := Lib.hid hh; replace KK := Lib.hid ((ab5 : WK p w _).trans hk); replace HB := Lib.hid ((ab8 : Below b.heap.size b _).trans (hk.below.mono hle)); have q4 := (HB.out.cell (p := ⟨g, 4, none⟩) XC.out.lt).trans XC.out.c.c4; have q6 := (HB.out.cell (p := ⟨g, 6, none⟩) XC.out.lt).trans XC.out.c.c6; have q7 := (HB.out.cell (p := ⟨g, 7, none⟩) XC.out.lt).trans XC.out.c.c7; clear hq hh hk)
        | (go_at_call 159; (with_reducible refine (SS.out.expr_step ?_ ?_ (by assumption) hR.out HD.out).mono ?_); (· exact ab8); (· exact ab10); rintro e w1 hE; rcases hE with ⟨c, hq, rfl, hk⟩ | ⟨s1, k1, hq, rfl, hh, hk⟩; (· exact ⟨rfl, ends_bad hq (ab5 : WK p w _) hk⟩); replace hR := Lib.hid hq; replace H := Lib.hid hh; replace KK := Lib.hid ((ab5 : WK p w _).trans hk); replace HB := Lib.hid ((ab8 : Below b.heap.size b _).trans (hk.below.mono hle)); have q4 := (HB.out.cell (p := ⟨g, 4, none⟩) XC.out.lt).trans XC.out.c.c4; have q6 := (HB.out.cell (p := ⟨g, 6, none⟩) XC.out.lt).trans XC.out.c.c6; have q7 := (HB.out.cell (p := ⟨g, 7, none⟩) XC.out.lt).trans XC.out.c.c7; clear hq hh hk)
        | (go_at_call 209; (with_reducible refine (SS.out.block_step ?_ ?_ (by assumption) hR.out HD.out).mono ?_); (· exact ab8); (· exact ab10); rintro e w1 hE; rcases hE with ⟨c, hq, rfl, hk⟩ | ⟨s1, k1, hq, rfl, hh, hk⟩; (· exact ⟨rfl, ends_bad hq (ab5 : WK p w _) hk⟩); replace hR := Lib.hid hq; replace H := Lib.hid hh; replace KK := Lib.hid ((ab5 : WK p w _).trans hk); replace HB := Lib.hid ((ab8 : Below b.heap.size b _).trans (hk.below.mono hle)); have q4 := (HB.out.cell (p := ⟨g, 4, none⟩) XC.out.lt).trans XC.out.c.c4; have q6 := (HB.out.cell (p := ⟨g, 6, none⟩) XC.out.lt).trans XC.out.c.c6; have q7 := (HB.out.cell (p := ⟨g, 7, none⟩) XC.out.lt).trans XC.out.c.c7; clear hq hh hk))
      go_end0
      exact ends_ok hR.out H.out KK.out
end Go.Proofs.YtoggkigfijgbfaaGreatDoor.P6
