/- print.writer: post, operation, at a fuel and one. -/
import Derived.Test.YtoggkigfijgbfaaGreatDoorZAbb
import Derived.Test.YtoggkigfijgbfaaGreatDoorZPrExprA
import Derived.Deep.RegionHeld3
namespace Go.Proofs.YtoggkigfijgbfaaGreatDoor.P6
set_option maxRecDepth 20000
open Go.RowKit

abbrev ints3O (i j k : Int) : Obj := .cells #[iV i, iV j, iV k] 3
theorem ints3_new (w : World) (i j k : Int) : Ints (w.alloc (ints3O i j k)) w.heap.size [i, j, k] := ⟨_, heap_alloc_new _ _⟩
theorem isOf_three {b w : World} {g : Nat} {t : Tree} {v : Value} (i j k : Int) (hB : Below b.heap.size b w) (ht : TE b t v) (h : Ints w g [i, j, k]) : Calls Tryz.prog 205 #[v, .slice (some ⟨g, 0, none⟩) 3 3] w fun e w' => e = .returned (.bool (isOf t i || (isOf t j || isOf t k))) ∧ w' = w := by
  refine (isOf_any (c := 3) (n := 3) [i, j, k] hB ht h rfl (by simp)).mono ?_
  rintro e w' ⟨rfl, rfl⟩
  refine ⟨?_, rfl⟩
  congr 2
  unfold isOf
  cases isX t
  · rfl
  · simp only [Bool.true_and, List.contains_cons, List.contains_nil, Bool.or_false]
set_option maxHeartbeats 4000000 in
theorem post_next {b w : World} {p n : Nat} (C : Env6 b p) (S : Spec b p n) {e : Tree} {v : Value} {s : List UInt8} {k : Nat} (hB : Below b.heap.size b w) (h : WAt w p s k) (q0 : TE b e v) (hD : printF (n + 1) (.post e) s k ≠ .out) : Calls Tryz.prog 199 #[pV p, v] w (WEnds p (printF (n + 1) (.post e) s k) w) := by
  obtain ⟨ov, rfl⟩ := q0.ptr
  have hle := C.le
  have hp0 : p ≤ w.heap.size := Nat.le_of_lt h.lt
  obtain ⟨R, hR1⟩ : ∃ R, printF (n + 1) (.post e) s k = R := ⟨_, rfl⟩
  rw [hR1] at hD ⊢
  have hR0 : (printF (n + 1) (.post e) s k).bind .ok = R := by rw [bind_ok]; exact hR1
  clear hR1
  unfold printF at hR0
  have H := Lib.hid h
  have HB := Lib.hid hB
  have SS := Lib.hid S
  have HD := Lib.hid hD
  have KK := Lib.hid (WK.refl p w)
  clear h hB hD S
  have IO := Lib.hid (isOf_three 10 11 9 (below_al HB.out (ints3O 10 11 9)) q0 (ints3_new w 10 11 9))
  repeat (first | simp only at hR0 | simp only [bind_bind] at hR0 | simp only [ok_bind] at hR0 | simp only [bad_bind] at hR0)
  have hR := Lib.hid hR0; clear hR0
  go_enter Tryz.func199, Tryz.ntmps199
  go_wp2_with (first
    | (go_at_call 205; (with_reducible refine IO.out.mono ?_); rintro e w1 ⟨rfl, hq⟩; obtain rfl := hq.symm)
    | (go_at_call 204; (with_reducible refine (SS.out.operand_step ?_ ?_ (by assumption) hR.out HD.out).mono ?_); (· exact ab4); (· exact ab9); rintro e w1 hE; rcases hE with ⟨c, hq, rfl, hk⟩ | ⟨s1, k1, hq, rfl, hh, hk⟩; (· exact ⟨rfl, ends_bad hq ab3 hk⟩); replace hR := Lib.hid hq; replace H := Lib.hid hh; (have KN : WK p w w1 := WK.trans ab3 hk); (have HN : Below b.heap.size b w1 := Below.trans ab4 (hk.below.mono hle)); replace KK := Lib.hid KN; replace HB := Lib.hid HN; clear hq hh hk KN HN))
  go_end0
  exact ends_ok hR.out H.out KK.out
/-- What operation asks for its strengths. -/
structure OpK (b w : World) (g : Nat) (va vb : Value) (w' : World) : Prop where
  base : Below b.heap.size b w'
  below : Below w.heap.size w w'
  lt : g < b.heap.size
  c4 : b.cell? ⟨g, 4, none⟩ = some va
  c5 : b.cell? ⟨g, 5, none⟩ = some vb
theorem OpK.next {b w w1 w2 : World} {g : Nat} {va vb : Value} (h : OpK b w g va vb w1) (hb : Below w1.heap.size w1 w2) : OpK b w g va vb w2 := ⟨h.base.trans (hb.mono h.base.size), h.below.trans (hb.mono h.below.size), h.lt, h.c4, h.c5⟩
theorem OpK.drew {b w w1 : World} {g : Nat} {va vb : Value} (h : OpK b w g va vb w1) : OpK b w g va vb w1.drew := h.next (Below.refl _ _).drew
theorem OpK.drewN {b w w1 : World} {g : Nat} {va vb : Value} (h : OpK b w g va vb w1) (n : Nat) : OpK b w g va vb (w1.drewN n) := h.next (below_dN (Below.refl _ _) n)
theorem OpK.all {b w w1 : World} {g : Nat} {va vb : Value} (h : OpK b w g va vb w1) : w1.cell? ⟨g, 4, none⟩ = some va ∧ w1.cell? ⟨g, 5, none⟩ = some vb ∧ OpK b w g va vb w1 := ⟨(h.base.cell (p := ⟨g, 4, none⟩) h.lt).trans h.c4, (h.base.cell (p := ⟨g, 5, none⟩) h.lt).trans h.c5, h⟩
set_option maxHeartbeats 4000000 in
theorem operation_next {b w : World} {p n : Nat} (C : Env6 b p) (S : Spec b p n) {e : Tree} {v : Value} {s : List UInt8} {k : Nat} (hB : Below b.heap.size b w) (h : WAt w p s k) (q0 : TE b e v) (q1 : isX e = true) (hD : printF (n + 1) (.operation e) s k ≠ .out) : Calls Tryz.prog 206 #[pV p, v] w (WEnds p (printF (n + 1) (.operation e) s k) w) := by
  obtain ⟨g, l, va, vb, vk, vs, vp, vy, rfl, hx⟩ := q0.node q1
  have hle := C.le
  have hp0 : p ≤ w.heap.size := Nat.le_of_lt h.lt
  obtain ⟨R, hR1⟩ : ∃ R, printF (n + 1) (.operation e) s k = R := ⟨_, rfl⟩
  rw [hR1] at hD ⊢
  have hR0 : (printF (n + 1) (.operation e) s k).bind .ok = R := by rw [bind_ok]; exact hR1
  clear hR1
  unfold printF at hR0
  have H := Lib.hid h
  have HB := Lib.hid hB
  have SS := Lib.hid S
  have HD := Lib.hid hD
  have KK := Lib.hid (WK.refl p w)
  clear h hB hD S
  have XC := Lib.hid hx; have tl := hx.l; have tr := hx.r; have hsh := hx.short; have XI := Lib.hid hx.is
  have OK0 : OpK b w g va vb w := ⟨HB.out, Below.refl _ _, hx.lt, hx.c.c4, hx.c.c5⟩
  repeat (first | simp only at hR0 | simp only [bind_bind] at hR0 | simp only [ok_bind] at hR0 | simp only [bad_bind] at hR0)
  have HR := Lib.hid hR0
  clear hR0 hx
  go_enter Tryz.func206, Tryz.ntmps206
  go_wp2_with fail
  go_region_held3 (fun w' => w'.cell? ⟨g, 4, none⟩ = some va ∧ w'.cell? ⟨g, 5, none⟩ = some vb ∧ OpK b w g va vb w') (first | exact OK0.drew.all | (obtain ⟨_, _, hK⟩ := ‹_ ∧ _ ∧ OpK b w g va vb _›; exact (hK.next ‹_›).all) | (obtain ⟨_, _, hK⟩ := ‹_ ∧ _ ∧ OpK b w g va vb _›; exact (hK.drewN _).all))
    (first
      | (go_at_call 247; obtain ⟨_, _, hK⟩ := ‹_ ∧ _ ∧ OpK b w g va vb _›; refine (strength_any hK.base (by assumption)).mono ?_; rintro e w1 ⟨rfl, hb⟩))
  obtain ⟨_, _, hK⟩ := ‹_ ∧ _ ∧ OpK b w g va vb _›
  replace H := Lib.hid (H.out.below hK.below)
  replace KK := Lib.hid (KK.out.newer hp0 hK.below)
  replace HB := Lib.hid hK.base
  clear hK OK0
  have hR0 := HR.out
  clear HR
  generalize hw : strE e = a at hR0 ⊢
  generalize hx : strE (leftT e) = x at hR0 ⊢
  generalize hy : strE (rightT e) = y at hR0 ⊢
  clear hw hx hy
  have f3 := (HB.out.cell (p := ⟨g, 3, none⟩) XC.out.lt).trans XC.out.c.c3
  have f4 := (HB.out.cell (p := ⟨g, 4, none⟩) XC.out.lt).trans XC.out.c.c4
  have f5 := (HB.out.cell (p := ⟨g, 5, none⟩) XC.out.lt).trans XC.out.c.c5
  by_cases hd : nameT6 e = [46, 46]
  all_goals rcases Nat.lt_trichotomy x a with h1 | h1 | h1
  all_goals rcases Nat.lt_trichotomy y a with h2 | h2 | h2
  all_goals
    first | have i1 : ((x : Nat) : Int) < ((a : Nat) : Int) := by omega | have i1 : ¬ ((x : Nat) : Int) < ((a : Nat) : Int) := by omega
    first | have i2 : (((x : Nat) : Int) == ((a : Nat) : Int)) = true := beq_iff_eq.2 (by omega) | have i2 : (((x : Nat) : Int) == ((a : Nat) : Int)) = false := beq_eq_false_iff_ne.2 (by omega)
    first | have i3 : ((y : Nat) : Int) < ((a : Nat) : Int) := by omega | have i3 : ¬ ((y : Nat) : Int) < ((a : Nat) : Int) := by omega
    first | have i4 : (((y : Nat) : Int) == ((a : Nat) : Int)) = true := beq_iff_eq.2 (by omega) | have i4 : (((y : Nat) : Int) == ((a : Nat) : Int)) = false := beq_eq_false_iff_ne.2 (by omega)
    first | have n1 : x < a := by omega | have n1 : ¬ x < a := by omega
    first | have n3 : y < a := by omega | have n3 : ¬ y < a := by omega
    first | have i5 := P5.beq_yes hd | have i5 := P5.beq_no hd
    first | have d1 : decide (x < a) = true := decide_eq_true (by omega) | have d1 : decide (x < a) = false := decide_eq_false (by omega)
    first | have d2 : decide (x = a) = true := decide_eq_true (by omega) | have d2 : decide (x = a) = false := decide_eq_false (by omega)
    first | have d3 : decide (y < a) = true := decide_eq_true (by omega) | have d3 : decide (y < a) = false := decide_eq_false (by omega)
    first | have d4 : decide (y = a) = true := decide_eq_true (by omega) | have d4 : decide (y = a) = false := decide_eq_false (by omega)
    first | have d5 : decide (nameT6 e = [46, 46]) = true := decide_eq_true hd | have d5 : decide (nameT6 e = [46, 46]) = false := decide_eq_false hd
    rw [d1, d2, d5] at hR0
    simp only [d3] at hR0
    simp only [d4] at hR0
    repeat (first | simp only at hR0 | simp only [bind_bind] at hR0 | simp only [ok_bind] at hR0 | simp only [bad_bind] at hR0 | simp only [Bool.false_eq_true] at hR0 | simp only [Bool.true_eq_false] at hR0 | simp only [if_true] at hR0 | simp only [if_false] at hR0 | simp only [Bool.not_false] at hR0 | simp only [Bool.not_true] at hR0 | simp only [Bool.true_and] at hR0 | simp only [Bool.false_and] at hR0 | simp only [Bool.false_or] at hR0 | simp only [Bool.true_or] at hR0 | simp only [Bool.or_false] at hR0 | simp only [Bool.and_false] at hR0 | simp only [Bool.and_true] at hR0)
    have hR := Lib.hid hR0; clear hR0
    clear d1 d2 d3 d4 d5 h1 h2 hd
    go_wp2_with (first
      | (go_at_call 204; (with_reducible refine (SS.out.operand_step ?_ ?_ (by assumption) hR.out HD.out).mono ?_); (· exact ab4); (· exact ab9); rintro e w1 hE; rcases hE with ⟨c, hq, rfl, hk⟩ | ⟨s1, k1, hq, rfl, hh, hk⟩; (· exact ⟨rfl, ends_bad hq ab3 hk⟩); replace hR := Lib.hid hq; replace H := Lib.hid hh; (have KN : WK p w w1 := WK.trans ab3 hk); (have HN : Below b.heap.size b w1 := Below.trans ab4 (hk.below.mono hle)); replace KK := Lib.hid KN; replace HB := Lib.hid HN; have q3 := (HB.out.cell (p := ⟨g, 3, none⟩) XC.out.lt).trans XC.out.c.c3; have q5 := (HB.out.cell (p := ⟨g, 5, none⟩) XC.out.lt).trans XC.out.c.c5; clear hq hh hk KN HN)
      | (go_at_call 116; (with_reducible refine (puts3_step ?_ ?_ hR.out ?_).mono ?_); (· exact ab9); (· rfl); (· first | (simp; done) | (simp; omega) | omega); rintro e w1 hE; rcases hE with ⟨c, hq, rfl, hk⟩ | ⟨s1, k1, hq, rfl, hh, hk⟩; (· exact ⟨rfl, ends_bad hq ab3 hk⟩); replace hR := Lib.hid hq; replace H := Lib.hid hh; (have KN : WK p w w1 := WK.trans ab3 hk); (have HN : Below b.heap.size b w1 := Below.trans ab4 (hk.below.mono hle)); replace KK := Lib.hid KN; replace HB := Lib.hid HN; have q5 := (HB.out.cell (p := ⟨g, 5, none⟩) XC.out.lt).trans XC.out.c.c5; clear hq hh hk KN HN))
    go_end0
    exact ends_ok hR.out H.out KK.out
end Go.Proofs.YtoggkigfijgbfaaGreatDoor.P6
