/- expr: a name, a call, a function; all of the walk. -/
import Derived.Test.YtlbbbfmnghcdnaaScInner
namespace Go.Proofs.Ytlbbbfmnghcdnaa
set_option maxRecDepth 20000
open Go.RowKit Go.Maps

/-- What an expression does behind its beginning. -/
def behindS (k l : Int) (s : List UInt8) (a xs ps bd : Tree) (st : StS) : ResS :=
  if k = 6 then useS s l st
  else if k = 8 then (if isExT a = true then (goS a st).bind (goS xs) else .out)
  else if k = 9 then (if txB ps = false then .out else innerS l ps bd st)
  else .out
theorem goS_ex (k l n : Int) (s : List UInt8) (a b ks xs ps bd : Tree) (st : StS) : goS (.ex k l n s a b ks xs ps bd) st = (beginS l st).bind (behindS k l s a xs ps bd) := by
  rw [goS]
  congr 1
  funext st
  unfold behindS innerS
  split
  · rfl
  · split
    · cases a <;> rfl
    · rfl
/-- The head of the walk through an expression: the checks ahead of the switch. -/
structure ExprIn (n N : Nat) (w : World) (T : Own) (lo p g : Nat) (G : Nat → Gh) (vn : Value) (st : StS) (k l n0 : Int) (s : List UInt8) (a b ks xs ps bd : Tree) (va vb vk : Value) (Ax Ap Ab : Option Addr) (cx cp cb : Nat) : Prop where
  spec : ScSpec n
  hn : n ≤ 1099511627776
  h : WAt w T lo p G vn st
  hN : N ≤ st.fns.length
  hs : st.stack ≠ []
  hg : g < lo
  hc : ExC w g k l n0 s va vb vk (.slice Ax (lenT xs) cx) (.slice Ap (lenT ps) cp) (.slice Ab (lenT bd) cb)
  ha : AtO w lo a va
  hx : RowT w (fun k => k < lo) xs Ax 0
  hp : RowT w (fun k => k < lo) ps Ap 0
  hb : RowT w (fun k => k < lo) bd Ab 0
  hcap : lenT ps ≤ cp
  hw : wfT (.ex k l n0 s a b ks xs ps bd)
  hz : szT (.ex k l n0 s a b ks xs ps bd) ≤ n + 1
theorem ExprIn.turn {n N : Nat} {w w' : World} {T T' : Own} {lo p g : Nat} {G G' : Nat → Gh} {vn vn' : Value} {st st' : StS} {k l n0 : Int} {s : List UInt8} {a b ks xs ps bd : Tree} {va vb vk : Value} {Ax Ap Ab : Option Addr} {cx cp cb : Nat} (E : ExprIn n N w T lo p g G vn st k l n0 s a b ks xs ps bd va vb vk Ax Ap Ab cx cp cb)
    (hW : WAt w' T' lo p G' vn' st') (ht : Turn (fun _ => True) T w T' w') (hP : PresS st st') : ExprIn n N w' T' lo p g G' vn' st' k l n0 s a b ks xs ps bd va vb vk Ax Ap Ab cx cp cb :=
  ⟨E.spec, E.hn, hW, Nat.le_trans E.hN hP.len, by rw [hP.stack]; exact E.hs, E.hg, E.hc.keep (ht.free (Nat.lt_of_lt_of_le E.hg E.h.base) (E.h.old g E.hg)), (tree_turn E.h ht).1 _ E.ha, (tree_turn E.h ht).2 _ _ E.hx, (tree_turn E.h ht).2 _ _ E.hp, (tree_turn E.h ht).2 _ _ E.hb, E.hcap, E.hw, E.hz⟩
/-- The loop's head at a call's arguments. -/
structure ArgsRel (N lo p : Nat) (T : Own) (G : Nat → Gh) (w : World) (st : StS) (R : ResS) (A : Option Addr) (i : Nat) (r : Tree) (wr : World) : Prop where
  row : RowT wr (fun k => k < lo) r A i
  wf : wfT r
  sts : exsB r = true
  st : ∃ T' G' vn st', WAt wr T' lo p G' vn st' ∧ Turn (fun _ => True) T w T' wr ∧ Same N G G' ∧ PresS st st' ∧ goS r st' = R

set_option maxHeartbeats 4000000 in
theorem expr_name {n N : Nat} {w : World} {T : Own} {lo p g : Nat} {G : Nat → Gh} {vn : Value} {st : StS} {l n0 : Int} {s : List UInt8} {a b ks xs ps bd : Tree} {va vb vk : Value} {Ax Ap Ab : Option Addr} {cx cp cb : Nat} (l0 : Int) (E : ExprIn n N w T lo p g G vn st 6 l n0 s a b ks xs ps bd va vb vk Ax Ap Ab cx cp cb) (hD : (beginS l st).bind (behindS 6 l s a xs ps bd) ≠ .out) :
    Calls Try.prog 52 #[pV p, pV g, iV l0, .slice none 0 0] w (EndsS N T lo p G ((beginS l st).bind (behindS 6 l s a xs ps bd)) w) := by
  have c0 := E.hc.c0
  have c1 := E.hc.c1
  obtain ⟨R, hR1⟩ : ∃ R, (beginS l st).bind (behindS 6 l s a xs ps bd) = R := ⟨_, rfl⟩
  rw [hR1] at hD ⊢
  have C := Lib.hid (begin_any (N := N) E.h l)
  have HK : ∀ st1, beginS l st = .ok st1 → PresS st st1 := beginS_keeps l st
  generalize beginS l st = r0 at hR1 C HK
  have HR1 := Lib.hid hR1
  have HKK := Lib.hid HK
  have HD := Lib.hid hD
  replace E := Lib.hid E
  clear hR1 HK hD
  go_enter Try.func52, Try.ntmps52
  go_wp2_with (first
    | (go_at_call 49; (with_reducible refine C.out.mono ?_); intro e w2 hE; rcases r0 with _ | ⟨cc, ll⟩ | ⟨st1⟩; (· exact hE.elim); (· obtain ⟨b0, T', rfl, hb1, hb2, hb3⟩ := hE; exact ⟨rfl, ends_bad HR1.out ⟨b0, T', rfl, hb1, hb2, hb3⟩⟩); obtain ⟨v2, T2, G2, vn2, rfl, rfl, hW2, ht2, hS2⟩ := hE; have HP1 := Lib.hid (HKK.out st1 rfl); have E1 := Lib.hid (E.out.turn hW2 ht2 HP1.out); have Ht1 := Lib.hid ht2; have HS1 := Lib.hid hS2; have x0 := E1.out.hc.c0; have x1 := E1.out.hc.c1; have x3 := E1.out.hc.c3; have x4 := E1.out.hc.c4; have x7 := E1.out.hc.c7; have hgl2 : g < w2.heap.size := E1.out.hc.lt; clear hW2 ht2 hS2 C c0 c1))
  have hR2 : behindS 6 l s a xs ps bd st1 = R := HR1.out
  have hR3 : useS s l st1 = R := hR2
  obtain ⟨m, rest, hst⟩ : ∃ m rest, st1.stack = m :: rest := by
    cases h : st1.stack with
    | nil => exact absurd h E1.out.hs
    | cons a b => exact ⟨a, b, rfl⟩
  have hm := E1.out.h.stack_lt m (by rw [hst]; simp)
  have hf : st1.fns[m]? = some st1.fns[m] := List.getElem?_eq_getElem hm
  generalize st1.fns[m] = f at hf
  have z0 := E1.out.h.c0
  rw [hst] at z0
  simp only [curV] at z0
  have C3 := addUse_any (N := N) E1.out.h.drew hst hf s E1.out.hw.1 l (by rw [hR3]; exact HD.out)
  rw [hR3] at C3
  replace C3 := Lib.hid C3
  clear hst hf hR3 hR2
  go_still_tail 12, (by kernel_rfl)
  change wpList _ _ _ _ _ (World.drew _)
  go_wp2_with (first
    | (go_at_call 60; (with_reducible refine C3.out.mono ?_); intro e w4 hE; rcases R with _ | ⟨cc, ll⟩ | ⟨st3⟩; (· exact hE.elim); (· obtain ⟨b0, T', rfl, hb1, hb2, hb3⟩ := hE; exact ⟨rfl, BadS.after ⟨b0, T', rfl, hb1, hb2, hb3⟩ Ht1.out.drew⟩); obtain ⟨v4, T4, G4, vn4, rfl, rfl, hW4, ht4, hS4⟩ := hE; have HW4 := Lib.hid hW4; have Ht4 := Lib.hid ((Ht1.out.drew).trans ht4); have HS4 := Lib.hid (HS1.out.trans hS4 (Nat.le_refl _)); clear hW4 ht4 hS4))
  refine bodyPost_end (results_none rfl _ _ _) rfl ?_
  exact ends_ok rfl HW4.out Ht4.out HS4.out

set_option maxHeartbeats 4000000 in
theorem expr_func {n N : Nat} {w : World} {T : Own} {lo p g : Nat} {G : Nat → Gh} {vn : Value} {st : StS} {l n0 : Int} {s : List UInt8} {a b ks xs ps bd : Tree} {va vb vk : Value} {Ax Ap Ab : Option Addr} {cx cp cb : Nat} (l0 : Int) (E : ExprIn n N w T lo p g G vn st 9 l n0 s a b ks xs ps bd va vb vk Ax Ap Ab cx cp cb) (hD : (beginS l st).bind (behindS 9 l s a xs ps bd) ≠ .out) :
    Calls Try.prog 52 #[pV p, pV g, iV l0, .slice none 0 0] w (EndsS N T lo p G ((beginS l st).bind (behindS 9 l s a xs ps bd)) w) := by
  have c0 := E.hc.c0
  have c1 := E.hc.c1
  obtain ⟨R, hR1⟩ : ∃ R, (beginS l st).bind (behindS 9 l s a xs ps bd) = R := ⟨_, rfl⟩
  rw [hR1] at hD ⊢
  have C := Lib.hid (begin_any (N := N) E.h l)
  have HK : ∀ st1, beginS l st = .ok st1 → PresS st st1 := beginS_keeps l st
  generalize beginS l st = r0 at hR1 C HK
  have HR1 := Lib.hid hR1
  have HKK := Lib.hid HK
  have HD := Lib.hid hD
  replace E := Lib.hid E
  clear hR1 HK hD
  go_enter Try.func52, Try.ntmps52
  go_wp2_with (first
    | (go_at_call 49; (with_reducible refine C.out.mono ?_); intro e w2 hE; rcases r0 with _ | ⟨cc, ll⟩ | ⟨st1⟩; (· exact hE.elim); (· obtain ⟨b0, T', rfl, hb1, hb2, hb3⟩ := hE; exact ⟨rfl, ends_bad HR1.out ⟨b0, T', rfl, hb1, hb2, hb3⟩⟩); obtain ⟨v2, T2, G2, vn2, rfl, rfl, hW2, ht2, hS2⟩ := hE; have HP1 := Lib.hid (HKK.out st1 rfl); have E1 := Lib.hid (E.out.turn hW2 ht2 HP1.out); have Ht1 := Lib.hid ht2; have HS1 := Lib.hid hS2; have x0 := E1.out.hc.c0; have x1 := E1.out.hc.c1; have x3 := E1.out.hc.c3; have x4 := E1.out.hc.c4; have x7 := E1.out.hc.c7; have hgl2 : g < w2.heap.size := E1.out.hc.lt; clear hW2 ht2 hS2 C c0 c1))
  have hR2 : behindS 9 l s a xs ps bd st1 = R := HR1.out
  have htx : txB ps = true := by
    have hR3 := hR2
    unfold behindS at hR3
    by_cases h : txB ps = false
    · rw [if_neg (by decide), if_neg (by decide), if_pos rfl, if_pos h] at hR3
      exact (HD.out hR3.symm).elim
    · simpa using h
  have hR3 : innerS l ps bd st1 = R := by
    rw [← hR2]
    unfold behindS
    rw [if_neg (by decide), if_neg (by decide), if_pos rfl, if_neg (by rw [htx]; simp)]
  obtain ⟨_, _, _, _, _, hwp, hwb, _, hsb⟩ := E1.out.hw
  have hz := E1.out.hz
  simp only [szT] at hz
  have C3 := inner_any (N := N) E1.out.spec E1.out.hn E1.out.h E1.out.hN E1.out.hc E1.out.hcap E1.out.hg E1.out.hp E1.out.hb hwp hwb htx hsb (by omega) (by rw [hR3]; exact HD.out)
  rw [hR3] at C3
  replace C3 := Lib.hid C3
  clear hR3 hR2 htx hwp hwb hsb hz
  go_wp2_with (first
    | (go_at_call 61; (with_reducible refine C3.out.mono ?_); intro e w4 hE; rcases R with _ | ⟨cc, ll⟩ | ⟨st3⟩; (· exact hE.elim); (· obtain ⟨b0, T', rfl, hb1, hb2, hb3⟩ := hE; exact ⟨rfl, BadS.after ⟨b0, T', rfl, hb1, hb2, hb3⟩ Ht1.out⟩); obtain ⟨v4, T4, G4, vn4, rfl, rfl, hW4, ht4, hS4⟩ := hE; have HW4 := Lib.hid hW4; have Ht4 := Lib.hid ((Ht1.out).trans ht4); have HS4 := Lib.hid (HS1.out.trans hS4 (Nat.le_refl _)); clear hW4 ht4 hS4))
  refine bodyPost_end (results_none rfl _ _ _) rfl ?_
  exact ends_ok rfl HW4.out Ht4.out HS4.out

set_option maxHeartbeats 4000000 in
theorem expr_call {n N : Nat} {w : World} {T : Own} {lo p g : Nat} {G : Nat → Gh} {vn : Value} {st : StS} {l n0 : Int} {s : List UInt8} {a b ks xs ps bd : Tree} {va vb vk : Value} {Ax Ap Ab : Option Addr} {cx cp cb : Nat} (l0 : Int) (E : ExprIn n N w T lo p g G vn st 8 l n0 s a b ks xs ps bd va vb vk Ax Ap Ab cx cp cb) (hD : (beginS l st).bind (behindS 8 l s a xs ps bd) ≠ .out) :
    Calls Try.prog 52 #[pV p, pV g, iV l0, .slice none 0 0] w (EndsS N T lo p G ((beginS l st).bind (behindS 8 l s a xs ps bd)) w) := by
  have c0 := E.hc.c0
  have c1 := E.hc.c1
  obtain ⟨R, hR1⟩ : ∃ R, (beginS l st).bind (behindS 8 l s a xs ps bd) = R := ⟨_, rfl⟩
  rw [hR1] at hD ⊢
  have C := Lib.hid (begin_any (N := N) E.h l)
  have HK : ∀ st1, beginS l st = .ok st1 → PresS st st1 := beginS_keeps l st
  generalize beginS l st = r0 at hR1 C HK
  have HR1 := Lib.hid hR1
  have HKK := Lib.hid HK
  have HD := Lib.hid hD
  replace E := Lib.hid E
  clear hR1 HK hD
  go_enter Try.func52, Try.ntmps52
  go_wp2_with (first
    | (go_at_call 49; (with_reducible refine C.out.mono ?_); intro e w2 hE; rcases r0 with _ | ⟨cc, ll⟩ | ⟨st1⟩; (· exact hE.elim); (· obtain ⟨b0, T', rfl, hb1, hb2, hb3⟩ := hE; exact ⟨rfl, ends_bad HR1.out ⟨b0, T', rfl, hb1, hb2, hb3⟩⟩); obtain ⟨v2, T2, G2, vn2, rfl, rfl, hW2, ht2, hS2⟩ := hE; have HP1 := Lib.hid (HKK.out st1 rfl); have E1 := Lib.hid (E.out.turn hW2 ht2 HP1.out); have Ht1 := Lib.hid ht2; have HS1 := Lib.hid hS2; have x0 := E1.out.hc.c0; have x1 := E1.out.hc.c1; have x3 := E1.out.hc.c3; have x4 := E1.out.hc.c4; have x7 := E1.out.hc.c7; have hgl2 : g < w2.heap.size := E1.out.hc.lt; clear hW2 ht2 hS2 C c0 c1))
  have hR2 : behindS 8 l s a xs ps bd st1 = R := HR1.out
  have hia : isExT a = true := by
    have hR3 := hR2
    unfold behindS at hR3
    by_cases h : isExT a = true
    · exact h
    · rw [if_neg (by decide), if_pos rfl, if_neg h] at hR3
      exact (HD.out hR3.symm).elim
  have hR3 : (goS a st1).bind (goS xs) = R := by
    rw [← hR2]
    unfold behindS
    rw [if_neg (by decide), if_pos rfl, if_pos hia]
  obtain ⟨_, hwa, _, _, hwx, _, _, hex, _⟩ := E1.out.hw
  have hz := E1.out.hz
  simp only [szT] at hz
  have hD2 : goS a st1 ≠ .out := fun e => out_elim hR3 HD.out e
  have C3 := E1.out.spec.expr (N := N) a va l (.slice none 0 0) E1.out.h.drew E1.out.hN E1.out.hs (at_drew E1.out.ha) hwa hia (by omega) (.inl rfl) hD2
  have HK2 := goS_keeps a st1
  generalize goS a st1 = r2 at hR3 C3 HK2
  replace C3 := Lib.hid C3
  have HR3 := Lib.hid hR3
  have HKK2 := Lib.hid HK2
  have hlz := lenT_le xs
  have hnn := E1.out.hn
  clear hR3 hR2 hia hD2 HK2
  go_still_tail 9, (by kernel_rfl)
  change wpList _ _ _ _ _ (World.drew _)
  go_wp2_with (first
    | (go_at_call 52; (with_reducible refine C3.out.mono ?_); intro e w3 hE; rcases r2 with _ | ⟨cc, ll⟩ | ⟨st2⟩; (· exact hE.elim); (· obtain ⟨b0, T', rfl, hb1, hb2, hb3⟩ := hE; exact ⟨rfl, ends_bad HR3.out (BadS.after ⟨b0, T', rfl, hb1, hb2, hb3⟩ Ht1.out.drew)⟩); obtain ⟨v3, T3, G3, vn3, rfl, rfl, hW3, ht3, hS3⟩ := hE; have E2 := Lib.hid ((E1.out.turn E1.out.h.drew (Turn.refl _ _ _).drew (PresS.refl _)).turn hW3 ht3 (HKK2.out st2 rfl)); have Ht2 := Lib.hid (Ht1.out.drew.trans ht3); have HS2 := Lib.hid (HS1.out.trans hS3 (Nat.le_refl _)); have x1 := E2.out.hc.c1; have x7 := E2.out.hc.c7; clear hW3 ht3 hS3 x0 x3 x4))
  have REL := Lib.hid (ArgsRel.mk E2.out.hx hwx hex ⟨T3, G3, vn3, st2, E2.out.h, Turn.refl _ _ _, Same.refl _ _, PresS.refl _, HR3.out⟩ : ArgsRel N lo p T3 G3 w3 st2 R Ax 0 xs w3)
  clear HR3
  go_loopg [107] (lenT xs) (fun m v wr => ∃ (i : Nat) (r : Tree), v = iV i ∧ i + m = lenT xs ∧ lenT r = m ∧ szT r ≤ n ∧ Hid (ArgsRel N lo p T3 G3 w3 st2 R Ax i r wr))
  case atStart => exact ⟨0, xs, rfl, by simp, rfl, by omega, REL⟩
  case round =>
    obtain ⟨i, r, rfl, him, hlr, hzr, hF⟩ := hrel
    clear REL
    obtain ⟨T4, G4, vn4, st3, hW4, ht4, hS4, hP4, hg4⟩ := hF.out.st
    have hsb := hF.out.sts
    have hwr := hF.out.wf
    have hrw := hF.out.row
    have E3 := Lib.hid (E2.out.turn hW4 ht4 hP4)
    have y1 := E3.out.hc.c1
    cases gk with
    | zero =>
      have hi : i = lenT xs := by omega
      subst hi
      have hok : ResS.ok st3 = R := by
        rw [← hg4]
        cases r with
        | cons a b => simp [lenT] at hlr
        | nil => rfl
        | tx _ => cases hsb
        | ex => cases hsb
        | st => cases hsb
      have HW4 := Lib.hid hW4
      have Ht4 := Lib.hid (Ht2.out.trans ht4)
      have HS4 := Lib.hid (HS2.out.trans hS4 (Nat.le_refl _))
      have Hok := Lib.hid hok
      clear hW4 ht4 hS4 hok hg4 hP4 hsb hwr hrw
      go_wp2_with fail
      refine bodyPost_end (results_none rfl _ _ _) rfl ?_
      exact ends_ok Hok.out HW4.out Ht4.out HS4.out
    | succ m =>
      cases r with
      | nil => simp [lenT] at hlr
      | tx _ => cases hsb
      | ex => cases hsb
      | st => cases hsb
      | cons x r =>
        cases x with
        | nil => cases hsb
        | tx _ => cases hsb
        | cons => cases hsb
        | st => cases hsb
        | ex k' l' n' s' a' b' ks' xs' ps' bd' =>
          obtain ⟨ga, z, rfl, hga, hcell, hat, hrow⟩ := hrw
          obtain ⟨gx, hzx⟩ : ∃ gx, z = pV gx := by
            obtain ⟨gx, _, _, _, _, _, _, _, _, _, _, rfl, _⟩ := hat
            exact ⟨gx, rfl⟩
          subst hzx
          have q0 : (0 : Int) ≤ (i : Int) := by omega
          have q1 : (i : Int) < (lenT xs : Int) := by omega
          simp only [lenT] at hlr
          simp only [szT] at hzr
          have hR2 : (goS (.ex k' l' n' s' a' b' ks' xs' ps' bd') st3).bind (goS r) = R := by rw [← hg4]; rfl
          have C := E3.out.spec.expr (N := N) (.ex k' l' n' s' a' b' ks' xs' ps' bd') (pV gx) l (.slice none 0 0) hW4 E3.out.hN E3.out.hs hat hwr.1 rfl (by simp only [szT]; omega) (.inl rfl) (fun e => out_elim hR2 HD.out e)
          have HK : ∀ st4, goS (.ex k' l' n' s' a' b' ks' xs' ps' bd') st3 = .ok st4 → PresS st3 st4 := goS_keeps _ _
          generalize goS (.ex k' l' n' s' a' b' ks' xs' ps' bd') st3 = r1 at C hR2 HK
          have HC := Lib.hid C
          have HKK := Lib.hid HK
          have HR2 := Lib.hid hR2
          have HW1 := Lib.hid hW4
          have Ht1 := Lib.hid ht4
          have HS1 := Lib.hid hS4
          have HP1 := Lib.hid hP4
          have Hrow := Lib.hid hrow
          have Hwr := Lib.hid hwr
          have Hsb := Lib.hid hsb
          clear hW4 ht4 hS4 hg4 hP4 hsb hwr hrow hat C HK hR2
          go_wp2_with (first
            | (go_at_call 52; (with_reducible refine HC.out.mono ?_); intro e w5 hE; rcases r1 with _ | ⟨cc, ll⟩ | ⟨st4⟩; (· exact hE.elim); (· obtain ⟨b0, T', rfl, hb1, hb2, hb3⟩ := hE; exact ⟨rfl, ends_bad HR2.out (BadS.after ⟨b0, T', rfl, hb1, hb2, hb3⟩ (Ht2.out.trans Ht1.out))⟩); obtain ⟨v2, T2, G2, vn2, rfl, rfl, hW2, ht2, hS2⟩ := hE; have HP2 := Lib.hid (HP1.out.trans (HKK.out st4 rfl)); have HR3 := Lib.hid ((tree_turn HW1.out ht2).2 _ _ Hrow.out); have HW2 := Lib.hid hW2; have Ht3 := Lib.hid (Ht1.out.trans ht2); have HS3 := Lib.hid (HS1.out.trans hS2 (Nat.le_refl _)); clear hW2 ht2 hS2))
          go_roundg m
          case measure => omega
          case rel => exact ⟨i + 1, r, by simp, by omega, by omega, by omega, Lib.hid ⟨HR3.out, Hwr.out.2, Hsb.out, _, _, _, st4, HW2.out, Ht3.out, HS3.out, HP2.out, HR2.out⟩⟩

set_option maxHeartbeats 4000000 in
theorem expr_call8 {n N : Nat} {w : World} {T : Own} {lo p g : Nat} {G : Nat → Gh} {vn : Value} {st : StS} {l n0 : Int} {s : List UInt8} {a b ks xs ps bd : Tree} {va vb vk : Value} {Ax Ap Ab : Option Addr} {cx cp cb : Nat} (l0 : Int) (E : ExprIn n N w T lo p g G vn st 8 l n0 s a b ks xs ps bd va vb vk Ax Ap Ab cx cp cb) (q8 : Nat) (h8 : w.cell? ⟨q8, 0, none⟩ = some (iV 8)) (f8 : T q8 = none) (hD : (beginS l st).bind (behindS 8 l s a xs ps bd) ≠ .out) :
    Calls Try.prog 52 #[pV p, pV g, iV l0, .slice (some ⟨q8, 0, none⟩) 1 1] w (EndsS N T lo p G ((beginS l st).bind (behindS 8 l s a xs ps bd)) w) := by
  have c0 := E.hc.c0
  have c1 := E.hc.c1
  obtain ⟨R, hR1⟩ : ∃ R, (beginS l st).bind (behindS 8 l s a xs ps bd) = R := ⟨_, rfl⟩
  rw [hR1] at hD ⊢
  have C := Lib.hid (begin_any (N := N) E.h l)
  have HK : ∀ st1, beginS l st = .ok st1 → PresS st st1 := beginS_keeps l st
  generalize beginS l st = r0 at hR1 C HK
  have HR1 := Lib.hid hR1
  have HKK := Lib.hid HK
  have HD := Lib.hid hD
  replace E := Lib.hid E
  clear hR1 HK hD
  go_enter Try.func52, Try.ntmps52
  go_wp2_with (first
    | (go_at_call 49; (with_reducible refine C.out.mono ?_); intro e w2 hE; rcases r0 with _ | ⟨cc, ll⟩ | ⟨st1⟩; (· exact hE.elim); (· obtain ⟨b0, T', rfl, hb1, hb2, hb3⟩ := hE; exact ⟨rfl, ends_bad HR1.out ⟨b0, T', rfl, hb1, hb2, hb3⟩⟩); obtain ⟨v2, T2, G2, vn2, rfl, rfl, hW2, ht2, hS2⟩ := hE; have HP1 := Lib.hid (HKK.out st1 rfl); have E1 := Lib.hid (E.out.turn hW2 ht2 HP1.out); have Ht1 := Lib.hid ht2; have HS1 := Lib.hid hS2; have x0 := E1.out.hc.c0; have x1 := E1.out.hc.c1; have x3 := E1.out.hc.c3; have x4 := E1.out.hc.c4; have x7 := E1.out.hc.c7; have hgl2 : g < w2.heap.size := E1.out.hc.lt; have h82 := Ht1.out.cell_free h8 f8; clear hW2 ht2 hS2 C c0 c1 h8)
    | (go_at_call 59; (with_reducible refine (containsI_one ?_).mono ?_); (· assumption); rintro e w1 ⟨rfl, hq⟩; obtain rfl := hq.symm))
  have hR2 : behindS 8 l s a xs ps bd st1 = R := HR1.out
  have hia : isExT a = true := by
    have hR3 := hR2
    unfold behindS at hR3
    by_cases h : isExT a = true
    · exact h
    · rw [if_neg (by decide), if_pos rfl, if_neg h] at hR3
      exact (HD.out hR3.symm).elim
  have hR3 : (goS a st1).bind (goS xs) = R := by
    rw [← hR2]
    unfold behindS
    rw [if_neg (by decide), if_pos rfl, if_pos hia]
  obtain ⟨_, hwa, _, _, hwx, _, _, hex, _⟩ := E1.out.hw
  have hz := E1.out.hz
  simp only [szT] at hz
  have hD2 : goS a st1 ≠ .out := fun e => out_elim hR3 HD.out e
  have C3 := E1.out.spec.expr (N := N) a va l (.slice none 0 0) E1.out.h.drew E1.out.hN E1.out.hs (at_drew E1.out.ha) hwa hia (by omega) (.inl rfl) hD2
  have HK2 := goS_keeps a st1
  generalize goS a st1 = r2 at hR3 C3 HK2
  replace C3 := Lib.hid C3
  have HR3 := Lib.hid hR3
  have HKK2 := Lib.hid HK2
  have hlz := lenT_le xs
  have hnn := E1.out.hn
  clear hR3 hR2 hia hD2 HK2
  go_still_tail 9, (by kernel_rfl)
  change wpList _ _ _ _ _ (World.drew _)
  go_wp2_with (first
    | (go_at_call 52; (with_reducible refine C3.out.mono ?_); intro e w3 hE; rcases r2 with _ | ⟨cc, ll⟩ | ⟨st2⟩; (· exact hE.elim); (· obtain ⟨b0, T', rfl, hb1, hb2, hb3⟩ := hE; exact ⟨rfl, ends_bad HR3.out (BadS.after ⟨b0, T', rfl, hb1, hb2, hb3⟩ Ht1.out.drew)⟩); obtain ⟨v3, T3, G3, vn3, rfl, rfl, hW3, ht3, hS3⟩ := hE; have E2 := Lib.hid ((E1.out.turn E1.out.h.drew (Turn.refl _ _ _).drew (PresS.refl _)).turn hW3 ht3 (HKK2.out st2 rfl)); have Ht2 := Lib.hid (Ht1.out.drew.trans ht3); have HS2 := Lib.hid (HS1.out.trans hS3 (Nat.le_refl _)); have x1 := E2.out.hc.c1; have x7 := E2.out.hc.c7; clear hW3 ht3 hS3 x0 x3 x4))
  have REL := Lib.hid (ArgsRel.mk E2.out.hx hwx hex ⟨T3, G3, vn3, st2, E2.out.h, Turn.refl _ _ _, Same.refl _ _, PresS.refl _, HR3.out⟩ : ArgsRel N lo p T3 G3 w3 st2 R Ax 0 xs w3)
  clear HR3
  go_loopg [107] (lenT xs) (fun m v wr => ∃ (i : Nat) (r : Tree), v = iV i ∧ i + m = lenT xs ∧ lenT r = m ∧ szT r ≤ n ∧ Hid (ArgsRel N lo p T3 G3 w3 st2 R Ax i r wr))
  case atStart => exact ⟨0, xs, rfl, by simp, rfl, by omega, REL⟩
  case round =>
    obtain ⟨i, r, rfl, him, hlr, hzr, hF⟩ := hrel
    clear REL
    obtain ⟨T4, G4, vn4, st3, hW4, ht4, hS4, hP4, hg4⟩ := hF.out.st
    have hsb := hF.out.sts
    have hwr := hF.out.wf
    have hrw := hF.out.row
    have E3 := Lib.hid (E2.out.turn hW4 ht4 hP4)
    have y1 := E3.out.hc.c1
    cases gk with
    | zero =>
      have hi : i = lenT xs := by omega
      subst hi
      have hok : ResS.ok st3 = R := by
        rw [← hg4]
        cases r with
        | cons a b => simp [lenT] at hlr
        | nil => rfl
        | tx _ => cases hsb
        | ex => cases hsb
        | st => cases hsb
      have HW4 := Lib.hid hW4
      have Ht4 := Lib.hid (Ht2.out.trans ht4)
      have HS4 := Lib.hid (HS2.out.trans hS4 (Nat.le_refl _))
      have Hok := Lib.hid hok
      clear hW4 ht4 hS4 hok hg4 hP4 hsb hwr hrw
      go_wp2_with fail
      refine bodyPost_end (results_none rfl _ _ _) rfl ?_
      exact ends_ok Hok.out HW4.out Ht4.out HS4.out
    | succ m =>
      cases r with
      | nil => simp [lenT] at hlr
      | tx _ => cases hsb
      | ex => cases hsb
      | st => cases hsb
      | cons x r =>
        cases x with
        | nil => cases hsb
        | tx _ => cases hsb
        | cons => cases hsb
        | st => cases hsb
        | ex k' l' n' s' a' b' ks' xs' ps' bd' =>
          obtain ⟨ga, z, rfl, hga, hcell, hat, hrow⟩ := hrw
          obtain ⟨gx, hzx⟩ : ∃ gx, z = pV gx := by
            obtain ⟨gx, _, _, _, _, _, _, _, _, _, _, rfl, _⟩ := hat
            exact ⟨gx, rfl⟩
          subst hzx
          have q0 : (0 : Int) ≤ (i : Int) := by omega
          have q1 : (i : Int) < (lenT xs : Int) := by omega
          simp only [lenT] at hlr
          simp only [szT] at hzr
          have hR2 : (goS (.ex k' l' n' s' a' b' ks' xs' ps' bd') st3).bind (goS r) = R := by rw [← hg4]; rfl
          have C := E3.out.spec.expr (N := N) (.ex k' l' n' s' a' b' ks' xs' ps' bd') (pV gx) l (.slice none 0 0) hW4 E3.out.hN E3.out.hs hat hwr.1 rfl (by simp only [szT]; omega) (.inl rfl) (fun e => out_elim hR2 HD.out e)
          have HK : ∀ st4, goS (.ex k' l' n' s' a' b' ks' xs' ps' bd') st3 = .ok st4 → PresS st3 st4 := goS_keeps _ _
          generalize goS (.ex k' l' n' s' a' b' ks' xs' ps' bd') st3 = r1 at C hR2 HK
          have HC := Lib.hid C
          have HKK := Lib.hid HK
          have HR2 := Lib.hid hR2
          have HW1 := Lib.hid hW4
          have Ht1 := Lib.hid ht4
          have HS1 := Lib.hid hS4
          have HP1 := Lib.hid hP4
          have Hrow := Lib.hid hrow
          have Hwr := Lib.hid hwr
          have Hsb := Lib.hid hsb
          clear hW4 ht4 hS4 hg4 hP4 hsb hwr hrow hat C HK hR2
          go_wp2_with (first
            | (go_at_call 52; (with_reducible refine HC.out.mono ?_); intro e w5 hE; rcases r1 with _ | ⟨cc, ll⟩ | ⟨st4⟩; (· exact hE.elim); (· obtain ⟨b0, T', rfl, hb1, hb2, hb3⟩ := hE; exact ⟨rfl, ends_bad HR2.out (BadS.after ⟨b0, T', rfl, hb1, hb2, hb3⟩ (Ht2.out.trans Ht1.out))⟩); obtain ⟨v2, T2, G2, vn2, rfl, rfl, hW2, ht2, hS2⟩ := hE; have HP2 := Lib.hid (HP1.out.trans (HKK.out st4 rfl)); have HR3 := Lib.hid ((tree_turn HW1.out ht2).2 _ _ Hrow.out); have HW2 := Lib.hid hW2; have Ht3 := Lib.hid (Ht1.out.trans ht2); have HS3 := Lib.hid (HS1.out.trans hS2 (Nat.le_refl _)); clear hW2 ht2 hS2))
          go_roundg m
          case measure => omega
          case rel => exact ⟨i + 1, r, by simp, by omega, by omega, by omega, Lib.hid ⟨HR3.out, Hwr.out.2, Hsb.out, _, _, _, st4, HW2.out, Ht3.out, HS3.out, HP2.out, HR2.out⟩⟩

end Go.Proofs.Ytlbbbfmnghcdnaa
