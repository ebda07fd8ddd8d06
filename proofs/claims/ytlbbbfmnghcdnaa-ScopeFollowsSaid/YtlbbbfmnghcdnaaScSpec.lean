/- What each call of the walk through a tree answers: the plain walk's answer. stmts; value; block. -/
import Derived.Test.YtlbbbfmnghcdnaaScCont
namespace Go.Proofs.Ytlbbbfmnghcdnaa
set_option maxRecDepth 20000
open Go.RowKit Go.Maps

def exsB : Tree → Bool
  | .nil => true
  | .cons (.ex ..) r => exsB r
  | _ => false
def stsB : Tree → Bool
  | .nil => true
  | .cons (.st ..) r => stsB r
  | _ => false
/-- Lists are of what they should be, and texts are short. -/
def wfT : Tree → Prop
  | .nil => True
  | .tx s => s.length ≤ 1099511627776
  | .cons h t => wfT h ∧ wfT t
  | .ex _ _ _ s a b ks xs ps bd => s.length ≤ 1099511627776 ∧ wfT a ∧ wfT b ∧ wfT ks ∧ wfT xs ∧ wfT ps ∧ wfT bd ∧ exsB xs = true ∧ stsB bd = true
  | .st _ _ s a b c x y => s.length ≤ 1099511627776 ∧ wfT a ∧ wfT b ∧ wfT c ∧ wfT x ∧ wfT y ∧ stsB x = true ∧ stsB y = true
abbrev AtO (w : World) (lo : Nat) (t : Tree) (v : Value) : Prop := At w (fun k => k < lo) t v
abbrev SlO (w : World) (lo : Nat) (t : Tree) (v : Value) : Prop := Sl w (fun k => k < lo) t v
theorem lenT_le : ∀ t, lenT t ≤ szT t
  | .nil => Nat.le_refl _
  | .tx _ => Nat.le_refl _
  | .ex .. => Nat.zero_le _
  | .st .. => Nat.zero_le _
  | .cons h t => by simp only [lenT, szT]; have := lenT_le t; omega
theorem tree_turn {w w' : World} {T T' : Own} {lo p : Nat} {G : Nat → Gh} {vn : Value} {st : StS} {t : Tree} (hW : WAt w T lo p G vn st) (ht : Turn (fun _ => True) T w T' w') : (∀ v, AtO w lo t v → AtO w' lo t v) ∧ (∀ A i, RowT w (fun k => k < lo) t A i → RowT w' (fun k => k < lo) t A i) :=
  at_keep (fun g hg => ⟨hg, ht.free (Nat.lt_of_lt_of_le hg hW.base) (hW.old g hg)⟩) t
theorem sl_turn {w w' : World} {T T' : Own} {lo p : Nat} {G : Nat → Gh} {vn : Value} {st : StS} {t : Tree} {v : Value} (hW : WAt w T lo p G vn st) (ht : Turn (fun _ => True) T w T' w') (h : SlO w lo t v) : SlO w' lo t v := by
  obtain ⟨A, c, rfl, hr⟩ := h
  exact ⟨A, c, rfl, (tree_turn hW ht).2 _ _ hr⟩
def KindsAt (w : World) (T : Own) (t : Tree) (kv : Value) : Prop := kv = .slice none 0 0 ∨ (∃ b, kv = .slice (some ⟨b, 0, none⟩) 1 1 ∧ w.cell? ⟨b, 0, none⟩ = some (iV 8) ∧ T b = none ∧ kindS t = 8)
structure ScSpec (n : Nat) : Prop where
  stmts : ∀ {N : Nat} {w : World} {T : Own} {lo p : Nat} {G : Nat → Gh} {vn : Value} {st : StS} (t : Tree) (v : Value) (l : Int), WAt w T lo p G vn st → N ≤ st.fns.length → st.stack ≠ [] → SlO w lo t v → wfT t → stsB t = true → szT t ≤ n → goS t st ≠ .out → Calls Try.prog 34 #[pV p, v, iV l] w (EndsS N T lo p G (goS t st) w)
  stmt : ∀ {N : Nat} {w : World} {T : Own} {lo p : Nat} {G : Nat → Gh} {vn : Value} {st : StS} (t : Tree) (v : Value) (l : Int), WAt w T lo p G vn st → N ≤ st.fns.length → st.stack ≠ [] → AtO w lo t v → wfT t → stsB (.cons t .nil) = true → szT t ≤ n → goS t st ≠ .out → Calls Try.prog 41 #[pV p, v, iV l] w (EndsS N T lo p G (goS t st) w)
  expr : ∀ {N : Nat} {w : World} {T : Own} {lo p : Nat} {G : Nat → Gh} {vn : Value} {st : StS} (t : Tree) (v : Value) (l : Int) (kv : Value), WAt w T lo p G vn st → N ≤ st.fns.length → st.stack ≠ [] → AtO w lo t v → wfT t → isExT t = true → szT t ≤ n → KindsAt w T t kv → goS t st ≠ .out → Calls Try.prog 52 #[pV p, v, iV l, kv] w (EndsS N T lo p G (goS t st) w)
theorem ends_bad {N : Nat} {T : Own} {lo p : Nat} {G : Nat → Gh} {R : ResS} {w w' : World} {c l : Int} {e : Ending} (h : ResS.bad c l = R) (hB : BadS T w c l e w') : EndsS N T lo p G R w e w' := by
  subst h; exact hB
theorem ends_ok {N : Nat} {T T' : Own} {lo p : Nat} {G G' : Nat → Gh} {vn : Value} {R : ResS} {st : StS} {w w' : World} (h : ResS.ok st = R) (hW : WAt w' T' lo p G' vn st) (ht : Turn (fun _ => True) T w T' w') (hS : Same N G G') : EndsS N T lo p G R w (.returned (.tuple #[])) w' := by
  subst h; exact ⟨_, T', G', vn, rfl, rfl, hW, ht, hS⟩
theorem out_elim {r R : ResS} {f : StS → ResS} (h : r.bind f = R) (hR : R ≠ .out) (hr : r = .out) : False := by
  subst hr; exact hR h.symm
/-- The loop's head in stmts. -/
structure StmtsRel (N lo p : Nat) (T : Own) (G : Nat → Gh) (w : World) (st : StS) (R : ResS) (A : Option Addr) (i : Nat) (r : Tree) (wr : World) : Prop where
  row : RowT wr (fun k => k < lo) r A i
  wf : wfT r
  sts : stsB r = true
  st : ∃ T' G' vn st', WAt wr T' lo p G' vn st' ∧ Turn (fun _ => True) T w T' wr ∧ Same N G G' ∧ PresS st st' ∧ goS r st' = R
set_option maxHeartbeats 4000000 in
theorem stmts_step {n : Nat} (S : ScSpec n) (hn : n ≤ 1099511627776) {N : Nat} {w : World} {T : Own} {lo p : Nat} {G : Nat → Gh} {vn : Value} {st : StS} (t : Tree) (v : Value) (l : Int) (h : WAt w T lo p G vn st) (hN : N ≤ st.fns.length) (hs : st.stack ≠ []) (ht : SlO w lo t v) (hw : wfT t) (hb : stsB t = true) (hz : szT t ≤ n + 1) (hD : goS t st ≠ .out) :
    Calls Try.prog 34 #[pV p, v, iV l] w (EndsS N T lo p G (goS t st) w) := by
  obtain ⟨A, c, rfl, hr⟩ := ht
  generalize hR : goS t st = R at hD ⊢
  have REL := Lib.hid (StmtsRel.mk hr hw hb ⟨T, G, vn, st, h, Turn.refl _ _ _, Same.refl _ _, PresS.refl _, hR⟩ : StmtsRel N lo p T G w st R A 0 t w)
  have HD := Lib.hid hD
  have hlz := lenT_le t
  have HS := Lib.hid S
  have Hs := Lib.hid hs
  clear h hr hw hb hR hD S hs
  go_enter Try.func34, Try.ntmps34
  go_wp2_with fail
  go_loopg [10] (lenT t) (fun m v wr => ∃ (i : Nat) (r : Tree), v = iV i ∧ i + m = lenT t ∧ lenT r = m ∧ szT r ≤ n + 1 ∧ Hid (StmtsRel N lo p T G w st R A i r wr))
  case atStart => exact ⟨0, t, rfl, by simp, rfl, hz, REL⟩
  case round =>
    obtain ⟨i, r, rfl, him, hlr, hzr, hF⟩ := hrel
    clear REL
    obtain ⟨T1, G1, vn1, st1, hW1, ht1, hS1, hP1, hg1⟩ := hF.out.st
    have hsb := hF.out.sts
    have hwr := hF.out.wf
    have hrw := hF.out.row
    cases gk with
    | zero =>
      have hi : i = lenT t := by omega
      subst hi
      have hok : ResS.ok st1 = R := by
        rw [← hg1]
        cases r with
        | cons a b => simp [lenT] at hlr
        | nil => rfl
        | tx _ => cases hsb
        | ex => cases hsb
        | st => cases hsb
      have HW1 := Lib.hid hW1
      have Ht1 := Lib.hid ht1
      have HS1 := Lib.hid hS1
      have Hok := Lib.hid hok
      clear hW1 ht1 hS1 hok hg1 hP1 hsb hwr hrw
      go_wp2_with fail
      refine bodyPost_end (results_none rfl _ _ _) rfl ?_
      exact ends_ok Hok.out HW1.out Ht1.out HS1.out
    | succ m =>
      cases r with
      | nil => simp [lenT] at hlr
      | tx _ => cases hsb
      | ex => cases hsb
      | st => cases hsb
      | cons x r =>
        cases x with
        | nil => cases hsb
        | tx _ => cases hsb
        | cons => cases hsb
        | ex => cases hsb
        | st k l' s a b' c' x y =>
          obtain ⟨g, z, rfl, hg, hcell, hat, hrow⟩ := hrw
          obtain ⟨gx, hzx⟩ : ∃ gx, z = pV gx := by
            obtain ⟨gx, _, _, _, _, _, _, _, rfl, _⟩ := hat
            exact ⟨gx, rfl⟩
          subst hzx
          have q0 : (0 : Int) ≤ (i : Int) := by omega
          have q1 : (i : Int) < (lenT t : Int) := by omega
          simp only [lenT] at hlr
          simp only [szT] at hzr
          have hR2 : (goS (.st k l' s a b' c' x y) st1).bind (goS r) = R := by rw [← hg1]; rfl
          have hs1 : st1.stack ≠ [] := by rw [hP1.stack]; exact Hs.out
          have C := HS.out.stmt (N := N) (.st k l' s a b' c' x y) (pV gx) l hW1 (Nat.le_trans hN hP1.len) hs1 hat hwr.1 rfl (by simp only [szT]; omega) (fun e => out_elim hR2 HD.out e)
          have HK : ∀ st2, goS (.st k l' s a b' c' x y) st1 = .ok st2 → PresS st1 st2 := goS_keeps _ _
          generalize goS (.st k l' s a b' c' x y) st1 = r1 at C hR2 HK
          have HC := Lib.hid C
          have HKK := Lib.hid HK
          have HR2 := Lib.hid hR2
          have HW1 := Lib.hid hW1
          have Ht1 := Lib.hid ht1
          have HS1 := Lib.hid hS1
          have HP1 := Lib.hid hP1
          have Hrow := Lib.hid hrow
          have Hwr := Lib.hid hwr
          have Hsb := Lib.hid hsb
          clear hW1 ht1 hS1 hg1 hP1 hsb hwr hrow hat C HK hR2 hs1
          go_wp2_with (first
            | (go_at_call 41; (with_reducible refine HC.out.mono ?_); intro e w2 hE; rcases r1 with _ | ⟨cc, ll⟩ | ⟨st2⟩; (· exact hE.elim); (· obtain ⟨b0, T', rfl, hb1, hb2, hb3⟩ := hE; exact ⟨rfl, ends_bad HR2.out (BadS.after ⟨b0, T', rfl, hb1, hb2, hb3⟩ Ht1.out)⟩); obtain ⟨v2, T2, G2, vn2, rfl, rfl, hW2, ht2, hS2⟩ := hE; have HP2 := Lib.hid (HP1.out.trans (HKK.out st2 rfl)); have HR3 := Lib.hid ((tree_turn HW1.out ht2).2 _ _ Hrow.out); have HW2 := Lib.hid hW2; have Ht2 := Lib.hid (Ht1.out.trans ht2); have HS2 := Lib.hid (HS1.out.trans hS2 (Nat.le_refl _)); clear hW2 ht2 hS2))
          go_roundg m
          case measure => omega
          case rel => exact ⟨i + 1, r, by simp, by omega, by omega, by omega, Lib.hid ⟨HR3.out, Hwr.out.2, Hsb.out, T2, G2, vn2, st2, HW2.out, Ht2.out, HS2.out, HP2.out, HR2.out⟩⟩
end Go.Proofs.Ytlbbbfmnghcdnaa
