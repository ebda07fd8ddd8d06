/- postExpr: its loop. -/
import Derived.Test.YtoggkigfijgbfaaGreatDoorZAbb
import Derived.Test.YtoggkigfijgbfaaGreatDoorZC
import Derived.Test.YtoggkigfijgbfaaGreatDoorZParOp
namespace Go.Proofs.YtoggkigfijgbfaaGreatDoor.P5
set_option maxRecDepth 20000
open Go.RowKit Go.Maps

/-- The head of postExpr's loop. -/
structure PostRel (n p d : Nat) (w : World) (R : Res) (k : Nat) (ts : List Tok) (x : Tree) (b : Bool) (u : Nat) (wr : World) : Prop where
  ve : VE w.heap.size x wr (pV u)
  pat : PAt wr p d ts
  past : Past [p] w wr
  le : k ≤ n
  eq : parseF k (.postLoop x b) d ts = R
theorem node_two {lo : Nat} {x1 x2 : Tree} {w1 w2 : World} {p u1 u2 : Nat} (kk l : Int) (T : TypeId) (h1 : VE lo x1 w1 (pV u1)) (hp : Past [p] w1 w2) (hl : p < lo) (h2 : VE w1.heap.size x2 w2 (pV u2)) (hlo : lo ≤ w1.heap.size) :
    VE lo (.ex kk l 0 [] x1 x2 .nil .nil .nil .nil) (w2.alloc (.cells #[iV kk, iV l, iV 0, sV [], pV u1, pV u2, .slice none 0 0, .slice none 0 0, .slice none 0 0, .slice none 0 0] T)) (pV w2.heap.size) := by
  have ha : Past [p] w2 (w2.alloc (.cells #[iV kk, iV l, iV 0, sV [], pV u1, pV u2, .slice none 0 0, .slice none 0 0, .slice none 0 0, .slice none 0 0] T)) := (Past.refl _ _).alloc _
  have hs := hp.size
  exact ⟨at_ex (exC_new _ _ _ _ _ _ _ _ _ _ _ _) ⟨by omega, by simp⟩ (h1.past (hp.trans ha) (by simp; omega) (Nat.le_refl _)).1 (h2.past ha (by simp; omega) hlo).1 (sl_nil _ _) (sl_nil _ _) (sl_nil _ _) (sl_nil _ _), rfl⟩
theorem node_call {lo : Nat} {x1 x2 : Tree} {w1 w2 : World} {p u1 : Nat} {A : Option Addr} {c : Nat} (kk l : Int) (T : TypeId) (h1 : VE lo x1 w1 (pV u1)) (hp : Past [p] w1 w2) (hl : p < lo) (h2 : VL w1.heap.size x2 w2 (.slice A (lenT x2) c)) (hlo : lo ≤ w1.heap.size) :
    VE lo (.ex kk l 0 [] x1 .nil .nil x2 .nil .nil) (w2.alloc (.cells #[iV kk, iV l, iV 0, sV [], pV u1, .pointer none, .slice none 0 0, .slice A (lenT x2) c, .slice none 0 0, .slice none 0 0] T)) (pV w2.heap.size) := by
  have ha : Past [p] w2 (w2.alloc (.cells #[iV kk, iV l, iV 0, sV [], pV u1, .pointer none, .slice none 0 0, .slice A (lenT x2) c, .slice none 0 0, .slice none 0 0] T)) := (Past.refl _ _).alloc _
  have hs := hp.size
  exact ⟨at_ex (exC_new _ _ _ _ _ _ _ _ _ _ _ _) ⟨by omega, by simp⟩ (h1.past (hp.trans ha) (by simp; omega) (Nat.le_refl _)).1 rfl (sl_nil _ _) (h2.past ha (by simp; omega) hlo) (sl_nil _ _) (sl_nil _ _), rfl⟩
set_option maxHeartbeats 4000000 in
theorem postExpr_step {n : Nat} (S : ∀ m, m ≤ n → Spec m) {w : World} {p d : Nat} {ts : List Tok} (h : PAt w p d ts) (hD : parseF (n + 1) .postExpr d ts ≠ .out) :
    Calls Tryz.prog 147 #[pV p] w (Ends p d [p] (parseF (n + 1) .postExpr d ts) (VP w.heap.size) w) := by
  have hpl := h.lt
  unfold parseF at hD ⊢
  simp only [] at hD ⊢
  have D0 : parseF n .primary d ts ≠ .out := bind_done hD
  have C0 := Lib.hid (fun (w : World) (h : PAt w p d ts) => (S n (Nat.le_refl _)).primary h D0)
  generalize parseF n .primary d ts = r0 at hD D0 C0 ⊢
  cases r0 with
  | out => exact absurd rfl D0
  | bad c l =>
    clear hD D0 S
    go_enter Tryz.func147, Tryz.ntmps147
    go_wp2_with (first
      | (go_at_call 191; (with_reducible refine (C0.out _ ?_).mono ?_); (· exact ab1); rintro e wb hB; obtain ⟨b', rfl, hb1, hb2, hb3, hb4⟩ := hB)
      | (go_at_call 84; (with_reducible refine (sign_any (d := d) (ts := ts) ?_).mono ?_); (· exact ab1); rintro e wz ⟨rfl, hqz⟩; obtain rfl := hqz.symm))
    exact ⟨rfl, b', rfl, Nat.le_trans ab6 hb1, hb2, (ab0 : Past [p] w _).then hb3 (by simp), hb4⟩
  | ok x0 ts0 =>
    rw [ok_bind] at hD ⊢
    have hb0 : decide (sgnT ts = [40]) = (sgnT ts == [40]) := by rw [Bool.eq_iff_iff]; simp
    rw [hb0] at hD ⊢
    have hE0 := Lib.hid (rfl : parseF n (.postLoop x0 (sgnT ts == [40])) d ts0 = parseF n (.postLoop x0 (sgnT ts == [40])) d ts0)
    generalize hR : parseF n (.postLoop x0 (sgnT ts == [40])) d ts0 = R at hD ⊢
    replace hR := Lib.hid hR
    have HD := Lib.hid hD
    clear hE0 hD D0 hb0
    go_enter Tryz.func147, Tryz.ntmps147
    go_wp2_with (first
      | (go_at_call 191; (with_reducible refine (C0.out _ ?_).mono ?_); (· exact ab1); rintro e w0 ⟨v0, rfl, hv0, hp0, hw0⟩; have hz0 := hw0.size; (try simp at hz0); obtain ⟨u0, rfl⟩ := hv0.ptr)
      | (go_at_call 84; (with_reducible refine (sign_any (d := d) (ts := ts) ?_).mono ?_); (· exact ab1); rintro e wz ⟨rfl, hqz⟩; obtain rfl := hqz.symm))
    have REL0 := Lib.hid (PostRel.mk (n := n) hv0 hp0 hw0 (Nat.le_refl n) hR.out : PostRel n p d w R n ts0 x0 (sgnT ts == [40]) u0 w0)
    clear hv0 hp0 hw0 hR
    go_loopg [2, 3] n (fun k e enc wr => ∃ (ts : List Tok) (x : Tree) (b : Bool) (u : Nat), enc = .bool b ∧ e = pV u ∧ Hid (PostRel n p d w R k ts x b u wr))
    case atStart => exact ⟨ts0, x0, _, u0, rfl, rfl, REL0⟩
    case round =>
      obtain ⟨ts1, x1, b1, u1, rfl, rfl, hF⟩ := hrel
      clear REL0
      cases gk with
      | zero => exact (no_fuel hF.out.eq HD.out).elim
      | succ k =>
        have hpr := hF.out.pat
        have hE := hF.out.eq
        have hle := hF.out.le
        have hzr := hF.out.past.size
        unfold parseF at hE
        simp only [] at hE
        have SK := S k (by omega)
        have HS := Lib.hid SK
        clear S SK
        by_cases k1 : sgnT ts1 = [91]
        · rw [if_pos k1] at hE
          have q1 := beq_yes k1
          clear k1
          have D1 : parseF k (.enclosed [91] [93]) d ts1 ≠ .out := fun e => HD.out (by rw [← hE, e]; rfl)
          have C1 := Lib.hid (fun (w : World) (h : PAt w p d ts1) => HS.out.enclosed [91] [93] (by decide) (by decide) h D1)
          generalize parseF k (.enclosed [91] [93]) d ts1 = r1 at hE D1 C1
          cases r1 with
          | out => exact absurd rfl D1
          | bad c l =>
            have hE : Res.bad c l = R := hE
            subst hE
            clear D1 HD
            go_wp2_with (first
              | (go_at_call 192; (with_reducible refine (C1.out _ ?_).mono ?_); (· exact ab1); rintro e wb hB; obtain ⟨b', rfl, hb1, hb2, hb3, hb4⟩ := hB)
              | (go_at_call 84; (with_reducible refine (sign_any (d := d) (ts := ts1) ?_).mono ?_); (· exact ab1); rintro e wz ⟨rfl, hqz⟩; obtain rfl := hqz.symm)
              | (go_at_call 49; (with_reducible refine (line_any (d := d) (ts := ts1) ?_).mono ?_); (· exact ab1); rintro e wz ⟨rfl, hqz⟩; obtain rfl := hqz.symm))
            exact ⟨rfl, b', rfl, Nat.le_trans ab6 hb1, hb2, (hF.out.past.trans ab0).then hb3 (by simp), hb4⟩
          | ok x2 ts2 =>
            have hE := Lib.hid (hE : parseF k (.postLoop (.ex 7 (linT ts1) 0 [] x1 x2 .nil .nil .nil .nil) false) d ts2 = R)
            clear D1
            go_wp2_with (first
              | (go_at_call 192; (with_reducible refine (C1.out _ ?_).mono ?_); (· exact ab1); rintro e w2 ⟨v2, rfl, hv2, hp2, hw2⟩; have hz2 := hw2.size; (try simp at hz2); obtain ⟨u2, rfl⟩ := hv2.ptr)
              | (go_at_call 84; (with_reducible refine (sign_any (d := d) (ts := ts1) ?_).mono ?_); (· exact ab1); rintro e wz ⟨rfl, hqz⟩; obtain rfl := hqz.symm)
              | (go_at_call 49; (with_reducible refine (line_any (d := d) (ts := ts1) ?_).mono ?_); (· exact ab1); rintro e wz ⟨rfl, hqz⟩; obtain rfl := hqz.symm))
            go_roundg k
            case measure => omega
            case rel => exact ⟨ts2, _, false, _, rfl, rfl, Lib.hid (PostRel.mk (node_two 7 (linT ts1) _ hF.out.ve hw2 hpl hv2 hzr) (hp2.alloc _) (hF.out.past.trans ab0) (by omega) hE.out)⟩
        · rw [if_neg k1] at hE
          have q1 := beq_no k1
          by_cases k2 : sgnT ts1 = [46]
          · rw [if_pos k2] at hE
            have q2 := beq_yes k2
            have hk : (hdT ts1).kind ≠ 5 := by have := (sgn_sign (ts := ts1) (by rw [k2]; decide)).1; omega
            have CT := Lib.hid (fun (w : World) (h : PAt w p d ts1) => take_any h hk)
            clear k1 k2 hk
            have D1 : namedT 5 ts1.tail ≠ .out := fun e => HD.out (by rw [← hE, e]; rfl)
            have C1 := Lib.hid (fun (w : World) (h : PAt w p d ts1.tail) => named_any 5 h)
            generalize namedT 5 ts1.tail = r1 at hE D1 C1
            cases r1 with
            | out => exact absurd rfl D1
            | bad c l =>
              have hE : Res.bad c l = R := hE
              subst hE
              clear D1 HD
              go_wp2_with (first
                | (go_at_call 141; (with_reducible refine (CT.out _ ?_).mono ?_); (· exact ab1); rintro e w9 ⟨rfl, hp9, hw9⟩; have hz9 := hw9.size; (try simp at hz9))
                | (go_at_call 145; (with_reducible refine (C1.out _ ?_).mono ?_); (· exact ab1); rintro e wb hB; obtain ⟨b', rfl, hb1, hb2, hb3, hb4⟩ := hB)
                | (go_at_call 84; (with_reducible refine (sign_any (d := d) (ts := ts1) ?_).mono ?_); (· exact ab1); rintro e wz ⟨rfl, hqz⟩; obtain rfl := hqz.symm)
                | (go_at_call 49; (with_reducible refine (line_any (d := d) (ts := ts1) ?_).mono ?_); (· exact ab1); rintro e wz ⟨rfl, hqz⟩; obtain rfl := hqz.symm))
              exact ⟨rfl, b', rfl, Nat.le_trans ab6 hb1, hb2, (hF.out.past.trans ab0).then hb3 (by simp), hb4⟩
            | ok x2 ts2 =>
              have hE := Lib.hid (hE : parseF k (.postLoop (.ex 7 (linT ts1) 0 [] x1 x2 .nil .nil .nil .nil) false) d ts2 = R)
              clear D1
              go_wp2_with (first
                | (go_at_call 141; (with_reducible refine (CT.out _ ?_).mono ?_); (· exact ab1); rintro e w9 ⟨rfl, hp9, hw9⟩; have hz9 := hw9.size; (try simp at hz9))
                | (go_at_call 145; (with_reducible refine (C1.out _ ?_).mono ?_); (· exact ab1); rintro e w2 ⟨v2, rfl, hv2, hp2, hw2⟩; have hz2 := hw2.size; (try simp at hz2); obtain ⟨u2, rfl⟩ := hv2.ptr)
                | (go_at_call 84; (with_reducible refine (sign_any (d := d) (ts := ts1) ?_).mono ?_); (· exact ab1); rintro e wz ⟨rfl, hqz⟩; obtain rfl := hqz.symm)
                | (go_at_call 49; (with_reducible refine (line_any (d := d) (ts := ts1) ?_).mono ?_); (· exact ab1); rintro e wz ⟨rfl, hqz⟩; obtain rfl := hqz.symm))
              go_roundg k
              case measure => omega
              case rel => exact ⟨ts2, _, false, _, rfl, rfl, Lib.hid (PostRel.mk (node_two 7 (linT ts1) _ (hF.out.ve.past hw9 ab2 (Nat.le_refl _)) hw2 hpl hv2 ab2) (hp2.alloc _) (hF.out.past.trans ab0) (by omega) hE.out)⟩
          · rw [if_neg k2] at hE
            have q2 := beq_no k2
            by_cases k3 : sgnT ts1 = [40]
            · rw [if_pos k3] at hE
              have q3 := beq_yes k3
              clear k1 k2 k3
              have D1 : parseF k (.list [40] [41] 0) d ts1 ≠ .out := fun e => HD.out (by rw [← hE, e]; rfl)
              have C1 := Lib.hid (fun (w : World) (h : PAt w p d ts1) => HS.out.args h D1)
              generalize parseF k (.list [40] [41] 0) d ts1 = r1 at hE D1 C1
              cases r1 with
              | out => exact absurd rfl D1
              | bad c l =>
                have hE : Res.bad c l = R := hE
                subst hE
                clear D1 HD
                go_wp2_with (first
                  | (go_at_call 193; (with_reducible refine (C1.out _ ?_).mono ?_); (· exact ab1); rintro e wb hB; obtain ⟨b', rfl, hb1, hb2, hb3, hb4⟩ := hB)
                  | (go_at_call 84; (with_reducible refine (sign_any (d := d) (ts := ts1) ?_).mono ?_); (· exact ab1); rintro e wz ⟨rfl, hqz⟩; obtain rfl := hqz.symm)
                  | (go_at_call 49; (with_reducible refine (line_any (d := d) (ts := ts1) ?_).mono ?_); (· exact ab1); rintro e wz ⟨rfl, hqz⟩; obtain rfl := hqz.symm))
                exact ⟨rfl, b', rfl, Nat.le_trans ab6 hb1, hb2, (hF.out.past.trans ab0).then hb3 (by simp), hb4⟩
              | ok x2 ts2 =>
                have hE := Lib.hid (hE : parseF k (.postLoop (.ex 8 (linT ts1) 0 [] x1 .nil .nil x2 .nil .nil) false) d ts2 = R)
                clear D1
                go_wp2_with (first
                  | (go_at_call 193; (with_reducible refine (C1.out _ ?_).mono ?_); (· exact ab1); rintro e w2 ⟨v2, rfl, hv2, hp2, hw2⟩; have hz2 := hw2.size; (try simp at hz2); obtain ⟨A2, c2, rfl⟩ := hv2.sl)
                  | (go_at_call 84; (with_reducible refine (sign_any (d := d) (ts := ts1) ?_).mono ?_); (· exact ab1); rintro e wz ⟨rfl, hqz⟩; obtain rfl := hqz.symm)
                  | (go_at_call 49; (with_reducible refine (line_any (d := d) (ts := ts1) ?_).mono ?_); (· exact ab1); rintro e wz ⟨rfl, hqz⟩; obtain rfl := hqz.symm))
                go_roundg k
                case measure => omega
                case rel => exact ⟨ts2, _, false, _, rfl, rfl, Lib.hid (PostRel.mk (node_call 8 (linT ts1) _ hF.out.ve hw2 hpl hv2 hzr) (hp2.alloc _) (hF.out.past.trans ab0) (by omega) hE.out)⟩
            · rw [if_neg k3] at hE
              have q3 := beq_no k3
              subst hE
              clear k1 k2 k3 HD
              go_wp2_with (first
                | (go_at_call 84; (with_reducible refine (sign_any (d := d) (ts := ts1) ?_).mono ?_); (· exact ab1); rintro e wz ⟨rfl, hqz⟩; obtain rfl := hqz.symm)
                | (go_at_call 49; (with_reducible refine (line_any (d := d) (ts := ts1) ?_).mono ?_); (· exact ab1); rintro e wz ⟨rfl, hqz⟩; obtain rfl := hqz.symm))
              go_ret2
              exact ⟨_, rfl, ⟨x1, b1, _, rfl, rfl, hF.out.ve⟩, hpr, hF.out.past⟩
end Go.Proofs.YtoggkigfijgbfaaGreatDoor.P5
