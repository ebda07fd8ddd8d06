/- operation: its goto loop. -/
import Derived.Test.YtoggkigfijgbfaaGreatDoorZAbb
import Derived.Test.YtoggkigfijgbfaaGreatDoorZC
import Derived.Deep.LoopGhost
import Derived.ScopeJumps
import Derived.Deep.RegionWith
namespace Go.Proofs.YtoggkigfijgbfaaGreatDoor.P5
set_option maxRecDepth 20000
open Go.RowKit Go.Maps

theorem no_fuel {g : Goal} {d : Nat} {ts : List Tok} {R : Res} (h : parseF 0 g d ts = R) (hR : R ≠ .out) : False := hR h.symm
/-- A label that is jumped to, by a number that each jump lowers; the first pass may be handed on to the law of the later ones. -/
theorem wp_scope_ghost {P : Program} {Q : Exit → Act → World → Prop} {a : Act} {w : World} {c rest : Code} (l : Nat) (I : Nat → Act → World → Prop) (hf : findLabel c l = some (.seq .skip rest))
    (first : Hid (∀ n a w, I n a w → rest.wp P (Exit.jump l (fun a' w' => ∃ n, I n a' w') Q) a w) → c.wp P (Exit.jump l (fun a' w' => ∃ n, I n a' w') Q) a w)
    (pass : ∀ n a w, I n a w → rest.wp P (Exit.jump l (fun a' w' => Handed I n a' w') Q) a w) : (Code.scope c).wp P Q a w := by
  have weak : ∀ n a w, I n a w → rest.wp P (Exit.jump l (fun a' w' => ∃ n, I n a' w') Q) a w := by
    intro n a w hI
    refine wp_mono (pass n a w hI) ?_
    intro e a' w' hq
    cases e with
    | goto l' =>
      obtain ⟨rfl, n', _, hI'⟩ := hq
      exact ⟨rfl, n', hI'⟩
    | _ => exact hq
  refine wp_scope_jumps l (fun a w => ∃ n, I n a w) (fun a w => leastOf (fun n => I n a w)) hf (first weak) ?_
  intro a w hI
  refine wp_seq (wp_skip ?_)
  refine wp_mono (pass _ a w (leastOf_spec hI).1) ?_
  intro e a' w' hq
  cases e with
  | goto l' =>
    obtain ⟨rfl, n', hlt, hI'⟩ := hq
    exact ⟨rfl, ⟨n', hI'⟩, Nat.lt_of_le_of_lt ((leastOf_spec ⟨n', hI'⟩).2 n' hI') hlt⟩
  | _ => exact hq
/-- The loop's head. -/
structure OpRel (n p d least : Nat) (w : World) (R : Res) (k : Nat) (ts : List Tok) (x : Tree) (u : Nat) (wr : World) : Prop where
  ve : VE w.heap.size x wr (pV u)
  pat : PAt wr p d ts
  past : Past [p] w wr
  le : k ≤ n
  eq : parseF k (.opLoop least x) d ts = R
theorem look_drew {w : World} {p d : Nat} {ts : List Tok} (h : PAt w p d ts) : ∃ m, w.drew.cell? ⟨p, 2, none⟩ = some (.map (some m)) ∧ (Instr.lookup 60 (.map (some m)) (sV (sgnT ts)) false).run Tryz.prog w.drew = .ok (iV (strengthT (sgnT ts))) w.drew := by
  obtain ⟨g, a, c, m, h'⟩ := h.drew
  exact ⟨m, h'.c2, h'.map.look _ h'.sgn_short⟩
set_option maxHeartbeats 8000000 in
theorem operation_step {n : Nat} (S : ∀ m, m ≤ n → Spec m) {w : World} {p d : Nat} {ts : List Tok} (least : Nat) (k : Int) (hk : k = least) (h : PAt w p d ts) (h1 : 1 ≤ least) (h2 : least ≤ 11) (hD : parseF (n + 1) (.operation least) d ts ≠ .out) :
    Calls Tryz.prog 187 #[pV p, iV k] w (Ends p d [p] (parseF (n + 1) (.operation least) d ts) (VE w.heap.size) w) := by
  subst hk
  have hpl := h.lt
  unfold parseF at hD ⊢
  simp only [] at hD ⊢
  have D0 : parseF n .operand d ts ≠ .out := bind_done hD
  have C0 := Lib.hid (fun (w : World) (h : PAt w p d ts) => (S n (Nat.le_refl _)).operand h D0)
  generalize parseF n .operand d ts = r0 at hD D0 C0 ⊢
  cases r0 with
  | out => exact absurd rfl D0
  | bad c l =>
    clear hD D0 S
    go_enter Tryz.func187, Tryz.ntmps187
    go_wp2
    refine wp_scope_jumps 0 (fun _ _ => False) (fun _ _ => 0) rfl ?_ (fun _ _ hf => hf.elim)
    go_wp2_with (first
      | (go_at_call 229; (with_reducible refine (C0.out _ ?_).mono ?_); (· exact ab1); rintro e wb hB; obtain ⟨b', rfl, hb1, hb2, hb3, hb4⟩ := hB))
    simp only [Exit.jump]
    exact ⟨rfl, b', rfl, Nat.le_trans ab6 hb1, hb2, (ab0 : Past [p] w _).then hb3 (by simp), hb4⟩
  | ok x0 ts0 =>
    rw [ok_bind] at hD ⊢
    generalize hR : parseF n (.opLoop least x0) d ts0 = R at hD ⊢
    replace hR := Lib.hid hR
    have HD := Lib.hid hD
    clear hD D0
    go_enter Tryz.func187, Tryz.ntmps187
    go_wp2
    refine wp_scope_ghost 0 (fun k a' w' => ∃ (ts : List Tok) (x : Tree) (u : Nat) (u2 u3 u4 u6 u7 u8 u9 u10 u11 u12 u13 u14 u15 u16 u17 u18 u19 u20 : Value), a' = { tmps := #[pV p, iV least, u2, u3, u4, pV u, u6, u7, u8, u9, u10, u11, u12, u13, u14, u15, u16, u17, u18, u19, u20], defers := [] } ∧ Hid (OpRel n p d least w R k ts x u w')) rfl ?_ ?_
    · intro PASS
      clear S
      go_wp2_with (first
        | (go_at_call 229; (with_reducible refine (C0.out _ ?_).mono ?_); (· exact ab1); rintro e w0 ⟨v0, rfl, hv0, hp0, hw0⟩; have hz0 := hw0.size; (try simp at hz0); obtain ⟨u0, rfl⟩ := hv0.ptr))
      have REL0 := Lib.hid (OpRel.mk (n := n) hv0 hp0 hw0 (Nat.le_refl n) hR.out : OpRel n p d least w R n ts0 x0 u0 w0)
      clear hv0 hp0 hw0 hR
      go_step3
      go_step
      go_step
      exact PASS.out n _ _ ⟨ts0, x0, u0, _, _, _, _, _, _, _, _, _, _, _, _, _, _, _, _, _, _, rfl, REL0⟩
    · intro gk a' w' hI
      obtain ⟨ts1, x1, u1, u2, u3, u4, u6, u7, u8, u9, u10, u11, u12, u13, u14, u15, u16, u17, u18, u19, u20, rfl, hF⟩ := hI
      clear C0 hR
      cases gk with
      | zero => exact (no_fuel hF.out.eq HD.out).elim
      | succ k =>
        have hpr := hF.out.pat
        have hE := hF.out.eq
        have hle := hF.out.le
        have hzr := hF.out.past.size
        have hve := hF.out.ve
        have LK := look_drew hpr
        obtain ⟨m, l1, l2⟩ := LK
        have hpd := hpr.drew
        have HPD := Lib.hid hpd
        unfold parseF at hE
        simp only [] at hE
        have HS := Lib.hid (S k (by omega))
        clear S
        by_cases kl : least ≤ strengthT (sgnT ts1)
        · rw [if_pos kl] at hE
          have ql : decide ((least : Int) ≤ (strengthT (sgnT ts1) : Int)) = true := decide_eq_true (by omega)
          have D1 : parseF k (.behind x1) d ts1 ≠ .out := fun e => HD.out (by rw [← hE, e]; rfl)
          have C1 := Lib.hid (fun (w2 : World) (h : PAt w2 p d ts1) (hlo : w.heap.size ≤ w2.heap.size) (hv : VE w.heap.size x1 w2 (pV u1)) => HS.out.behind w.heap.size x1 (pV u1) h hpl hlo hv (by omega) D1)
          generalize parseF k (.behind x1) d ts1 = r1 at hE D1 C1
          cases r1 with
          | out => exact absurd rfl D1
          | bad c l =>
            have hE : Res.bad c l = R := hE
            subst hE
            clear D1 HD
            go_wp2_with fail
            go_region_with (go_at_call 84; (with_reducible refine (sign_any hpd).mono ?_); rintro e wz ⟨rfl, hqz⟩; obtain rfl := hqz.symm)
            all_goals
              go_wp2_with (go_at_call 230; (with_reducible refine (C1.out _ hpd (by simpa using hzr) (hve.past ((Past.refl [] _).drew) (by simp) (Nat.le_refl _))).mono ?_); rintro e wb hB; obtain ⟨b', rfl, hb1, hb2, hb3, hb4⟩ := hB)
              simp only [Exit.jump]
              exact ⟨rfl, b', rfl, Nat.le_trans (by simpa using hzr) hb1, hb2, (hF.out.past.drew).then hb3 (by simp), hb4⟩
          | ok x2 ts2 =>
            have hE := Lib.hid (hE : parseF k (.opLoop least x2) d ts2 = R)
            clear D1 HD
            go_wp2_with fail
            go_region_with (go_at_call 84; (with_reducible refine (sign_any hpd).mono ?_); rintro e wz ⟨rfl, hqz⟩; obtain rfl := hqz.symm)
            all_goals
              go_wp2_with (go_at_call 230; (with_reducible refine (C1.out _ hpd (by simpa using hzr) (hve.past ((Past.refl [] _).drew) (by simp) (Nat.le_refl _))).mono ?_); rintro e w2 ⟨v2, rfl, hv2, hp2, hw2⟩; obtain ⟨u2', rfl⟩ := hv2.ptr)
              go_step3
              refine ⟨rfl, Handed.intro k (by omega) ⟨ts2, x2, u2', _, _, _, _, _, _, _, _, _, _, _, _, _, _, _, _, _, _, rfl, Lib.hid (OpRel.mk hv2 hp2 ((hF.out.past.drew).trans hw2) (by omega) hE.out)⟩⟩
        · rw [if_neg kl] at hE
          have ql : decide ((least : Int) ≤ (strengthT (sgnT ts1) : Int)) = false := decide_eq_false (by omega)
          subst hE
          clear HD
          go_wp2_with fail
          go_region_with (go_at_call 84; (with_reducible refine (sign_any hpd).mono ?_); rintro e wz ⟨rfl, hqz⟩; obtain rfl := hqz.symm)
          all_goals
            go_wp2_with fail
            simp only [Exit.jump]
            go_ret
            exact ⟨_, rfl, hve.past ((Past.refl [] _).drew) (by simp) (Nat.le_refl _), hpd, hF.out.past.drew⟩
end Go.Proofs.YtoggkigfijgbfaaGreatDoor.P5
