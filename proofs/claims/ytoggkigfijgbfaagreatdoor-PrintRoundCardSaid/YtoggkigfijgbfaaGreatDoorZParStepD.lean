/- The contracts at a fuel and one: stmt. -/
import Derived.Test.YtoggkigfijgbfaaGreatDoorZAbb
import Derived.Test.YtoggkigfijgbfaaGreatDoorZC
namespace Go.Proofs.YtoggkigfijgbfaaGreatDoor.P5
set_option maxRecDepth 20000
open Go.RowKit Go.Maps
set_option maxHeartbeats 8000000 in
theorem stmt_step {n : Nat} (S : Spec n) {w : World} {p d : Nat} {ts : List Tok} (h : PAt w p d ts) (hD : parseF (n + 1) (.stmt) d ts ≠ .out) :
    Calls Tryz.prog 48 #[pV p] w (Ends p d [p] (parseF (n + 1) (.stmt) d ts) (VS w.heap.size) w) := by
  have hpl := h.lt
  unfold parseF at hD ⊢
  simp only [] at hD ⊢
  have hX := stC_new w 0 (linT ts) [] (.pointer none) (.pointer none) (.pointer none) (.slice none 0 0) (.slice none 0 0) 51
  have hXN : NewSt (w.alloc (.cells #[iV 0, iV (linT ts), sV [], .pointer none, .pointer none, .pointer none, .slice none 0 0, .slice none 0 0] 51)) w.heap.size (linT ts) := hX
  have hX0 := hX.c0
  have hXl : w.heap.size < (w.alloc (.cells #[iV 0, iV (linT ts), sV [], .pointer none, .pointer none, .pointer none, .slice none 0 0, .slice none 0 0] 51)).heap.size := hX.lt
  by_cases klocal : sgnT ts = [108, 111, 99, 97, 108]
  · rw [if_pos klocal] at hD ⊢
    have qlocal := beq_yes klocal
    have D0 : parseF n (.local_ (linT ts)) d ts ≠ .out := hD
    have C0 := Lib.hid (fun (w' : World) (h : PAt w' p d ts) (hN : NewSt w' w.heap.size (linT ts)) => S.local_ h hpl hN D0)
    generalize parseF n (.local_ (linT ts)) d ts = r0 at hD D0 C0 ⊢
    cases r0 with
    | out => exact absurd rfl D0
    | bad c l =>
      clear hD D0 S klocal
      go_enter Tryz.func48, Tryz.ntmps48
      go_wp2_with (first
        | (go_at_call 85; (with_reducible refine (C0.out _ ?_ ?_).mono ?_); (· exact ab1); (· exact hXN); rintro e wb hB; obtain ⟨b', rfl, hb1, hb2, hb3, hb4⟩ := hB)
        | (go_at_call 84; (with_reducible refine (sign_any (d := d) (ts := ts) ?_).mono ?_); (· exact ab1); rintro e wz ⟨rfl, hqz⟩; obtain rfl := hqz.symm)
        | (go_at_call 49; (with_reducible refine (line_any (d := d) (ts := ts) ?_).mono ?_); (· exact ab1); rintro e wz ⟨rfl, hqz⟩; obtain rfl := hqz.symm))
      exact ⟨rfl, b', rfl, Nat.le_trans ab6 hb1, hb2, ((Past.refl [p] w).alloc _).then hb3 ab17, hb4⟩
    | ok x0 ts0 =>
      clear hD D0 S klocal
      go_enter Tryz.func48, Tryz.ntmps48
      go_wp2_with (first
        | (go_at_call 85; (with_reducible refine (C0.out _ ?_ ?_).mono ?_); (· exact ab1); (· exact hXN); rintro e w0 ⟨v0, rfl, ⟨rfl, hv0, hs0⟩, hp0, hw0⟩)
        | (go_at_call 84; (with_reducible refine (sign_any (d := d) (ts := ts) ?_).mono ?_); (· exact ab1); rintro e wz ⟨rfl, hqz⟩; obtain rfl := hqz.symm)
        | (go_at_call 49; (with_reducible refine (line_any (d := d) (ts := ts) ?_).mono ?_); (· exact ab1); rintro e wz ⟨rfl, hqz⟩; obtain rfl := hqz.symm))
      go_ret
      exact ⟨_, rfl, ⟨hv0, hs0⟩, hp0, ((Past.refl [p] w).alloc _).then hw0 ab17⟩
  · rw [if_neg klocal] at hD ⊢
    have qlocal := beq_no klocal
    by_cases kdo : sgnT ts = [100, 111]
    · rw [if_pos kdo] at hD ⊢
      have qdo := beq_yes kdo
      have D0 : parseF n (.block [100, 111]) (d) ts ≠ .out := bind_done hD
      have C0 := Lib.hid (fun (w : World) (h : PAt w p (d) ts) => S.block [100, 111] (by decide) h D0)
      generalize parseF n (.block [100, 111]) (d) ts = r0 at hD D0 C0 ⊢
      cases r0 with
      | out => exact absurd rfl D0
      | bad c l =>
        clear hD D0 S klocal kdo
        go_enter Tryz.func48, Tryz.ntmps48
        go_wp2_with (first
          | (go_at_call 86; (with_reducible refine (C0.out _ ?_).mono ?_); (· exact ab1); rintro e wb hB; obtain ⟨b', rfl, hb1, hb2, hb3, hb4⟩ := hB)
          | (go_at_call 84; (with_reducible refine (sign_any (d := d) (ts := ts) ?_).mono ?_); (· exact ab1); rintro e wz ⟨rfl, hqz⟩; obtain rfl := hqz.symm)
          | (go_at_call 49; (with_reducible refine (line_any (d := d) (ts := ts) ?_).mono ?_); (· exact ab1); rintro e wz ⟨rfl, hqz⟩; obtain rfl := hqz.symm))
        exact ⟨rfl, b', rfl, Nat.le_trans ab6 hb1, hb2, (ab0 : Past [p] w _).then hb3 (by simp), hb4⟩
      | ok x0 ts0 =>
        rw [ok_bind] at hD ⊢
        have D1 : wantT [101, 110, 100] ts0 ≠ .out := bind_done hD
        have C1 := Lib.hid (fun (w : World) (h : PAt w p (d) ts0) => want_any [101, 110, 100] (by decide) h)
        generalize wantT [101, 110, 100] ts0 = r1 at hD D1 C1 ⊢
        cases r1 with
        | out => exact absurd rfl D1
        | bad c l =>
          clear hD D1 S D0 klocal kdo
          go_enter Tryz.func48, Tryz.ntmps48
          go_wp2_with (first
            | (go_at_call 86; (with_reducible refine (C0.out _ ?_).mono ?_); (· exact ab1); rintro e w0 ⟨v0, rfl, hv0, hp0, hw0⟩; obtain ⟨A0, k0, rfl⟩ := hv0.sl; have hN := hX.keep (hw0.block _ hXl ab2); have q0 := hN.c0; have f0 := hN.warm 0; have q6 := hN.c6; have f6 := hN.warm 6; have hz0 := hw0.size; (try simp at hz0))
            | (go_at_call 87; (with_reducible refine (C1.out _ ?_).mono ?_); (· exact ab1); rintro e wb hB; obtain ⟨b', rfl, hb1, hb2, hb3, hb4⟩ := hB)
            | (go_at_call 84; (with_reducible refine (sign_any (d := d) (ts := ts) ?_).mono ?_); (· exact ab1); rintro e wz ⟨rfl, hqz⟩; obtain rfl := hqz.symm)
            | (go_at_call 49; (with_reducible refine (line_any (d := d) (ts := ts) ?_).mono ?_); (· exact ab1); rintro e wz ⟨rfl, hqz⟩; obtain rfl := hqz.symm))
          exact ⟨rfl, b', rfl, Nat.le_trans ab6 hb1, hb2, (ab0 : Past [p] w _).then hb3 (by simp), hb4⟩
        | ok x1 ts1 =>
          rw [ok_bind] at hD ⊢
          clear hD S D0 D1 klocal kdo
          go_enter Tryz.func48, Tryz.ntmps48
          go_wp2_with (first
            | (go_at_call 86; (with_reducible refine (C0.out _ ?_).mono ?_); (· exact ab1); rintro e w0 ⟨v0, rfl, hv0, hp0, hw0⟩; obtain ⟨A0, k0, rfl⟩ := hv0.sl; have hN := hX.keep (hw0.block _ hXl ab2); have q0 := hN.c0; have f0 := hN.warm 0; have q6 := hN.c6; have f6 := hN.warm 6; have hz0 := hw0.size; (try simp at hz0))
            | (go_at_call 87; (with_reducible refine (C1.out _ ?_).mono ?_); (· exact ab1); rintro e w1 ⟨v1, rfl, rfl, hp1, hw1⟩; have hN := ((hN.set0 4).set6 (.slice A0 (lenT x0) k0)).keep (hw1.block _ (by first | exact hN.lt | (simp; exact hN.lt)) ab2); have hz1 := hw1.size; (try simp at hz1))
            | (go_at_call 84; (with_reducible refine (sign_any (d := d) (ts := ts) ?_).mono ?_); (· exact ab1); rintro e wz ⟨rfl, hqz⟩; obtain rfl := hqz.symm)
            | (go_at_call 49; (with_reducible refine (line_any (d := d) (ts := ts) ?_).mono ?_); (· exact ab1); rintro e wz ⟨rfl, hqz⟩; obtain rfl := hqz.symm))
          go_ret
          exact ⟨_, rfl, ⟨at_st hN ⟨Nat.le_refl _, hN.lt⟩ rfl rfl rfl (hv0.past (lo' := w.heap.size) (ab0 : Past [p, w.heap.size] w0 _) ab2 ab2) (sl_nil _ _), rfl⟩, ab11, ab0⟩
    · rw [if_neg kdo] at hD ⊢
      have qdo := beq_no kdo
      by_cases kwhile : sgnT ts = [119, 104, 105, 108, 101]
      · rw [if_pos kwhile] at hD ⊢
        have qwhile := beq_yes kwhile
        have D0 : parseF n (.while_ (linT ts)) d ts ≠ .out := hD
        have C0 := Lib.hid (fun (w' : World) (h : PAt w' p d ts) (hN : NewSt w' w.heap.size (linT ts)) => S.while_ h hpl hN D0)
        generalize parseF n (.while_ (linT ts)) d ts = r0 at hD D0 C0 ⊢
        cases r0 with
        | out => exact absurd rfl D0
        | bad c l =>
          clear hD D0 S klocal kdo kwhile
          go_enter Tryz.func48, Tryz.ntmps48
          go_wp2_with (first
            | (go_at_call 88; (with_reducible refine (C0.out _ ?_ ?_).mono ?_); (· exact ab1); (· exact hXN); rintro e wb hB; obtain ⟨b', rfl, hb1, hb2, hb3, hb4⟩ := hB)
            | (go_at_call 84; (with_reducible refine (sign_any (d := d) (ts := ts) ?_).mono ?_); (· exact ab1); rintro e wz ⟨rfl, hqz⟩; obtain rfl := hqz.symm)
            | (go_at_call 49; (with_reducible refine (line_any (d := d) (ts := ts) ?_).mono ?_); (· exact ab1); rintro e wz ⟨rfl, hqz⟩; obtain rfl := hqz.symm))
          exact ⟨rfl, b', rfl, Nat.le_trans ab6 hb1, hb2, ((Past.refl [p] w).alloc _).then hb3 ab17, hb4⟩
        | ok x0 ts0 =>
          clear hD D0 S klocal kdo kwhile
          go_enter Tryz.func48, Tryz.ntmps48
          go_wp2_with (first
            | (go_at_call 88; (with_reducible refine (C0.out _ ?_ ?_).mono ?_); (· exact ab1); (· exact hXN); rintro e w0 ⟨v0, rfl, ⟨rfl, hv0, hs0⟩, hp0, hw0⟩)
            | (go_at_call 84; (with_reducible refine (sign_any (d := d) (ts := ts) ?_).mono ?_); (· exact ab1); rintro e wz ⟨rfl, hqz⟩; obtain rfl := hqz.symm)
            | (go_at_call 49; (with_reducible refine (line_any (d := d) (ts := ts) ?_).mono ?_); (· exact ab1); rintro e wz ⟨rfl, hqz⟩; obtain rfl := hqz.symm))
          go_ret
          exact ⟨_, rfl, ⟨hv0, hs0⟩, hp0, ((Past.refl [p] w).alloc _).then hw0 ab17⟩
      · rw [if_neg kwhile] at hD ⊢
        have qwhile := beq_no kwhile
        by_cases kfor : sgnT ts = [102, 111, 114]
        · rw [if_pos kfor] at hD ⊢
          have qfor := beq_yes kfor
          have D0 : parseF n (.count (linT ts)) d ts ≠ .out := hD
          have C0 := Lib.hid (fun (w' : World) (h : PAt w' p d ts) (hN : NewSt w' w.heap.size (linT ts)) => S.count h hpl hN D0)
          generalize parseF n (.count (linT ts)) d ts = r0 at hD D0 C0 ⊢
          cases r0 with
          | out => exact absurd rfl D0
          | bad c l =>
            clear hD D0 S klocal kdo kwhile kfor
            go_enter Tryz.func48, Tryz.ntmps48
            go_wp2_with (first
              | (go_at_call 89; (with_reducible refine (C0.out _ ?_ ?_).mono ?_); (· exact ab1); (· exact hXN); rintro e wb hB; obtain ⟨b', rfl, hb1, hb2, hb3, hb4⟩ := hB)
              | (go_at_call 84; (with_reducible refine (sign_any (d := d) (ts := ts) ?_).mono ?_); (· exact ab1); rintro e wz ⟨rfl, hqz⟩; obtain rfl := hqz.symm)
              | (go_at_call 49; (with_reducible refine (line_any (d := d) (ts := ts) ?_).mono ?_); (· exact ab1); rintro e wz ⟨rfl, hqz⟩; obtain rfl := hqz.symm))
            exact ⟨rfl, b', rfl, Nat.le_trans ab6 hb1, hb2, ((Past.refl [p] w).alloc _).then hb3 ab17, hb4⟩
          | ok x0 ts0 =>
            clear hD D0 S klocal kdo kwhile kfor
            go_enter Tryz.func48, Tryz.ntmps48
            go_wp2_with (first
              | (go_at_call 89; (with_reducible refine (C0.out _ ?_ ?_).mono ?_); (· exact ab1); (· exact hXN); rintro e w0 ⟨v0, rfl, ⟨rfl, hv0, hs0⟩, hp0, hw0⟩)
              | (go_at_call 84; (with_reducible refine (sign_any (d := d) (ts := ts) ?_).mono ?_); (· exact ab1); rintro e wz ⟨rfl, hqz⟩; obtain rfl := hqz.symm)
              | (go_at_call 49; (with_reducible refine (line_any (d := d) (ts := ts) ?_).mono ?_); (· exact ab1); rintro e wz ⟨rfl, hqz⟩; obtain rfl := hqz.symm))
            go_ret
            exact ⟨_, rfl, ⟨hv0, hs0⟩, hp0, ((Past.refl [p] w).alloc _).then hw0 ab17⟩
        · rw [if_neg kfor] at hD ⊢
          have qfor := beq_no kfor
          by_cases kif : sgnT ts = [105, 102]
          · rw [if_pos kif] at hD ⊢
            have qif := beq_yes kif
            have D0 : parseF n (.choice [105, 102] (linT ts)) d ts ≠ .out := hD
            have C0 := Lib.hid (fun (w' : World) (h : PAt w' p d ts) (hN : NewSt w' w.heap.size (linT ts)) => S.choice h hpl hN D0)
            generalize parseF n (.choice [105, 102] (linT ts)) d ts = r0 at hD D0 C0 ⊢
            cases r0 with
            | out => exact absurd rfl D0
            | bad c l =>
              clear hD D0 S klocal kdo kwhile kfor kif
              go_enter Tryz.func48, Tryz.ntmps48
              go_wp2_with (first
                | (go_at_call 90; (with_reducible refine (C0.out _ ?_ ?_).mono ?_); (· exact ab1); (· exact hXN); rintro e wb hB; obtain ⟨b', rfl, hb1, hb2, hb3, hb4⟩ := hB)
                | (go_at_call 84; (with_reducible refine (sign_any (d := d) (ts := ts) ?_).mono ?_); (· exact ab1); rintro e wz ⟨rfl, hqz⟩; obtain rfl := hqz.symm)
                | (go_at_call 49; (with_reducible refine (line_any (d := d) (ts := ts) ?_).mono ?_); (· exact ab1); rintro e wz ⟨rfl, hqz⟩; obtain rfl := hqz.symm))
              exact ⟨rfl, b', rfl, Nat.le_trans ab6 hb1, hb2, ((Past.refl [p] w).alloc _).then hb3 ab17, hb4⟩
            | ok x0 ts0 =>
              clear hD D0 S klocal kdo kwhile kfor kif
              go_enter Tryz.func48, Tryz.ntmps48
              go_wp2_with (first
                | (go_at_call 90; (with_reducible refine (C0.out _ ?_ ?_).mono ?_); (· exact ab1); (· exact hXN); rintro e w0 ⟨v0, rfl, ⟨rfl, hv0, hs0⟩, hp0, hw0⟩)
                | (go_at_call 84; (with_reducible refine (sign_any (d := d) (ts := ts) ?_).mono ?_); (· exact ab1); rintro e wz ⟨rfl, hqz⟩; obtain rfl := hqz.symm)
                | (go_at_call 49; (with_reducible refine (line_any (d := d) (ts := ts) ?_).mono ?_); (· exact ab1); rintro e wz ⟨rfl, hqz⟩; obtain rfl := hqz.symm))
              go_ret
              exact ⟨_, rfl, ⟨hv0, hs0⟩, hp0, ((Past.refl [p] w).alloc _).then hw0 ab17⟩
          · rw [if_neg kif] at hD ⊢
            have qif := beq_no kif
            by_cases kreturn : sgnT ts = [114, 101, 116, 117, 114, 110]
            · rw [if_pos kreturn] at hD ⊢
              have qreturn := beq_yes kreturn
              have D0 : parseF n (.result (linT ts)) d ts ≠ .out := hD
              have C0 := Lib.hid (fun (w' : World) (h : PAt w' p d ts) (hN : NewSt w' w.heap.size (linT ts)) => S.result h hpl hN D0)
              generalize parseF n (.result (linT ts)) d ts = r0 at hD D0 C0 ⊢
              cases r0 with
              | out => exact absurd rfl D0
              | bad c l =>
                clear hD D0 S klocal kdo kwhile kfor kif kreturn
                go_enter Tryz.func48, Tryz.ntmps48
                go_wp2_with (first
                  | (go_at_call 91; (with_reducible refine (C0.out _ ?_ ?_).mono ?_); (· exact ab1); (· exact hXN); rintro e wb hB; obtain ⟨b', rfl, hb1, hb2, hb3, hb4⟩ := hB)
                  | (go_at_call 84; (with_reducible refine (sign_any (d := d) (ts := ts) ?_).mono ?_); (· exact ab1); rintro e wz ⟨rfl, hqz⟩; obtain rfl := hqz.symm)
                  | (go_at_call 49; (with_reducible refine (line_any (d := d) (ts := ts) ?_).mono ?_); (· exact ab1); rintro e wz ⟨rfl, hqz⟩; obtain rfl := hqz.symm))
                exact ⟨rfl, b', rfl, Nat.le_trans ab6 hb1, hb2, ((Past.refl [p] w).alloc _).then hb3 ab17, hb4⟩
              | ok x0 ts0 =>
                clear hD D0 S klocal kdo kwhile kfor kif kreturn
                go_enter Tryz.func48, Tryz.ntmps48
                go_wp2_with (first
                  | (go_at_call 91; (with_reducible refine (C0.out _ ?_ ?_).mono ?_); (· exact ab1); (· exact hXN); rintro e w0 ⟨v0, rfl, ⟨rfl, hv0, hs0⟩, hp0, hw0⟩)
                  | (go_at_call 84; (with_reducible refine (sign_any (d := d) (ts := ts) ?_).mono ?_); (· exact ab1); rintro e wz ⟨rfl, hqz⟩; obtain rfl := hqz.symm)
                  | (go_at_call 49; (with_reducible refine (line_any (d := d) (ts := ts) ?_).mono ?_); (· exact ab1); rintro e wz ⟨rfl, hqz⟩; obtain rfl := hqz.symm))
                go_ret
                exact ⟨_, rfl, ⟨hv0, hs0⟩, hp0, ((Past.refl [p] w).alloc _).then hw0 ab17⟩
            · rw [if_neg kreturn] at hD ⊢
              have qreturn := beq_no kreturn
              by_cases kbreak : sgnT ts = [98, 114, 101, 97, 107]
              · rw [if_pos kbreak] at hD ⊢
                have qbreak := beq_yes kbreak
                have CW := Lib.hid (fun (w' : World) (h : PAt w' p d ts) => want_any [98, 114, 101, 97, 107] (by decide) h)
                have hwt : wantT [98, 114, 101, 97, 107] ts = .ok .nil ts.tail := by unfold wantT; rw [if_pos kbreak]
                rw [hwt] at CW
                clear hwt
                clear hD S klocal kdo kwhile kfor kif kreturn kbreak
                go_enter Tryz.func48, Tryz.ntmps48
                go_wp2_with (first
                  | (go_at_call 87; (with_reducible refine (CW.out _ ?_).mono ?_); (· exact ab1); rintro e w0 ⟨v0, rfl, rfl, hp0, hw0⟩; have hN := hX.keep (hw0.block _ hXl ab2); have q0 := hN.c0; have f0 := hN.warm 0)
                  | (go_at_call 84; (with_reducible refine (sign_any (d := d) (ts := ts) ?_).mono ?_); (· exact ab1); rintro e wz ⟨rfl, hqz⟩; obtain rfl := hqz.symm)
                  | (go_at_call 49; (with_reducible refine (line_any (d := d) (ts := ts) ?_).mono ?_); (· exact ab1); rintro e wz ⟨rfl, hqz⟩; obtain rfl := hqz.symm))
                go_ret
                exact ⟨_, rfl, ⟨at_st (hN.set0 9) ⟨Nat.le_refl _, (hN.set0 9).lt⟩ rfl rfl rfl (sl_nil _ _) (sl_nil _ _), rfl⟩, ab11, ab0⟩
              · rw [if_neg kbreak] at hD ⊢
                have qbreak := beq_no kbreak
                by_cases ktry : sgnT ts = [116, 114, 121]
                · rw [if_pos ktry] at hD ⊢
                  have qtry := beq_yes ktry
                  have D0 : parseF n (.try_ (linT ts)) d ts ≠ .out := hD
                  have C0 := Lib.hid (fun (w' : World) (h : PAt w' p d ts) (hN : NewSt w' w.heap.size (linT ts)) => S.try_ h hpl hN D0)
                  generalize parseF n (.try_ (linT ts)) d ts = r0 at hD D0 C0 ⊢
                  cases r0 with
                  | out => exact absurd rfl D0
                  | bad c l =>
                    clear hD D0 S klocal kdo kwhile kfor kif kreturn kbreak ktry
                    go_enter Tryz.func48, Tryz.ntmps48
                    go_wp2_with (first
                      | (go_at_call 92; (with_reducible refine (C0.out _ ?_ ?_).mono ?_); (· exact ab1); (· exact hXN); rintro e wb hB; obtain ⟨b', rfl, hb1, hb2, hb3, hb4⟩ := hB)
                      | (go_at_call 84; (with_reducible refine (sign_any (d := d) (ts := ts) ?_).mono ?_); (· exact ab1); rintro e wz ⟨rfl, hqz⟩; obtain rfl := hqz.symm)
                      | (go_at_call 49; (with_reducible refine (line_any (d := d) (ts := ts) ?_).mono ?_); (· exact ab1); rintro e wz ⟨rfl, hqz⟩; obtain rfl := hqz.symm))
                    exact ⟨rfl, b', rfl, Nat.le_trans ab6 hb1, hb2, ((Past.refl [p] w).alloc _).then hb3 ab17, hb4⟩
                  | ok x0 ts0 =>
                    clear hD D0 S klocal kdo kwhile kfor kif kreturn kbreak ktry
                    go_enter Tryz.func48, Tryz.ntmps48
                    go_wp2_with (first
                      | (go_at_call 92; (with_reducible refine (C0.out _ ?_ ?_).mono ?_); (· exact ab1); (· exact hXN); rintro e w0 ⟨v0, rfl, ⟨rfl, hv0, hs0⟩, hp0, hw0⟩)
                      | (go_at_call 84; (with_reducible refine (sign_any (d := d) (ts := ts) ?_).mono ?_); (· exact ab1); rintro e wz ⟨rfl, hqz⟩; obtain rfl := hqz.symm)
                      | (go_at_call 49; (with_reducible refine (line_any (d := d) (ts := ts) ?_).mono ?_); (· exact ab1); rintro e wz ⟨rfl, hqz⟩; obtain rfl := hqz.symm))
                    go_ret
                    exact ⟨_, rfl, ⟨hv0, hs0⟩, hp0, ((Past.refl [p] w).alloc _).then hw0 ab17⟩
                · rw [if_neg ktry] at hD ⊢
                  have qtry := beq_no ktry
                  have h' := h
                  obtain ⟨g, oo, c, m, h'⟩ := h'
                  have hpc := h'.c0
                  have hg : g < w.heap.size := by have := h'.gp; omega
                  by_cases kf : sgnT ts = [102, 117, 110, 99, 116, 105, 111, 110]
                  · have qf := beq_yes kf
                    obtain ⟨hl2, hs⟩ := h'.second (by have := (sgn_sign (ts := ts) (by rw [kf]; decide)).1; omega)
                    have s0 := hs.c0
                    have hb1 : (1 : Int) < (ts.length : Int) := by omega
                    by_cases k2 : (secondT ts).kind = 1
                    · have q2 : (((secondT ts).kind : Int) == 1) = true := by rw [k2]; rfl
                      rw [if_pos ⟨kf, k2⟩] at hD ⊢
                      have D0 : parseF n .namedFunction d ts ≠ .out := bind_done hD
                      have C0 := Lib.hid (fun (w : World) (h : PAt w p (d) ts) => S.namedFunction h D0)
                      generalize parseF n .namedFunction d ts = r0 at hD D0 C0 ⊢
                      cases r0 with
                      | out => exact absurd rfl D0
                      | bad c l =>
                        clear hD D0 S klocal kdo kwhile kfor kif kreturn kbreak ktry kf k2 h' hs
                        go_enter Tryz.func48, Tryz.ntmps48
                        go_wp2_with (first
                          | (go_at_call 93; (with_reducible refine (C0.out _ ?_).mono ?_); (· exact ab1); rintro e wb hB; obtain ⟨b', rfl, hb1, hb2, hb3, hb4⟩ := hB)
                          | (go_at_call 84; (with_reducible refine (sign_any (d := d) (ts := ts) ?_).mono ?_); (· exact ab1); rintro e wz ⟨rfl, hqz⟩; obtain rfl := hqz.symm)
                          | (go_at_call 49; (with_reducible refine (line_any (d := d) (ts := ts) ?_).mono ?_); (· exact ab1); rintro e wz ⟨rfl, hqz⟩; obtain rfl := hqz.symm))
                        exact ⟨rfl, b', rfl, Nat.le_trans ab6 hb1, hb2, (ab0 : Past [p] w _).then hb3 (by simp), hb4⟩
                      | ok x0 ts0 =>
                        rw [ok_bind] at hD ⊢
                        clear hD S D0 klocal kdo kwhile kfor kif kreturn kbreak ktry kf k2 h' hs
                        go_enter Tryz.func48, Tryz.ntmps48
                        go_wp2_with (first
                          | (go_at_call 93; (with_reducible refine (C0.out _ ?_).mono ?_); (· exact ab1); rintro e w0 ⟨v0, rfl, ⟨y1, z1, u1, t1, rfl, rfl, hy1, hz1'⟩, hp0, hw0⟩; obtain ⟨g1, rfl⟩ := hy1.ptr; obtain ⟨g2, rfl⟩ := hz1'.ptr; have hN := (stC_new w 2 (linT ts) [] (.pointer none) (.pointer none) (.pointer none) (.slice none 0 0) (.slice none 0 0) 51).keep (hw0.block _ ab2 ab2); have q3 := hN.c3; have f3 := hN.warm 3; have q4 := hN.c4; have f4 := hN.warm 4; have hz0 := hw0.size; (try simp at hz0))
                          | (go_at_call 84; (with_reducible refine (sign_any (d := d) (ts := ts) ?_).mono ?_); (· exact ab1); rintro e wz ⟨rfl, hqz⟩; obtain rfl := hqz.symm)
                          | (go_at_call 49; (with_reducible refine (line_any (d := d) (ts := ts) ?_).mono ?_); (· exact ab1); rintro e wz ⟨rfl, hqz⟩; obtain rfl := hqz.symm))
                        go_ret
                        exact ⟨_, rfl, ⟨at_st ((hN.set3 (pV g1)).set4 (pV g2)) ⟨Nat.le_refl _, ((hN.set3 (pV g1)).set4 (pV g2)).lt⟩ (hy1.past (lo' := w.heap.size) (ab0 : Past [p, w.heap.size] w0 _) ab2 ab2).1 (hz1'.past (lo' := w.heap.size) (ab0 : Past [p, w.heap.size] w0 _) ab2 ab2).1 rfl (sl_nil _ _) (sl_nil _ _), rfl⟩, ab11, ab0⟩
                    · have q2 : (((secondT ts).kind : Int) == 1) = false := beq_eq_false_iff_ne.2 (by omega)
                      rw [if_neg (fun e => k2 e.2)] at hD ⊢
                      have D0 : parseF n (.post (linT ts)) d ts ≠ .out := hD
                      have C0 := Lib.hid (fun (w' : World) (h : PAt w' p d ts) (hN : NewSt w' w.heap.size (linT ts)) => S.post h hpl hN D0)
                      generalize parseF n (.post (linT ts)) d ts = r0 at hD D0 C0 ⊢
                      cases r0 with
                      | out => exact absurd rfl D0
                      | bad c l =>
                        clear hD D0 S klocal kdo kwhile kfor kif kreturn kbreak ktry kf k2 h' hs
                        go_enter Tryz.func48, Tryz.ntmps48
                        go_wp2_with (first
                          | (go_at_call 94; (with_reducible refine (C0.out _ ?_ ?_).mono ?_); (· exact ab1); (· exact hXN); rintro e wb hB; obtain ⟨b', rfl, hb1, hb2, hb3, hb4⟩ := hB)
                          | (go_at_call 84; (with_reducible refine (sign_any (d := d) (ts := ts) ?_).mono ?_); (· exact ab1); rintro e wz ⟨rfl, hqz⟩; obtain rfl := hqz.symm)
                          | (go_at_call 49; (with_reducible refine (line_any (d := d) (ts := ts) ?_).mono ?_); (· exact ab1); rintro e wz ⟨rfl, hqz⟩; obtain rfl := hqz.symm))
                        exact ⟨rfl, b', rfl, Nat.le_trans ab6 hb1, hb2, ((Past.refl [p] w).alloc _).then hb3 ab17, hb4⟩
                      | ok x0 ts0 =>
                        clear hD D0 S klocal kdo kwhile kfor kif kreturn kbreak ktry kf k2 h' hs
                        go_enter Tryz.func48, Tryz.ntmps48
                        go_wp2_with (first
                          | (go_at_call 94; (with_reducible refine (C0.out _ ?_ ?_).mono ?_); (· exact ab1); (· exact hXN); rintro e w0 ⟨v0, rfl, ⟨rfl, hv0, hs0⟩, hp0, hw0⟩)
                          | (go_at_call 84; (with_reducible refine (sign_any (d := d) (ts := ts) ?_).mono ?_); (· exact ab1); rintro e wz ⟨rfl, hqz⟩; obtain rfl := hqz.symm)
                          | (go_at_call 49; (with_reducible refine (line_any (d := d) (ts := ts) ?_).mono ?_); (· exact ab1); rintro e wz ⟨rfl, hqz⟩; obtain rfl := hqz.symm))
                        go_ret
                        exact ⟨_, rfl, ⟨hv0, hs0⟩, hp0, ((Past.refl [p] w).alloc _).then hw0 ab17⟩
                  · have qf := beq_no kf
                    rw [if_neg (fun e => kf e.1)] at hD ⊢
                    have D0 : parseF n (.post (linT ts)) d ts ≠ .out := hD
                    have C0 := Lib.hid (fun (w' : World) (h : PAt w' p d ts) (hN : NewSt w' w.heap.size (linT ts)) => S.post h hpl hN D0)
                    generalize parseF n (.post (linT ts)) d ts = r0 at hD D0 C0 ⊢
                    cases r0 with
                    | out => exact absurd rfl D0
                    | bad c l =>
                      clear hD D0 S klocal kdo kwhile kfor kif kreturn kbreak ktry kf h'
                      go_enter Tryz.func48, Tryz.ntmps48
                      go_wp2_with (first
                        | (go_at_call 94; (with_reducible refine (C0.out _ ?_ ?_).mono ?_); (· exact ab1); (· exact hXN); rintro e wb hB; obtain ⟨b', rfl, hb1, hb2, hb3, hb4⟩ := hB)
                        | (go_at_call 84; (with_reducible refine (sign_any (d := d) (ts := ts) ?_).mono ?_); (· exact ab1); rintro e wz ⟨rfl, hqz⟩; obtain rfl := hqz.symm)
                        | (go_at_call 49; (with_reducible refine (line_any (d := d) (ts := ts) ?_).mono ?_); (· exact ab1); rintro e wz ⟨rfl, hqz⟩; obtain rfl := hqz.symm))
                      exact ⟨rfl, b', rfl, Nat.le_trans ab6 hb1, hb2, ((Past.refl [p] w).alloc _).then hb3 ab17, hb4⟩
                    | ok x0 ts0 =>
                      clear hD D0 S klocal kdo kwhile kfor kif kreturn kbreak ktry kf h'
                      go_enter Tryz.func48, Tryz.ntmps48
                      go_wp2_with (first
                        | (go_at_call 94; (with_reducible refine (C0.out _ ?_ ?_).mono ?_); (· exact ab1); (· exact hXN); rintro e w0 ⟨v0, rfl, ⟨rfl, hv0, hs0⟩, hp0, hw0⟩)
                        | (go_at_call 84; (with_reducible refine (sign_any (d := d) (ts := ts) ?_).mono ?_); (· exact ab1); rintro e wz ⟨rfl, hqz⟩; obtain rfl := hqz.symm)
                        | (go_at_call 49; (with_reducible refine (line_any (d := d) (ts := ts) ?_).mono ?_); (· exact ab1); rintro e wz ⟨rfl, hqz⟩; obtain rfl := hqz.symm))
                      go_ret
                      exact ⟨_, rfl, ⟨hv0, hs0⟩, hp0, ((Past.refl [p] w).alloc _).then hw0 ab17⟩
end Go.Proofs.YtoggkigfijgbfaaGreatDoor.P5
