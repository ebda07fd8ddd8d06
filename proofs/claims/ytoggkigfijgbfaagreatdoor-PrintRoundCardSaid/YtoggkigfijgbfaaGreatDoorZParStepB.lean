/- The contracts at a fuel and one: namedFunction, primary, item, local, post. -/
import Derived.Test.YtoggkigfijgbfaaGreatDoorZAbb
import Derived.Test.YtoggkigfijgbfaaGreatDoorZC
namespace Go.Proofs.YtoggkigfijgbfaaGreatDoor.P5
set_option maxRecDepth 20000
open Go.RowKit Go.Maps
set_option maxHeartbeats 2000000 in
theorem namedFunction_step {n : Nat} (S : Spec n) {w : World} {p d : Nat} {ts : List Tok} (h : PAt w p d ts) (hD : parseF (n + 1) (.namedFunction) d ts ≠ .out) :
    Calls Tryz.prog 93 #[pV p] w (Ends p d [p] (parseF (n + 1) (.namedFunction) d ts) (VN w.heap.size) w) := by
  have hpl := h.lt
  unfold parseF at hD ⊢
  simp only [] at hD ⊢
  have D0 : beginT [102, 117, 110, 99, 116, 105, 111, 110] d ts ≠ .out := bind_done hD
  have C0 := Lib.hid (fun (w : World) (h : PAt w p (d) ts) => begin_any [102, 117, 110, 99, 116, 105, 111, 110] (by decide) h)
  generalize beginT [102, 117, 110, 99, 116, 105, 111, 110] d ts = r0 at hD D0 C0 ⊢
  cases r0 with
  | out => exact absurd rfl D0
  | bad c l =>
    clear hD D0 S
    go_enter_defers Tryz.func93, Tryz.ntmps93
    go_wp2_with (first
      | (go_at_call 143; (with_reducible refine (C0.out _ ?_).mono ?_); (· exact ab1); rintro e wb hB; obtain ⟨b', rfl, hb1, hb2, hb3, hb4⟩ := hB)
      | (go_at_call 49; (with_reducible refine (line_any (d := d) (ts := ts) ?_).mono ?_); (· exact ab1); rintro e wz ⟨rfl, hqz⟩; obtain rfl := hqz.symm))
    exact ⟨b', rfl, Nat.le_trans ab6 hb1, hb2, (ab0 : Past [p] w _).then hb3 (by simp), hb4⟩
  | ok x0 ts0 =>
    rw [ok_bind] at hD ⊢
    have D1 : namedT 6 ts0 ≠ .out := bind_done hD
    have C1 := Lib.hid (fun (w : World) (h : PAt w p (d + 1) ts0) => named_any 6 h)
    generalize namedT 6 ts0 = r1 at hD D1 C1 ⊢
    cases r1 with
    | out => exact absurd rfl D1
    | bad c l =>
      clear hD D1 S D0
      go_enter_defers Tryz.func93, Tryz.ntmps93
      go_wp2_with (first
        | (go_at_call 143; (with_reducible refine (C0.out _ ?_).mono ?_); (· exact ab1); rintro e w0 ⟨v0, rfl, ⟨q, rfl, hq1, hq2⟩, hp0, hw0⟩; have hz0 := hw0.size; (try simp at hz0); (try simp at hq1))
        | (go_at_call 145; (with_reducible refine (C1.out _ ?_).mono ?_); (· exact ab1); rintro e wb hB; obtain ⟨b', rfl, hb1, hb2, hb3, hb4⟩ := hB)
        | (go_at_call 49; (with_reducible refine (line_any (d := d) (ts := ts) ?_).mono ?_); (· exact ab1); rintro e wz ⟨rfl, hqz⟩; obtain rfl := hqz.symm))
      exact door_bad (hb3.cell_some ab12 ab2) (Nat.le_trans ab6 hb1) hb2 ((ab0 : Past [p] w _).then hb3 (by simp)) hb4 (by simp) hpl
    | ok x1 ts1 =>
      rw [ok_bind] at hD ⊢
      have D2 : parseF n (.body (linT ts)) (d + 1) ts1 ≠ .out := bind_done hD
      have C2 := Lib.hid (fun (w : World) (h : PAt w p (d + 1) ts1) => S.body (linT ts) h D2)
      generalize parseF n (.body (linT ts)) (d + 1) ts1 = r2 at hD D2 C2 ⊢
      cases r2 with
      | out => exact absurd rfl D2
      | bad c l =>
        clear hD D2 S D0 D1
        go_enter_defers Tryz.func93, Tryz.ntmps93
        go_wp2_with (first
          | (go_at_call 143; (with_reducible refine (C0.out _ ?_).mono ?_); (· exact ab1); rintro e w0 ⟨v0, rfl, ⟨q, rfl, hq1, hq2⟩, hp0, hw0⟩; have hz0 := hw0.size; (try simp at hz0); (try simp at hq1))
          | (go_at_call 145; (with_reducible refine (C1.out _ ?_).mono ?_); (· exact ab1); rintro e w1 ⟨v1, rfl, hv1, hp1, hw1⟩; have hq2 := hw1.cell_some ab12 ab2; have hz1 := hw1.size; (try simp at hz1))
          | (go_at_call 146; (with_reducible refine (C2.out _ ?_).mono ?_); (· exact ab1); rintro e wb hB; obtain ⟨b', rfl, hb1, hb2, hb3, hb4⟩ := hB)
          | (go_at_call 49; (with_reducible refine (line_any (d := d) (ts := ts) ?_).mono ?_); (· exact ab1); rintro e wz ⟨rfl, hqz⟩; obtain rfl := hqz.symm))
        exact door_bad (hb3.cell_some ab12 ab2) (Nat.le_trans ab6 hb1) hb2 ((ab0 : Past [p] w _).then hb3 (by simp)) hb4 (by simp) hpl
      | ok x2 ts2 =>
        rw [ok_bind] at hD ⊢
        clear hD S D0 D1 D2
        go_enter_defers Tryz.func93, Tryz.ntmps93
        go_wp2_with (first
          | (go_at_call 143; (with_reducible refine (C0.out _ ?_).mono ?_); (· exact ab1); rintro e w0 ⟨v0, rfl, ⟨q, rfl, hq1, hq2⟩, hp0, hw0⟩; have hz0 := hw0.size; (try simp at hz0); (try simp at hq1))
          | (go_at_call 145; (with_reducible refine (C1.out _ ?_).mono ?_); (· exact ab1); rintro e w1 ⟨v1, rfl, hv1, hp1, hw1⟩; have hq2 := hw1.cell_some ab12 ab2; have hz1 := hw1.size; (try simp at hz1))
          | (go_at_call 146; (with_reducible refine (C2.out _ ?_).mono ?_); (· exact ab1); rintro e w2 ⟨v2, rfl, hv2, hp2, hw2⟩; have hq2 := hw2.cell_some ab12 ab2; have hz2 := hw2.size; (try simp at hz2))
          | (go_at_call 49; (with_reducible refine (line_any (d := d) (ts := ts) ?_).mono ?_); (· exact ab1); rintro e wz ⟨rfl, hqz⟩; obtain rfl := hqz.symm))
        exact door_ok hq2 hp2 ab0 (by simp) (fun W => results_tmp2 (t := 2) (u := 3) rfl _ _ _) (fun W hW => ⟨_, _, _, _, rfl, rfl, (hv1.past (lo' := w.heap.size) hw2 ab2 (by omega)).past hW ab2 (Nat.le_refl _), hv2.past hW ab2 (by omega)⟩)
set_option maxHeartbeats 2000000 in
theorem primary_step {n : Nat} (S : Spec n) {w : World} {p d : Nat} {ts : List Tok} (h : PAt w p d ts) (hD : parseF (n + 1) (.primary) d ts ≠ .out) :
    Calls Tryz.prog 191 #[pV p] w (Ends p d [p] (parseF (n + 1) (.primary) d ts) (VE w.heap.size) w) := by
  have hpl := h.lt
  unfold parseF at hD ⊢
  simp only [] at hD ⊢
  by_cases k1 : sgnT ts = [40]
  · rw [if_pos k1] at hD ⊢
    have q1 := beq_yes k1
    have D0 : parseF n (.enclosed [40] [41]) d ts ≠ .out := hD
    have C0 := Lib.hid (fun (w : World) (h : PAt w p (d) ts) => S.enclosed [40] [41] (by decide) (by decide) h D0)
    generalize parseF n (.enclosed [40] [41]) d ts = r0 at hD D0 C0 ⊢
    cases r0 with
    | out => exact absurd rfl D0
    | bad c l =>
      clear hD D0 S
      go_enter Tryz.func191, Tryz.ntmps191
      go_wp2_with (first
        | (go_at_call 192; (with_reducible refine (C0.out _ ?_).mono ?_); (· exact ab1); rintro e wb hB; obtain ⟨b', rfl, hb1, hb2, hb3, hb4⟩ := hB)
        | (go_at_call 84; (with_reducible refine (sign_any (d := d) (ts := ts) ?_).mono ?_); (· exact ab1); rintro e wz ⟨rfl, hqz⟩; obtain rfl := hqz.symm))
      exact ⟨rfl, b', rfl, Nat.le_trans ab6 hb1, hb2, (ab0 : Past [p] w _).then hb3 (by simp), hb4⟩
    | ok x0 ts0 =>
      clear hD S D0
      go_enter Tryz.func191, Tryz.ntmps191
      go_wp2_with (first
        | (go_at_call 192; (with_reducible refine (C0.out _ ?_).mono ?_); (· exact ab1); rintro e w0 ⟨v0, rfl, hv0, hp0, hw0⟩; have hz0 := hw0.size; (try simp at hz0))
        | (go_at_call 84; (with_reducible refine (sign_any (d := d) (ts := ts) ?_).mono ?_); (· exact ab1); rintro e wz ⟨rfl, hqz⟩; obtain rfl := hqz.symm))
      go_ret
      exact ⟨_, rfl, hv0, ab11, ab0⟩
  · rw [if_neg k1] at hD ⊢
    have q1 := beq_no k1
    by_cases k2 : sgnT ts = [102, 117, 110, 99, 116, 105, 111, 110]
    · rw [if_pos k2] at hD ⊢
      have q2 := beq_yes k2
      have D0 : parseF n .function d ts ≠ .out := hD
      have C0 := Lib.hid (fun (w : World) (h : PAt w p (d) ts) => S.function h D0)
      generalize parseF n .function d ts = r0 at hD D0 C0 ⊢
      cases r0 with
      | out => exact absurd rfl D0
      | bad c l =>
        clear hD D0 S
        go_enter Tryz.func191, Tryz.ntmps191
        go_wp2_with (first
          | (go_at_call 231; (with_reducible refine (C0.out _ ?_).mono ?_); (· exact ab1); rintro e wb hB; obtain ⟨b', rfl, hb1, hb2, hb3, hb4⟩ := hB)
          | (go_at_call 84; (with_reducible refine (sign_any (d := d) (ts := ts) ?_).mono ?_); (· exact ab1); rintro e wz ⟨rfl, hqz⟩; obtain rfl := hqz.symm))
        exact ⟨rfl, b', rfl, Nat.le_trans ab6 hb1, hb2, (ab0 : Past [p] w _).then hb3 (by simp), hb4⟩
      | ok x0 ts0 =>
        clear hD S D0
        go_enter Tryz.func191, Tryz.ntmps191
        go_wp2_with (first
          | (go_at_call 231; (with_reducible refine (C0.out _ ?_).mono ?_); (· exact ab1); rintro e w0 ⟨v0, rfl, hv0, hp0, hw0⟩; have hz0 := hw0.size; (try simp at hz0))
          | (go_at_call 84; (with_reducible refine (sign_any (d := d) (ts := ts) ?_).mono ?_); (· exact ab1); rintro e wz ⟨rfl, hqz⟩; obtain rfl := hqz.symm))
        go_ret
        exact ⟨_, rfl, hv0, ab11, ab0⟩
    · rw [if_neg k2] at hD ⊢
      have q2 := beq_no k2
      by_cases k3 : sgnT ts = [123]
      · rw [if_pos k3] at hD ⊢
        have q3 := beq_yes k3
        have D0 : parseF n .table d ts ≠ .out := hD
        have C0 := Lib.hid (fun (w : World) (h : PAt w p (d) ts) => S.table h D0)
        generalize parseF n .table d ts = r0 at hD D0 C0 ⊢
        cases r0 with
        | out => exact absurd rfl D0
        | bad c l =>
          clear hD D0 S
          go_enter Tryz.func191, Tryz.ntmps191
          go_wp2_with (first
            | (go_at_call 232; (with_reducible refine (C0.out _ ?_).mono ?_); (· exact ab1); rintro e wb hB; obtain ⟨b', rfl, hb1, hb2, hb3, hb4⟩ := hB)
            | (go_at_call 84; (with_reducible refine (sign_any (d := d) (ts := ts) ?_).mono ?_); (· exact ab1); rintro e wz ⟨rfl, hqz⟩; obtain rfl := hqz.symm))
          exact ⟨rfl, b', rfl, Nat.le_trans ab6 hb1, hb2, (ab0 : Past [p] w _).then hb3 (by simp), hb4⟩
        | ok x0 ts0 =>
          clear hD S D0
          go_enter Tryz.func191, Tryz.ntmps191
          go_wp2_with (first
            | (go_at_call 232; (with_reducible refine (C0.out _ ?_).mono ?_); (· exact ab1); rintro e w0 ⟨v0, rfl, hv0, hp0, hw0⟩; have hz0 := hw0.size; (try simp at hz0))
            | (go_at_call 84; (with_reducible refine (sign_any (d := d) (ts := ts) ?_).mono ?_); (· exact ab1); rintro e wz ⟨rfl, hqz⟩; obtain rfl := hqz.symm))
          go_ret
          exact ⟨_, rfl, hv0, ab11, ab0⟩
      · rw [if_neg k3] at hD ⊢
        have q3 := beq_no k3
        have D0 : wordT ts ≠ .out := hD
        have C0 := Lib.hid (fun (w : World) (h : PAt w p (d) ts) => word_any h)
        generalize wordT ts = r0 at hD D0 C0 ⊢
        cases r0 with
        | out => exact absurd rfl D0
        | bad c l =>
          clear hD D0 S
          go_enter Tryz.func191, Tryz.ntmps191
          go_wp2_with (first
            | (go_at_call 233; (with_reducible refine (C0.out _ ?_).mono ?_); (· exact ab1); rintro e wb hB; obtain ⟨b', rfl, hb1, hb2, hb3, hb4⟩ := hB)
            | (go_at_call 84; (with_reducible refine (sign_any (d := d) (ts := ts) ?_).mono ?_); (· exact ab1); rintro e wz ⟨rfl, hqz⟩; obtain rfl := hqz.symm))
          exact ⟨rfl, b', rfl, Nat.le_trans ab6 hb1, hb2, (ab0 : Past [p] w _).then hb3 (by simp), hb4⟩
        | ok x0 ts0 =>
          clear hD S D0
          go_enter Tryz.func191, Tryz.ntmps191
          go_wp2_with (first
            | (go_at_call 233; (with_reducible refine (C0.out _ ?_).mono ?_); (· exact ab1); rintro e w0 ⟨v0, rfl, hv0, hp0, hw0⟩; have hz0 := hw0.size; (try simp at hz0))
            | (go_at_call 84; (with_reducible refine (sign_any (d := d) (ts := ts) ?_).mono ?_); (· exact ab1); rintro e wz ⟨rfl, hqz⟩; obtain rfl := hqz.symm))
          go_ret
          exact ⟨_, rfl, hv0, ab11, ab0⟩
set_option maxHeartbeats 2000000 in
theorem item_step {n : Nat} (S : Spec n) {w : World} {p d : Nat} {ts : List Tok} (h : PAt w p d ts) (hD : parseF (n + 1) (.item) d ts ≠ .out) :
    Calls Tryz.prog 255 #[pV p] w (Ends p d [p] (parseF (n + 1) (.item) d ts) (VI w.heap.size) w) := by
  have hpl := h.lt
  unfold parseF at hD ⊢
  simp only [] at hD ⊢
  have h' := h
  obtain ⟨g, oo, c, m, h'⟩ := h'
  have c0 := h'.c0
  obtain ⟨hl, hh⟩ := h'.hd
  have h0 := hh.c0
  have hb : (0 : Int) < (ts.length : Int) := by omega
  by_cases k1 : sgnT ts = [91]
  · rw [if_pos k1] at hD ⊢
    have q1 := beq_yes k1
    have D0 : parseF n (.enclosed [91] [93]) d ts ≠ .out := bind_done hD
    have C0 := Lib.hid (fun (w : World) (h : PAt w p (d) ts) => S.enclosed [91] [93] (by decide) (by decide) h D0)
    generalize parseF n (.enclosed [91] [93]) d ts = r0 at hD D0 C0 ⊢
    cases r0 with
    | out => exact absurd rfl D0
    | bad c l =>
      clear hD D0 S h' hh k1
      go_enter Tryz.func255, Tryz.ntmps255
      go_wp2_with (first
        | (go_at_call 192; (with_reducible refine (C0.out _ ?_).mono ?_); (· exact ab1); rintro e wb hB; obtain ⟨b', rfl, hb1, hb2, hb3, hb4⟩ := hB)
        | (go_at_call 84; (with_reducible refine (sign_any (d := d) (ts := ts) ?_).mono ?_); (· exact ab1); rintro e wz ⟨rfl, hqz⟩; obtain rfl := hqz.symm))
      exact ⟨rfl, b', rfl, Nat.le_trans ab6 hb1, hb2, (ab0 : Past [p] w _).then hb3 (by simp), hb4⟩
    | ok x0 ts0 =>
      rw [ok_bind] at hD ⊢
      have D1 : wantT [61] ts0 ≠ .out := bind_done hD
      have C1 := Lib.hid (fun (w : World) (h : PAt w p (d) ts0) => want_any [61] (by decide) h)
      generalize wantT [61] ts0 = r1 at hD D1 C1 ⊢
      cases r1 with
      | out => exact absurd rfl D1
      | bad c l =>
        clear hD D1 S D0 h' hh k1
        go_enter Tryz.func255, Tryz.ntmps255
        go_wp2_with (first
          | (go_at_call 192; (with_reducible refine (C0.out _ ?_).mono ?_); (· exact ab1); rintro e w0 ⟨v0, rfl, hv0, hp0, hw0⟩; obtain ⟨u0, rfl⟩ := hv0.ptr; have hz0 := hw0.size; (try simp at hz0))
          | (go_at_call 87; (with_reducible refine (C1.out _ ?_).mono ?_); (· exact ab1); rintro e wb hB; obtain ⟨b', rfl, hb1, hb2, hb3, hb4⟩ := hB)
          | (go_at_call 84; (with_reducible refine (sign_any (d := d) (ts := ts) ?_).mono ?_); (· exact ab1); rintro e wz ⟨rfl, hqz⟩; obtain rfl := hqz.symm))
        exact ⟨rfl, b', rfl, Nat.le_trans ab6 hb1, hb2, (ab0 : Past [p] w _).then hb3 (by simp), hb4⟩
      | ok x1 ts1 =>
        rw [ok_bind] at hD ⊢
        have D2 : parseF n (.operation 1) (d) ts1 ≠ .out := bind_done hD
        have C2 := Lib.hid (fun (w : World) (h : PAt w p (d) ts1) => S.expr h D2)
        generalize parseF n (.operation 1) (d) ts1 = r2 at hD D2 C2 ⊢
        cases r2 with
        | out => exact absurd rfl D2
        | bad c l =>
          clear hD D2 S D0 D1 h' hh k1
          go_enter Tryz.func255, Tryz.ntmps255
          go_wp2_with (first
            | (go_at_call 192; (with_reducible refine (C0.out _ ?_).mono ?_); (· exact ab1); rintro e w0 ⟨v0, rfl, hv0, hp0, hw0⟩; obtain ⟨u0, rfl⟩ := hv0.ptr; have hz0 := hw0.size; (try simp at hz0))
            | (go_at_call 87; (with_reducible refine (C1.out _ ?_).mono ?_); (· exact ab1); rintro e w1 ⟨v1, rfl, rfl, hp1, hw1⟩; have hz1 := hw1.size; (try simp at hz1))
            | (go_at_call 142; (with_reducible refine (C2.out _ ?_).mono ?_); (· exact ab1); rintro e wb hB; obtain ⟨b', rfl, hb1, hb2, hb3, hb4⟩ := hB)
            | (go_at_call 84; (with_reducible refine (sign_any (d := d) (ts := ts) ?_).mono ?_); (· exact ab1); rintro e wz ⟨rfl, hqz⟩; obtain rfl := hqz.symm))
          exact ⟨rfl, b', rfl, Nat.le_trans ab6 hb1, hb2, (ab0 : Past [p] w _).then hb3 (by simp), hb4⟩
        | ok x2 ts2 =>
          rw [ok_bind] at hD ⊢
          clear hD S D0 D1 D2 h' hh k1
          go_enter Tryz.func255, Tryz.ntmps255
          go_wp2_with (first
            | (go_at_call 192; (with_reducible refine (C0.out _ ?_).mono ?_); (· exact ab1); rintro e w0 ⟨v0, rfl, hv0, hp0, hw0⟩; obtain ⟨u0, rfl⟩ := hv0.ptr; have hz0 := hw0.size; (try simp at hz0))
            | (go_at_call 87; (with_reducible refine (C1.out _ ?_).mono ?_); (· exact ab1); rintro e w1 ⟨v1, rfl, rfl, hp1, hw1⟩; have hz1 := hw1.size; (try simp at hz1))
            | (go_at_call 142; (with_reducible refine (C2.out _ ?_).mono ?_); (· exact ab1); rintro e w2 ⟨v2, rfl, hv2, hp2, hw2⟩; have hz2 := hw2.size; (try simp at hz2))
            | (go_at_call 84; (with_reducible refine (sign_any (d := d) (ts := ts) ?_).mono ?_); (· exact ab1); rintro e wz ⟨rfl, hqz⟩; obtain rfl := hqz.symm))
          go_ret2
          exact ⟨_, rfl, ⟨_, _, _, _, rfl, rfl, (hv0.past (lo' := w.heap.size) (ab0 : Past [p] w0 _) ab2 ab2).1, hv2.past (Past.refl [] _) (by simp) ab2⟩, ab11, ab0⟩
  · rw [if_neg k1] at hD ⊢
    have q1 := beq_no k1
    by_cases k2 : (hdT ts).kind = 1
    · have q2 : (((hdT ts).kind : Int) == 1) = true := by rw [k2]; rfl
      obtain ⟨hl2, hs⟩ := h'.second (by omega)
      have s0 := hs.c0
      have s1 := hs.c1
      have hb1 : (1 : Int) < (ts.length : Int) := by omega
      by_cases k3 : (secondT ts).kind = 4
      · have q3 : (((secondT ts).kind : Int) == 4) = true := by rw [k3]; rfl
        by_cases k4 : (secondT ts).text = [61]
        · have q4 := beq_yes k4
          rw [if_pos ⟨k2, k3, k4⟩] at hD ⊢
          have D0 : namedT 5 ts ≠ .out := bind_done hD
          have C0 := Lib.hid (fun (w : World) (h : PAt w p (d) ts) => named_any 5 h)
          generalize namedT 5 ts = r0 at hD D0 C0 ⊢
          cases r0 with
          | out => exact absurd rfl D0
          | bad c l =>
            clear hD D0 S h' hh hs k1 k2 k3 k4
            go_enter Tryz.func255, Tryz.ntmps255
            go_wp2_with (first
              | (go_at_call 145; (with_reducible refine (C0.out _ ?_).mono ?_); (· exact ab1); rintro e wb hB; obtain ⟨b', rfl, hb1, hb2, hb3, hb4⟩ := hB)
              | (go_at_call 84; (with_reducible refine (sign_any (d := d) (ts := ts) ?_).mono ?_); (· exact ab1); rintro e wz ⟨rfl, hqz⟩; obtain rfl := hqz.symm))
            exact ⟨rfl, b', rfl, Nat.le_trans ab6 hb1, hb2, (ab0 : Past [p] w _).then hb3 (by simp), hb4⟩
          | ok x0 ts0 =>
            rw [ok_bind] at hD ⊢
            have D1 : wantT [61] ts0 ≠ .out := bind_done hD
            have C1 := Lib.hid (fun (w : World) (h : PAt w p (d) ts0) => want_any [61] (by decide) h)
            generalize wantT [61] ts0 = r1 at hD D1 C1 ⊢
            cases r1 with
            | out => exact absurd rfl D1
            | bad c l =>
              clear hD D1 S D0 h' hh hs k1 k2 k3 k4
              go_enter Tryz.func255, Tryz.ntmps255
              go_wp2_with (first
                | (go_at_call 145; (with_reducible refine (C0.out _ ?_).mono ?_); (· exact ab1); rintro e w0 ⟨v0, rfl, hv0, hp0, hw0⟩; obtain ⟨u0, rfl⟩ := hv0.ptr; have hz0 := hw0.size; (try simp at hz0))
                | (go_at_call 87; (with_reducible refine (C1.out _ ?_).mono ?_); (· exact ab1); rintro e wb hB; obtain ⟨b', rfl, hb1, hb2, hb3, hb4⟩ := hB)
                | (go_at_call 84; (with_reducible refine (sign_any (d := d) (ts := ts) ?_).mono ?_); (· exact ab1); rintro e wz ⟨rfl, hqz⟩; obtain rfl := hqz.symm))
              exact ⟨rfl, b', rfl, Nat.le_trans ab6 hb1, hb2, (ab0 : Past [p] w _).then hb3 (by simp), hb4⟩
            | ok x1 ts1 =>
              rw [ok_bind] at hD ⊢
              have D2 : parseF n (.operation 1) (d) ts1 ≠ .out := bind_done hD
              have C2 := Lib.hid (fun (w : World) (h : PAt w p (d) ts1) => S.expr h D2)
              generalize parseF n (.operation 1) (d) ts1 = r2 at hD D2 C2 ⊢
              cases r2 with
              | out => exact absurd rfl D2
              | bad c l =>
                clear hD D2 S D0 D1 h' hh hs k1 k2 k3 k4
                go_enter Tryz.func255, Tryz.ntmps255
                go_wp2_with (first
                  | (go_at_call 145; (with_reducible refine (C0.out _ ?_).mono ?_); (· exact ab1); rintro e w0 ⟨v0, rfl, hv0, hp0, hw0⟩; obtain ⟨u0, rfl⟩ := hv0.ptr; have hz0 := hw0.size; (try simp at hz0))
                  | (go_at_call 87; (with_reducible refine (C1.out _ ?_).mono ?_); (· exact ab1); rintro e w1 ⟨v1, rfl, rfl, hp1, hw1⟩; have hz1 := hw1.size; (try simp at hz1))
                  | (go_at_call 142; (with_reducible refine (C2.out _ ?_).mono ?_); (· exact ab1); rintro e wb hB; obtain ⟨b', rfl, hb1, hb2, hb3, hb4⟩ := hB)
                  | (go_at_call 84; (with_reducible refine (sign_any (d := d) (ts := ts) ?_).mono ?_); (· exact ab1); rintro e wz ⟨rfl, hqz⟩; obtain rfl := hqz.symm))
                exact ⟨rfl, b', rfl, Nat.le_trans ab6 hb1, hb2, (ab0 : Past [p] w _).then hb3 (by simp), hb4⟩
              | ok x2 ts2 =>
                rw [ok_bind] at hD ⊢
                clear hD S D0 D1 D2 h' hh hs k1 k2 k3 k4
                go_enter Tryz.func255, Tryz.ntmps255
                go_wp2_with (first
                  | (go_at_call 145; (with_reducible refine (C0.out _ ?_).mono ?_); (· exact ab1); rintro e w0 ⟨v0, rfl, hv0, hp0, hw0⟩; obtain ⟨u0, rfl⟩ := hv0.ptr; have hz0 := hw0.size; (try simp at hz0))
                  | (go_at_call 87; (with_reducible refine (C1.out _ ?_).mono ?_); (· exact ab1); rintro e w1 ⟨v1, rfl, rfl, hp1, hw1⟩; have hz1 := hw1.size; (try simp at hz1))
                  | (go_at_call 142; (with_reducible refine (C2.out _ ?_).mono ?_); (· exact ab1); rintro e w2 ⟨v2, rfl, hv2, hp2, hw2⟩; have hz2 := hw2.size; (try simp at hz2))
                  | (go_at_call 84; (with_reducible refine (sign_any (d := d) (ts := ts) ?_).mono ?_); (· exact ab1); rintro e wz ⟨rfl, hqz⟩; obtain rfl := hqz.symm))
                go_ret2
                exact ⟨_, rfl, ⟨_, _, _, _, rfl, rfl, (hv0.past (lo' := w.heap.size) (ab0 : Past [p] w0 _) ab2 ab2).1, hv2.past (Past.refl [] _) (by simp) ab2⟩, ab11, ab0⟩
        · have q4 := beq_no k4
          rw [if_neg (fun e => k4 e.2.2)] at hD ⊢
          have D0 : parseF n (.operation 1) (d) ts ≠ .out := bind_done hD
          have C0 := Lib.hid (fun (w : World) (h : PAt w p (d) ts) => S.expr h D0)
          generalize parseF n (.operation 1) (d) ts = r0 at hD D0 C0 ⊢
          cases r0 with
          | out => exact absurd rfl D0
          | bad c l =>
            clear hD D0 S h' hh hs k1 k2 k3 k4
            go_enter Tryz.func255, Tryz.ntmps255
            go_wp2_with (first
              | (go_at_call 142; (with_reducible refine (C0.out _ ?_).mono ?_); (· exact ab1); rintro e wb hB; obtain ⟨b', rfl, hb1, hb2, hb3, hb4⟩ := hB)
              | (go_at_call 84; (with_reducible refine (sign_any (d := d) (ts := ts) ?_).mono ?_); (· exact ab1); rintro e wz ⟨rfl, hqz⟩; obtain rfl := hqz.symm))
            exact ⟨rfl, b', rfl, Nat.le_trans ab6 hb1, hb2, (ab0 : Past [p] w _).then hb3 (by simp), hb4⟩
          | ok x0 ts0 =>
            rw [ok_bind] at hD ⊢
            clear hD S D0 h' hh hs k1 k2 k3 k4
            go_enter Tryz.func255, Tryz.ntmps255
            go_wp2_with (first
              | (go_at_call 142; (with_reducible refine (C0.out _ ?_).mono ?_); (· exact ab1); rintro e w0 ⟨v0, rfl, hv0, hp0, hw0⟩; have hz0 := hw0.size; (try simp at hz0))
              | (go_at_call 84; (with_reducible refine (sign_any (d := d) (ts := ts) ?_).mono ?_); (· exact ab1); rintro e wz ⟨rfl, hqz⟩; obtain rfl := hqz.symm))
            go_ret2
            exact ⟨_, rfl, ⟨_, _, _, _, rfl, rfl, rfl, hv0⟩, ab11, ab0⟩
      · have q3 : (((secondT ts).kind : Int) == 4) = false := beq_eq_false_iff_ne.2 (by omega)
        rw [if_neg (fun e => k3 e.2.1)] at hD ⊢
        have D0 : parseF n (.operation 1) (d) ts ≠ .out := bind_done hD
        have C0 := Lib.hid (fun (w : World) (h : PAt w p (d) ts) => S.expr h D0)
        generalize parseF n (.operation 1) (d) ts = r0 at hD D0 C0 ⊢
        cases r0 with
        | out => exact absurd rfl D0
        | bad c l =>
          clear hD D0 S h' hh hs k1 k2 k3
          go_enter Tryz.func255, Tryz.ntmps255
          go_wp2_with (first
            | (go_at_call 142; (with_reducible refine (C0.out _ ?_).mono ?_); (· exact ab1); rintro e wb hB; obtain ⟨b', rfl, hb1, hb2, hb3, hb4⟩ := hB)
            | (go_at_call 84; (with_reducible refine (sign_any (d := d) (ts := ts) ?_).mono ?_); (· exact ab1); rintro e wz ⟨rfl, hqz⟩; obtain rfl := hqz.symm))
          exact ⟨rfl, b', rfl, Nat.le_trans ab6 hb1, hb2, (ab0 : Past [p] w _).then hb3 (by simp), hb4⟩
        | ok x0 ts0 =>
          rw [ok_bind] at hD ⊢
          clear hD S D0 h' hh hs k1 k2 k3
          go_enter Tryz.func255, Tryz.ntmps255
          go_wp2_with (first
            | (go_at_call 142; (with_reducible refine (C0.out _ ?_).mono ?_); (· exact ab1); rintro e w0 ⟨v0, rfl, hv0, hp0, hw0⟩; have hz0 := hw0.size; (try simp at hz0))
            | (go_at_call 84; (with_reducible refine (sign_any (d := d) (ts := ts) ?_).mono ?_); (· exact ab1); rintro e wz ⟨rfl, hqz⟩; obtain rfl := hqz.symm))
          go_ret2
          exact ⟨_, rfl, ⟨_, _, _, _, rfl, rfl, rfl, hv0⟩, ab11, ab0⟩
    · have q2 : (((hdT ts).kind : Int) == 1) = false := beq_eq_false_iff_ne.2 (by omega)
      rw [if_neg (fun e => k2 e.1)] at hD ⊢
      have D0 : parseF n (.operation 1) (d) ts ≠ .out := bind_done hD
      have C0 := Lib.hid (fun (w : World) (h : PAt w p (d) ts) => S.expr h D0)
      generalize parseF n (.operation 1) (d) ts = r0 at hD D0 C0 ⊢
      cases r0 with
      | out => exact absurd rfl D0
      | bad c l =>
        clear hD D0 S h' hh k1 k2
        go_enter Tryz.func255, Tryz.ntmps255
        go_wp2_with (first
          | (go_at_call 142; (with_reducible refine (C0.out _ ?_).mono ?_); (· exact ab1); rintro e wb hB; obtain ⟨b', rfl, hb1, hb2, hb3, hb4⟩ := hB)
          | (go_at_call 84; (with_reducible refine (sign_any (d := d) (ts := ts) ?_).mono ?_); (· exact ab1); rintro e wz ⟨rfl, hqz⟩; obtain rfl := hqz.symm))
        exact ⟨rfl, b', rfl, Nat.le_trans ab6 hb1, hb2, (ab0 : Past [p] w _).then hb3 (by simp), hb4⟩
      | ok x0 ts0 =>
        rw [ok_bind] at hD ⊢
        clear hD S D0 h' hh k1 k2
        go_enter Tryz.func255, Tryz.ntmps255
        go_wp2_with (first
          | (go_at_call 142; (with_reducible refine (C0.out _ ?_).mono ?_); (· exact ab1); rintro e w0 ⟨v0, rfl, hv0, hp0, hw0⟩; have hz0 := hw0.size; (try simp at hz0))
          | (go_at_call 84; (with_reducible refine (sign_any (d := d) (ts := ts) ?_).mono ?_); (· exact ab1); rintro e wz ⟨rfl, hqz⟩; obtain rfl := hqz.symm))
        go_ret2
        exact ⟨_, rfl, ⟨_, _, _, _, rfl, rfl, rfl, hv0⟩, ab11, ab0⟩
set_option maxHeartbeats 2000000 in
theorem local_step {n : Nat} (S : Spec n) {w : World} {p d b l : Nat} {ts : List Tok} (h : PAt w p d ts) (hpb : p < b) (hN : NewSt w b l) (hD : parseF (n + 1) (.local_ l) d ts ≠ .out) :
    Calls Tryz.prog 85 #[pV p, pV b] w (Ends p d [p, b] (parseF (n + 1) (.local_ l) d ts) (VF b) w) := by
  have hpl := h.lt
  have hbl := hN.lt
  unfold NewSt at hN
  unfold parseF at hD ⊢
  simp only [] at hD ⊢
  have D0 : wantT [108, 111, 99, 97, 108] ts ≠ .out := bind_done hD
  have C0 := Lib.hid (fun (w : World) (h : PAt w p (d) ts) => want_any [108, 111, 99, 97, 108] (by decide) h)
  generalize wantT [108, 111, 99, 97, 108] ts = r0 at hD D0 C0 ⊢
  cases r0 with
  | out => exact absurd rfl D0
  | bad c l =>
    clear hD D0 S
    go_enter Tryz.func85, Tryz.ntmps85
    go_wp2_with (first
      | (go_at_call 87; (with_reducible refine (C0.out _ ?_).mono ?_); (· exact ab1); rintro e wb hB; obtain ⟨b', rfl, hb1, hb2, hb3, hb4⟩ := hB)
      | (go_at_call 84; (with_reducible refine (sign_any (d := d) (ts := ts0) ?_).mono ?_); (· (repeat' (first | assumption | refine PAt.alloc ?_ _ | refine PAt.drew ?_ | refine PAt.set ?_ (by omega) _))); rintro e wz ⟨rfl, hqz⟩; obtain rfl := hqz.symm)
      | (go_at_call 84; (with_reducible refine (sign_any (d := d) (ts := ts1) ?_).mono ?_); (· (repeat' (first | assumption | refine PAt.alloc ?_ _ | refine PAt.drew ?_ | refine PAt.set ?_ (by omega) _))); rintro e wz ⟨rfl, hqz⟩; obtain rfl := hqz.symm))
    exact ⟨rfl, b', rfl, Nat.le_trans ab6 hb1, hb2, (ab0 : Past [p, b] w _).then hb3 (by simp), hb4⟩
  | ok x0 ts0 =>
    rw [ok_bind] at hD ⊢
    by_cases kf : sgnT ts0 = [102, 117, 110, 99, 116, 105, 111, 110]
    · rw [if_pos kf] at hD ⊢
      have qf := beq_yes kf
      have D1 : parseF n .namedFunction d ts0 ≠ .out := bind_done hD
      have C1 := Lib.hid (fun (w : World) (h : PAt w p (d) ts0) => S.namedFunction h D1)
      generalize parseF n .namedFunction d ts0 = r1 at hD D1 C1 ⊢
      cases r1 with
      | out => exact absurd rfl D1
      | bad c l =>
        clear hD D1 S D0
        go_enter Tryz.func85, Tryz.ntmps85
        go_wp2_with (first
          | (go_at_call 87; (with_reducible refine (C0.out _ ?_).mono ?_); (· exact ab1); rintro e w0 ⟨v0, rfl, rfl, hp0, hw0⟩; have hN := hN.keep (hw0.block b hbl ab2); have hbl := hN.lt; have q0 := hN.c0; have f0 := hN.warm 0; have q2 := hN.c2; have f2 := hN.warm 2; have q4 := hN.c4; have f4 := hN.warm 4; have hz0 := hw0.size; (try simp at hz0))
          | (go_at_call 93; (with_reducible refine (C1.out _ ?_).mono ?_); (· exact ab1); rintro e wb hB; obtain ⟨b', rfl, hb1, hb2, hb3, hb4⟩ := hB)
          | (go_at_call 84; (with_reducible refine (sign_any (d := d) (ts := ts0) ?_).mono ?_); (· (repeat' (first | assumption | refine PAt.alloc ?_ _ | refine PAt.drew ?_ | refine PAt.set ?_ (by omega) _))); rintro e wz ⟨rfl, hqz⟩; obtain rfl := hqz.symm)
          | (go_at_call 84; (with_reducible refine (sign_any (d := d) (ts := ts1) ?_).mono ?_); (· (repeat' (first | assumption | refine PAt.alloc ?_ _ | refine PAt.drew ?_ | refine PAt.set ?_ (by omega) _))); rintro e wz ⟨rfl, hqz⟩; obtain rfl := hqz.symm))
        exact ⟨rfl, b', rfl, Nat.le_trans ab6 hb1, hb2, (ab0 : Past [p, b] w _).then hb3 (by simp), hb4⟩
      | ok x1 ts1 =>
        rw [ok_bind] at hD ⊢
        clear hD S D0 D1
        go_enter Tryz.func85, Tryz.ntmps85
        go_wp2_with (first
          | (go_at_call 87; (with_reducible refine (C0.out _ ?_).mono ?_); (· exact ab1); rintro e w0 ⟨v0, rfl, rfl, hp0, hw0⟩; have hN := hN.keep (hw0.block b hbl ab2); have hbl := hN.lt; have q0 := hN.c0; have f0 := hN.warm 0; have q2 := hN.c2; have f2 := hN.warm 2; have q4 := hN.c4; have f4 := hN.warm 4; have hz0 := hw0.size; (try simp at hz0))
          | (go_at_call 93; (with_reducible refine (C1.out _ ?_).mono ?_); (· exact ab1); rintro e w1 ⟨v1, rfl, ⟨y1, z1, u1, t1, rfl, rfl, hy1, hz1'⟩, hp1, hw1⟩; obtain ⟨g1, rfl, t3, t0, hg1, hg2⟩ := hy1.name; obtain ⟨g2, rfl⟩ := hz1'.ptr; have hN := hN.keep (hw1.block b hbl ab2); have hbl := hN.lt; have q0 := hN.c0; have f0 := hN.warm 0; have q2 := hN.c2; have f2 := hN.warm 2; have q4 := hN.c4; have f4 := hN.warm 4; have hz1 := hw1.size; (try simp at hz1))
          | (go_at_call 84; (with_reducible refine (sign_any (d := d) (ts := ts0) ?_).mono ?_); (· (repeat' (first | assumption | refine PAt.alloc ?_ _ | refine PAt.drew ?_ | refine PAt.set ?_ (by omega) _))); rintro e wz ⟨rfl, hqz⟩; obtain rfl := hqz.symm)
          | (go_at_call 84; (with_reducible refine (sign_any (d := d) (ts := ts1) ?_).mono ?_); (· (repeat' (first | assumption | refine PAt.alloc ?_ _ | refine PAt.drew ?_ | refine PAt.set ?_ (by omega) _))); rintro e wz ⟨rfl, hqz⟩; obtain rfl := hqz.symm))
        refine bodyPost_end (results_none rfl _ _ _) rfl ?_
        exact ⟨_, rfl, ⟨rfl, at_st (((hN.set0 11).set2 (textT y1)).set4 (pV g2)) ⟨Nat.le_refl _, (((hN.set0 11).set2 (textT y1)).set4 (pV g2)).lt⟩ rfl (hz1'.past (ab0 : Past [p, b] w1 _) ab2 ab2).1 rfl (sl_nil _ _) (sl_nil _ _), rfl⟩, ab11, ab0⟩
    · rw [if_neg kf] at hD ⊢
      have qf := beq_no kf
      have D1 : nameT ts0 ≠ .out := bind_done hD
      have C1 := Lib.hid (fun (w : World) (h : PAt w p (d) ts0) => name_any h)
      generalize nameT ts0 = r1 at hD D1 C1 ⊢
      cases r1 with
      | out => exact absurd rfl D1
      | bad c l =>
        clear hD D1 S D0
        go_enter Tryz.func85, Tryz.ntmps85
        go_wp2_with (first
          | (go_at_call 87; (with_reducible refine (C0.out _ ?_).mono ?_); (· exact ab1); rintro e w0 ⟨v0, rfl, rfl, hp0, hw0⟩; have hN := hN.keep (hw0.block b hbl ab2); have hbl := hN.lt; have q0 := hN.c0; have f0 := hN.warm 0; have q2 := hN.c2; have f2 := hN.warm 2; have q4 := hN.c4; have f4 := hN.warm 4; have hz0 := hw0.size; (try simp at hz0))
          | (go_at_call 140; (with_reducible refine (C1.out _ ?_).mono ?_); (· exact ab1); rintro e wb hB; obtain ⟨b', rfl, hb1, hb2, hb3, hb4⟩ := hB)
          | (go_at_call 84; (with_reducible refine (sign_any (d := d) (ts := ts0) ?_).mono ?_); (· (repeat' (first | assumption | refine PAt.alloc ?_ _ | refine PAt.drew ?_ | refine PAt.set ?_ (by omega) _))); rintro e wz ⟨rfl, hqz⟩; obtain rfl := hqz.symm)
          | (go_at_call 84; (with_reducible refine (sign_any (d := d) (ts := ts1) ?_).mono ?_); (· (repeat' (first | assumption | refine PAt.alloc ?_ _ | refine PAt.drew ?_ | refine PAt.set ?_ (by omega) _))); rintro e wz ⟨rfl, hqz⟩; obtain rfl := hqz.symm))
        exact ⟨rfl, b', rfl, Nat.le_trans ab6 hb1, hb2, (ab0 : Past [p, b] w _).then hb3 (by simp), hb4⟩
      | ok x1 ts1 =>
        rw [ok_bind] at hD ⊢
        by_cases ke : sgnT ts1 = [61]
        · rw [if_pos ke] at hD ⊢
          have qe := beq_yes ke
          have hk1 : (hdT ts1).kind ≠ 5 := by have := (sgn_sign (ts := ts1) (by rw [ke]; decide)).1; omega
          have CT := Lib.hid (fun (w : World) (h : PAt w p d ts1) => take_any h hk1)
          have D2 : parseF n (.operation 1) (d) ts1.tail ≠ .out := bind_done hD
          have C2 := Lib.hid (fun (w : World) (h : PAt w p (d) ts1.tail) => S.expr h D2)
          generalize parseF n (.operation 1) (d) ts1.tail = r2 at hD D2 C2 ⊢
          cases r2 with
          | out => exact absurd rfl D2
          | bad c l =>
            clear hD D2 S D0 D1
            go_enter Tryz.func85, Tryz.ntmps85
            go_wp2_with (first
              | (go_at_call 87; (with_reducible refine (C0.out _ ?_).mono ?_); (· exact ab1); rintro e w0 ⟨v0, rfl, rfl, hp0, hw0⟩; have hN := hN.keep (hw0.block b hbl ab2); have hbl := hN.lt; have q0 := hN.c0; have f0 := hN.warm 0; have q2 := hN.c2; have f2 := hN.warm 2; have q4 := hN.c4; have f4 := hN.warm 4; have hz0 := hw0.size; (try simp at hz0))
              | (go_at_call 140; (with_reducible refine (C1.out _ ?_).mono ?_); (· exact ab1); rintro e w1 ⟨v1, rfl, rfl, hp1, hw1⟩; have hN := hN.keep (hw1.block b hbl ab2); have hbl := hN.lt; have q0 := hN.c0; have f0 := hN.warm 0; have q2 := hN.c2; have f2 := hN.warm 2; have hz1 := hw1.size; (try simp at hz1))
              | (go_at_call 141; (with_reducible refine (CT.out _ ?_).mono ?_); (· exact ab1); rintro e w9 ⟨rfl, hp9, hw9⟩; have hN := ((hN.set0 1).set2 (textT x1)).keep (hw9.block b ab2 ab2); have hbl := hN.lt; have hz9 := hw9.size; (try simp at hz9))
              | (go_at_call 142; (with_reducible refine (C2.out _ ?_).mono ?_); (· exact ab1); rintro e wb hB; obtain ⟨b', rfl, hb1, hb2, hb3, hb4⟩ := hB)
              | (go_at_call 84; (with_reducible refine (sign_any (d := d) (ts := ts0) ?_).mono ?_); (· (repeat' (first | assumption | refine PAt.alloc ?_ _ | refine PAt.drew ?_ | refine PAt.set ?_ (by omega) _))); rintro e wz ⟨rfl, hqz⟩; obtain rfl := hqz.symm)
              | (go_at_call 84; (with_reducible refine (sign_any (d := d) (ts := ts1) ?_).mono ?_); (· (repeat' (first | assumption | refine PAt.alloc ?_ _ | refine PAt.drew ?_ | refine PAt.set ?_ (by omega) _))); rintro e wz ⟨rfl, hqz⟩; obtain rfl := hqz.symm))
            exact ⟨rfl, b', rfl, Nat.le_trans ab6 hb1, hb2, (ab0 : Past [p, b] w _).then hb3 (by simp), hb4⟩
          | ok x2 ts2 =>
            rw [ok_bind] at hD ⊢
            clear hD S D0 D1 D2
            go_enter Tryz.func85, Tryz.ntmps85
            go_wp2_with (first
              | (go_at_call 87; (with_reducible refine (C0.out _ ?_).mono ?_); (· exact ab1); rintro e w0 ⟨v0, rfl, rfl, hp0, hw0⟩; have hN := hN.keep (hw0.block b hbl ab2); have hbl := hN.lt; have q0 := hN.c0; have f0 := hN.warm 0; have q2 := hN.c2; have f2 := hN.warm 2; have q4 := hN.c4; have f4 := hN.warm 4; have hz0 := hw0.size; (try simp at hz0))
              | (go_at_call 140; (with_reducible refine (C1.out _ ?_).mono ?_); (· exact ab1); rintro e w1 ⟨v1, rfl, rfl, hp1, hw1⟩; have hN := hN.keep (hw1.block b hbl ab2); have hbl := hN.lt; have q0 := hN.c0; have f0 := hN.warm 0; have q2 := hN.c2; have f2 := hN.warm 2; have hz1 := hw1.size; (try simp at hz1))
              | (go_at_call 141; (with_reducible refine (CT.out _ ?_).mono ?_); (· exact ab1); rintro e w9 ⟨rfl, hp9, hw9⟩; have hN := ((hN.set0 1).set2 (textT x1)).keep (hw9.block b ab2 ab2); have hbl := hN.lt; have hz9 := hw9.size; (try simp at hz9))
              | (go_at_call 142; (with_reducible refine (C2.out _ ?_).mono ?_); (· exact ab1); rintro e w2 ⟨v2, rfl, hv2, hp2, hw2⟩; obtain ⟨u2, rfl⟩ := hv2.ptr; have hN := hN.keep (hw2.block b ab2 ab2); have hbl := hN.lt; have q4 := hN.c4; have f4 := hN.warm 4; have hz2 := hw2.size; (try simp at hz2))
              | (go_at_call 84; (with_reducible refine (sign_any (d := d) (ts := ts0) ?_).mono ?_); (· (repeat' (first | assumption | refine PAt.alloc ?_ _ | refine PAt.drew ?_ | refine PAt.set ?_ (by omega) _))); rintro e wz ⟨rfl, hqz⟩; obtain rfl := hqz.symm)
              | (go_at_call 84; (with_reducible refine (sign_any (d := d) (ts := ts1) ?_).mono ?_); (· (repeat' (first | assumption | refine PAt.alloc ?_ _ | refine PAt.drew ?_ | refine PAt.set ?_ (by omega) _))); rintro e wz ⟨rfl, hqz⟩; obtain rfl := hqz.symm))
            refine bodyPost_end (results_none rfl _ _ _) rfl ?_
            exact ⟨_, rfl, ⟨rfl, at_st (hN.set4 (pV u2)) ⟨Nat.le_refl _, (hN.set4 (pV u2)).lt⟩ rfl (hv2.past (ab0 : Past [p, b] w2 _) ab2 ab2).1 rfl (sl_nil _ _) (sl_nil _ _), rfl⟩, ab11, ab0⟩
        · rw [if_neg ke] at hD ⊢
          have qe := beq_no ke
          clear hD S D0 D1
          go_enter Tryz.func85, Tryz.ntmps85
          go_wp2_with (first
            | (go_at_call 87; (with_reducible refine (C0.out _ ?_).mono ?_); (· exact ab1); rintro e w0 ⟨v0, rfl, rfl, hp0, hw0⟩; have hN := hN.keep (hw0.block b hbl ab2); have hbl := hN.lt; have q0 := hN.c0; have f0 := hN.warm 0; have q2 := hN.c2; have f2 := hN.warm 2; have q4 := hN.c4; have f4 := hN.warm 4; have hz0 := hw0.size; (try simp at hz0))
            | (go_at_call 140; (with_reducible refine (C1.out _ ?_).mono ?_); (· exact ab1); rintro e w1 ⟨v1, rfl, rfl, hp1, hw1⟩; have hN := hN.keep (hw1.block b hbl ab2); have hbl := hN.lt; have q0 := hN.c0; have f0 := hN.warm 0; have q2 := hN.c2; have f2 := hN.warm 2; have hz1 := hw1.size; (try simp at hz1))
            | (go_at_call 84; (with_reducible refine (sign_any (d := d) (ts := ts0) ?_).mono ?_); (· (repeat' (first | assumption | refine PAt.alloc ?_ _ | refine PAt.drew ?_ | refine PAt.set ?_ (by omega) _))); rintro e wz ⟨rfl, hqz⟩; obtain rfl := hqz.symm)
            | (go_at_call 84; (with_reducible refine (sign_any (d := d) (ts := ts1) ?_).mono ?_); (· (repeat' (first | assumption | refine PAt.alloc ?_ _ | refine PAt.drew ?_ | refine PAt.set ?_ (by omega) _))); rintro e wz ⟨rfl, hqz⟩; obtain rfl := hqz.symm))
          refine bodyPost_end (results_none rfl _ _ _) rfl ?_
          exact ⟨_, rfl, ⟨rfl, at_st ((hN.set0 1).set2 (textT x1)) ⟨Nat.le_refl _, ((hN.set0 1).set2 (textT x1)).lt⟩ rfl rfl rfl (sl_nil _ _) (sl_nil _ _), rfl⟩, ab11, ab0⟩
theorem flag_true {c : Bool} {y : Tree} (h : isNil (Tree.cons (flagT c) y).fst = false) : c = true := by
  cases c
  · exact nomatch (h : true = false)
  · rfl
theorem flag_false {c : Bool} {y : Tree} (h : ¬ isNil (Tree.cons (flagT c) y).fst = false) : c = false := by
  cases c
  · rfl
  · exact absurd rfl h
set_option maxHeartbeats 2000000 in
theorem post_step {n : Nat} (S : Spec n) {w : World} {p d b l : Nat} {ts : List Tok} (h : PAt w p d ts) (hpb : p < b) (hN : NewSt w b l) (hD : parseF (n + 1) (.post l) d ts ≠ .out) :
    Calls Tryz.prog 94 #[pV p, pV b] w (Ends p d [p, b] (parseF (n + 1) (.post l) d ts) (VF b) w) := by
  have hpl := h.lt
  have hbl := hN.lt
  unfold NewSt at hN
  unfold parseF at hD ⊢
  simp only [] at hD ⊢
  have D0 : parseF n .postExpr d ts ≠ .out := bind_done hD
  have C0 := Lib.hid (fun (w : World) (h : PAt w p d ts) => S.postExpr h D0)
  generalize parseF n .postExpr d ts = r0 at hD D0 C0 ⊢
  cases r0 with
  | out => exact absurd rfl D0
  | bad c l =>
    clear hD D0 S
    go_enter Tryz.func94, Tryz.ntmps94
    go_wp2_with (first
      | (go_at_call 147; (with_reducible refine (C0.out _ ?_).mono ?_); (· exact ab1); rintro e wb hB; obtain ⟨b', rfl, hb1, hb2, hb3, hb4⟩ := hB))
    exact ⟨rfl, b', rfl, Nat.le_trans ab6 hb1, hb2, (ab0 : Past [p, b] w _).then hb3 (by simp), hb4⟩
  | ok x0 ts0 =>
    rw [ok_bind] at hD ⊢
    by_cases k1 : isNil x0.fst = false
    · rw [if_pos k1] at hD ⊢
      clear hD S D0
      go_enter Tryz.func94, Tryz.ntmps94
      go_wp2_with (first
        | (go_at_call 147; (with_reducible refine (C0.out _ ?_).mono ?_); (· exact ab1); rintro e w0 ⟨v0, rfl, ⟨y0, c1, u0', rfl, rfl, hv0⟩, hp0, hw0⟩; obtain ⟨u0, rfl, t3, t0, hg1, hg2⟩ := hv0.name; have hc1 := flag_true k1; subst hc1; have hz0 := hw0.size; (try simp at hz0))
        | (go_at_call 27; (with_reducible refine (fault_any (d := d) (ts := ts0) ?_ _).mono ?_); (· exact ab1); rintro e wf ⟨rfl, rfl⟩))
      exact ⟨rfl, (bad_new hp0 [p, b] 4 (linT ts0) _).after ab0 (fun i hi => .inl hi)⟩
    · rw [if_neg k1] at hD ⊢
      by_cases k2 : kindT x0.snd = 8
      · rw [if_pos k2] at hD ⊢
        clear hD S D0
        go_enter Tryz.func94, Tryz.ntmps94
        go_wp2_with (first
          | (go_at_call 147; (with_reducible refine (C0.out _ ?_).mono ?_); (· exact ab1); rintro e w0 ⟨v0, rfl, ⟨y0, c1, u0', rfl, rfl, hv0⟩, hp0, hw0⟩; obtain ⟨u0, rfl, t3, t0, hg1, hg2⟩ := hv0.name; have hc1 := flag_false k1; subst hc1; have e8 : (kindT y0 == 8) = true := beq_iff_eq.2 k2; have hN0 := hN.keep (hw0.block b hbl ab2); have hbl0 := hN0.lt; have q0 := hN0.c0; have f0 := hN0.warm 0; have q3 := hN0.c3; have f3 := hN0.warm 3; have q4 := hN0.c4; have f4 := hN0.warm 4; have hz0 := hw0.size; (try simp at hz0)))
        refine bodyPost_end (results_none rfl _ _ _) rfl ?_
        exact ⟨_, rfl, ⟨rfl, at_st (((hN0.set0 3).set4 (pV u0))) ⟨Nat.le_refl _, ((hN0.set0 3).set4 (pV u0)).lt⟩ rfl (hv0.past (ab0 : Past [p, b] w0 _) ab2 ab2).1 rfl (sl_nil _ _) (sl_nil _ _), rfl⟩, ab11, ab0⟩
      · rw [if_neg k2] at hD ⊢
        by_cases k3 : kindT x0.snd = 6 ∨ kindT x0.snd = 7
        · rw [if_pos k3] at hD ⊢
          rcases k3 with k3 | k3
          · have D1 : wantT [61] ts0 ≠ .out := bind_done hD
            have C1 := Lib.hid (fun (w : World) (h : PAt w p (d) ts0) => want_any [61] (by decide) h)
            generalize wantT [61] ts0 = r1 at hD D1 C1 ⊢
            cases r1 with
            | out => exact absurd rfl D1
            | bad c l =>
              clear hD D1 S D0
              go_enter Tryz.func94, Tryz.ntmps94
              go_wp2_with (first
                | (go_at_call 147; (with_reducible refine (C0.out _ ?_).mono ?_); (· exact ab1); rintro e w0 ⟨v0, rfl, ⟨y0, c1, u0', rfl, rfl, hv0⟩, hp0, hw0⟩; obtain ⟨u0, rfl, t3, t0, hg1, hg2⟩ := hv0.name; have hc1 := flag_false k1; subst hc1; have e8 : (kindT y0 == 8) = false := beq_eq_false_iff_ne.2 (k2); have hN0 := hN.keep (hw0.block b hbl ab2); have hbl0 := hN0.lt; have q0 := hN0.c0; have f0 := hN0.warm 0; have q3 := hN0.c3; have f3 := hN0.warm 3; have q4 := hN0.c4; have f4 := hN0.warm 4; have e6 : (kindT y0 == 6) = true := beq_iff_eq.2 k3; have hz0 := hw0.size; (try simp at hz0))
                | (go_at_call 87; (with_reducible refine (C1.out _ ?_).mono ?_); (· exact ab1); rintro e wb hB; obtain ⟨b', rfl, hb1, hb2, hb3, hb4⟩ := hB))
              exact ⟨rfl, b', rfl, Nat.le_trans ab6 hb1, hb2, (ab0 : Past [p, b] w _).then hb3 (by simp), hb4⟩
            | ok x1 ts1 =>
              rw [ok_bind] at hD ⊢
              have D2 : parseF n (.operation 1) (d) ts1 ≠ .out := bind_done hD
              have C2 := Lib.hid (fun (w : World) (h : PAt w p (d) ts1) => S.expr h D2)
              generalize parseF n (.operation 1) (d) ts1 = r2 at hD D2 C2 ⊢
              cases r2 with
              | out => exact absurd rfl D2
              | bad c l =>
                clear hD D2 S D0 D1
                go_enter Tryz.func94, Tryz.ntmps94
                go_wp2_with (first
                  | (go_at_call 147; (with_reducible refine (C0.out _ ?_).mono ?_); (· exact ab1); rintro e w0 ⟨v0, rfl, ⟨y0, c1, u0', rfl, rfl, hv0⟩, hp0, hw0⟩; obtain ⟨u0, rfl, t3, t0, hg1, hg2⟩ := hv0.name; have hc1 := flag_false k1; subst hc1; have e8 : (kindT y0 == 8) = false := beq_eq_false_iff_ne.2 (k2); have hN0 := hN.keep (hw0.block b hbl ab2); have hbl0 := hN0.lt; have q0 := hN0.c0; have f0 := hN0.warm 0; have q3 := hN0.c3; have f3 := hN0.warm 3; have q4 := hN0.c4; have f4 := hN0.warm 4; have e6 : (kindT y0 == 6) = true := beq_iff_eq.2 k3; have hz0 := hw0.size; (try simp at hz0))
                  | (go_at_call 87; (with_reducible refine (C1.out _ ?_).mono ?_); (· exact ab1); rintro e w1 ⟨v1, rfl, rfl, hp1, hw1⟩; have hN1 := hN0.keep (hw1.block b hbl0 ab2); have hz1 := hw1.size; (try simp at hz1))
                  | (go_at_call 142; (with_reducible refine (C2.out _ ?_).mono ?_); (· exact ab1); rintro e wb hB; obtain ⟨b', rfl, hb1, hb2, hb3, hb4⟩ := hB))
                exact ⟨rfl, b', rfl, Nat.le_trans ab6 hb1, hb2, (ab0 : Past [p, b] w _).then hb3 (by simp), hb4⟩
              | ok x2 ts2 =>
                rw [ok_bind] at hD ⊢
                clear hD S D0 D1 D2
                go_enter Tryz.func94, Tryz.ntmps94
                go_wp2_with (first
                  | (go_at_call 147; (with_reducible refine (C0.out _ ?_).mono ?_); (· exact ab1); rintro e w0 ⟨v0, rfl, ⟨y0, c1, u0', rfl, rfl, hv0⟩, hp0, hw0⟩; obtain ⟨u0, rfl, t3, t0, hg1, hg2⟩ := hv0.name; have hc1 := flag_false k1; subst hc1; have e8 : (kindT y0 == 8) = false := beq_eq_false_iff_ne.2 (k2); have hN0 := hN.keep (hw0.block b hbl ab2); have hbl0 := hN0.lt; have q0 := hN0.c0; have f0 := hN0.warm 0; have q3 := hN0.c3; have f3 := hN0.warm 3; have q4 := hN0.c4; have f4 := hN0.warm 4; have e6 : (kindT y0 == 6) = true := beq_iff_eq.2 k3; have hz0 := hw0.size; (try simp at hz0))
                  | (go_at_call 87; (with_reducible refine (C1.out _ ?_).mono ?_); (· exact ab1); rintro e w1 ⟨v1, rfl, rfl, hp1, hw1⟩; have hN1 := hN0.keep (hw1.block b hbl0 ab2); have hz1 := hw1.size; (try simp at hz1))
                  | (go_at_call 142; (with_reducible refine (C2.out _ ?_).mono ?_); (· exact ab1); rintro e w2 ⟨v2, rfl, hv2, hp2, hw2⟩; obtain ⟨u2, rfl⟩ := hv2.ptr; have hN2 := hN1.keep (hw2.block b hN1.lt ab2); have r0 := hN2.c0; have g0 := hN2.warm 0; have r3 := hN2.c3; have g3 := hN2.warm 3; have r4 := hN2.c4; have g4 := hN2.warm 4; have hz2 := hw2.size; (try simp at hz2)))
                refine bodyPost_end (results_none rfl _ _ _) rfl ?_
                exact ⟨_, rfl, ⟨rfl, at_st (((hN2.set0 2).set3 (pV u0)).set4 (pV u2)) ⟨Nat.le_refl _, (((hN2.set0 2).set3 (pV u0)).set4 (pV u2)).lt⟩ (hv0.past (ab0 : Past [p, b] w0 _) ab2 ab2).1 (hv2.past (ab0 : Past [p, b] w2 _) ab2 ab2).1 rfl (sl_nil _ _) (sl_nil _ _), rfl⟩, ab11, ab0⟩
          · have D1 : wantT [61] ts0 ≠ .out := bind_done hD
            have C1 := Lib.hid (fun (w : World) (h : PAt w p (d) ts0) => want_any [61] (by decide) h)
            generalize wantT [61] ts0 = r1 at hD D1 C1 ⊢
            cases r1 with
            | out => exact absurd rfl D1
            | bad c l =>
              clear hD D1 S D0
              go_enter Tryz.func94, Tryz.ntmps94
              go_wp2_with (first
                | (go_at_call 147; (with_reducible refine (C0.out _ ?_).mono ?_); (· exact ab1); rintro e w0 ⟨v0, rfl, ⟨y0, c1, u0', rfl, rfl, hv0⟩, hp0, hw0⟩; obtain ⟨u0, rfl, t3, t0, hg1, hg2⟩ := hv0.name; have hc1 := flag_false k1; subst hc1; have e8 : (kindT y0 == 8) = false := beq_eq_false_iff_ne.2 (k2); have hN0 := hN.keep (hw0.block b hbl ab2); have hbl0 := hN0.lt; have q0 := hN0.c0; have f0 := hN0.warm 0; have q3 := hN0.c3; have f3 := hN0.warm 3; have q4 := hN0.c4; have f4 := hN0.warm 4; have e6 : (kindT y0 == 6) = false := beq_eq_false_iff_ne.2 (fun e => absurd (k3.symm.trans e) (by decide)); have e7 : (kindT y0 == 7) = true := beq_iff_eq.2 k3; have hz0 := hw0.size; (try simp at hz0))
                | (go_at_call 87; (with_reducible refine (C1.out _ ?_).mono ?_); (· exact ab1); rintro e wb hB; obtain ⟨b', rfl, hb1, hb2, hb3, hb4⟩ := hB))
              exact ⟨rfl, b', rfl, Nat.le_trans ab6 hb1, hb2, (ab0 : Past [p, b] w _).then hb3 (by simp), hb4⟩
            | ok x1 ts1 =>
              rw [ok_bind] at hD ⊢
              have D2 : parseF n (.operation 1) (d) ts1 ≠ .out := bind_done hD
              have C2 := Lib.hid (fun (w : World) (h : PAt w p (d) ts1) => S.expr h D2)
              generalize parseF n (.operation 1) (d) ts1 = r2 at hD D2 C2 ⊢
              cases r2 with
              | out => exact absurd rfl D2
              | bad c l =>
                clear hD D2 S D0 D1
                go_enter Tryz.func94, Tryz.ntmps94
                go_wp2_with (first
                  | (go_at_call 147; (with_reducible refine (C0.out _ ?_).mono ?_); (· exact ab1); rintro e w0 ⟨v0, rfl, ⟨y0, c1, u0', rfl, rfl, hv0⟩, hp0, hw0⟩; obtain ⟨u0, rfl, t3, t0, hg1, hg2⟩ := hv0.name; have hc1 := flag_false k1; subst hc1; have e8 : (kindT y0 == 8) = false := beq_eq_false_iff_ne.2 (k2); have hN0 := hN.keep (hw0.block b hbl ab2); have hbl0 := hN0.lt; have q0 := hN0.c0; have f0 := hN0.warm 0; have q3 := hN0.c3; have f3 := hN0.warm 3; have q4 := hN0.c4; have f4 := hN0.warm 4; have e6 : (kindT y0 == 6) = false := beq_eq_false_iff_ne.2 (fun e => absurd (k3.symm.trans e) (by decide)); have e7 : (kindT y0 == 7) = true := beq_iff_eq.2 k3; have hz0 := hw0.size; (try simp at hz0))
                  | (go_at_call 87; (with_reducible refine (C1.out _ ?_).mono ?_); (· exact ab1); rintro e w1 ⟨v1, rfl, rfl, hp1, hw1⟩; have hN1 := hN0.keep (hw1.block b hbl0 ab2); have hz1 := hw1.size; (try simp at hz1))
                  | (go_at_call 142; (with_reducible refine (C2.out _ ?_).mono ?_); (· exact ab1); rintro e wb hB; obtain ⟨b', rfl, hb1, hb2, hb3, hb4⟩ := hB))
                exact ⟨rfl, b', rfl, Nat.le_trans ab6 hb1, hb2, (ab0 : Past [p, b] w _).then hb3 (by simp), hb4⟩
              | ok x2 ts2 =>
                rw [ok_bind] at hD ⊢
                clear hD S D0 D1 D2
                go_enter Tryz.func94, Tryz.ntmps94
                go_wp2_with (first
                  | (go_at_call 147; (with_reducible refine (C0.out _ ?_).mono ?_); (· exact ab1); rintro e w0 ⟨v0, rfl, ⟨y0, c1, u0', rfl, rfl, hv0⟩, hp0, hw0⟩; obtain ⟨u0, rfl, t3, t0, hg1, hg2⟩ := hv0.name; have hc1 := flag_false k1; subst hc1; have e8 : (kindT y0 == 8) = false := beq_eq_false_iff_ne.2 (k2); have hN0 := hN.keep (hw0.block b hbl ab2); have hbl0 := hN0.lt; have q0 := hN0.c0; have f0 := hN0.warm 0; have q3 := hN0.c3; have f3 := hN0.warm 3; have q4 := hN0.c4; have f4 := hN0.warm 4; have e6 : (kindT y0 == 6) = false := beq_eq_false_iff_ne.2 (fun e => absurd (k3.symm.trans e) (by decide)); have e7 : (kindT y0 == 7) = true := beq_iff_eq.2 k3; have hz0 := hw0.size; (try simp at hz0))
                  | (go_at_call 87; (with_reducible refine (C1.out _ ?_).mono ?_); (· exact ab1); rintro e w1 ⟨v1, rfl, rfl, hp1, hw1⟩; have hN1 := hN0.keep (hw1.block b hbl0 ab2); have hz1 := hw1.size; (try simp at hz1))
                  | (go_at_call 142; (with_reducible refine (C2.out _ ?_).mono ?_); (· exact ab1); rintro e w2 ⟨v2, rfl, hv2, hp2, hw2⟩; obtain ⟨u2, rfl⟩ := hv2.ptr; have hN2 := hN1.keep (hw2.block b hN1.lt ab2); have r0 := hN2.c0; have g0 := hN2.warm 0; have r3 := hN2.c3; have g3 := hN2.warm 3; have r4 := hN2.c4; have g4 := hN2.warm 4; have hz2 := hw2.size; (try simp at hz2)))
                refine bodyPost_end (results_none rfl _ _ _) rfl ?_
                exact ⟨_, rfl, ⟨rfl, at_st (((hN2.set0 2).set3 (pV u0)).set4 (pV u2)) ⟨Nat.le_refl _, (((hN2.set0 2).set3 (pV u0)).set4 (pV u2)).lt⟩ (hv0.past (ab0 : Past [p, b] w0 _) ab2 ab2).1 (hv2.past (ab0 : Past [p, b] w2 _) ab2 ab2).1 rfl (sl_nil _ _) (sl_nil _ _), rfl⟩, ab11, ab0⟩
        · rw [if_neg k3] at hD ⊢
          clear hD S D0
          go_enter Tryz.func94, Tryz.ntmps94
          go_wp2_with (first
            | (go_at_call 147; (with_reducible refine (C0.out _ ?_).mono ?_); (· exact ab1); rintro e w0 ⟨v0, rfl, ⟨y0, c1, u0', rfl, rfl, hv0⟩, hp0, hw0⟩; obtain ⟨u0, rfl, t3, t0, hg1, hg2⟩ := hv0.name; have hc1 := flag_false k1; subst hc1; have e8 : (kindT y0 == 8) = false := beq_eq_false_iff_ne.2 (k2); have hN0 := hN.keep (hw0.block b hbl ab2); have hbl0 := hN0.lt; have q0 := hN0.c0; have f0 := hN0.warm 0; have q3 := hN0.c3; have f3 := hN0.warm 3; have q4 := hN0.c4; have f4 := hN0.warm 4; have e6 : (kindT y0 == 6) = false := beq_eq_false_iff_ne.2 (fun e => k3 (.inl e)); have e7 : (kindT y0 == 7) = false := beq_eq_false_iff_ne.2 (fun e => k3 (.inr e)); have hz0 := hw0.size; (try simp at hz0))
            | (go_at_call 27; (with_reducible refine (fault_any (d := d) (ts := ts0) ?_ _).mono ?_); (· exact ab1); rintro e wf ⟨rfl, rfl⟩))
          exact ⟨rfl, (bad_new hp0 [p, b] 4 (linT ts0) _).after ab0 (fun i hi => .inl hi)⟩
end Go.Proofs.YtoggkigfijgbfaaGreatDoor.P5
