/- The contracts at a fuel and one: operand, behind. -/
import Derived.Test.YtoggkigfijgbfaaGreatDoorZAbb
import Derived.Test.YtoggkigfijgbfaaGreatDoorZC
namespace Go.Proofs.YtoggkigfijgbfaaGreatDoor.P5
set_option maxRecDepth 20000
open Go.RowKit Go.Maps
set_option maxHeartbeats 2000000 in
theorem operand_step {n : Nat} (S : Spec n) {w : World} {p d : Nat} {ts : List Tok} (h : PAt w p d ts) (hD : parseF (n + 1) (.operand) d ts ≠ .out) :
    Calls Tryz.prog 229 #[pV p] w (Ends p d [p] (parseF (n + 1) (.operand) d ts) (VE w.heap.size) w) := by
  have hpl := h.lt
  unfold parseF at hD ⊢
  simp only [] at hD ⊢
  have hX := exC_new w 10 (linT ts) 0 (sgnT ts) (.pointer none) (.pointer none) (.slice none 0 0) (.slice none 0 0) (.slice none 0 0) (.slice none 0 0) 55
  have hX3 := hX.c3
  by_cases hop : sgnT ts = [110, 111, 116] ∨ sgnT ts = [45] ∨ sgnT ts = [35] ∨ sgnT ts = [126]
  · rw [if_pos hop] at hD ⊢
    have hne : sgnT ts ≠ [] := by rcases hop with e | e | e | e <;> rw [e] <;> decide
    rcases hop with k | k | k | k
    · have q0 := beq_yes k
      have D0 : beginT (sgnT ts) d ts ≠ .out := bind_done hD
      have C0 := Lib.hid (fun (w : World) (h : PAt w p (d) ts) => begin_any (sgnT ts) hne h)
      generalize beginT (sgnT ts) d ts = r0 at hD D0 C0 ⊢
      cases r0 with
      | out => exact absurd rfl D0
      | bad c l =>
        clear hD D0 S k
        go_enter_defers Tryz.func229, Tryz.ntmps229
        go_wp2_with (first
          | (go_at_call 143; (with_reducible refine (C0.out _ ?_).mono ?_); (· exact ab1); rintro e wb hB; obtain ⟨b', rfl, hb1, hb2, hb3, hb4⟩ := hB)
          | (go_at_call 84; (with_reducible refine (sign_any (d := d) (ts := ts) ?_).mono ?_); (· exact ab1); rintro e wz ⟨rfl, hqz⟩; obtain rfl := hqz.symm)
          | (go_at_call 49; (with_reducible refine (line_any (d := d) (ts := ts) ?_).mono ?_); (· exact ab1); rintro e wz ⟨rfl, hqz⟩; obtain rfl := hqz.symm))
        exact ⟨b', rfl, Nat.le_trans ab6 hb1, hb2, (ab0 : Past [p] w _).then hb3 (by simp), hb4⟩
      | ok x0 ts0 =>
        rw [ok_bind] at hD ⊢
        have D1 : parseF n .operand (d + 1) ts0 ≠ .out := bind_done hD
        have C1 := Lib.hid (fun (w : World) (h : PAt w p (d + 1) ts0) => S.operand h D1)
        generalize parseF n .operand (d + 1) ts0 = r1 at hD D1 C1 ⊢
        cases r1 with
        | out => exact absurd rfl D1
        | bad c l =>
          clear hD D1 S D0 k
          go_enter_defers Tryz.func229, Tryz.ntmps229
          go_wp2_with (first
            | (go_at_call 143; (with_reducible refine (C0.out _ ?_).mono ?_); (· exact ab1); rintro e w0 ⟨v0, rfl, ⟨q, rfl, hq1, hq2⟩, hp0, hw0⟩; have hX := hX.keep (hw0.block _ (by simp) ab2); have hz0 := hw0.size; (try simp at hz0); (try simp at hq1))
            | (go_at_call 229; (with_reducible refine (C1.out _ ?_).mono ?_); (· exact ab1); rintro e wb hB; obtain ⟨b', rfl, hb1, hb2, hb3, hb4⟩ := hB)
            | (go_at_call 84; (with_reducible refine (sign_any (d := d) (ts := ts) ?_).mono ?_); (· exact ab1); rintro e wz ⟨rfl, hqz⟩; obtain rfl := hqz.symm)
            | (go_at_call 49; (with_reducible refine (line_any (d := d) (ts := ts) ?_).mono ?_); (· exact ab1); rintro e wz ⟨rfl, hqz⟩; obtain rfl := hqz.symm))
          exact door_bad (hb3.cell_some ab12 ab2) (Nat.le_trans ab6 hb1) hb2 ((ab0 : Past [p] w _).then hb3 (by simp)) hb4 (by simp) hpl
        | ok x1 ts1 =>
          rw [ok_bind] at hD ⊢
          clear hD S D0 D1 k
          go_enter_defers Tryz.func229, Tryz.ntmps229
          go_wp2_with (first
            | (go_at_call 143; (with_reducible refine (C0.out _ ?_).mono ?_); (· exact ab1); rintro e w0 ⟨v0, rfl, ⟨q, rfl, hq1, hq2⟩, hp0, hw0⟩; have hX := hX.keep (hw0.block _ (by simp) ab2); have hz0 := hw0.size; (try simp at hz0); (try simp at hq1))
            | (go_at_call 229; (with_reducible refine (C1.out _ ?_).mono ?_); (· exact ab1); rintro e w1 ⟨v1, rfl, hv1, hp1, hw1⟩; have hq2 := hw1.cell_some ab12 ab2; obtain ⟨u1, rfl⟩ := hv1.ptr; have hX := hX.keep (hw1.block _ hX.lt ab2); have x5 := hX.c5; have y5 := hX.warm 5; have hz1 := hw1.size; (try simp at hz1))
            | (go_at_call 84; (with_reducible refine (sign_any (d := d) (ts := ts) ?_).mono ?_); (· exact ab1); rintro e wz ⟨rfl, hqz⟩; obtain rfl := hqz.symm)
            | (go_at_call 49; (with_reducible refine (line_any (d := d) (ts := ts) ?_).mono ?_); (· exact ab1); rintro e wz ⟨rfl, hqz⟩; obtain rfl := hqz.symm))
          exact door_ok ((cell_set_block (by omega) _).trans hq2) (hp1.set (by omega) _) ab0 (by simp) (fun W => results_tmp (t := 2) rfl _ _ _) (fun W hW => show VE w.heap.size (.ex 10 (linT ts) 0 (sgnT ts) .nil x1 .nil .nil .nil .nil) W (pV w.heap.size) from ⟨at_ex ((hX.set5 (pV u1)).keep (hW.block _ (by first | omega | exact hX.lt | (simp; exact hX.lt)) ab2)) ⟨by omega, by have := hX.lt; have := hW.size; simp at this; omega⟩ rfl ((hv1.past (lo' := w.heap.size) ((Past.refl [w.heap.size] _).setCell (.inl (by simp)) _) ab2 ab2).past hW ab2 (Nat.le_refl _)).1 (sl_nil _ _) (sl_nil _ _) (sl_nil _ _) (sl_nil _ _), rfl⟩)
    · have q0 : (sgnT ts == [110, 111, 116]) = false := by simp [k]
      have q1 := beq_yes k
      have D0 : beginT (sgnT ts) d ts ≠ .out := bind_done hD
      have C0 := Lib.hid (fun (w : World) (h : PAt w p (d) ts) => begin_any (sgnT ts) hne h)
      generalize beginT (sgnT ts) d ts = r0 at hD D0 C0 ⊢
      cases r0 with
      | out => exact absurd rfl D0
      | bad c l =>
        clear hD D0 S k
        go_enter_defers Tryz.func229, Tryz.ntmps229
        go_wp2_with (first
          | (go_at_call 143; (with_reducible refine (C0.out _ ?_).mono ?_); (· exact ab1); rintro e wb hB; obtain ⟨b', rfl, hb1, hb2, hb3, hb4⟩ := hB)
          | (go_at_call 84; (with_reducible refine (sign_any (d := d) (ts := ts) ?_).mono ?_); (· exact ab1); rintro e wz ⟨rfl, hqz⟩; obtain rfl := hqz.symm)
          | (go_at_call 49; (with_reducible refine (line_any (d := d) (ts := ts) ?_).mono ?_); (· exact ab1); rintro e wz ⟨rfl, hqz⟩; obtain rfl := hqz.symm))
        exact ⟨b', rfl, Nat.le_trans ab6 hb1, hb2, (ab0 : Past [p] w _).then hb3 (by simp), hb4⟩
      | ok x0 ts0 =>
        rw [ok_bind] at hD ⊢
        have D1 : parseF n .operand (d + 1) ts0 ≠ .out := bind_done hD
        have C1 := Lib.hid (fun (w : World) (h : PAt w p (d + 1) ts0) => S.operand h D1)
        generalize parseF n .operand (d + 1) ts0 = r1 at hD D1 C1 ⊢
        cases r1 with
        | out => exact absurd rfl D1
        | bad c l =>
          clear hD D1 S D0 k
          go_enter_defers Tryz.func229, Tryz.ntmps229
          go_wp2_with (first
            | (go_at_call 143; (with_reducible refine (C0.out _ ?_).mono ?_); (· exact ab1); rintro e w0 ⟨v0, rfl, ⟨q, rfl, hq1, hq2⟩, hp0, hw0⟩; have hX := hX.keep (hw0.block _ (by simp) ab2); have hz0 := hw0.size; (try simp at hz0); (try simp at hq1))
            | (go_at_call 229; (with_reducible refine (C1.out _ ?_).mono ?_); (· exact ab1); rintro e wb hB; obtain ⟨b', rfl, hb1, hb2, hb3, hb4⟩ := hB)
            | (go_at_call 84; (with_reducible refine (sign_any (d := d) (ts := ts) ?_).mono ?_); (· exact ab1); rintro e wz ⟨rfl, hqz⟩; obtain rfl := hqz.symm)
            | (go_at_call 49; (with_reducible refine (line_any (d := d) (ts := ts) ?_).mono ?_); (· exact ab1); rintro e wz ⟨rfl, hqz⟩; obtain rfl := hqz.symm))
          exact door_bad (hb3.cell_some ab12 ab2) (Nat.le_trans ab6 hb1) hb2 ((ab0 : Past [p] w _).then hb3 (by simp)) hb4 (by simp) hpl
        | ok x1 ts1 =>
          rw [ok_bind] at hD ⊢
          clear hD S D0 D1 k
          go_enter_defers Tryz.func229, Tryz.ntmps229
          go_wp2_with (first
            | (go_at_call 143; (with_reducible refine (C0.out _ ?_).mono ?_); (· exact ab1); rintro e w0 ⟨v0, rfl, ⟨q, rfl, hq1, hq2⟩, hp0, hw0⟩; have hX := hX.keep (hw0.block _ (by simp) ab2); have hz0 := hw0.size; (try simp at hz0); (try simp at hq1))
            | (go_at_call 229; (with_reducible refine (C1.out _ ?_).mono ?_); (· exact ab1); rintro e w1 ⟨v1, rfl, hv1, hp1, hw1⟩; have hq2 := hw1.cell_some ab12 ab2; obtain ⟨u1, rfl⟩ := hv1.ptr; have hX := hX.keep (hw1.block _ hX.lt ab2); have x5 := hX.c5; have y5 := hX.warm 5; have hz1 := hw1.size; (try simp at hz1))
            | (go_at_call 84; (with_reducible refine (sign_any (d := d) (ts := ts) ?_).mono ?_); (· exact ab1); rintro e wz ⟨rfl, hqz⟩; obtain rfl := hqz.symm)
            | (go_at_call 49; (with_reducible refine (line_any (d := d) (ts := ts) ?_).mono ?_); (· exact ab1); rintro e wz ⟨rfl, hqz⟩; obtain rfl := hqz.symm))
          exact door_ok ((cell_set_block (by omega) _).trans hq2) (hp1.set (by omega) _) ab0 (by simp) (fun W => results_tmp (t := 2) rfl _ _ _) (fun W hW => show VE w.heap.size (.ex 10 (linT ts) 0 (sgnT ts) .nil x1 .nil .nil .nil .nil) W (pV w.heap.size) from ⟨at_ex ((hX.set5 (pV u1)).keep (hW.block _ (by first | omega | exact hX.lt | (simp; exact hX.lt)) ab2)) ⟨by omega, by have := hX.lt; have := hW.size; simp at this; omega⟩ rfl ((hv1.past (lo' := w.heap.size) ((Past.refl [w.heap.size] _).setCell (.inl (by simp)) _) ab2 ab2).past hW ab2 (Nat.le_refl _)).1 (sl_nil _ _) (sl_nil _ _) (sl_nil _ _) (sl_nil _ _), rfl⟩)
    · have q0 : (sgnT ts == [110, 111, 116]) = false := by simp [k]
      have q1 : (sgnT ts == [45]) = false := by simp [k]
      have q2 := beq_yes k
      have D0 : beginT (sgnT ts) d ts ≠ .out := bind_done hD
      have C0 := Lib.hid (fun (w : World) (h : PAt w p (d) ts) => begin_any (sgnT ts) hne h)
      generalize beginT (sgnT ts) d ts = r0 at hD D0 C0 ⊢
      cases r0 with
      | out => exact absurd rfl D0
      | bad c l =>
        clear hD D0 S k
        go_enter_defers Tryz.func229, Tryz.ntmps229
        go_wp2_with (first
          | (go_at_call 143; (with_reducible refine (C0.out _ ?_).mono ?_); (· exact ab1); rintro e wb hB; obtain ⟨b', rfl, hb1, hb2, hb3, hb4⟩ := hB)
          | (go_at_call 84; (with_reducible refine (sign_any (d := d) (ts := ts) ?_).mono ?_); (· exact ab1); rintro e wz ⟨rfl, hqz⟩; obtain rfl := hqz.symm)
          | (go_at_call 49; (with_reducible refine (line_any (d := d) (ts := ts) ?_).mono ?_); (· exact ab1); rintro e wz ⟨rfl, hqz⟩; obtain rfl := hqz.symm))
        exact ⟨b', rfl, Nat.le_trans ab6 hb1, hb2, (ab0 : Past [p] w _).then hb3 (by simp), hb4⟩
      | ok x0 ts0 =>
        rw [ok_bind] at hD ⊢
        have D1 : parseF n .operand (d + 1) ts0 ≠ .out := bind_done hD
        have C1 := Lib.hid (fun (w : World) (h : PAt w p (d + 1) ts0) => S.operand h D1)
        generalize parseF n .operand (d + 1) ts0 = r1 at hD D1 C1 ⊢
        cases r1 with
        | out => exact absurd rfl D1
        | bad c l =>
          clear hD D1 S D0 k
          go_enter_defers Tryz.func229, Tryz.ntmps229
          go_wp2_with (first
            | (go_at_call 143; (with_reducible refine (C0.out _ ?_).mono ?_); (· exact ab1); rintro e w0 ⟨v0, rfl, ⟨q, rfl, hq1, hq2⟩, hp0, hw0⟩; have hX := hX.keep (hw0.block _ (by simp) ab2); have hz0 := hw0.size; (try simp at hz0); (try simp at hq1))
            | (go_at_call 229; (with_reducible refine (C1.out _ ?_).mono ?_); (· exact ab1); rintro e wb hB; obtain ⟨b', rfl, hb1, hb2, hb3, hb4⟩ := hB)
            | (go_at_call 84; (with_reducible refine (sign_any (d := d) (ts := ts) ?_).mono ?_); (· exact ab1); rintro e wz ⟨rfl, hqz⟩; obtain rfl := hqz.symm)
            | (go_at_call 49; (with_reducible refine (line_any (d := d) (ts := ts) ?_).mono ?_); (· exact ab1); rintro e wz ⟨rfl, hqz⟩; obtain rfl := hqz.symm))
          exact door_bad (hb3.cell_some ab12 ab2) (Nat.le_trans ab6 hb1) hb2 ((ab0 : Past [p] w _).then hb3 (by simp)) hb4 (by simp) hpl
        | ok x1 ts1 =>
          rw [ok_bind] at hD ⊢
          clear hD S D0 D1 k
          go_enter_defers Tryz.func229, Tryz.ntmps229
          go_wp2_with (first
            | (go_at_call 143; (with_reducible refine (C0.out _ ?_).mono ?_); (· exact ab1); rintro e w0 ⟨v0, rfl, ⟨q, rfl, hq1, hq2⟩, hp0, hw0⟩; have hX := hX.keep (hw0.block _ (by simp) ab2); have hz0 := hw0.size; (try simp at hz0); (try simp at hq1))
            | (go_at_call 229; (with_reducible refine (C1.out _ ?_).mono ?_); (· exact ab1); rintro e w1 ⟨v1, rfl, hv1, hp1, hw1⟩; have hq2 := hw1.cell_some ab12 ab2; obtain ⟨u1, rfl⟩ := hv1.ptr; have hX := hX.keep (hw1.block _ hX.lt ab2); have x5 := hX.c5; have y5 := hX.warm 5; have hz1 := hw1.size; (try simp at hz1))
            | (go_at_call 84; (with_reducible refine (sign_any (d := d) (ts := ts) ?_).mono ?_); (· exact ab1); rintro e wz ⟨rfl, hqz⟩; obtain rfl := hqz.symm)
            | (go_at_call 49; (with_reducible refine (line_any (d := d) (ts := ts) ?_).mono ?_); (· exact ab1); rintro e wz ⟨rfl, hqz⟩; obtain rfl := hqz.symm))
          exact door_ok ((cell_set_block (by omega) _).trans hq2) (hp1.set (by omega) _) ab0 (by simp) (fun W => results_tmp (t := 2) rfl _ _ _) (fun W hW => show VE w.heap.size (.ex 10 (linT ts) 0 (sgnT ts) .nil x1 .nil .nil .nil .nil) W (pV w.heap.size) from ⟨at_ex ((hX.set5 (pV u1)).keep (hW.block _ (by first | omega | exact hX.lt | (simp; exact hX.lt)) ab2)) ⟨by omega, by have := hX.lt; have := hW.size; simp at this; omega⟩ rfl ((hv1.past (lo' := w.heap.size) ((Past.refl [w.heap.size] _).setCell (.inl (by simp)) _) ab2 ab2).past hW ab2 (Nat.le_refl _)).1 (sl_nil _ _) (sl_nil _ _) (sl_nil _ _) (sl_nil _ _), rfl⟩)
    · have q0 : (sgnT ts == [110, 111, 116]) = false := by simp [k]
      have q1 : (sgnT ts == [45]) = false := by simp [k]
      have q2 : (sgnT ts == [35]) = false := by simp [k]
      have q3 := beq_yes k
      have D0 : beginT (sgnT ts) d ts ≠ .out := bind_done hD
      have C0 := Lib.hid (fun (w : World) (h : PAt w p (d) ts) => begin_any (sgnT ts) hne h)
      generalize beginT (sgnT ts) d ts = r0 at hD D0 C0 ⊢
      cases r0 with
      | out => exact absurd rfl D0
      | bad c l =>
        clear hD D0 S k
        go_enter_defers Tryz.func229, Tryz.ntmps229
        go_wp2_with (first
          | (go_at_call 143; (with_reducible refine (C0.out _ ?_).mono ?_); (· exact ab1); rintro e wb hB; obtain ⟨b', rfl, hb1, hb2, hb3, hb4⟩ := hB)
          | (go_at_call 84; (with_reducible refine (sign_any (d := d) (ts := ts) ?_).mono ?_); (· exact ab1); rintro e wz ⟨rfl, hqz⟩; obtain rfl := hqz.symm)
          | (go_at_call 49; (with_reducible refine (line_any (d := d) (ts := ts) ?_).mono ?_); (· exact ab1); rintro e wz ⟨rfl, hqz⟩; obtain rfl := hqz.symm))
        exact ⟨b', rfl, Nat.le_trans ab6 hb1, hb2, (ab0 : Past [p] w _).then hb3 (by simp), hb4⟩
      | ok x0 ts0 =>
        rw [ok_bind] at hD ⊢
        have D1 : parseF n .operand (d + 1) ts0 ≠ .out := bind_done hD
        have C1 := Lib.hid (fun (w : World) (h : PAt w p (d + 1) ts0) => S.operand h D1)
        generalize parseF n .operand (d + 1) ts0 = r1 at hD D1 C1 ⊢
        cases r1 with
        | out => exact absurd rfl D1
        | bad c l =>
          clear hD D1 S D0 k
          go_enter_defers Tryz.func229, Tryz.ntmps229
          go_wp2_with (first
            | (go_at_call 143; (with_reducible refine (C0.out _ ?_).mono ?_); (· exact ab1); rintro e w0 ⟨v0, rfl, ⟨q, rfl, hq1, hq2⟩, hp0, hw0⟩; have hX := hX.keep (hw0.block _ (by simp) ab2); have hz0 := hw0.size; (try simp at hz0); (try simp at hq1))
            | (go_at_call 229; (with_reducible refine (C1.out _ ?_).mono ?_); (· exact ab1); rintro e wb hB; obtain ⟨b', rfl, hb1, hb2, hb3, hb4⟩ := hB)
            | (go_at_call 84; (with_reducible refine (sign_any (d := d) (ts := ts) ?_).mono ?_); (· exact ab1); rintro e wz ⟨rfl, hqz⟩; obtain rfl := hqz.symm)
            | (go_at_call 49; (with_reducible refine (line_any (d := d) (ts := ts) ?_).mono ?_); (· exact ab1); rintro e wz ⟨rfl, hqz⟩; obtain rfl := hqz.symm))
          exact door_bad (hb3.cell_some ab12 ab2) (Nat.le_trans ab6 hb1) hb2 ((ab0 : Past [p] w _).then hb3 (by simp)) hb4 (by simp) hpl
        | ok x1 ts1 =>
          rw [ok_bind] at hD ⊢
          clear hD S D0 D1 k
          go_enter_defers Tryz.func229, Tryz.ntmps229
          go_wp2_with (first
            | (go_at_call 143; (with_reducible refine (C0.out _ ?_).mono ?_); (· exact ab1); rintro e w0 ⟨v0, rfl, ⟨q, rfl, hq1, hq2⟩, hp0, hw0⟩; have hX := hX.keep (hw0.block _ (by simp) ab2); have hz0 := hw0.size; (try simp at hz0); (try simp at hq1))
            | (go_at_call 229; (with_reducible refine (C1.out _ ?_).mono ?_); (· exact ab1); rintro e w1 ⟨v1, rfl, hv1, hp1, hw1⟩; have hq2 := hw1.cell_some ab12 ab2; obtain ⟨u1, rfl⟩ := hv1.ptr; have hX := hX.keep (hw1.block _ hX.lt ab2); have x5 := hX.c5; have y5 := hX.warm 5; have hz1 := hw1.size; (try simp at hz1))
            | (go_at_call 84; (with_reducible refine (sign_any (d := d) (ts := ts) ?_).mono ?_); (· exact ab1); rintro e wz ⟨rfl, hqz⟩; obtain rfl := hqz.symm)
            | (go_at_call 49; (with_reducible refine (line_any (d := d) (ts := ts) ?_).mono ?_); (· exact ab1); rintro e wz ⟨rfl, hqz⟩; obtain rfl := hqz.symm))
          exact door_ok ((cell_set_block (by omega) _).trans hq2) (hp1.set (by omega) _) ab0 (by simp) (fun W => results_tmp (t := 2) rfl _ _ _) (fun W hW => show VE w.heap.size (.ex 10 (linT ts) 0 (sgnT ts) .nil x1 .nil .nil .nil .nil) W (pV w.heap.size) from ⟨at_ex ((hX.set5 (pV u1)).keep (hW.block _ (by first | omega | exact hX.lt | (simp; exact hX.lt)) ab2)) ⟨by omega, by have := hX.lt; have := hW.size; simp at this; omega⟩ rfl ((hv1.past (lo' := w.heap.size) ((Past.refl [w.heap.size] _).setCell (.inl (by simp)) _) ab2 ab2).past hW ab2 (Nat.le_refl _)).1 (sl_nil _ _) (sl_nil _ _) (sl_nil _ _) (sl_nil _ _), rfl⟩)
  · rw [if_neg hop] at hD ⊢
    have q0 : (sgnT ts == [110, 111, 116]) = false := beq_no (fun e => hop (.inl e))
    have q1 : (sgnT ts == [45]) = false := beq_no (fun e => hop (.inr (.inl e)))
    have q2 : (sgnT ts == [35]) = false := beq_no (fun e => hop (.inr (.inr (.inl e))))
    have q3 : (sgnT ts == [126]) = false := beq_no (fun e => hop (.inr (.inr (.inr e))))
    have D0 : parseF n .postExpr d ts ≠ .out := bind_done hD
    have C0 := Lib.hid (fun (w : World) (h : PAt w p (d) ts) => S.postExpr h D0)
    generalize parseF n .postExpr d ts = r0 at hD D0 C0 ⊢
    cases r0 with
    | out => exact absurd rfl D0
    | bad c l =>
      clear hD D0 S hop hX hX3
      go_enter_defers Tryz.func229, Tryz.ntmps229
      go_wp2_with (first
        | (go_at_call 147; (with_reducible refine (C0.out _ ?_).mono ?_); (· exact ab1); rintro e wb hB; obtain ⟨b', rfl, hb1, hb2, hb3, hb4⟩ := hB)
        | (go_at_call 84; (with_reducible refine (sign_any (d := d) (ts := ts) ?_).mono ?_); (· exact ab1); rintro e wz ⟨rfl, hqz⟩; obtain rfl := hqz.symm))
      exact ⟨b', rfl, Nat.le_trans ab6 hb1, hb2, (ab0 : Past [p] w _).then hb3 (by simp), hb4⟩
    | ok x0 ts0 =>
      rw [ok_bind] at hD ⊢
      clear hD S D0 hop hX hX3
      go_enter_defers Tryz.func229, Tryz.ntmps229
      go_wp2_with (first
        | (go_at_call 147; (with_reducible refine (C0.out _ ?_).mono ?_); (· exact ab1); rintro e w0 ⟨v0, rfl, ⟨y0, b0, u0, rfl, rfl, hv0⟩, hp0, hw0⟩; have hz0 := hw0.size; (try simp at hz0))
        | (go_at_call 84; (with_reducible refine (sign_any (d := d) (ts := ts) ?_).mono ?_); (· exact ab1); rintro e wz ⟨rfl, hqz⟩; obtain rfl := hqz.symm))
      exact ⟨_, results_tmp (t := 2) rfl _ _ _, u0, rfl, hv0, hp0, hw0⟩
theorem ite_le {c : Prop} [Decidable c] {a b n : Nat} (ha : a ≤ n) (hb : b ≤ n) : (if c then a else b) ≤ n := by split <;> assumption
theorem strength_le (s : List UInt8) : strengthT s ≤ 10 := by
  unfold strengthT
  iterate 19 (refine ite_le ?_ ?_; · decide)
  decide
theorem behind_look {w : World} {p d : Nat} {ts : List Tok} (h : PAt w p d ts) (o : Obj) : ∃ m, (w.alloc o).drew.cell? ⟨p, 2, none⟩ = some (.map (some m)) ∧ (Instr.lookup 60 (.map (some m)) (sV (sgnT ts)) false).run Tryz.prog (w.alloc o).drew = .ok (iV (strengthT (sgnT ts))) (w.alloc o).drew := by
  obtain ⟨g, a, c, m, h'⟩ := (h.alloc o).drew
  exact ⟨m, h'.c2, h'.map.look _ h'.sgn_short⟩
set_option maxHeartbeats 2000000 in
theorem behind_step {n : Nat} (S : Spec n) {w : World} {p d : Nat} {ts : List Tok} (lo : Nat) (left : Tree) (vl : Value) (h : PAt w p d ts) (hplo : p < lo) (hlo : lo ≤ w.heap.size) (hvl : VE lo left w vl) (hs1 : 1 ≤ strengthT (sgnT ts)) (hD : parseF (n + 1) (.behind left) d ts ≠ .out) :
    Calls Tryz.prog 230 #[pV p, vl] w (Ends p d [p] (parseF (n + 1) (.behind left) d ts) (VE lo) w) := by
  have hpl := h.lt
  unfold parseF at hD ⊢
  simp only [] at hD ⊢
  have hX := exC_new w 11 (linT ts) 0 (sgnT ts) vl (.pointer none) (.slice none 0 0) (.slice none 0 0) (.slice none 0 0) (.slice none 0 0) 55
  have hne : sgnT ts ≠ [] := fun e => by rw [e] at hs1; exact absurd hs1 (by decide)
  obtain ⟨ul, rfl⟩ := hvl.ptr
  have hsl : strengthT (sgnT ts) ≤ 10 := strength_le _
  have LK := behind_look h (o := .cells #[iV 11, iV (linT ts), iV 0, sV (sgnT ts), pV ul, .pointer none, .slice none 0 0, .slice none 0 0, .slice none 0 0, .slice none 0 0] 55)
  obtain ⟨mm, p2, LK⟩ := LK
  by_cases kj : sgnT ts = [46, 46]
  · rw [if_pos kj] at hD ⊢
    have q1 := beq_yes kj
    have D0 : beginT [46, 46] d ts ≠ .out := bind_done hD
    have C0 := Lib.hid (fun (w : World) (h : PAt w p (d) ts) => begin_any [46, 46] (by decide) h)
    generalize beginT [46, 46] d ts = r0 at hD D0 C0 ⊢
    cases r0 with
    | out => exact absurd rfl D0
    | bad c l =>
      clear hD D0 S kj
      go_enter_defers Tryz.func230, Tryz.ntmps230
      go_wp2_with (first
        | (go_at_call 143; (with_reducible refine (C0.out _ ?_).mono ?_); (· exact ab1); rintro e wb hB; obtain ⟨b', rfl, hb1, hb2, hb3, hb4⟩ := hB)
        | (go_at_call 84; (with_reducible refine (sign_any (d := d) (ts := ts) ?_).mono ?_); (· exact ab1); rintro e wz ⟨rfl, hqz⟩; obtain rfl := hqz.symm)
        | (go_at_call 49; (with_reducible refine (line_any (d := d) (ts := ts) ?_).mono ?_); (· exact ab1); rintro e wz ⟨rfl, hqz⟩; obtain rfl := hqz.symm))
      go_region
      go_wp2_with (first
        | (go_at_call 143; (with_reducible refine (C0.out _ ?_).mono ?_); (· exact ab1); rintro e wb hB; obtain ⟨b', rfl, hb1, hb2, hb3, hb4⟩ := hB)
        | (go_at_call 84; (with_reducible refine (sign_any (d := d) (ts := ts) ?_).mono ?_); (· exact ab1); rintro e wz ⟨rfl, hqz⟩; obtain rfl := hqz.symm)
        | (go_at_call 49; (with_reducible refine (line_any (d := d) (ts := ts) ?_).mono ?_); (· exact ab1); rintro e wz ⟨rfl, hqz⟩; obtain rfl := hqz.symm))
      exact ⟨b', rfl, Nat.le_trans ab6 hb1, hb2, (ab0 : Past [p] w _).then hb3 (by simp), hb4⟩
    | ok x0 ts0 =>
      rw [ok_bind] at hD ⊢
      have D1 : parseF n (.operation 8) (d + 1) ts0 ≠ .out := bind_done hD
      have C1 := Lib.hid (fun (w : World) (h : PAt w p (d + 1) ts0) => S.operation 8 (strengthT (sgnT ts)) (by rw [kj]; rfl) h (by decide) (by decide) D1)
      generalize parseF n (.operation 8) (d + 1) ts0 = r1 at hD D1 C1 ⊢
      cases r1 with
      | out => exact absurd rfl D1
      | bad c l =>
        clear hD D1 S D0 kj
        go_enter_defers Tryz.func230, Tryz.ntmps230
        go_wp2_with (first
          | (go_at_call 143; (with_reducible refine (C0.out _ ?_).mono ?_); (· exact ab1); rintro e w0 ⟨v0, rfl, ⟨q, rfl, hq1, hq2⟩, hp0, hw0⟩; have hX := hX.keep (hw0.block _ ab2 ab2); have hz0 := hw0.size; (try simp at hz0); (try simp at hq1))
          | (go_at_call 187; (with_reducible refine (C1.out _ ?_).mono ?_); (· exact ab1); rintro e wb hB; obtain ⟨b', rfl, hb1, hb2, hb3, hb4⟩ := hB)
          | (go_at_call 84; (with_reducible refine (sign_any (d := d) (ts := ts) ?_).mono ?_); (· exact ab1); rintro e wz ⟨rfl, hqz⟩; obtain rfl := hqz.symm)
          | (go_at_call 49; (with_reducible refine (line_any (d := d) (ts := ts) ?_).mono ?_); (· exact ab1); rintro e wz ⟨rfl, hqz⟩; obtain rfl := hqz.symm))
        go_region
        go_wp2_with (first
          | (go_at_call 143; (with_reducible refine (C0.out _ ?_).mono ?_); (· exact ab1); rintro e w0 ⟨v0, rfl, ⟨q, rfl, hq1, hq2⟩, hp0, hw0⟩; have hX := hX.keep (hw0.block _ ab2 ab2); have hz0 := hw0.size; (try simp at hz0); (try simp at hq1))
          | (go_at_call 187; (with_reducible refine (C1.out _ ?_).mono ?_); (· exact ab1); rintro e wb hB; obtain ⟨b', rfl, hb1, hb2, hb3, hb4⟩ := hB)
          | (go_at_call 84; (with_reducible refine (sign_any (d := d) (ts := ts) ?_).mono ?_); (· exact ab1); rintro e wz ⟨rfl, hqz⟩; obtain rfl := hqz.symm)
          | (go_at_call 49; (with_reducible refine (line_any (d := d) (ts := ts) ?_).mono ?_); (· exact ab1); rintro e wz ⟨rfl, hqz⟩; obtain rfl := hqz.symm))
        exact door_bad (hb3.cell_some ab12 ab2) (Nat.le_trans ab6 hb1) hb2 ((ab0 : Past [p] w _).then hb3 (by simp)) hb4 (by simp) hpl
      | ok x1 ts1 =>
        rw [ok_bind] at hD ⊢
        clear hD S D0 D1 kj
        go_enter_defers Tryz.func230, Tryz.ntmps230
        go_wp2_with (first
          | (go_at_call 143; (with_reducible refine (C0.out _ ?_).mono ?_); (· exact ab1); rintro e w0 ⟨v0, rfl, ⟨q, rfl, hq1, hq2⟩, hp0, hw0⟩; have hX := hX.keep (hw0.block _ ab2 ab2); have hz0 := hw0.size; (try simp at hz0); (try simp at hq1))
          | (go_at_call 187; (with_reducible refine (C1.out _ ?_).mono ?_); (· exact ab1); rintro e w1 ⟨v1, rfl, hv1, hp1, hw1⟩; have hq2 := hw1.cell_some ab12 ab2; obtain ⟨u1, rfl⟩ := hv1.ptr; have hX := hX.keep (hw1.block _ hX.lt ab2); have x5 := hX.c5; have y5 := hX.warm 5; have hz1 := hw1.size; (try simp at hz1))
          | (go_at_call 84; (with_reducible refine (sign_any (d := d) (ts := ts) ?_).mono ?_); (· exact ab1); rintro e wz ⟨rfl, hqz⟩; obtain rfl := hqz.symm)
          | (go_at_call 49; (with_reducible refine (line_any (d := d) (ts := ts) ?_).mono ?_); (· exact ab1); rintro e wz ⟨rfl, hqz⟩; obtain rfl := hqz.symm))
        go_region
        go_wp2_with (first
          | (go_at_call 143; (with_reducible refine (C0.out _ ?_).mono ?_); (· exact ab1); rintro e w0 ⟨v0, rfl, ⟨q, rfl, hq1, hq2⟩, hp0, hw0⟩; have hX := hX.keep (hw0.block _ ab2 ab2); have hz0 := hw0.size; (try simp at hz0); (try simp at hq1))
          | (go_at_call 187; (with_reducible refine (C1.out _ ?_).mono ?_); (· exact ab1); rintro e w1 ⟨v1, rfl, hv1, hp1, hw1⟩; have hq2 := hw1.cell_some ab12 ab2; obtain ⟨u1, rfl⟩ := hv1.ptr; have hX := hX.keep (hw1.block _ hX.lt ab2); have x5 := hX.c5; have y5 := hX.warm 5; have hz1 := hw1.size; (try simp at hz1))
          | (go_at_call 84; (with_reducible refine (sign_any (d := d) (ts := ts) ?_).mono ?_); (· exact ab1); rintro e wz ⟨rfl, hqz⟩; obtain rfl := hqz.symm)
          | (go_at_call 49; (with_reducible refine (line_any (d := d) (ts := ts) ?_).mono ?_); (· exact ab1); rintro e wz ⟨rfl, hqz⟩; obtain rfl := hqz.symm))
        exact door_ok ((cell_set_block (by omega) _).trans hq2) (hp1.set (by omega) _) ab0 (by simp) (fun W => results_tmp (t := 4) rfl _ _ _) (fun W hW => by have HX := (hX.set5 (pV u1)).keep (hW.block _ (by first | omega | exact hX.lt | (simp; exact hX.lt)) ab2); have HL := HX.lt; have HA := (at_past hvl.1 (lo' := lo) ((ab0 : Past [p] w _).trans hW) ab2 (Nat.le_refl _)); have HB := (hv1.past (lo' := lo) ((Past.refl [w.heap.size] _).setCell (p := ⟨w.heap.size, 5, none⟩) (.inl (by simp)) (pV u1)) ab2 ab2).past hW ab2 (Nat.le_refl _); exact show VE lo (.ex 11 (linT ts) 0 (sgnT ts) left x1 .nil .nil .nil .nil) _ (pV w.heap.size) from ⟨at_ex HX ⟨by omega, HL⟩ HA HB.1 (sl_nil _ _) (sl_nil _ _) (sl_nil _ _) (sl_nil _ _), rfl⟩)
  · rw [if_neg kj] at hD ⊢
    have q1 := beq_no kj
    have D0 : wantT (sgnT ts) ts ≠ .out := bind_done hD
    have C0 := Lib.hid (fun (w : World) (h : PAt w p (d) ts) => want_any (sgnT ts) hne h)
    generalize wantT (sgnT ts) ts = r0 at hD D0 C0 ⊢
    cases r0 with
    | out => exact absurd rfl D0
    | bad c l =>
      clear hD D0 S kj
      go_enter_defers Tryz.func230, Tryz.ntmps230
      go_wp2_with (first
        | (go_at_call 87; (with_reducible refine (C0.out _ ?_).mono ?_); (· exact ab1); rintro e wb hB; obtain ⟨b', rfl, hb1, hb2, hb3, hb4⟩ := hB)
        | (go_at_call 84; (with_reducible refine (sign_any (d := d) (ts := ts) ?_).mono ?_); (· exact ab1); rintro e wz ⟨rfl, hqz⟩; obtain rfl := hqz.symm)
        | (go_at_call 49; (with_reducible refine (line_any (d := d) (ts := ts) ?_).mono ?_); (· exact ab1); rintro e wz ⟨rfl, hqz⟩; obtain rfl := hqz.symm))
      go_region
      go_wp2_with (first
        | (go_at_call 87; (with_reducible refine (C0.out _ ?_).mono ?_); (· exact ab1); rintro e wb hB; obtain ⟨b', rfl, hb1, hb2, hb3, hb4⟩ := hB)
        | (go_at_call 84; (with_reducible refine (sign_any (d := d) (ts := ts) ?_).mono ?_); (· exact ab1); rintro e wz ⟨rfl, hqz⟩; obtain rfl := hqz.symm)
        | (go_at_call 49; (with_reducible refine (line_any (d := d) (ts := ts) ?_).mono ?_); (· exact ab1); rintro e wz ⟨rfl, hqz⟩; obtain rfl := hqz.symm))
      exact ⟨b', rfl, Nat.le_trans ab6 hb1, hb2, (ab0 : Past [p] w _).then hb3 (by simp), hb4⟩
    | ok x0 ts0 =>
      rw [ok_bind] at hD ⊢
      have D1 : parseF n (.operation (strengthT (sgnT ts) + 1)) d ts0 ≠ .out := bind_done hD
      have C1 := Lib.hid (fun (w : World) (h : PAt w p (d) ts0) => S.operation (strengthT (sgnT ts) + 1) ((strengthT (sgnT ts) : Int) + 1) (by omega) h (by omega) (by omega) D1)
      generalize parseF n (.operation (strengthT (sgnT ts) + 1)) d ts0 = r1 at hD D1 C1 ⊢
      cases r1 with
      | out => exact absurd rfl D1
      | bad c l =>
        clear hD D1 S D0 kj
        go_enter_defers Tryz.func230, Tryz.ntmps230
        go_wp2_with (first
          | (go_at_call 87; (with_reducible refine (C0.out _ ?_).mono ?_); (· exact ab1); rintro e w0 ⟨v0, rfl, rfl, hp0, hw0⟩; have hX := hX.keep (hw0.block _ ab2 ab2); have hz0 := hw0.size; (try simp at hz0))
          | (go_at_call 187; (with_reducible refine (C1.out _ ?_).mono ?_); (· exact ab1); rintro e wb hB; obtain ⟨b', rfl, hb1, hb2, hb3, hb4⟩ := hB)
          | (go_at_call 84; (with_reducible refine (sign_any (d := d) (ts := ts) ?_).mono ?_); (· exact ab1); rintro e wz ⟨rfl, hqz⟩; obtain rfl := hqz.symm)
          | (go_at_call 49; (with_reducible refine (line_any (d := d) (ts := ts) ?_).mono ?_); (· exact ab1); rintro e wz ⟨rfl, hqz⟩; obtain rfl := hqz.symm))
        go_region
        go_wp2_with (first
          | (go_at_call 87; (with_reducible refine (C0.out _ ?_).mono ?_); (· exact ab1); rintro e w0 ⟨v0, rfl, rfl, hp0, hw0⟩; have hX := hX.keep (hw0.block _ ab2 ab2); have hz0 := hw0.size; (try simp at hz0))
          | (go_at_call 187; (with_reducible refine (C1.out _ ?_).mono ?_); (· exact ab1); rintro e wb hB; obtain ⟨b', rfl, hb1, hb2, hb3, hb4⟩ := hB)
          | (go_at_call 84; (with_reducible refine (sign_any (d := d) (ts := ts) ?_).mono ?_); (· exact ab1); rintro e wz ⟨rfl, hqz⟩; obtain rfl := hqz.symm)
          | (go_at_call 49; (with_reducible refine (line_any (d := d) (ts := ts) ?_).mono ?_); (· exact ab1); rintro e wz ⟨rfl, hqz⟩; obtain rfl := hqz.symm))
        exact ⟨b', rfl, Nat.le_trans ab6 hb1, hb2, (ab0 : Past [p] w _).then hb3 (by simp), hb4⟩
      | ok x1 ts1 =>
        rw [ok_bind] at hD ⊢
        clear hD S D0 D1 kj
        go_enter_defers Tryz.func230, Tryz.ntmps230
        go_wp2_with (first
          | (go_at_call 87; (with_reducible refine (C0.out _ ?_).mono ?_); (· exact ab1); rintro e w0 ⟨v0, rfl, rfl, hp0, hw0⟩; have hX := hX.keep (hw0.block _ ab2 ab2); have hz0 := hw0.size; (try simp at hz0))
          | (go_at_call 187; (with_reducible refine (C1.out _ ?_).mono ?_); (· exact ab1); rintro e w1 ⟨v1, rfl, hv1, hp1, hw1⟩; obtain ⟨u1, rfl⟩ := hv1.ptr; have hX := hX.keep (hw1.block _ hX.lt ab2); have x5 := hX.c5; have y5 := hX.warm 5; have hz1 := hw1.size; (try simp at hz1))
          | (go_at_call 84; (with_reducible refine (sign_any (d := d) (ts := ts) ?_).mono ?_); (· exact ab1); rintro e wz ⟨rfl, hqz⟩; obtain rfl := hqz.symm)
          | (go_at_call 49; (with_reducible refine (line_any (d := d) (ts := ts) ?_).mono ?_); (· exact ab1); rintro e wz ⟨rfl, hqz⟩; obtain rfl := hqz.symm))
        go_region
        go_wp2_with (first
          | (go_at_call 87; (with_reducible refine (C0.out _ ?_).mono ?_); (· exact ab1); rintro e w0 ⟨v0, rfl, rfl, hp0, hw0⟩; have hX := hX.keep (hw0.block _ ab2 ab2); have hz0 := hw0.size; (try simp at hz0))
          | (go_at_call 187; (with_reducible refine (C1.out _ ?_).mono ?_); (· exact ab1); rintro e w1 ⟨v1, rfl, hv1, hp1, hw1⟩; obtain ⟨u1, rfl⟩ := hv1.ptr; have hX := hX.keep (hw1.block _ hX.lt ab2); have x5 := hX.c5; have y5 := hX.warm 5; have hz1 := hw1.size; (try simp at hz1))
          | (go_at_call 84; (with_reducible refine (sign_any (d := d) (ts := ts) ?_).mono ?_); (· exact ab1); rintro e wz ⟨rfl, hqz⟩; obtain rfl := hqz.symm)
          | (go_at_call 49; (with_reducible refine (line_any (d := d) (ts := ts) ?_).mono ?_); (· exact ab1); rintro e wz ⟨rfl, hqz⟩; obtain rfl := hqz.symm))
        exact ⟨_, results_tmp (t := 4) rfl _ _ _, pV w.heap.size, rfl, (by have HX := (hX.set5 (pV u1)); have HL := HX.lt; have HA := (at_past hvl.1 (lo' := lo) (ab0 : Past [p] w (w1.setCell ⟨w.heap.size, 5, none⟩ (pV u1))) ab2 (Nat.le_refl _)); have HB := (hv1.past (lo' := lo) ((Past.refl [w.heap.size] _).setCell (p := ⟨w.heap.size, 5, none⟩) (.inl (by simp)) (pV u1)) ab2 ab2); exact show VE lo (.ex 11 (linT ts) 0 (sgnT ts) left x1 .nil .nil .nil .nil) _ (pV w.heap.size) from ⟨at_ex HX ⟨by omega, HL⟩ HA HB.1 (sl_nil _ _) (sl_nil _ _) (sl_nil _ _) (sl_nil _ _), rfl⟩), hp1.set (by omega) _, ab0⟩
end Go.Proofs.YtoggkigfijgbfaaGreatDoor.P5
