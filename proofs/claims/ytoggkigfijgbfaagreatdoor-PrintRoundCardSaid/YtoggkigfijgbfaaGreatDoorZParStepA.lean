/- The contracts at a fuel and one: enclosed, block, function, condition, while, count, result, try. -/
import Derived.Test.YtoggkigfijgbfaaGreatDoorZAbb
import Derived.Test.YtoggkigfijgbfaaGreatDoorZC
namespace Go.Proofs.YtoggkigfijgbfaaGreatDoor.P5
set_option maxRecDepth 20000
open Go.RowKit Go.Maps
set_option maxHeartbeats 2000000 in
theorem enclosed_step {n : Nat} (S : Spec n) {w : World} {p d : Nat} {ts : List Tok} (first last : List UInt8) (hf : first ≠ []) (hl : last ≠ []) (h : PAt w p d ts) (hD : parseF (n + 1) (.enclosed first last) d ts ≠ .out) :
    Calls Tryz.prog 192 #[pV p, sV first, sV last] w (Ends p d [p] (parseF (n + 1) (.enclosed first last) d ts) (VE w.heap.size) w) := by
  have hpl := h.lt
  unfold parseF at hD ⊢
  simp only [] at hD ⊢
  have D0 : beginT first d ts ≠ .out := bind_done hD
  have C0 := Lib.hid (fun (w : World) (h : PAt w p (d) ts) => begin_any first hf h)
  generalize beginT first d ts = r0 at hD D0 C0 ⊢
  cases r0 with
  | out => exact absurd rfl D0
  | bad c l =>
    clear hD D0 S
    go_enter_defers Tryz.func192, Tryz.ntmps192
    go_wp2_with (first
      | (go_at_call 143; (with_reducible refine (C0.out _ ?_).mono ?_); (· exact ab1); rintro e wb hB; obtain ⟨b', rfl, hb1, hb2, hb3, hb4⟩ := hB))
    exact ⟨b', rfl, Nat.le_trans ab6 hb1, hb2, (ab0 : Past [p] w _).then hb3 (by simp), hb4⟩
  | ok x0 ts0 =>
    rw [ok_bind] at hD ⊢
    have D1 : parseF n (.operation 1) (d + 1) ts0 ≠ .out := bind_done hD
    have C1 := Lib.hid (fun (w : World) (h : PAt w p (d + 1) ts0) => S.expr h D1)
    generalize parseF n (.operation 1) (d + 1) ts0 = r1 at hD D1 C1 ⊢
    cases r1 with
    | out => exact absurd rfl D1
    | bad c l =>
      clear hD D1 S D0
      go_enter_defers Tryz.func192, Tryz.ntmps192
      go_wp2_with (first
        | (go_at_call 143; (with_reducible refine (C0.out _ ?_).mono ?_); (· exact ab1); rintro e w0 ⟨v0, rfl, ⟨q, rfl, hq1, hq2⟩, hp0, hw0⟩; have hz0 := hw0.size; (try simp at hz0); (try simp at hq1))
        | (go_at_call 142; (with_reducible refine (C1.out _ ?_).mono ?_); (· exact ab1); rintro e wb hB; obtain ⟨b', rfl, hb1, hb2, hb3, hb4⟩ := hB))
      exact door_bad (hb3.cell_some ab12 ab2) (Nat.le_trans ab6 hb1) hb2 ((ab0 : Past [p] w _).then hb3 (by simp)) hb4 (by simp) hpl
    | ok x1 ts1 =>
      rw [ok_bind] at hD ⊢
      have D2 : wantT last ts1 ≠ .out := bind_done hD
      have C2 := Lib.hid (fun (w : World) (h : PAt w p (d + 1) ts1) => want_any last hl h)
      generalize wantT last ts1 = r2 at hD D2 C2 ⊢
      cases r2 with
      | out => exact absurd rfl D2
      | bad c l =>
        clear hD D2 S D0 D1
        go_enter_defers Tryz.func192, Tryz.ntmps192
        go_wp2_with (first
          | (go_at_call 143; (with_reducible refine (C0.out _ ?_).mono ?_); (· exact ab1); rintro e w0 ⟨v0, rfl, ⟨q, rfl, hq1, hq2⟩, hp0, hw0⟩; have hz0 := hw0.size; (try simp at hz0); (try simp at hq1))
          | (go_at_call 142; (with_reducible refine (C1.out _ ?_).mono ?_); (· exact ab1); rintro e w1 ⟨v1, rfl, hv1, hp1, hw1⟩; have hq2 := hw1.cell_some ab12 ab2; have hz1 := hw1.size; (try simp at hz1))
          | (go_at_call 87; (with_reducible refine (C2.out _ ?_).mono ?_); (· exact ab1); rintro e wb hB; obtain ⟨b', rfl, hb1, hb2, hb3, hb4⟩ := hB))
        exact door_bad (hb3.cell_some ab12 ab2) (Nat.le_trans ab6 hb1) hb2 ((ab0 : Past [p] w _).then hb3 (by simp)) hb4 (by simp) hpl
      | ok x2 ts2 =>
        rw [ok_bind] at hD ⊢
        clear hD S D0 D1 D2
        go_enter_defers Tryz.func192, Tryz.ntmps192
        go_wp2_with (first
          | (go_at_call 143; (with_reducible refine (C0.out _ ?_).mono ?_); (· exact ab1); rintro e w0 ⟨v0, rfl, ⟨q, rfl, hq1, hq2⟩, hp0, hw0⟩; have hz0 := hw0.size; (try simp at hz0); (try simp at hq1))
          | (go_at_call 142; (with_reducible refine (C1.out _ ?_).mono ?_); (· exact ab1); rintro e w1 ⟨v1, rfl, hv1, hp1, hw1⟩; have hq2 := hw1.cell_some ab12 ab2; have hz1 := hw1.size; (try simp at hz1))
          | (go_at_call 87; (with_reducible refine (C2.out _ ?_).mono ?_); (· exact ab1); rintro e w2 ⟨v2, rfl, rfl, hp2, hw2⟩; have hq2 := hw2.cell_some ab12 ab2; have hz2 := hw2.size; (try simp at hz2)))
        exact door_ok hq2 hp2 ab0 (by simp) (fun W => results_tmp rfl _ _ _) (fun W hW => (hv1.past hw2 ab2 (by omega)).past hW ab2 (by omega))
set_option maxHeartbeats 2000000 in
theorem block_step {n : Nat} (S : Spec n) {w : World} {p d : Nat} {ts : List Tok} (word : List UInt8) (hne : word ≠ []) (h : PAt w p d ts) (hD : parseF (n + 1) (.block word) d ts ≠ .out) :
    Calls Tryz.prog 86 #[pV p, sV word] w (Ends p d [p] (parseF (n + 1) (.block word) d ts) (VL w.heap.size) w) := by
  have hpl := h.lt
  unfold parseF at hD ⊢
  simp only [] at hD ⊢
  have D0 : beginT word d ts ≠ .out := bind_done hD
  have C0 := Lib.hid (fun (w : World) (h : PAt w p (d) ts) => begin_any word hne h)
  generalize beginT word d ts = r0 at hD D0 C0 ⊢
  cases r0 with
  | out => exact absurd rfl D0
  | bad c l =>
    clear hD D0 S
    go_enter_defers Tryz.func86, Tryz.ntmps86
    go_wp2_with (first
      | (go_at_call 143; (with_reducible refine (C0.out _ ?_).mono ?_); (· exact ab1); rintro e wb hB; obtain ⟨b', rfl, hb1, hb2, hb3, hb4⟩ := hB))
    exact ⟨b', rfl, Nat.le_trans ab6 hb1, hb2, (ab0 : Past [p] w _).then hb3 (by simp), hb4⟩
  | ok x0 ts0 =>
    rw [ok_bind] at hD ⊢
    have D1 : parseF n .stmts (d + 1) ts0 ≠ .out := hD
    have C1 := Lib.hid (fun (w : World) (h : PAt w p (d + 1) ts0) => S.stmts h D1)
    generalize parseF n .stmts (d + 1) ts0 = r1 at hD D1 C1 ⊢
    cases r1 with
    | out => exact absurd rfl D1
    | bad c l =>
      clear hD D1 S D0
      go_enter_defers Tryz.func86, Tryz.ntmps86
      go_wp2_with (first
        | (go_at_call 143; (with_reducible refine (C0.out _ ?_).mono ?_); (· exact ab1); rintro e w0 ⟨v0, rfl, ⟨q, rfl, hq1, hq2⟩, hp0, hw0⟩; have hz0 := hw0.size; (try simp at hz0); (try simp at hq1))
        | (go_at_call 26; (with_reducible refine (C1.out _ ?_).mono ?_); (· exact ab1); rintro e wb hB; obtain ⟨b', rfl, hb1, hb2, hb3, hb4⟩ := hB))
      exact door_bad (hb3.cell_some ab12 ab2) (Nat.le_trans ab6 hb1) hb2 ((ab0 : Past [p] w _).then hb3 (by simp)) hb4 (by simp) hpl
    | ok x1 ts1 =>
      clear hD S D0 D1
      go_enter_defers Tryz.func86, Tryz.ntmps86
      go_wp2_with (first
        | (go_at_call 143; (with_reducible refine (C0.out _ ?_).mono ?_); (· exact ab1); rintro e w0 ⟨v0, rfl, ⟨q, rfl, hq1, hq2⟩, hp0, hw0⟩; have hz0 := hw0.size; (try simp at hz0); (try simp at hq1))
        | (go_at_call 26; (with_reducible refine (C1.out _ ?_).mono ?_); (· exact ab1); rintro e w1 ⟨v1, rfl, hv1, hp1, hw1⟩; have hq2 := hw1.cell_some ab12 ab2; have hz1 := hw1.size; (try simp at hz1)))
      exact door_ok hq2 hp1 ab0 (by simp) (fun W => results_tmp rfl _ _ _) (fun W hW => (hv1.past hW ab2 (by omega)))
set_option maxHeartbeats 2000000 in
theorem function_step {n : Nat} (S : Spec n) {w : World} {p d : Nat} {ts : List Tok} (h : PAt w p d ts) (hD : parseF (n + 1) (.function) d ts ≠ .out) :
    Calls Tryz.prog 231 #[pV p] w (Ends p d [p] (parseF (n + 1) (.function) d ts) (VE w.heap.size) w) := by
  have hpl := h.lt
  unfold parseF at hD ⊢
  simp only [] at hD ⊢
  have D0 : beginT [102, 117, 110, 99, 116, 105, 111, 110] d ts ≠ .out := bind_done hD
  have C0 := Lib.hid (fun (w : World) (h : PAt w p (d) ts) => begin_any [102, 117, 110, 99, 116, 105, 111, 110] (by decide) h)
  generalize beginT [102, 117, 110, 99, 116, 105, 111, 110] d ts = r0 at hD D0 C0 ⊢
  cases r0 with
  | out => exact absurd rfl D0
  | bad c l =>
    clear hD D0 S
    go_enter_defers Tryz.func231, Tryz.ntmps231
    go_wp2_with (first
      | (go_at_call 143; (with_reducible refine (C0.out _ ?_).mono ?_); (· exact ab1); rintro e wb hB; obtain ⟨b', rfl, hb1, hb2, hb3, hb4⟩ := hB)
      | (go_at_call 49; (with_reducible refine (line_any (d := d) (ts := ts) ?_).mono ?_); (· exact ab1); rintro e wz ⟨rfl, hqz⟩; obtain rfl := hqz.symm))
    exact ⟨b', rfl, Nat.le_trans ab6 hb1, hb2, (ab0 : Past [p] w _).then hb3 (by simp), hb4⟩
  | ok x0 ts0 =>
    rw [ok_bind] at hD ⊢
    have D1 : parseF n (.body (linT ts)) (d + 1) ts0 ≠ .out := hD
    have C1 := Lib.hid (fun (w : World) (h : PAt w p (d + 1) ts0) => S.body (linT ts) h D1)
    generalize parseF n (.body (linT ts)) (d + 1) ts0 = r1 at hD D1 C1 ⊢
    cases r1 with
    | out => exact absurd rfl D1
    | bad c l =>
      clear hD D1 S D0
      go_enter_defers Tryz.func231, Tryz.ntmps231
      go_wp2_with (first
        | (go_at_call 143; (with_reducible refine (C0.out _ ?_).mono ?_); (· exact ab1); rintro e w0 ⟨v0, rfl, ⟨q, rfl, hq1, hq2⟩, hp0, hw0⟩; have hz0 := hw0.size; (try simp at hz0); (try simp at hq1))
        | (go_at_call 146; (with_reducible refine (C1.out _ ?_).mono ?_); (· exact ab1); rintro e wb hB; obtain ⟨b', rfl, hb1, hb2, hb3, hb4⟩ := hB)
        | (go_at_call 49; (with_reducible refine (line_any (d := d) (ts := ts) ?_).mono ?_); (· exact ab1); rintro e wz ⟨rfl, hqz⟩; obtain rfl := hqz.symm))
      exact door_bad (hb3.cell_some ab12 ab2) (Nat.le_trans ab6 hb1) hb2 ((ab0 : Past [p] w _).then hb3 (by simp)) hb4 (by simp) hpl
    | ok x1 ts1 =>
      clear hD S D0 D1
      go_enter_defers Tryz.func231, Tryz.ntmps231
      go_wp2_with (first
        | (go_at_call 143; (with_reducible refine (C0.out _ ?_).mono ?_); (· exact ab1); rintro e w0 ⟨v0, rfl, ⟨q, rfl, hq1, hq2⟩, hp0, hw0⟩; have hz0 := hw0.size; (try simp at hz0); (try simp at hq1))
        | (go_at_call 146; (with_reducible refine (C1.out _ ?_).mono ?_); (· exact ab1); rintro e w1 ⟨v1, rfl, hv1, hp1, hw1⟩; have hq2 := hw1.cell_some ab12 ab2; have hz1 := hw1.size; (try simp at hz1))
        | (go_at_call 49; (with_reducible refine (line_any (d := d) (ts := ts) ?_).mono ?_); (· exact ab1); rintro e wz ⟨rfl, hqz⟩; obtain rfl := hqz.symm))
      exact door_ok hq2 hp1 ab0 (by simp) (fun W => results_tmp rfl _ _ _) (fun W hW => (hv1.past hW ab2 (by omega)))
set_option maxHeartbeats 2000000 in
theorem condition_step {n : Nat} (S : Spec n) {w : World} {p d b l : Nat} {ts : List Tok} (word : List UInt8) (hne : word ≠ []) (h : PAt w p d ts) (hpb : p < b) (hN : NewSt w b l) (hD : parseF (n + 1) (.condition l word) d ts ≠ .out) :
    Calls Tryz.prog 144 #[pV p, pV b, sV word] w (Ends p d [p, b] (parseF (n + 1) (.condition l word) d ts) (VC b) w) := by
  have hpl := h.lt
  have hbl := hN.lt
  unfold NewSt at hN
  unfold parseF at hD ⊢
  simp only [] at hD ⊢
  have D0 : wantT word ts ≠ .out := bind_done hD
  have C0 := Lib.hid (fun (w : World) (h : PAt w p (d) ts) => want_any word hne h)
  generalize wantT word ts = r0 at hD D0 C0 ⊢
  cases r0 with
  | out => exact absurd rfl D0
  | bad c l =>
    clear hD D0 S
    go_enter Tryz.func144, Tryz.ntmps144
    go_wp2_with (first
      | (go_at_call 87; (with_reducible refine (C0.out _ ?_).mono ?_); (· exact ab1); rintro e wb hB; obtain ⟨b', rfl, hb1, hb2, hb3, hb4⟩ := hB))
    exact ⟨rfl, b', rfl, Nat.le_trans ab6 hb1, hb2, (ab0 : Past [p, b] w _).then hb3 (by simp), hb4⟩
  | ok x0 ts0 =>
    rw [ok_bind] at hD ⊢
    have D1 : parseF n (.operation 1) (d) ts0 ≠ .out := bind_done hD
    have C1 := Lib.hid (fun (w : World) (h : PAt w p (d) ts0) => S.expr h D1)
    generalize parseF n (.operation 1) (d) ts0 = r1 at hD D1 C1 ⊢
    cases r1 with
    | out => exact absurd rfl D1
    | bad c l =>
      clear hD D1 S D0
      go_enter Tryz.func144, Tryz.ntmps144
      go_wp2_with (first
        | (go_at_call 87; (with_reducible refine (C0.out _ ?_).mono ?_); (· exact ab1); rintro e w0 ⟨v0, rfl, rfl, hp0, hw0⟩; have hN := hN.keep (hw0.block b hbl ab2); have hbl := hN.lt; have hz0 := hw0.size; (try simp at hz0))
        | (go_at_call 142; (with_reducible refine (C1.out _ ?_).mono ?_); (· exact ab1); rintro e wb hB; obtain ⟨b', rfl, hb1, hb2, hb3, hb4⟩ := hB))
      exact ⟨rfl, b', rfl, Nat.le_trans ab6 hb1, hb2, (ab0 : Past [p, b] w _).then hb3 (by simp), hb4⟩
    | ok x1 ts1 =>
      rw [ok_bind] at hD ⊢
      have D2 : parseF n (.block [116, 104, 101, 110]) (d) ts1 ≠ .out := bind_done hD
      have C2 := Lib.hid (fun (w : World) (h : PAt w p (d) ts1) => S.block [116, 104, 101, 110] (by decide) h D2)
      generalize parseF n (.block [116, 104, 101, 110]) (d) ts1 = r2 at hD D2 C2 ⊢
      cases r2 with
      | out => exact absurd rfl D2
      | bad c l =>
        clear hD D2 S D0 D1
        go_enter Tryz.func144, Tryz.ntmps144
        go_wp2_with (first
          | (go_at_call 87; (with_reducible refine (C0.out _ ?_).mono ?_); (· exact ab1); rintro e w0 ⟨v0, rfl, rfl, hp0, hw0⟩; have hN := hN.keep (hw0.block b hbl ab2); have hbl := hN.lt; have hz0 := hw0.size; (try simp at hz0))
          | (go_at_call 142; (with_reducible refine (C1.out _ ?_).mono ?_); (· exact ab1); rintro e w1 ⟨v1, rfl, hv1, hp1, hw1⟩; obtain ⟨u1, rfl⟩ := hv1.ptr; have hN := hN.keep (hw1.block b hbl ab2); have hbl := hN.lt; have q0 := hN.c0; have f0 := hN.warm 0; have q4 := hN.c4; have f4 := hN.warm 4; have hz1 := hw1.size; (try simp at hz1))
          | (go_at_call 86; (with_reducible refine (C2.out _ ?_).mono ?_); (· exact ab1); rintro e wb hB; obtain ⟨b', rfl, hb1, hb2, hb3, hb4⟩ := hB))
        exact ⟨rfl, b', rfl, Nat.le_trans ab6 hb1, hb2, (ab0 : Past [p, b] w _).then hb3 (by simp), hb4⟩
      | ok x2 ts2 =>
        rw [ok_bind] at hD ⊢
        clear hD S D0 D1 D2
        go_enter Tryz.func144, Tryz.ntmps144
        go_wp2_with (first
          | (go_at_call 87; (with_reducible refine (C0.out _ ?_).mono ?_); (· exact ab1); rintro e w0 ⟨v0, rfl, rfl, hp0, hw0⟩; have hN := hN.keep (hw0.block b hbl ab2); have hbl := hN.lt; have hz0 := hw0.size; (try simp at hz0))
          | (go_at_call 142; (with_reducible refine (C1.out _ ?_).mono ?_); (· exact ab1); rintro e w1 ⟨v1, rfl, hv1, hp1, hw1⟩; obtain ⟨u1, rfl⟩ := hv1.ptr; have hN := hN.keep (hw1.block b hbl ab2); have hbl := hN.lt; have q0 := hN.c0; have f0 := hN.warm 0; have q4 := hN.c4; have f4 := hN.warm 4; have hz1 := hw1.size; (try simp at hz1))
          | (go_at_call 86; (with_reducible refine (C2.out _ ?_).mono ?_); (· exact ab1); rintro e w2 ⟨v2, rfl, hv2, hp2, hw2⟩; obtain ⟨A2, k2, rfl⟩ := hv2.sl; have hN := ((hN.set0 6).set4 (pV u1)).keep (hw2.block b ab2 ab2); have hbl := hN.lt; have q6 := hN.c6; have f6 := hN.warm 6; have hz2 := hw2.size; (try simp at hz2)))
        refine bodyPost_end (results_none rfl _ _ _) rfl ?_
        exact ⟨_, rfl, ⟨rfl, _, _, _, _, _, rfl, hN.set6 (.slice A2 (lenT x2) k2), (hv1.past (ab0 : Past [p, b] w1 _) ab2 ab2), (hv2.past (ab0 : Past [p, b] w2 _) ab2 ab2)⟩, ab11, ab0⟩
set_option maxHeartbeats 2000000 in
theorem while_step {n : Nat} (S : Spec n) {w : World} {p d b l : Nat} {ts : List Tok} (h : PAt w p d ts) (hpb : p < b) (hN : NewSt w b l) (hD : parseF (n + 1) (.while_ l) d ts ≠ .out) :
    Calls Tryz.prog 88 #[pV p, pV b] w (Ends p d [p, b] (parseF (n + 1) (.while_ l) d ts) (VF b) w) := by
  have hpl := h.lt
  have hbl := hN.lt
  unfold NewSt at hN
  unfold parseF at hD ⊢
  simp only [] at hD ⊢
  have D0 : wantT [119, 104, 105, 108, 101] ts ≠ .out := bind_done hD
  have C0 := Lib.hid (fun (w : World) (h : PAt w p (d) ts) => want_any [119, 104, 105, 108, 101] (by decide) h)
  generalize wantT [119, 104, 105, 108, 101] ts = r0 at hD D0 C0 ⊢
  cases r0 with
  | out => exact absurd rfl D0
  | bad c l =>
    clear hD D0 S
    go_enter Tryz.func88, Tryz.ntmps88
    go_wp2_with (first
      | (go_at_call 87; (with_reducible refine (C0.out _ ?_).mono ?_); (· exact ab1); rintro e wb hB; obtain ⟨b', rfl, hb1, hb2, hb3, hb4⟩ := hB))
    exact ⟨rfl, b', rfl, Nat.le_trans ab6 hb1, hb2, (ab0 : Past [p, b] w _).then hb3 (by simp), hb4⟩
  | ok x0 ts0 =>
    rw [ok_bind] at hD ⊢
    have D1 : parseF n (.operation 1) (d) ts0 ≠ .out := bind_done hD
    have C1 := Lib.hid (fun (w : World) (h : PAt w p (d) ts0) => S.expr h D1)
    generalize parseF n (.operation 1) (d) ts0 = r1 at hD D1 C1 ⊢
    cases r1 with
    | out => exact absurd rfl D1
    | bad c l =>
      clear hD D1 S D0
      go_enter Tryz.func88, Tryz.ntmps88
      go_wp2_with (first
        | (go_at_call 87; (with_reducible refine (C0.out _ ?_).mono ?_); (· exact ab1); rintro e w0 ⟨v0, rfl, rfl, hp0, hw0⟩; have hN := hN.keep (hw0.block b hbl ab2); have hbl := hN.lt; have hz0 := hw0.size; (try simp at hz0))
        | (go_at_call 142; (with_reducible refine (C1.out _ ?_).mono ?_); (· exact ab1); rintro e wb hB; obtain ⟨b', rfl, hb1, hb2, hb3, hb4⟩ := hB))
      exact ⟨rfl, b', rfl, Nat.le_trans ab6 hb1, hb2, (ab0 : Past [p, b] w _).then hb3 (by simp), hb4⟩
    | ok x1 ts1 =>
      rw [ok_bind] at hD ⊢
      have D2 : parseF n (.block [100, 111]) (d) ts1 ≠ .out := bind_done hD
      have C2 := Lib.hid (fun (w : World) (h : PAt w p (d) ts1) => S.block [100, 111] (by decide) h D2)
      generalize parseF n (.block [100, 111]) (d) ts1 = r2 at hD D2 C2 ⊢
      cases r2 with
      | out => exact absurd rfl D2
      | bad c l =>
        clear hD D2 S D0 D1
        go_enter Tryz.func88, Tryz.ntmps88
        go_wp2_with (first
          | (go_at_call 87; (with_reducible refine (C0.out _ ?_).mono ?_); (· exact ab1); rintro e w0 ⟨v0, rfl, rfl, hp0, hw0⟩; have hN := hN.keep (hw0.block b hbl ab2); have hbl := hN.lt; have hz0 := hw0.size; (try simp at hz0))
          | (go_at_call 142; (with_reducible refine (C1.out _ ?_).mono ?_); (· exact ab1); rintro e w1 ⟨v1, rfl, hv1, hp1, hw1⟩; obtain ⟨u1, rfl⟩ := hv1.ptr; have hN := hN.keep (hw1.block b hbl ab2); have hbl := hN.lt; have q0 := hN.c0; have f0 := hN.warm 0; have q4 := hN.c4; have f4 := hN.warm 4; have hz1 := hw1.size; (try simp at hz1))
          | (go_at_call 86; (with_reducible refine (C2.out _ ?_).mono ?_); (· exact ab1); rintro e wb hB; obtain ⟨b', rfl, hb1, hb2, hb3, hb4⟩ := hB))
        exact ⟨rfl, b', rfl, Nat.le_trans ab6 hb1, hb2, (ab0 : Past [p, b] w _).then hb3 (by simp), hb4⟩
      | ok x2 ts2 =>
        rw [ok_bind] at hD ⊢
        have D3 : wantT [101, 110, 100] ts2 ≠ .out := bind_done hD
        have C3 := Lib.hid (fun (w : World) (h : PAt w p (d) ts2) => want_any [101, 110, 100] (by decide) h)
        generalize wantT [101, 110, 100] ts2 = r3 at hD D3 C3 ⊢
        cases r3 with
        | out => exact absurd rfl D3
        | bad c l =>
          clear hD D3 S D0 D1 D2
          go_enter Tryz.func88, Tryz.ntmps88
          go_wp2_with (first
            | (go_at_call 87; (with_reducible refine (C0.out _ ?_).mono ?_); (· (repeat' (first | assumption | refine PAt.alloc ?_ _ | refine PAt.drew ?_ | refine PAt.set ?_ (by omega) _))); rintro e w0 ⟨v0, rfl, rfl, hp0, hw0⟩; have hN := hN.keep (hw0.block b hbl ab2); have hbl := hN.lt; have hz0 := hw0.size; (try simp at hz0))
            | (go_at_call 142; (with_reducible refine (C1.out _ ?_).mono ?_); (· exact ab1); rintro e w1 ⟨v1, rfl, hv1, hp1, hw1⟩; obtain ⟨u1, rfl⟩ := hv1.ptr; have hN := hN.keep (hw1.block b hbl ab2); have hbl := hN.lt; have q0 := hN.c0; have f0 := hN.warm 0; have q4 := hN.c4; have f4 := hN.warm 4; have hz1 := hw1.size; (try simp at hz1))
            | (go_at_call 86; (with_reducible refine (C2.out _ ?_).mono ?_); (· exact ab1); rintro e w2 ⟨v2, rfl, hv2, hp2, hw2⟩; obtain ⟨A2, k2, rfl⟩ := hv2.sl; have hN := ((hN.set0 5).set4 (pV u1)).keep (hw2.block b ab2 ab2); have hbl := hN.lt; have q6 := hN.c6; have f6 := hN.warm 6; have hz2 := hw2.size; (try simp at hz2))
            | (go_at_call 87; (with_reducible refine (C3.out _ ?_).mono ?_); (· (repeat' (first | assumption | refine PAt.alloc ?_ _ | refine PAt.drew ?_ | refine PAt.set ?_ (by omega) _))); rintro e wb hB; obtain ⟨b', rfl, hb1, hb2, hb3, hb4⟩ := hB))
          exact ⟨rfl, b', rfl, Nat.le_trans ab6 hb1, hb2, (ab0 : Past [p, b] w _).then hb3 (by simp), hb4⟩
        | ok x3 ts3 =>
          rw [ok_bind] at hD ⊢
          clear hD S D0 D1 D2 D3
          go_enter Tryz.func88, Tryz.ntmps88
          go_wp2_with (first
            | (go_at_call 87; (with_reducible refine (C0.out _ ?_).mono ?_); (· (repeat' (first | assumption | refine PAt.alloc ?_ _ | refine PAt.drew ?_ | refine PAt.set ?_ (by omega) _))); rintro e w0 ⟨v0, rfl, rfl, hp0, hw0⟩; have hN := hN.keep (hw0.block b hbl ab2); have hbl := hN.lt; have hz0 := hw0.size; (try simp at hz0))
            | (go_at_call 142; (with_reducible refine (C1.out _ ?_).mono ?_); (· exact ab1); rintro e w1 ⟨v1, rfl, hv1, hp1, hw1⟩; obtain ⟨u1, rfl⟩ := hv1.ptr; have hN := hN.keep (hw1.block b hbl ab2); have hbl := hN.lt; have q0 := hN.c0; have f0 := hN.warm 0; have q4 := hN.c4; have f4 := hN.warm 4; have hz1 := hw1.size; (try simp at hz1))
            | (go_at_call 86; (with_reducible refine (C2.out _ ?_).mono ?_); (· exact ab1); rintro e w2 ⟨v2, rfl, hv2, hp2, hw2⟩; obtain ⟨A2, k2, rfl⟩ := hv2.sl; have hN := ((hN.set0 5).set4 (pV u1)).keep (hw2.block b ab2 ab2); have hbl := hN.lt; have q6 := hN.c6; have f6 := hN.warm 6; have hz2 := hw2.size; (try simp at hz2))
            | (go_at_call 87; (with_reducible refine (C3.out _ ?_).mono ?_); (· (repeat' (first | assumption | refine PAt.alloc ?_ _ | refine PAt.drew ?_ | refine PAt.set ?_ (by omega) _))); rintro e w3 ⟨v3, rfl, rfl, hp3, hw3⟩; have hN := (hN.set6 (.slice A2 (lenT x2) k2)).keep (hw3.block b ab2 ab2); have hbl := hN.lt; have hz3 := hw3.size; (try simp at hz3)))
          refine bodyPost_end (results_none rfl _ _ _) rfl ?_
          exact ⟨_, rfl, ⟨rfl, at_st hN ⟨Nat.le_refl _, hN.lt⟩ rfl (hv1.past (ab0 : Past [p, b] w1 _) ab2 ab2).1 rfl (hv2.past (ab0 : Past [p, b] w2 _) ab2 ab2) (sl_nil _ _), rfl⟩, ab11, ab0⟩
set_option maxHeartbeats 2000000 in
theorem count_step {n : Nat} (S : Spec n) {w : World} {p d b l : Nat} {ts : List Tok} (h : PAt w p d ts) (hpb : p < b) (hN : NewSt w b l) (hD : parseF (n + 1) (.count l) d ts ≠ .out) :
    Calls Tryz.prog 89 #[pV p, pV b] w (Ends p d [p, b] (parseF (n + 1) (.count l) d ts) (VF b) w) := by
  have hpl := h.lt
  have hbl := hN.lt
  unfold NewSt at hN
  unfold parseF at hD ⊢
  simp only [] at hD ⊢
  have D0 : wantT [102, 111, 114] ts ≠ .out := bind_done hD
  have C0 := Lib.hid (fun (w : World) (h : PAt w p (d) ts) => want_any [102, 111, 114] (by decide) h)
  generalize wantT [102, 111, 114] ts = r0 at hD D0 C0 ⊢
  cases r0 with
  | out => exact absurd rfl D0
  | bad c l =>
    clear hD D0 S
    go_enter Tryz.func89, Tryz.ntmps89
    go_wp2_with (first
      | (go_at_call 87; (with_reducible refine (C0.out _ ?_).mono ?_); (· exact ab1); rintro e wb hB; obtain ⟨b', rfl, hb1, hb2, hb3, hb4⟩ := hB))
    exact ⟨rfl, b', rfl, Nat.le_trans ab6 hb1, hb2, (ab0 : Past [p, b] w _).then hb3 (by simp), hb4⟩
  | ok x0 ts0 =>
    rw [ok_bind] at hD ⊢
    have D1 : nameT ts0 ≠ .out := bind_done hD
    have C1 := Lib.hid (fun (w : World) (h : PAt w p (d) ts0) => name_any h)
    generalize nameT ts0 = r1 at hD D1 C1 ⊢
    cases r1 with
    | out => exact absurd rfl D1
    | bad c l =>
      clear hD D1 S D0
      go_enter Tryz.func89, Tryz.ntmps89
      go_wp2_with (first
        | (go_at_call 87; (with_reducible refine (C0.out _ ?_).mono ?_); (· exact ab1); rintro e w0 ⟨v0, rfl, rfl, hp0, hw0⟩; have hN := hN.keep (hw0.block b hbl ab2); have hbl := hN.lt; have hz0 := hw0.size; (try simp at hz0))
        | (go_at_call 140; (with_reducible refine (C1.out _ ?_).mono ?_); (· exact ab1); rintro e wb hB; obtain ⟨b', rfl, hb1, hb2, hb3, hb4⟩ := hB))
      exact ⟨rfl, b', rfl, Nat.le_trans ab6 hb1, hb2, (ab0 : Past [p, b] w _).then hb3 (by simp), hb4⟩
    | ok x1 ts1 =>
      rw [ok_bind] at hD ⊢
      have D2 : wantT [61] ts1 ≠ .out := bind_done hD
      have C2 := Lib.hid (fun (w : World) (h : PAt w p (d) ts1) => want_any [61] (by decide) h)
      generalize wantT [61] ts1 = r2 at hD D2 C2 ⊢
      cases r2 with
      | out => exact absurd rfl D2
      | bad c l =>
        clear hD D2 S D0 D1
        go_enter Tryz.func89, Tryz.ntmps89
        go_wp2_with (first
          | (go_at_call 87; (with_reducible refine (C0.out _ ?_).mono ?_); (· (repeat' (first | assumption | refine PAt.alloc ?_ _ | refine PAt.drew ?_ | refine PAt.set ?_ (by omega) _))); rintro e w0 ⟨v0, rfl, rfl, hp0, hw0⟩; have hN := hN.keep (hw0.block b hbl ab2); have hbl := hN.lt; have hz0 := hw0.size; (try simp at hz0))
          | (go_at_call 140; (with_reducible refine (C1.out _ ?_).mono ?_); (· exact ab1); rintro e w1 ⟨v1, rfl, rfl, hp1, hw1⟩; have hN := hN.keep (hw1.block b hbl ab2); have hbl := hN.lt; have q0 := hN.c0; have f0 := hN.warm 0; have q2 := hN.c2; have f2 := hN.warm 2; have hz1 := hw1.size; (try simp at hz1))
          | (go_at_call 87; (with_reducible refine (C2.out _ ?_).mono ?_); (· (repeat' (first | assumption | refine PAt.alloc ?_ _ | refine PAt.drew ?_ | refine PAt.set ?_ (by omega) _))); rintro e wb hB; obtain ⟨b', rfl, hb1, hb2, hb3, hb4⟩ := hB))
        exact ⟨rfl, b', rfl, Nat.le_trans ab6 hb1, hb2, (ab0 : Past [p, b] w _).then hb3 (by simp), hb4⟩
      | ok x2 ts2 =>
        rw [ok_bind] at hD ⊢
        have D3 : parseF n (.operation 1) (d) ts2 ≠ .out := bind_done hD
        have C3 := Lib.hid (fun (w : World) (h : PAt w p (d) ts2) => S.expr h D3)
        generalize parseF n (.operation 1) (d) ts2 = r3 at hD D3 C3 ⊢
        cases r3 with
        | out => exact absurd rfl D3
        | bad c l =>
          clear hD D3 S D0 D1 D2
          go_enter Tryz.func89, Tryz.ntmps89
          go_wp2_with (first
            | (go_at_call 87; (with_reducible refine (C0.out _ ?_).mono ?_); (· (repeat' (first | assumption | refine PAt.alloc ?_ _ | refine PAt.drew ?_ | refine PAt.set ?_ (by omega) _))); rintro e w0 ⟨v0, rfl, rfl, hp0, hw0⟩; have hN := hN.keep (hw0.block b hbl ab2); have hbl := hN.lt; have hz0 := hw0.size; (try simp at hz0))
            | (go_at_call 140; (with_reducible refine (C1.out _ ?_).mono ?_); (· exact ab1); rintro e w1 ⟨v1, rfl, rfl, hp1, hw1⟩; have hN := hN.keep (hw1.block b hbl ab2); have hbl := hN.lt; have q0 := hN.c0; have f0 := hN.warm 0; have q2 := hN.c2; have f2 := hN.warm 2; have hz1 := hw1.size; (try simp at hz1))
            | (go_at_call 87; (with_reducible refine (C2.out _ ?_).mono ?_); (· (repeat' (first | assumption | refine PAt.alloc ?_ _ | refine PAt.drew ?_ | refine PAt.set ?_ (by omega) _))); rintro e w2 ⟨v2, rfl, rfl, hp2, hw2⟩; have hN := ((hN.set0 7).set2 (textT x1)).keep (hw2.block b ab2 ab2); have hbl := hN.lt; have hz2 := hw2.size; (try simp at hz2))
            | (go_at_call 142; (with_reducible refine (C3.out _ ?_).mono ?_); (· exact ab1); rintro e wb hB; obtain ⟨b', rfl, hb1, hb2, hb3, hb4⟩ := hB))
          exact ⟨rfl, b', rfl, Nat.le_trans ab6 hb1, hb2, (ab0 : Past [p, b] w _).then hb3 (by simp), hb4⟩
        | ok x3 ts3 =>
          rw [ok_bind] at hD ⊢
          have D4 : wantT [44] ts3 ≠ .out := bind_done hD
          have C4 := Lib.hid (fun (w : World) (h : PAt w p (d) ts3) => want_any [44] (by decide) h)
          generalize wantT [44] ts3 = r4 at hD D4 C4 ⊢
          cases r4 with
          | out => exact absurd rfl D4
          | bad c l =>
            clear hD D4 S D0 D1 D2 D3
            go_enter Tryz.func89, Tryz.ntmps89
            go_wp2_with (first
              | (go_at_call 87; (with_reducible refine (C0.out _ ?_).mono ?_); (· (repeat' (first | assumption | refine PAt.alloc ?_ _ | refine PAt.drew ?_ | refine PAt.set ?_ (by omega) _))); rintro e w0 ⟨v0, rfl, rfl, hp0, hw0⟩; have hN := hN.keep (hw0.block b hbl ab2); have hbl := hN.lt; have hz0 := hw0.size; (try simp at hz0))
              | (go_at_call 140; (with_reducible refine (C1.out _ ?_).mono ?_); (· exact ab1); rintro e w1 ⟨v1, rfl, rfl, hp1, hw1⟩; have hN := hN.keep (hw1.block b hbl ab2); have hbl := hN.lt; have q0 := hN.c0; have f0 := hN.warm 0; have q2 := hN.c2; have f2 := hN.warm 2; have hz1 := hw1.size; (try simp at hz1))
              | (go_at_call 87; (with_reducible refine (C2.out _ ?_).mono ?_); (· (repeat' (first | assumption | refine PAt.alloc ?_ _ | refine PAt.drew ?_ | refine PAt.set ?_ (by omega) _))); rintro e w2 ⟨v2, rfl, rfl, hp2, hw2⟩; have hN := ((hN.set0 7).set2 (textT x1)).keep (hw2.block b ab2 ab2); have hbl := hN.lt; have hz2 := hw2.size; (try simp at hz2))
              | (go_at_call 142; (with_reducible refine (C3.out _ ?_).mono ?_); (· exact ab1); rintro e w3 ⟨v3, rfl, hv3, hp3, hw3⟩; obtain ⟨u3, rfl⟩ := hv3.ptr; have hN := hN.keep (hw3.block b hbl ab2); have hbl := hN.lt; have q4 := hN.c4; have f4 := hN.warm 4; have hz3 := hw3.size; (try simp at hz3))
              | (go_at_call 87; (with_reducible refine (C4.out _ ?_).mono ?_); (· (repeat' (first | assumption | refine PAt.alloc ?_ _ | refine PAt.drew ?_ | refine PAt.set ?_ (by omega) _))); rintro e wb hB; obtain ⟨b', rfl, hb1, hb2, hb3, hb4⟩ := hB))
            exact ⟨rfl, b', rfl, Nat.le_trans ab6 hb1, hb2, (ab0 : Past [p, b] w _).then hb3 (by simp), hb4⟩
          | ok x4 ts4 =>
            rw [ok_bind] at hD ⊢
            have D5 : parseF n (.operation 1) (d) ts4 ≠ .out := bind_done hD
            have C5 := Lib.hid (fun (w : World) (h : PAt w p (d) ts4) => S.expr h D5)
            generalize parseF n (.operation 1) (d) ts4 = r5 at hD D5 C5 ⊢
            cases r5 with
            | out => exact absurd rfl D5
            | bad c l =>
              clear hD D5 S D0 D1 D2 D3 D4
              go_enter Tryz.func89, Tryz.ntmps89
              go_wp2_with (first
                | (go_at_call 87; (with_reducible refine (C0.out _ ?_).mono ?_); (· (repeat' (first | assumption | refine PAt.alloc ?_ _ | refine PAt.drew ?_ | refine PAt.set ?_ (by omega) _))); rintro e w0 ⟨v0, rfl, rfl, hp0, hw0⟩; have hN := hN.keep (hw0.block b hbl ab2); have hbl := hN.lt; have hz0 := hw0.size; (try simp at hz0))
                | (go_at_call 140; (with_reducible refine (C1.out _ ?_).mono ?_); (· exact ab1); rintro e w1 ⟨v1, rfl, rfl, hp1, hw1⟩; have hN := hN.keep (hw1.block b hbl ab2); have hbl := hN.lt; have q0 := hN.c0; have f0 := hN.warm 0; have q2 := hN.c2; have f2 := hN.warm 2; have hz1 := hw1.size; (try simp at hz1))
                | (go_at_call 87; (with_reducible refine (C2.out _ ?_).mono ?_); (· (repeat' (first | assumption | refine PAt.alloc ?_ _ | refine PAt.drew ?_ | refine PAt.set ?_ (by omega) _))); rintro e w2 ⟨v2, rfl, rfl, hp2, hw2⟩; have hN := ((hN.set0 7).set2 (textT x1)).keep (hw2.block b ab2 ab2); have hbl := hN.lt; have hz2 := hw2.size; (try simp at hz2))
                | (go_at_call 142; (with_reducible refine (C3.out _ ?_).mono ?_); (· (repeat' (first | assumption | refine PAt.alloc ?_ _ | refine PAt.drew ?_ | refine PAt.set ?_ (by omega) _))); rintro e w3 ⟨v3, rfl, hv3, hp3, hw3⟩; obtain ⟨u3, rfl⟩ := hv3.ptr; have hN := hN.keep (hw3.block b hbl ab2); have hbl := hN.lt; have q4 := hN.c4; have f4 := hN.warm 4; have hz3 := hw3.size; (try simp at hz3))
                | (go_at_call 87; (with_reducible refine (C4.out _ ?_).mono ?_); (· (repeat' (first | assumption | refine PAt.alloc ?_ _ | refine PAt.drew ?_ | refine PAt.set ?_ (by omega) _))); rintro e w4 ⟨v4, rfl, rfl, hp4, hw4⟩; have hN := (hN.set4 (pV u3)).keep (hw4.block b ab2 ab2); have hbl := hN.lt; have hz4 := hw4.size; (try simp at hz4))
                | (go_at_call 142; (with_reducible refine (C5.out _ ?_).mono ?_); (· (repeat' (first | assumption | refine PAt.alloc ?_ _ | refine PAt.drew ?_ | refine PAt.set ?_ (by omega) _))); rintro e wb hB; obtain ⟨b', rfl, hb1, hb2, hb3, hb4⟩ := hB))
              exact ⟨rfl, b', rfl, Nat.le_trans ab6 hb1, hb2, (ab0 : Past [p, b] w _).then hb3 (by simp), hb4⟩
            | ok x5 ts5 =>
              rw [ok_bind] at hD ⊢
              have D6 : parseF n (.block [100, 111]) (d) ts5 ≠ .out := bind_done hD
              have C6 := Lib.hid (fun (w : World) (h : PAt w p (d) ts5) => S.block [100, 111] (by decide) h D6)
              generalize parseF n (.block [100, 111]) (d) ts5 = r6 at hD D6 C6 ⊢
              cases r6 with
              | out => exact absurd rfl D6
              | bad c l =>
                clear hD D6 S D0 D1 D2 D3 D4 D5
                go_enter Tryz.func89, Tryz.ntmps89
                go_wp2_with (first
                  | (go_at_call 87; (with_reducible refine (C0.out _ ?_).mono ?_); (· (repeat' (first | assumption | refine PAt.alloc ?_ _ | refine PAt.drew ?_ | refine PAt.set ?_ (by omega) _))); rintro e w0 ⟨v0, rfl, rfl, hp0, hw0⟩; have hN := hN.keep (hw0.block b hbl ab2); have hbl := hN.lt; have hz0 := hw0.size; (try simp at hz0))
                  | (go_at_call 140; (with_reducible refine (C1.out _ ?_).mono ?_); (· exact ab1); rintro e w1 ⟨v1, rfl, rfl, hp1, hw1⟩; have hN := hN.keep (hw1.block b hbl ab2); have hbl := hN.lt; have q0 := hN.c0; have f0 := hN.warm 0; have q2 := hN.c2; have f2 := hN.warm 2; have hz1 := hw1.size; (try simp at hz1))
                  | (go_at_call 87; (with_reducible refine (C2.out _ ?_).mono ?_); (· (repeat' (first | assumption | refine PAt.alloc ?_ _ | refine PAt.drew ?_ | refine PAt.set ?_ (by omega) _))); rintro e w2 ⟨v2, rfl, rfl, hp2, hw2⟩; have hN := ((hN.set0 7).set2 (textT x1)).keep (hw2.block b ab2 ab2); have hbl := hN.lt; have hz2 := hw2.size; (try simp at hz2))
                  | (go_at_call 142; (with_reducible refine (C3.out _ ?_).mono ?_); (· (repeat' (first | assumption | refine PAt.alloc ?_ _ | refine PAt.drew ?_ | refine PAt.set ?_ (by omega) _))); rintro e w3 ⟨v3, rfl, hv3, hp3, hw3⟩; obtain ⟨u3, rfl⟩ := hv3.ptr; have hN := hN.keep (hw3.block b hbl ab2); have hbl := hN.lt; have q4 := hN.c4; have f4 := hN.warm 4; have hz3 := hw3.size; (try simp at hz3))
                  | (go_at_call 87; (with_reducible refine (C4.out _ ?_).mono ?_); (· (repeat' (first | assumption | refine PAt.alloc ?_ _ | refine PAt.drew ?_ | refine PAt.set ?_ (by omega) _))); rintro e w4 ⟨v4, rfl, rfl, hp4, hw4⟩; have hN := (hN.set4 (pV u3)).keep (hw4.block b ab2 ab2); have hbl := hN.lt; have hz4 := hw4.size; (try simp at hz4))
                  | (go_at_call 142; (with_reducible refine (C5.out _ ?_).mono ?_); (· (repeat' (first | assumption | refine PAt.alloc ?_ _ | refine PAt.drew ?_ | refine PAt.set ?_ (by omega) _))); rintro e w5 ⟨v5, rfl, hv5, hp5, hw5⟩; obtain ⟨u5, rfl⟩ := hv5.ptr; have hN := hN.keep (hw5.block b hbl ab2); have hbl := hN.lt; have q5 := hN.c5; have f5 := hN.warm 5; have hz5 := hw5.size; (try simp at hz5))
                  | (go_at_call 86; (with_reducible refine (C6.out _ ?_).mono ?_); (· exact ab1); rintro e wb hB; obtain ⟨b', rfl, hb1, hb2, hb3, hb4⟩ := hB))
                exact ⟨rfl, b', rfl, Nat.le_trans ab6 hb1, hb2, (ab0 : Past [p, b] w _).then hb3 (by simp), hb4⟩
              | ok x6 ts6 =>
                rw [ok_bind] at hD ⊢
                have D7 : wantT [101, 110, 100] ts6 ≠ .out := bind_done hD
                have C7 := Lib.hid (fun (w : World) (h : PAt w p (d) ts6) => want_any [101, 110, 100] (by decide) h)
                generalize wantT [101, 110, 100] ts6 = r7 at hD D7 C7 ⊢
                cases r7 with
                | out => exact absurd rfl D7
                | bad c l =>
                  clear hD D7 S D0 D1 D2 D3 D4 D5 D6
                  go_enter Tryz.func89, Tryz.ntmps89
                  go_wp2_with (first
                    | (go_at_call 87; (with_reducible refine (C0.out _ ?_).mono ?_); (· (repeat' (first | assumption | refine PAt.alloc ?_ _ | refine PAt.drew ?_ | refine PAt.set ?_ (by omega) _))); rintro e w0 ⟨v0, rfl, rfl, hp0, hw0⟩; have hN := hN.keep (hw0.block b hbl ab2); have hbl := hN.lt; have hz0 := hw0.size; (try simp at hz0))
                    | (go_at_call 140; (with_reducible refine (C1.out _ ?_).mono ?_); (· exact ab1); rintro e w1 ⟨v1, rfl, rfl, hp1, hw1⟩; have hN := hN.keep (hw1.block b hbl ab2); have hbl := hN.lt; have q0 := hN.c0; have f0 := hN.warm 0; have q2 := hN.c2; have f2 := hN.warm 2; have hz1 := hw1.size; (try simp at hz1))
                    | (go_at_call 87; (with_reducible refine (C2.out _ ?_).mono ?_); (· (repeat' (first | assumption | refine PAt.alloc ?_ _ | refine PAt.drew ?_ | refine PAt.set ?_ (by omega) _))); rintro e w2 ⟨v2, rfl, rfl, hp2, hw2⟩; have hN := ((hN.set0 7).set2 (textT x1)).keep (hw2.block b ab2 ab2); have hbl := hN.lt; have hz2 := hw2.size; (try simp at hz2))
                    | (go_at_call 142; (with_reducible refine (C3.out _ ?_).mono ?_); (· (repeat' (first | assumption | refine PAt.alloc ?_ _ | refine PAt.drew ?_ | refine PAt.set ?_ (by omega) _))); rintro e w3 ⟨v3, rfl, hv3, hp3, hw3⟩; obtain ⟨u3, rfl⟩ := hv3.ptr; have hN := hN.keep (hw3.block b hbl ab2); have hbl := hN.lt; have q4 := hN.c4; have f4 := hN.warm 4; have hz3 := hw3.size; (try simp at hz3))
                    | (go_at_call 87; (with_reducible refine (C4.out _ ?_).mono ?_); (· (repeat' (first | assumption | refine PAt.alloc ?_ _ | refine PAt.drew ?_ | refine PAt.set ?_ (by omega) _))); rintro e w4 ⟨v4, rfl, rfl, hp4, hw4⟩; have hN := (hN.set4 (pV u3)).keep (hw4.block b ab2 ab2); have hbl := hN.lt; have hz4 := hw4.size; (try simp at hz4))
                    | (go_at_call 142; (with_reducible refine (C5.out _ ?_).mono ?_); (· (repeat' (first | assumption | refine PAt.alloc ?_ _ | refine PAt.drew ?_ | refine PAt.set ?_ (by omega) _))); rintro e w5 ⟨v5, rfl, hv5, hp5, hw5⟩; obtain ⟨u5, rfl⟩ := hv5.ptr; have hN := hN.keep (hw5.block b hbl ab2); have hbl := hN.lt; have q5 := hN.c5; have f5 := hN.warm 5; have hz5 := hw5.size; (try simp at hz5))
                    | (go_at_call 86; (with_reducible refine (C6.out _ ?_).mono ?_); (· exact ab1); rintro e w6 ⟨v6, rfl, hv6, hp6, hw6⟩; obtain ⟨A6, k6, rfl⟩ := hv6.sl; have hN := (hN.set5 (pV u5)).keep (hw6.block b ab2 ab2); have hbl := hN.lt; have q6 := hN.c6; have f6 := hN.warm 6; have hz6 := hw6.size; (try simp at hz6))
                    | (go_at_call 87; (with_reducible refine (C7.out _ ?_).mono ?_); (· (repeat' (first | assumption | refine PAt.alloc ?_ _ | refine PAt.drew ?_ | refine PAt.set ?_ (by omega) _))); rintro e wb hB; obtain ⟨b', rfl, hb1, hb2, hb3, hb4⟩ := hB))
                  exact ⟨rfl, b', rfl, Nat.le_trans ab6 hb1, hb2, (ab0 : Past [p, b] w _).then hb3 (by simp), hb4⟩
                | ok x7 ts7 =>
                  rw [ok_bind] at hD ⊢
                  clear hD S D0 D1 D2 D3 D4 D5 D6 D7
                  go_enter Tryz.func89, Tryz.ntmps89
                  go_wp2_with (first
                    | (go_at_call 87; (with_reducible refine (C0.out _ ?_).mono ?_); (· (repeat' (first | assumption | refine PAt.alloc ?_ _ | refine PAt.drew ?_ | refine PAt.set ?_ (by omega) _))); rintro e w0 ⟨v0, rfl, rfl, hp0, hw0⟩; have hN := hN.keep (hw0.block b hbl ab2); have hbl := hN.lt; have hz0 := hw0.size; (try simp at hz0))
                    | (go_at_call 140; (with_reducible refine (C1.out _ ?_).mono ?_); (· exact ab1); rintro e w1 ⟨v1, rfl, rfl, hp1, hw1⟩; have hN := hN.keep (hw1.block b hbl ab2); have hbl := hN.lt; have q0 := hN.c0; have f0 := hN.warm 0; have q2 := hN.c2; have f2 := hN.warm 2; have hz1 := hw1.size; (try simp at hz1))
                    | (go_at_call 87; (with_reducible refine (C2.out _ ?_).mono ?_); (· (repeat' (first | assumption | refine PAt.alloc ?_ _ | refine PAt.drew ?_ | refine PAt.set ?_ (by omega) _))); rintro e w2 ⟨v2, rfl, rfl, hp2, hw2⟩; have hN := ((hN.set0 7).set2 (textT x1)).keep (hw2.block b ab2 ab2); have hbl := hN.lt; have hz2 := hw2.size; (try simp at hz2))
                    | (go_at_call 142; (with_reducible refine (C3.out _ ?_).mono ?_); (· (repeat' (first | assumption | refine PAt.alloc ?_ _ | refine PAt.drew ?_ | refine PAt.set ?_ (by omega) _))); rintro e w3 ⟨v3, rfl, hv3, hp3, hw3⟩; obtain ⟨u3, rfl⟩ := hv3.ptr; have hN := hN.keep (hw3.block b hbl ab2); have hbl := hN.lt; have q4 := hN.c4; have f4 := hN.warm 4; have hz3 := hw3.size; (try simp at hz3))
                    | (go_at_call 87; (with_reducible refine (C4.out _ ?_).mono ?_); (· (repeat' (first | assumption | refine PAt.alloc ?_ _ | refine PAt.drew ?_ | refine PAt.set ?_ (by omega) _))); rintro e w4 ⟨v4, rfl, rfl, hp4, hw4⟩; have hN := (hN.set4 (pV u3)).keep (hw4.block b ab2 ab2); have hbl := hN.lt; have hz4 := hw4.size; (try simp at hz4))
                    | (go_at_call 142; (with_reducible refine (C5.out _ ?_).mono ?_); (· (repeat' (first | assumption | refine PAt.alloc ?_ _ | refine PAt.drew ?_ | refine PAt.set ?_ (by omega) _))); rintro e w5 ⟨v5, rfl, hv5, hp5, hw5⟩; obtain ⟨u5, rfl⟩ := hv5.ptr; have hN := hN.keep (hw5.block b hbl ab2); have hbl := hN.lt; have q5 := hN.c5; have f5 := hN.warm 5; have hz5 := hw5.size; (try simp at hz5))
                    | (go_at_call 86; (with_reducible refine (C6.out _ ?_).mono ?_); (· exact ab1); rintro e w6 ⟨v6, rfl, hv6, hp6, hw6⟩; obtain ⟨A6, k6, rfl⟩ := hv6.sl; have hN := (hN.set5 (pV u5)).keep (hw6.block b ab2 ab2); have hbl := hN.lt; have q6 := hN.c6; have f6 := hN.warm 6; have hz6 := hw6.size; (try simp at hz6))
                    | (go_at_call 87; (with_reducible refine (C7.out _ ?_).mono ?_); (· (repeat' (first | assumption | refine PAt.alloc ?_ _ | refine PAt.drew ?_ | refine PAt.set ?_ (by omega) _))); rintro e w7 ⟨v7, rfl, rfl, hp7, hw7⟩; have hN := (hN.set6 (.slice A6 (lenT x6) k6)).keep (hw7.block b ab2 ab2); have hbl := hN.lt; have hz7 := hw7.size; (try simp at hz7)))
                  refine bodyPost_end (results_none rfl _ _ _) rfl ?_
                  exact ⟨_, rfl, ⟨rfl, at_st hN ⟨Nat.le_refl _, hN.lt⟩ rfl (hv3.past (ab0 : Past [p, b] w3 _) ab2 ab2).1 (hv5.past (ab0 : Past [p, b] w5 _) ab2 ab2).1 (hv6.past (ab0 : Past [p, b] w6 _) ab2 ab2) (sl_nil _ _), rfl⟩, ab11, ab0⟩
set_option maxHeartbeats 2000000 in
theorem result_step {n : Nat} (S : Spec n) {w : World} {p d b l : Nat} {ts : List Tok} (h : PAt w p d ts) (hpb : p < b) (hN : NewSt w b l) (hD : parseF (n + 1) (.result l) d ts ≠ .out) :
    Calls Tryz.prog 91 #[pV p, pV b] w (Ends p d [p, b] (parseF (n + 1) (.result l) d ts) (VF b) w) := by
  have hpl := h.lt
  have hbl := hN.lt
  unfold NewSt at hN
  unfold parseF at hD ⊢
  simp only [] at hD ⊢
  have D0 : wantT [114, 101, 116, 117, 114, 110] ts ≠ .out := bind_done hD
  have C0 := Lib.hid (fun (w : World) (h : PAt w p (d) ts) => want_any [114, 101, 116, 117, 114, 110] (by decide) h)
  generalize wantT [114, 101, 116, 117, 114, 110] ts = r0 at hD D0 C0 ⊢
  cases r0 with
  | out => exact absurd rfl D0
  | bad c l =>
    clear hD D0 S
    go_enter Tryz.func91, Tryz.ntmps91
    go_wp2_with (first
      | (go_at_call 87; (with_reducible refine (C0.out _ ?_).mono ?_); (· exact ab1); rintro e wb hB; obtain ⟨b', rfl, hb1, hb2, hb3, hb4⟩ := hB)
      | (go_at_call 47; (with_reducible refine (ends_any (d := d) (ts := ts0) ?_).mono ?_); (· exact ab1); rintro e wz ⟨rfl, hqz⟩; obtain rfl := hqz.symm))
    exact ⟨rfl, b', rfl, Nat.le_trans ab6 hb1, hb2, (ab0 : Past [p, b] w _).then hb3 (by simp), hb4⟩
  | ok x0 ts0 =>
    rw [ok_bind] at hD ⊢
    by_cases he : endsT ts0 = true
    · rw [if_pos he] at hD ⊢
      clear hD S D0
      go_enter Tryz.func91, Tryz.ntmps91
      go_wp2_with (first
        | (go_at_call 87; (with_reducible refine (C0.out _ ?_).mono ?_); (· exact ab1); rintro e w0 ⟨v0, rfl, rfl, hp0, hw0⟩; have hN := hN.keep (hw0.block b hbl ab2); have hbl := hN.lt; have q0 := hN.c0; have f0 := hN.warm 0; have hz0 := hw0.size; (try simp at hz0))
        | (go_at_call 47; (with_reducible refine (ends_any (d := d) (ts := ts0) ?_).mono ?_); (· exact ab1); rintro e wz ⟨rfl, hqz⟩; obtain rfl := hqz.symm))
      refine bodyPost_end (results_none rfl _ _ _) rfl ?_
      exact ⟨_, rfl, ⟨rfl, at_st (hN.set0 8) ⟨Nat.le_refl _, (hN.set0 8).lt⟩ rfl rfl rfl (sl_nil _ _) (sl_nil _ _), rfl⟩, ab11, ab0⟩
    · rw [if_neg he] at hD ⊢
      have he' : endsT ts0 = false := by simpa using he
      clear he
      have D1 : parseF n (.operation 1) (d) ts0 ≠ .out := bind_done hD
      have C1 := Lib.hid (fun (w : World) (h : PAt w p (d) ts0) => S.expr h D1)
      generalize parseF n (.operation 1) (d) ts0 = r1 at hD D1 C1 ⊢
      cases r1 with
      | out => exact absurd rfl D1
      | bad c l =>
        clear hD D1 S D0
        go_enter Tryz.func91, Tryz.ntmps91
        go_wp2_with (first
          | (go_at_call 87; (with_reducible refine (C0.out _ ?_).mono ?_); (· exact ab1); rintro e w0 ⟨v0, rfl, rfl, hp0, hw0⟩; have hN := hN.keep (hw0.block b hbl ab2); have hbl := hN.lt; have q0 := hN.c0; have f0 := hN.warm 0; have hz0 := hw0.size; (try simp at hz0))
          | (go_at_call 142; (with_reducible refine (C1.out _ ?_).mono ?_); (· exact ab1); rintro e wb hB; obtain ⟨b', rfl, hb1, hb2, hb3, hb4⟩ := hB)
          | (go_at_call 47; (with_reducible refine (ends_any (d := d) (ts := ts0) ?_).mono ?_); (· exact ab1); rintro e wz ⟨rfl, hqz⟩; obtain rfl := hqz.symm))
        exact ⟨rfl, b', rfl, Nat.le_trans ab6 hb1, hb2, (ab0 : Past [p, b] w _).then hb3 (by simp), hb4⟩
      | ok x1 ts1 =>
        rw [ok_bind] at hD ⊢
        clear hD S D0 D1
        go_enter Tryz.func91, Tryz.ntmps91
        go_wp2_with (first
          | (go_at_call 87; (with_reducible refine (C0.out _ ?_).mono ?_); (· exact ab1); rintro e w0 ⟨v0, rfl, rfl, hp0, hw0⟩; have hN := hN.keep (hw0.block b hbl ab2); have hbl := hN.lt; have q0 := hN.c0; have f0 := hN.warm 0; have hz0 := hw0.size; (try simp at hz0))
          | (go_at_call 142; (with_reducible refine (C1.out _ ?_).mono ?_); (· exact ab1); rintro e w1 ⟨v1, rfl, hv1, hp1, hw1⟩; obtain ⟨u1, rfl⟩ := hv1.ptr; have hN := (hN.set0 8).keep (hw1.block b ab2 ab2); have hbl := hN.lt; have q4 := hN.c4; have f4 := hN.warm 4; have hz1 := hw1.size; (try simp at hz1))
          | (go_at_call 47; (with_reducible refine (ends_any (d := d) (ts := ts0) ?_).mono ?_); (· exact ab1); rintro e wz ⟨rfl, hqz⟩; obtain rfl := hqz.symm))
        refine bodyPost_end (results_none rfl _ _ _) rfl ?_
        exact ⟨_, rfl, ⟨rfl, at_st (hN.set4 (pV u1)) ⟨Nat.le_refl _, (hN.set4 (pV u1)).lt⟩ rfl (hv1.past (ab0 : Past [p, b] w1 _) ab2 ab2).1 rfl (sl_nil _ _) (sl_nil _ _), rfl⟩, ab11, ab0⟩
set_option maxHeartbeats 2000000 in
theorem try_step {n : Nat} (S : Spec n) {w : World} {p d b l : Nat} {ts : List Tok} (h : PAt w p d ts) (hpb : p < b) (hN : NewSt w b l) (hD : parseF (n + 1) (.try_ l) d ts ≠ .out) :
    Calls Tryz.prog 92 #[pV p, pV b] w (Ends p d [p, b] (parseF (n + 1) (.try_ l) d ts) (VF b) w) := by
  have hpl := h.lt
  have hbl := hN.lt
  unfold NewSt at hN
  unfold parseF at hD ⊢
  simp only [] at hD ⊢
  have D0 : parseF n (.block [116, 114, 121]) (d) ts ≠ .out := bind_done hD
  have C0 := Lib.hid (fun (w : World) (h : PAt w p (d) ts) => S.block [116, 114, 121] (by decide) h D0)
  generalize parseF n (.block [116, 114, 121]) (d) ts = r0 at hD D0 C0 ⊢
  cases r0 with
  | out => exact absurd rfl D0
  | bad c l =>
    clear hD D0 S
    go_enter_defers Tryz.func92, Tryz.ntmps92
    go_wp2_with (first
      | (go_at_call 86; (with_reducible refine (C0.out _ ?_).mono ?_); (· exact ab1); rintro e wb hB; obtain ⟨b', rfl, hb1, hb2, hb3, hb4⟩ := hB))
    exact ⟨b', rfl, Nat.le_trans ab6 hb1, hb2, (ab0 : Past [p, b] w _).then hb3 (by simp), hb4⟩
  | ok x0 ts0 =>
    rw [ok_bind] at hD ⊢
    have D1 : beginT [99, 97, 116, 99, 104] d ts0 ≠ .out := bind_done hD
    have C1 := Lib.hid (fun (w : World) (h : PAt w p (d) ts0) => begin_any [99, 97, 116, 99, 104] (by decide) h)
    generalize beginT [99, 97, 116, 99, 104] d ts0 = r1 at hD D1 C1 ⊢
    cases r1 with
    | out => exact absurd rfl D1
    | bad c l =>
      clear hD D1 S D0
      go_enter_defers Tryz.func92, Tryz.ntmps92
      go_wp2_with (first
        | (go_at_call 86; (with_reducible refine (C0.out _ ?_).mono ?_); (· exact ab1); rintro e w0 ⟨v0, rfl, hv0, hp0, hw0⟩; obtain ⟨A0, k0, rfl⟩ := hv0.sl; have hN := hN.keep (hw0.block b hbl ab2); have hbl := hN.lt; have q0 := hN.c0; have f0 := hN.warm 0; have q6 := hN.c6; have f6 := hN.warm 6; have hz0 := hw0.size; (try simp at hz0))
        | (go_at_call 143; (with_reducible refine (C1.out _ ?_).mono ?_); (· exact ab1); rintro e wb hB; obtain ⟨b', rfl, hb1, hb2, hb3, hb4⟩ := hB))
      exact ⟨b', rfl, Nat.le_trans ab6 hb1, hb2, (ab0 : Past [p, b] w _).then hb3 (by simp), hb4⟩
    | ok x1 ts1 =>
      rw [ok_bind] at hD ⊢
      have D2 : nameT ts1 ≠ .out := bind_done hD
      have C2 := Lib.hid (fun (w : World) (h : PAt w p (d + 1) ts1) => name_any h)
      generalize nameT ts1 = r2 at hD D2 C2 ⊢
      cases r2 with
      | out => exact absurd rfl D2
      | bad c l =>
        clear hD D2 S D0 D1
        go_enter_defers Tryz.func92, Tryz.ntmps92
        go_wp2_with (first
          | (go_at_call 86; (with_reducible refine (C0.out _ ?_).mono ?_); (· exact ab1); rintro e w0 ⟨v0, rfl, hv0, hp0, hw0⟩; obtain ⟨A0, k0, rfl⟩ := hv0.sl; have hN := hN.keep (hw0.block b hbl ab2); have hbl := hN.lt; have q0 := hN.c0; have f0 := hN.warm 0; have q6 := hN.c6; have f6 := hN.warm 6; have hz0 := hw0.size; (try simp at hz0))
          | (go_at_call 143; (with_reducible refine (C1.out _ ?_).mono ?_); (· exact ab1); rintro e w1 ⟨v1, rfl, ⟨q, rfl, hq1, hq2⟩, hp1, hw1⟩; have hN := ((hN.set0 10).set6 (.slice A0 (lenT x0) k0)).keep (hw1.block b ab2 ab2); have hbl := hN.lt; have hz1 := hw1.size; (try simp at hz1); (try simp at hq1))
          | (go_at_call 140; (with_reducible refine (C2.out _ ?_).mono ?_); (· exact ab1); rintro e wb hB; obtain ⟨b', rfl, hb1, hb2, hb3, hb4⟩ := hB))
        exact door_bad (hb3.cell_some ab12 ab2) (Nat.le_trans ab6 hb1) hb2 ((ab0 : Past [p, b] w _).then hb3 (by simp)) hb4 (by simp) hpl
      | ok x2 ts2 =>
        rw [ok_bind] at hD ⊢
        have D3 : parseF n .stmts (d + 1) ts2 ≠ .out := bind_done hD
        have C3 := Lib.hid (fun (w : World) (h : PAt w p (d + 1) ts2) => S.stmts h D3)
        generalize parseF n .stmts (d + 1) ts2 = r3 at hD D3 C3 ⊢
        cases r3 with
        | out => exact absurd rfl D3
        | bad c l =>
          clear hD D3 S D0 D1 D2
          go_enter_defers Tryz.func92, Tryz.ntmps92
          go_wp2_with (first
            | (go_at_call 86; (with_reducible refine (C0.out _ ?_).mono ?_); (· exact ab1); rintro e w0 ⟨v0, rfl, hv0, hp0, hw0⟩; obtain ⟨A0, k0, rfl⟩ := hv0.sl; have hN := hN.keep (hw0.block b hbl ab2); have hbl := hN.lt; have q0 := hN.c0; have f0 := hN.warm 0; have q6 := hN.c6; have f6 := hN.warm 6; have hz0 := hw0.size; (try simp at hz0))
            | (go_at_call 143; (with_reducible refine (C1.out _ ?_).mono ?_); (· exact ab1); rintro e w1 ⟨v1, rfl, ⟨q, rfl, hq1, hq2⟩, hp1, hw1⟩; have hN := ((hN.set0 10).set6 (.slice A0 (lenT x0) k0)).keep (hw1.block b ab2 ab2); have hbl := hN.lt; have hz1 := hw1.size; (try simp at hz1); (try simp at hq1))
            | (go_at_call 140; (with_reducible refine (C2.out _ ?_).mono ?_); (· exact ab1); rintro e w2 ⟨v2, rfl, rfl, hp2, hw2⟩; have hq2 := hw2.cell_some ab12 ab2; have hN := hN.keep (hw2.block b hbl ab2); have hbl := hN.lt; have q2 := hN.c2; have f2 := hN.warm 2; have hz2 := hw2.size; (try simp at hz2))
            | (go_at_call 26; (with_reducible refine (C3.out _ ?_).mono ?_); (· exact ab1); rintro e wb hB; obtain ⟨b', rfl, hb1, hb2, hb3, hb4⟩ := hB))
          exact door_bad (hb3.cell_some ab12 ab2) (Nat.le_trans ab6 hb1) hb2 ((ab0 : Past [p, b] w _).then hb3 (by simp)) hb4 (by simp) hpl
        | ok x3 ts3 =>
          rw [ok_bind] at hD ⊢
          have D4 : wantT [101, 110, 100] ts3 ≠ .out := bind_done hD
          have C4 := Lib.hid (fun (w : World) (h : PAt w p (d + 1) ts3) => want_any [101, 110, 100] (by decide) h)
          generalize wantT [101, 110, 100] ts3 = r4 at hD D4 C4 ⊢
          cases r4 with
          | out => exact absurd rfl D4
          | bad c l =>
            clear hD D4 S D0 D1 D2 D3
            go_enter_defers Tryz.func92, Tryz.ntmps92
            go_wp2_with (first
              | (go_at_call 86; (with_reducible refine (C0.out _ ?_).mono ?_); (· exact ab1); rintro e w0 ⟨v0, rfl, hv0, hp0, hw0⟩; obtain ⟨A0, k0, rfl⟩ := hv0.sl; have hN := hN.keep (hw0.block b hbl ab2); have hbl := hN.lt; have q0 := hN.c0; have f0 := hN.warm 0; have q6 := hN.c6; have f6 := hN.warm 6; have hz0 := hw0.size; (try simp at hz0))
              | (go_at_call 143; (with_reducible refine (C1.out _ ?_).mono ?_); (· exact ab1); rintro e w1 ⟨v1, rfl, ⟨q, rfl, hq1, hq2⟩, hp1, hw1⟩; have hN := ((hN.set0 10).set6 (.slice A0 (lenT x0) k0)).keep (hw1.block b ab2 ab2); have hbl := hN.lt; have hz1 := hw1.size; (try simp at hz1); (try simp at hq1))
              | (go_at_call 140; (with_reducible refine (C2.out _ ?_).mono ?_); (· exact ab1); rintro e w2 ⟨v2, rfl, rfl, hp2, hw2⟩; have hq2 := hw2.cell_some ab12 ab2; have hN := hN.keep (hw2.block b hbl ab2); have hbl := hN.lt; have q2 := hN.c2; have f2 := hN.warm 2; have hz2 := hw2.size; (try simp at hz2))
              | (go_at_call 26; (with_reducible refine (C3.out _ ?_).mono ?_); (· exact ab1); rintro e w3 ⟨v3, rfl, hv3, hp3, hw3⟩; have hq2 := hw3.cell_some ab12 ab2; obtain ⟨A3, k3, rfl⟩ := hv3.sl; have hN := (hN.set2 (textT x2)).keep (hw3.block b ab2 ab2); have hbl := hN.lt; have q7 := hN.c7; have f7 := hN.warm 7; have hz3 := hw3.size; (try simp at hz3))
              | (go_at_call 87; (with_reducible refine (C4.out _ ?_).mono ?_); (· exact ab1); rintro e wb hB; obtain ⟨b', rfl, hb1, hb2, hb3, hb4⟩ := hB))
            exact door_bad (hb3.cell_some ab12 ab2) (Nat.le_trans ab6 hb1) hb2 ((ab0 : Past [p, b] w _).then hb3 (by simp)) hb4 (by simp) hpl
          | ok x4 ts4 =>
            rw [ok_bind] at hD ⊢
            clear hD S D0 D1 D2 D3 D4
            go_enter_defers Tryz.func92, Tryz.ntmps92
            go_wp2_with (first
              | (go_at_call 86; (with_reducible refine (C0.out _ ?_).mono ?_); (· exact ab1); rintro e w0 ⟨v0, rfl, hv0, hp0, hw0⟩; obtain ⟨A0, k0, rfl⟩ := hv0.sl; have hN := hN.keep (hw0.block b hbl ab2); have hbl := hN.lt; have q0 := hN.c0; have f0 := hN.warm 0; have q6 := hN.c6; have f6 := hN.warm 6; have hz0 := hw0.size; (try simp at hz0))
              | (go_at_call 143; (with_reducible refine (C1.out _ ?_).mono ?_); (· exact ab1); rintro e w1 ⟨v1, rfl, ⟨q, rfl, hq1, hq2⟩, hp1, hw1⟩; have hN := ((hN.set0 10).set6 (.slice A0 (lenT x0) k0)).keep (hw1.block b ab2 ab2); have hbl := hN.lt; have hz1 := hw1.size; (try simp at hz1); (try simp at hq1))
              | (go_at_call 140; (with_reducible refine (C2.out _ ?_).mono ?_); (· exact ab1); rintro e w2 ⟨v2, rfl, rfl, hp2, hw2⟩; have hq2 := hw2.cell_some ab12 ab2; have hN := hN.keep (hw2.block b hbl ab2); have hbl := hN.lt; have q2 := hN.c2; have f2 := hN.warm 2; have hz2 := hw2.size; (try simp at hz2))
              | (go_at_call 26; (with_reducible refine (C3.out _ ?_).mono ?_); (· exact ab1); rintro e w3 ⟨v3, rfl, hv3, hp3, hw3⟩; have hq2 := hw3.cell_some ab12 ab2; obtain ⟨A3, k3, rfl⟩ := hv3.sl; have hN := (hN.set2 (textT x2)).keep (hw3.block b ab2 ab2); have hbl := hN.lt; have q7 := hN.c7; have f7 := hN.warm 7; have hz3 := hw3.size; (try simp at hz3))
              | (go_at_call 87; (with_reducible refine (C4.out _ ?_).mono ?_); (· exact ab1); rintro e w4 ⟨v4, rfl, rfl, hp4, hw4⟩; have hq2 := hw4.cell_some ab12 ab2; have hN := (hN.set7 (.slice A3 (lenT x3) k3)).keep (hw4.block b ab2 ab2); have hbl := hN.lt; have hz4 := hw4.size; (try simp at hz4)))
            exact door_ok hq2 hp4 ab0 (by simp) (fun W => results_none rfl _ _ _) (fun W hW => ⟨rfl, at_st (hN.keep (hW.block b ab2 ab2)) ⟨Nat.le_refl _, (by have := hN.lt; have := hW.size; omega)⟩ rfl rfl rfl ((hv0.past (lo' := b) (ab0 : Past [p, b] w0 _) ab2 ab2).past hW ab2 (by first | omega | exact Nat.le_refl _)) ((hv3.past (lo' := b) (ab0 : Past [p, b] w3 _) ab2 ab2).past hW ab2 (by first | omega | exact Nat.le_refl _)), rfl⟩)
end Go.Proofs.YtoggkigfijgbfaaGreatDoor.P5
