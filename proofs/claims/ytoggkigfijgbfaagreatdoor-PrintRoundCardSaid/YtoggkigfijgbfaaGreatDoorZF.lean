/- table: its items, and that call. | table; and so every production, at every fuel. -/
import Derived.Test.YtoggkigfijgbfaaGreatDoorZE
namespace Go.Proofs.YtoggkigfijgbfaaGreatDoor.P5
set_option maxRecDepth 20000
open Go.RowKit Go.Maps

/-- What table$1 holds. -/
def ITab (p qv tv tb lo l : Nat) (acc : List Tree) (w : World) : Prop :=
  w.cell? ⟨qv, 0, none⟩ = some (pV p) ∧ w.cell? ⟨tv, 0, none⟩ = some (pV tb) ∧ lo ≤ w.heap.size ∧ ∃ vk va xs ys, ExC w tb 12 l 0 [] (.pointer none) (.pointer none) vk va (.slice none 0 0) (.slice none 0 0) ∧ Pair p lo 49 w vk va acc xs ys
theorem ITab.past {p qv tv tb lo l : Nat} {acc : List Tree} {w w' : World} (h : ITab p qv tv tb lo l acc w) (hw : Past [p] w w') (hq : p < qv) (hf : p < tv) (hb : p < tb) (hl : tb < lo) : ITab p qv tv tb lo l acc w' := by
  obtain ⟨h1, h2, h3, vk, va, xs, ys, h4, h5⟩ := h
  have hs := hw.size
  exact ⟨hw.cell_some h1 (by simp; omega), hw.cell_some h2 (by simp; omega), by omega, vk, va, xs, ys, h4.keep (hw.block _ h4.lt (by simp; omega)), h5.past hw (by simp; omega)⟩
theorem row_far {lo n q : Nat} {p : Nat} {T : TypeId} {w : World} {v : Value} {xs : List Value} (ho : w.ownsRow lo T 1 v n xs) (hd : ∀ x ∈ xs, x ≠ pV p) (he : ∀ k, v.ownBlock = some k → xs ≠ []) (hc : w.cell? ⟨q, 0, none⟩ = some (pV p)) : v.ownBlock ≠ some q := by
  intro e
  cases xs with
  | nil => exact he q e rfl
  | cons x r =>
    have h0 := ho.cells (g := q) e 0 x rfl
    have e1 : (⟨q, 0, none⟩ : Addr).add 0 = ⟨q, 0, none⟩ := by simp [Addr.add]
    rw [e1, hc] at h0
    injection h0 with h0
    exact hd x (by simp) h0.symm
theorem table1_end {p d qv tv tb lo q s0 l gA cA gB cB : Nat} {acc : List Tree} {wo W w5 : World} {vk va : Value} {xs ys : List Value} {y z : Tree} {o : Option Addr} {u : Nat} {ts2 : List Tok}
    (hpq : p < qv) (_hpv : p < tv) (hpt : p < tb) (hql : qv < lo) (hvl : tv < lo) (hqt : qv ≠ tb) (hvt : tv ≠ tb) (hlq : lo ≤ q) (hwt : wo.heap.size ≤ tb) (hs0 : lo ≤ s0)
    (hR : Rows2 49 W tb lo l vk va (.slice (some ⟨gA, 0, none⟩) (acc.length + 1) cA) (.slice (some ⟨gB, 0, none⟩) (acc.length + 1) cB) (.slice (some ⟨gA, 0, none⟩) (acc.length + 1) cA) (.slice (some ⟨gB, 0, none⟩) (acc.length + 1) cB) (acc.length + 1) (acc.length + 1) (xs ++ [.pointer o]) (ys ++ [pV u]) w5)
    (hP : Pair p lo 49 W vk va acc xs ys) (hy : AtS s0 W y (.pointer o)) (hz : VE s0 z W (pV u)) (hkA : ∀ k, vk.ownBlock = some k → k < s0) (hkB : ∀ k, va.ownBlock = some k → k < s0)
    (c1 : W.cell? ⟨qv, 0, none⟩ = some (pV p)) (c2 : W.cell? ⟨tv, 0, none⟩ = some (pV tb)) (c3 : W.cell? ⟨q, 0, none⟩ = some (pV p)) (hp : PAt W p d ts2) (hwo : Past [p] wo W) :
    EndsG p d wo.heap.size (fun w' => Past [p] wo w' ∧ w'.cell? ⟨q, 0, none⟩ = some (pV p)) (.ok (.cons y z) ts2) (fun x w' v => v = .tuple #[] ∧ ITab p qv tv tb lo l (acc ++ [x]) w') (.returned (.tuple #[])) w5 := by
  have hlo := hR.lo_le
  have htl := hR.tb_lo
  have hsz := hR.size
  have fA := row_far hP.rowA hP.dA hP.eA c3
  have fB := row_far hP.rowB hP.dB hP.eB c3
  have small : ∀ k, k < lo → k ≠ tb → w5.heap[k]? = W.heap[k]? := fun k hk hne => hR.frame k (by omega) hne (fun e => by have := (hP.rowA.lt k e).1; omega) (fun e => by have := (hP.rowB.lt k e).1; omega)
  have kcell : ∀ a v, a < lo → a ≠ tb → W.cell? ⟨a, 0, none⟩ = some v → w5.cell? ⟨a, 0, none⟩ = some v := fun a v h1 h2 h3 => (World.cell?_of_block (a := ⟨a, 0, none⟩) (small a h1 h2)).trans h3
  have hq5 : w5.cell? ⟨q, 0, none⟩ = some (pV p) := (World.cell?_of_block (a := ⟨q, 0, none⟩) (hR.frame q (World.block_lt_of_cell? W _ c3) (by omega) fA fB)).trans c3
  have key : ∀ k, (Since lo W k ∧ vk.ownBlock ≠ some k ∧ va.ownBlock ≠ some k) → (Since lo w5 k ∧ Value.ownBlock (.slice (some ⟨gA, 0, none⟩) (acc.length + 1) cA) ≠ some k ∧ Value.ownBlock (.slice (some ⟨gB, 0, none⟩) (acc.length + 1) cB) ≠ some k) ∧ w5.heap[k]? = W.heap[k]? := by
    intro k ⟨hk, h1, h2⟩
    have hk1 := hk.1
    have hk2 := hk.2
    refine ⟨⟨⟨hk1, by omega⟩, fun e => ?_, fun e => ?_⟩, hR.frame k hk2 (by omega) h1 h2⟩
    · rcases hR.oldA k e with h | h
      · exact h1 h
      · omega
    · rcases hR.oldB k e with h | h
      · exact h2 h
      · omega
  have key2 : ∀ k, Since s0 W k → (Since lo W k ∧ vk.ownBlock ≠ some k ∧ va.ownBlock ≠ some k) := fun k hk => ⟨⟨Nat.le_trans hs0 hk.1, hk.2⟩, fun e => by have := hkA k e; have := hk.1; omega, fun e => by have := hkB k e; have := hk.1; omega⟩
  have hxl : xs.length = acc.length := by have := hP.rowA.1; omega
  have hyl : ys.length = acc.length := by have := hP.rowB.1; omega
  have hpl := hp.lt
  have hwz := hwo.size
  refine ⟨.tuple #[], rfl, ⟨rfl, kcell _ _ hql hqt c1, kcell _ _ hvl hvt c2, by omega, _, _, _, _, hR.ex, by simpa using hR.rowA, by simpa using hR.rowB, hR.ap, ?_, ?_, fun k _ => by simp, fun k _ => by simp, ?_⟩, hp.keep (fun k hk => small k (by omega) (by omega)), ?_, hq5⟩
  · intro x hx
    rcases List.mem_append.1 hx with hx | hx
    · exact hP.dA x hx
    · obtain rfl : x = .pointer o := by simpa using hx
      exact at_ne hy (by omega)
  · intro x hx
    rcases List.mem_append.1 hx with hx | hx
    · exact hP.dB x hx
    · obtain rfl : x = pV u := by simpa using hx
      exact at_ne hz.1 (by omega)
  · intro j t hj
    by_cases hjl : j < acc.length
    · rw [List.getElem?_append_left hjl] at hj
      rw [List.getElem?_append_left (by omega), List.getElem?_append_left (by omega)]
      exact ⟨fun x hx => (at_keep key _).1 _ ((hP.trees j t hj).1 x hx), fun x hx => (at_keep key _).1 _ ((hP.trees j t hj).2 x hx)⟩
    · have hj' : j = acc.length := by
        rcases Nat.lt_or_ge j (acc.length + 1) with h | h
        · omega
        · rw [List.getElem?_eq_none (by simp; omega)] at hj; cases hj
      subst hj'
      obtain rfl : Tree.cons y z = t := by simpa using hj
      refine ⟨fun x hx => ?_, fun x hx => ?_⟩
      · obtain rfl : Value.pointer o = x := by rw [← hxl] at hx; simpa using hx
        exact (at_keep (fun k hk => key k (key2 k hk)) _).1 _ hy
      · obtain rfl : pV u = x := by rw [← hyl] at hx; simpa using hx
        exact (at_keep (fun k hk => key k (key2 k hk)) _).1 _ hz.1
  · exact ⟨hR.os.trans hwo.os, hR.tape.trans hwo.tape, hR.output.trans hwo.output, by omega, fun k hk hne => (small k (by omega) (by omega)).trans (hwo.block k hk hne)⟩
theorem anyG_op' {P : Program} {ops : Array Oper} {Q : Exit → Act → World → Prop} {i : Nat} {o : Oper} {a : Act} {w : World} {K : Act → World → Prop} (ho : ops[i]? = some o)
    (h : ∀ K' : Act → World → Prop, Hid (∀ a w, K a w → K' a w) → if Region.wanted o (yielded ops a.tmps) = true then Oper.wp P o a w K' Q else K' (a.put o.dst undef) w) : wpOp P ops Q i K a w :=
  anyG_op ho (h K (Lib.hid fun _ _ h => h))
set_option maxHeartbeats 16000000 in
theorem table1_any {m d : Nat} {w wo : World} {p qv tv tb lo q l : Nat} {ts : List Tok} {acc : List Tree} (S : ∀ k, k < m → Spec k) (hpq : p < qv) (hpv : p < tv) (hpt : p < tb) (hql : qv < lo) (hvl : tv < lo) (htl : tb < lo) (hqt : qv ≠ tb) (hvt : tv ≠ tb) (hwt : wo.heap.size ≤ tb) (hacc : acc.length ≤ 2199023255552) (hi : ITab p qv tv tb lo l acc w) (hwo : Past [p] wo w) (hlq : lo ≤ q) (hcq : w.cell? ⟨q, 0, none⟩ = some (pV p)) (h : PAt w p d ts) (hD : parseF m (.one 2) d ts ≠ .out) :
    Calls Tryz.prog 254 #[pV qv, pV tv] w (EndsG p d wo.heap.size (fun w' => Past [p] wo w' ∧ w'.cell? ⟨q, 0, none⟩ = some (pV p)) (parseF m (.one 2) d ts) (fun x w' v => v = .tuple #[] ∧ ITab p qv tv tb lo l (acc ++ [x]) w')) := by
  cases m with
  | zero => exact absurd rfl hD
  | succ m =>
    unfold parseF at hD ⊢
    simp only [show ¬ ((2 : Nat) = 0) by decide, show ¬ ((2 : Nat) = 1) by decide, if_false] at hD ⊢
    obtain ⟨i9, hii, hz0, hz1, hz2⟩ := info_parts ex_info
    obtain ⟨cq, ct, hlw, vk, va, xs, ys, hX, HP⟩ := hi
    have C0 := Lib.hid (fun (w : World) (h : PAt w p d ts) => (S m (by omega)).item h hD)
    replace HP := Lib.hid HP
    have HC := Lib.hid hcq
    have HW := Lib.hid hwo
    have HX := Lib.hid hX
    have hzo := hwo.size
    generalize parseF m .item d ts = r0 at hD C0 ⊢
    clear S hcq hwo hX
    cases r0 with
    | out => exact absurd rfl hD
    | bad c l =>
      go_enter Tryz.func254, Tryz.ntmps254
      go_wp2_with (first
        | (go_at_call 255; (with_reducible refine (C0.out _ h).mono ?_); rintro e wb hB; obtain ⟨b', rfl, hb1, hb2, hb3, hb4⟩ := hB))
      exact ⟨rfl, b', rfl, Nat.le_trans hzo hb1, hb2, ⟨HW.out.trans hb3, hb3.cell_some HC.out (by simp; omega)⟩, hb4⟩
    | ok x ts2 =>
      go_enter Tryz.func254, Tryz.ntmps254
      go_wp2_with (first
        | (go_at_call 255; (with_reducible refine (C0.out _ h).mono ?_); rintro e W ⟨v, rfl, hv, hp2, hw2⟩; obtain ⟨y, z, o, t, rfl, rfl, hy, hz⟩ := hv; obtain ⟨u, rfl, _, _, hu1, hu2⟩ := hz.name; have ct2 := hw2.cell_some ct (by simp; omega); have HX2 := Lib.hid (HX.out.keep (hw2.block _ HX.out.lt (by simp; omega))); have HP2 := Lib.hid (HP.out.past hw2 (by simp; omega))))
      -- TAIL
      have hlW : lo ≤ W.heap.size := Nat.le_trans hlw hw2.size
      have R0 : Rows2 49 W tb lo l vk va vk va vk va acc.length acc.length xs ys W.drew := ⟨Nat.le_refl _, fun _ _ _ _ _ => rfl, HX2.out.keep rfl, own_past HP2.out.rowA ((Past.refl [] W).drew) (by simp), own_past HP2.out.rowB ((Past.refl [] W).drew) (by simp), HP2.out.ap, fun _ h => .inl h, fun _ h => .inl h, htl, hlW, rfl, rfl, rfl⟩
      have Hct : ∀ RA RB ck ca nA nB XA XB w', Rows2 49 W tb lo l vk va RA RB ck ca nA nB XA XB w' → w'.cell? ⟨tv, 0, none⟩ = some (pV tb) := fun RA RB ck ca nA nB XA XB w' R => (World.cell?_of_block (a := ⟨tv, 0, none⟩) (R.frame tv (by omega) hvt (fun e => by have := (HP2.out.rowA.lt tv e).1; omega) (fun e => by have := (HP2.out.rowB.lt tv e).1; omega))).trans ct2
      have hct := Hct _ _ _ _ _ _ _ _ _ R0
      have hc6 := R0.ex.c6
      have hc7 := R0.ex.c7
      refine region_G (S := (fun (L : Array Bool) (w' : World) => w'.cell? ⟨tv, 0, none⟩ = some (pV tb) ∧ (L.getD 8 true = false → w'.cell? ⟨tb, 6, none⟩ = some vk) ∧ (L.getD 15 true = false → w'.cell? ⟨tb, 7, none⟩ = some va))) (by kernel_rfl) ?_
      change anyG _ _ _ _ _ 22 #[false, false, false, false, false, false, false, false, false, false, false, false, false, false, false, false, false, false, false, false, false, false] _ _
      refine anyG_take (S := (fun (L : Array Bool) (w' : World) => w'.cell? ⟨tv, 0, none⟩ = some (pV tb) ∧ (L.getD 8 true = false → w'.cell? ⟨tb, 6, none⟩ = some vk) ∧ (L.getD 15 true = false → w'.cell? ⟨tb, 7, none⟩ = some va))) (i := 0) (v := ?_) (fun w => w.cell? ⟨tv, 0, none⟩ = some (pV tb)) (fun _ _ h => h.1) rfl (by kernel_rfl) (by kernel_rfl) (by kernel_rfl) (fun _ _ _ h => h) (fun L w => by (try dsimp only); rw [getD_set_ne true (by decide), getD_set_ne true (by decide)]) (Or.inl ⟨by rfl, ?_⟩) (by first | exact ⟨hct, fun _ => hc6, fun _ => hc7⟩ | exact ⟨hct, fun hh => absurd hh (by decide), fun hh => absurd hh (by decide)⟩ | exact ⟨hct, fun hh => absurd hh (by decide), fun _ => hc7⟩) ?_
      rotate_left
      · (intro w hSw; (try dsimp only at hSw); go_simp; (try (with_reducible rfl)))
      (try simp only [Act.put]); (try simp only [List.setIfInBounds_toArray]); (try simp only [List.set_cons_succ]); (try simp only [List.set_cons_zero])
      refine anyG_take (S := (fun (L : Array Bool) (w' : World) => w'.cell? ⟨tv, 0, none⟩ = some (pV tb) ∧ (L.getD 8 true = false → w'.cell? ⟨tb, 6, none⟩ = some vk) ∧ (L.getD 15 true = false → w'.cell? ⟨tb, 7, none⟩ = some va))) (i := 1) (v := ?_) (fun w => w.cell? ⟨tv, 0, none⟩ = some (pV tb)) (fun _ _ h => h.1) rfl (by kernel_rfl) (by kernel_rfl) (by kernel_rfl) (fun _ _ _ h => h) (fun L w => by (try dsimp only); rw [getD_set_ne true (by decide), getD_set_ne true (by decide)]) (Or.inl ⟨by rfl, ?_⟩) (by first | exact ⟨hct, fun _ => hc6, fun _ => hc7⟩ | exact ⟨hct, fun hh => absurd hh (by decide), fun hh => absurd hh (by decide)⟩ | exact ⟨hct, fun hh => absurd hh (by decide), fun _ => hc7⟩) ?_
      rotate_left
      · (intro w hSw; (try dsimp only at hSw); go_simp; (try (with_reducible rfl)))
      (try simp only [Act.put]); (try simp only [List.setIfInBounds_toArray]); (try simp only [List.set_cons_succ]); (try simp only [List.set_cons_zero])
      refine anyG_take (S := (fun (L : Array Bool) (w' : World) => w'.cell? ⟨tv, 0, none⟩ = some (pV tb) ∧ (L.getD 8 true = false → w'.cell? ⟨tb, 6, none⟩ = some vk) ∧ (L.getD 15 true = false → w'.cell? ⟨tb, 7, none⟩ = some va))) (i := 2) (v := ?_) (fun w => w.cell? ⟨tv, 0, none⟩ = some (pV tb)) (fun _ _ h => h.1) rfl (by kernel_rfl) (by kernel_rfl) (by kernel_rfl) (fun _ _ _ h => h) (fun L w => by (try dsimp only); rw [getD_set_ne true (by decide), getD_set_ne true (by decide)]) (Or.inl ⟨by rfl, ?_⟩) (by first | exact ⟨hct, fun _ => hc6, fun _ => hc7⟩ | exact ⟨hct, fun hh => absurd hh (by decide), fun hh => absurd hh (by decide)⟩ | exact ⟨hct, fun hh => absurd hh (by decide), fun _ => hc7⟩) ?_
      rotate_left
      · (intro w hSw; (try dsimp only at hSw); go_simp; (try (with_reducible rfl)))
      (try simp only [Act.put]); (try simp only [List.setIfInBounds_toArray]); (try simp only [List.set_cons_succ]); (try simp only [List.set_cons_zero])
      refine anyG_take (S := (fun (L : Array Bool) (w' : World) => w'.cell? ⟨tv, 0, none⟩ = some (pV tb) ∧ (L.getD 8 true = false → w'.cell? ⟨tb, 6, none⟩ = some vk) ∧ (L.getD 15 true = false → w'.cell? ⟨tb, 7, none⟩ = some va))) (i := 3) (v := ?_) (fun _ => True) (fun _ _ _ => trivial) rfl (by kernel_rfl) (by kernel_rfl) (by kernel_rfl) (fun _ _ _ h => h) (fun L w => by (try dsimp only); rw [getD_set_ne true (by decide), getD_set_ne true (by decide)]) (Or.inl ⟨by rfl, ?_⟩) (by first | exact ⟨hct, fun _ => hc6, fun _ => hc7⟩ | exact ⟨hct, fun hh => absurd hh (by decide), fun hh => absurd hh (by decide)⟩ | exact ⟨hct, fun hh => absurd hh (by decide), fun _ => hc7⟩) ?_
      rotate_left
      · (intro w hSw; (try dsimp only at hSw); go_simp; (try (with_reducible rfl)))
      (try simp only [Act.put]); (try simp only [List.setIfInBounds_toArray]); (try simp only [List.set_cons_succ]); (try simp only [List.set_cons_zero])
      refine anyG_take (S := (fun (L : Array Bool) (w' : World) => w'.cell? ⟨tv, 0, none⟩ = some (pV tb) ∧ (L.getD 8 true = false → w'.cell? ⟨tb, 6, none⟩ = some vk) ∧ (L.getD 15 true = false → w'.cell? ⟨tb, 7, none⟩ = some va))) (i := 4) (v := ?_) (fun _ => True) (fun _ _ _ => trivial) rfl (by kernel_rfl) (by kernel_rfl) (by kernel_rfl) (fun _ _ _ h => h) (fun L w => by (try dsimp only); rw [getD_set_ne true (by decide), getD_set_ne true (by decide)]) (Or.inl ⟨by rfl, ?_⟩) (by first | exact ⟨hct, fun _ => hc6, fun _ => hc7⟩ | exact ⟨hct, fun hh => absurd hh (by decide), fun hh => absurd hh (by decide)⟩ | exact ⟨hct, fun hh => absurd hh (by decide), fun _ => hc7⟩) ?_
      rotate_left
      · (intro w hSw; (try dsimp only at hSw); go_simp; (try (with_reducible rfl)))
      (try simp only [Act.put]); (try simp only [List.setIfInBounds_toArray]); (try simp only [List.set_cons_succ]); (try simp only [List.set_cons_zero])
      refine anyG_takeG (S := (fun (L : Array Bool) (w' : World) => w'.cell? ⟨tv, 0, none⟩ = some (pV tb) ∧ (L.getD 8 true = false → w'.cell? ⟨tb, 6, none⟩ = some vk) ∧ (L.getD 15 true = false → w'.cell? ⟨tb, 7, none⟩ = some va))) (i := 5) (v := ?_) 8 (fun w => w.cell? ⟨tb, 6, none⟩ = some vk) (fun _ _ hl h => h.2.1 hl) rfl (fun og hog => by cases hog; exact ⟨{ on := 5, ground := .data }, by simp, by rfl, rfl⟩) (by rfl) (by kernel_rfl) (by kernel_rfl) (by kernel_rfl) (fun _ _ _ h => h) (fun L w => by (try dsimp only); rw [getD_set_ne true (by decide), getD_set_ne true (by decide)]) (Or.inl ⟨by rfl, ?_⟩) (by first | exact ⟨hct, fun _ => hc6, fun _ => hc7⟩ | exact ⟨hct, fun hh => absurd hh (by decide), fun hh => absurd hh (by decide)⟩ | exact ⟨hct, fun hh => absurd hh (by decide), fun _ => hc7⟩) ?_
      rotate_left
      · (intro w hSw; (try dsimp only at hSw); go_simp; (try (with_reducible rfl)))
      (try simp only [Act.put]); (try simp only [List.setIfInBounds_toArray]); (try simp only [List.set_cons_succ]); (try simp only [List.set_cons_zero])
      refine anyG_take (S := (fun (L : Array Bool) (w' : World) => w'.cell? ⟨tv, 0, none⟩ = some (pV tb) ∧ (L.getD 8 true = false → w'.cell? ⟨tb, 6, none⟩ = some vk) ∧ (L.getD 15 true = false → w'.cell? ⟨tb, 7, none⟩ = some va))) (i := 6) (v := ?_) (fun _ => True) (fun _ _ _ => trivial) rfl (by kernel_rfl) (by kernel_rfl) (by kernel_rfl) (fun _ _ _ h => h) (fun L w => by (try dsimp only); rw [getD_set_ne true (by decide), getD_set_ne true (by decide)]) (Or.inl ⟨by rfl, ?_⟩) (by first | exact ⟨hct, fun _ => hc6, fun _ => hc7⟩ | exact ⟨hct, fun hh => absurd hh (by decide), fun hh => absurd hh (by decide)⟩ | exact ⟨hct, fun hh => absurd hh (by decide), fun _ => hc7⟩) ?_
      rotate_left
      · (intro w hSw; (try dsimp only at hSw); go_simp; (try (with_reducible rfl)))
      (try simp only [Act.put]); (try simp only [List.setIfInBounds_toArray]); (try simp only [List.set_cons_succ]); (try simp only [List.set_cons_zero])
      refine anyG_take (S := (fun (L : Array Bool) (w' : World) => w'.cell? ⟨tv, 0, none⟩ = some (pV tb) ∧ (L.getD 8 true = false → w'.cell? ⟨tb, 6, none⟩ = some vk) ∧ (L.getD 15 true = false → w'.cell? ⟨tb, 7, none⟩ = some va))) (i := 9) (v := ?_) (fun w => w.cell? ⟨tv, 0, none⟩ = some (pV tb)) (fun _ _ h => h.1) rfl (by kernel_rfl) (by kernel_rfl) (by kernel_rfl) (fun _ _ _ h => h) (fun L w => by (try dsimp only); rw [getD_set_ne true (by decide), getD_set_ne true (by decide)]) (Or.inl ⟨by rfl, ?_⟩) (by first | exact ⟨hct, fun _ => hc6, fun _ => hc7⟩ | exact ⟨hct, fun hh => absurd hh (by decide), fun hh => absurd hh (by decide)⟩ | exact ⟨hct, fun hh => absurd hh (by decide), fun _ => hc7⟩) ?_
      rotate_left
      · (intro w hSw; (try dsimp only at hSw); go_simp; (try (with_reducible rfl)))
      (try simp only [Act.put]); (try simp only [List.setIfInBounds_toArray]); (try simp only [List.set_cons_succ]); (try simp only [List.set_cons_zero])
      refine anyG_take (S := (fun (L : Array Bool) (w' : World) => w'.cell? ⟨tv, 0, none⟩ = some (pV tb) ∧ (L.getD 8 true = false → w'.cell? ⟨tb, 6, none⟩ = some vk) ∧ (L.getD 15 true = false → w'.cell? ⟨tb, 7, none⟩ = some va))) (i := 10) (v := ?_) (fun _ => True) (fun _ _ _ => trivial) rfl (by kernel_rfl) (by kernel_rfl) (by kernel_rfl) (fun _ _ _ h => h) (fun L w => by (try dsimp only); rw [getD_set_ne true (by decide), getD_set_ne true (by decide)]) (Or.inl ⟨by rfl, ?_⟩) (by first | exact ⟨hct, fun _ => hc6, fun _ => hc7⟩ | exact ⟨hct, fun hh => absurd hh (by decide), fun hh => absurd hh (by decide)⟩ | exact ⟨hct, fun hh => absurd hh (by decide), fun _ => hc7⟩) ?_
      rotate_left
      · (intro w hSw; (try dsimp only at hSw); go_simp; (try (with_reducible rfl)))
      (try simp only [Act.put]); (try simp only [List.setIfInBounds_toArray]); (try simp only [List.set_cons_succ]); (try simp only [List.set_cons_zero])
      refine anyG_take (S := (fun (L : Array Bool) (w' : World) => w'.cell? ⟨tv, 0, none⟩ = some (pV tb) ∧ (L.getD 8 true = false → w'.cell? ⟨tb, 6, none⟩ = some vk) ∧ (L.getD 15 true = false → w'.cell? ⟨tb, 7, none⟩ = some va))) (i := 11) (v := ?_) (fun _ => True) (fun _ _ _ => trivial) rfl (by kernel_rfl) (by kernel_rfl) (by kernel_rfl) (fun _ _ _ h => h) (fun L w => by (try dsimp only); rw [getD_set_ne true (by decide), getD_set_ne true (by decide)]) (Or.inl ⟨by rfl, ?_⟩) (by first | exact ⟨hct, fun _ => hc6, fun _ => hc7⟩ | exact ⟨hct, fun hh => absurd hh (by decide), fun hh => absurd hh (by decide)⟩ | exact ⟨hct, fun hh => absurd hh (by decide), fun _ => hc7⟩) ?_
      rotate_left
      · (intro w hSw; (try dsimp only at hSw); go_simp; (try (with_reducible rfl)))
      (try simp only [Act.put]); (try simp only [List.setIfInBounds_toArray]); (try simp only [List.set_cons_succ]); (try simp only [List.set_cons_zero])
      refine anyG_takeG (S := (fun (L : Array Bool) (w' : World) => w'.cell? ⟨tv, 0, none⟩ = some (pV tb) ∧ (L.getD 8 true = false → w'.cell? ⟨tb, 6, none⟩ = some vk) ∧ (L.getD 15 true = false → w'.cell? ⟨tb, 7, none⟩ = some va))) (i := 12) (v := ?_) 15 (fun w => w.cell? ⟨tb, 7, none⟩ = some va) (fun _ _ hl h => h.2.2 hl) rfl (fun og hog => by cases hog; exact ⟨{ on := 12, ground := .data }, by simp, by rfl, rfl⟩) (by rfl) (by kernel_rfl) (by kernel_rfl) (by kernel_rfl) (fun _ _ _ h => h) (fun L w => by (try dsimp only); rw [getD_set_ne true (by decide), getD_set_ne true (by decide)]) (Or.inl ⟨by rfl, ?_⟩) (by first | exact ⟨hct, fun _ => hc6, fun _ => hc7⟩ | exact ⟨hct, fun hh => absurd hh (by decide), fun hh => absurd hh (by decide)⟩ | exact ⟨hct, fun hh => absurd hh (by decide), fun _ => hc7⟩) ?_
      rotate_left
      · (intro w hSw; (try dsimp only at hSw); go_simp; (try (with_reducible rfl)))
      (try simp only [Act.put]); (try simp only [List.setIfInBounds_toArray]); (try simp only [List.set_cons_succ]); (try simp only [List.set_cons_zero])
      refine anyG_take (S := (fun (L : Array Bool) (w' : World) => w'.cell? ⟨tv, 0, none⟩ = some (pV tb) ∧ (L.getD 8 true = false → w'.cell? ⟨tb, 6, none⟩ = some vk) ∧ (L.getD 15 true = false → w'.cell? ⟨tb, 7, none⟩ = some va))) (i := 13) (v := ?_) (fun _ => True) (fun _ _ _ => trivial) rfl (by kernel_rfl) (by kernel_rfl) (by kernel_rfl) (fun _ _ _ h => h) (fun L w => by (try dsimp only); rw [getD_set_ne true (by decide), getD_set_ne true (by decide)]) (Or.inl ⟨by rfl, ?_⟩) (by first | exact ⟨hct, fun _ => hc6, fun _ => hc7⟩ | exact ⟨hct, fun hh => absurd hh (by decide), fun hh => absurd hh (by decide)⟩ | exact ⟨hct, fun hh => absurd hh (by decide), fun _ => hc7⟩) ?_
      rotate_left
      · (intro w hSw; (try dsimp only at hSw); go_simp; (try (with_reducible rfl)))
      (try simp only [Act.put]); (try simp only [List.setIfInBounds_toArray]); (try simp only [List.set_cons_succ]); (try simp only [List.set_cons_zero])
      refine anyG_all (rs := [7, 14]) (by kernel_rfl) (by simp) ?_
      intro i hi
      have hi2 : i = 7 ∨ i = 14 := by simpa using hi
      clear hi
      rcases hi2 with rfl | rfl
      · refine anyG_op' rfl (fun K hK => ?_)
        go_simp
        have E1 := R0.elem (.pointer o) 49
        have R1 := R0.alloc (.cells #[(.pointer o)] 49)
        clear hct hc6 hc7
        have hct := Hct _ _ _ _ _ _ _ _ _ R1
        have hc6 := R1.ex.c6
        have hc7 := R1.ex.c7
        refine hK.out _ _ ⟨(by first | exact ⟨hct, fun _ => hc6, fun _ => hc7⟩ | exact ⟨hct, fun hh => absurd hh (by decide), fun hh => absurd hh (by decide)⟩ | exact ⟨hct, fun hh => absurd hh (by decide), fun _ => hc7⟩), ?_⟩
        clear hK K
        (try simp only [Act.put]); (try simp only [List.setIfInBounds_toArray]); (try simp only [List.set_cons_succ]); (try simp only [List.set_cons_zero])
        refine anyG_all (rs := [8, 14]) (by kernel_rfl) (by simp) ?_
        intro i hi
        have hi2 : i = 8 ∨ i = 14 := by simpa using hi
        clear hi
        rcases hi2 with rfl | rfl
        · refine anyG_op' rfl (fun K hK => ?_)
          refine step_append_lies _ rfl (.tmp 14) (.tmp 16) 52 rfl lo 49 i9 _ 1 8 Tryz.underlying52 hii hz0 hz1 hz2 rfl (by decide) vk acc.length xs rfl R1.rowA _ 1 1 [.pointer o] rfl rfl E1.news (by simp [Value.oneCell']) (by decide) (by unfold maxLen; omega) (by omega) (Nat.le_trans R1.lo_le R1.size) _ rfl ?_
          intro gA cA wA hoA hgA hatA _
          have R2 := R1.appA hoA hgA hatA
          clear hct hc6 hc7
          have hct := Hct _ _ _ _ _ _ _ _ _ R2
          have hc6 := R2.ex.c6
          have hc7 := R2.ex.c7
          refine hK.out _ _ ⟨(by first | exact ⟨hct, fun _ => hc6, fun _ => hc7⟩ | exact ⟨hct, fun hh => absurd hh (by decide), fun hh => absurd hh (by decide)⟩ | exact ⟨hct, fun hh => absurd hh (by decide), fun _ => hc7⟩), ?_⟩
          clear hK K
          (try simp only [Act.put]); (try simp only [List.setIfInBounds_toArray]); (try simp only [List.set_cons_succ]); (try simp only [List.set_cons_zero])
          refine anyG_all (rs := [14]) (by kernel_rfl) (by simp) ?_
          intro i hi
          obtain rfl : i = 14 := by simpa using hi
          refine anyG_op' rfl (fun K hK => ?_)
          go_simp
          have E3 := R2.elem (pV u) 49
          have E3b := E1.alloc (.cells #[(pV u)] 49)
          have R3 := R2.alloc (.cells #[(pV u)] 49)
          clear hct hc6 hc7
          have hct := Hct _ _ _ _ _ _ _ _ _ R3
          have hc6 := R3.ex.c6
          have hc7 := R3.ex.c7
          refine hK.out _ _ ⟨(by first | exact ⟨hct, fun _ => hc6, fun _ => hc7⟩ | exact ⟨hct, fun hh => absurd hh (by decide), fun hh => absurd hh (by decide)⟩ | exact ⟨hct, fun hh => absurd hh (by decide), fun _ => hc7⟩), ?_⟩
          clear hK K
          (try simp only [Act.put]); (try simp only [List.setIfInBounds_toArray]); (try simp only [List.set_cons_succ]); (try simp only [List.set_cons_zero])
          refine anyG_all (rs := [15]) (by kernel_rfl) (by simp) ?_
          intro i hi
          obtain rfl : i = 15 := by simpa using hi
          refine anyG_op' rfl (fun K hK => ?_)
          refine step_append_lies _ rfl (.tmp 21) (.tmp 23) 52 rfl lo 49 i9 _ 1 8 Tryz.underlying52 hii hz0 hz1 hz2 rfl (by decide) va acc.length ys rfl R3.rowB _ 1 1 [pV u] rfl rfl E3.news (by simp [Value.oneCell']) (by decide) (by unfold maxLen; omega) (by omega) (Nat.le_trans R3.lo_le R3.size) _ rfl ?_
          intro gB cB wB hoB hgB hatB _
          have R4 := R3.swap_appB hoB hgB hatB
          clear hct hc6 hc7
          have hct := Hct _ _ _ _ _ _ _ _ _ R4
          have hc6 := R4.ex.c6
          have hc7 := R4.ex.c7
          refine hK.out _ _ ⟨(by first | exact ⟨hct, fun _ => hc6, fun _ => hc7⟩ | exact ⟨hct, fun hh => absurd hh (by decide), fun hh => absurd hh (by decide)⟩ | exact ⟨hct, fun hh => absurd hh (by decide), fun _ => hc7⟩), ?_⟩
          clear hK K
          (try simp only [Act.put]); (try simp only [List.setIfInBounds_toArray]); (try simp only [List.set_cons_succ]); (try simp only [List.set_cons_zero])
          refine anyG_take (S := (fun (L : Array Bool) (w' : World) => w'.cell? ⟨tv, 0, none⟩ = some (pV tb) ∧ (L.getD 8 true = false → w'.cell? ⟨tb, 6, none⟩ = some vk) ∧ (L.getD 15 true = false → w'.cell? ⟨tb, 7, none⟩ = some va))) (i := 16) (v := ?_) (fun _ => True) (fun _ _ _ => trivial) rfl (by kernel_rfl) (by kernel_rfl) (by kernel_rfl) (fun _ _ _ h => h) (fun L w => by (try dsimp only); rw [getD_set_ne true (by decide), getD_set_ne true (by decide)]) (Or.inl ⟨by rfl, ?_⟩) (by first | exact ⟨hct, fun _ => hc6, fun _ => hc7⟩ | exact ⟨hct, fun hh => absurd hh (by decide), fun hh => absurd hh (by decide)⟩ | exact ⟨hct, fun hh => absurd hh (by decide), fun _ => hc7⟩) ?_
          rotate_left
          · (intro w hSw; (try dsimp only at hSw); go_simp; (try (with_reducible rfl)))
          (try simp only [Act.put]); (try simp only [List.setIfInBounds_toArray]); (try simp only [List.set_cons_succ]); (try simp only [List.set_cons_zero])
          refine anyG_take (S := (fun (L : Array Bool) (w' : World) => w'.cell? ⟨tv, 0, none⟩ = some (pV tb) ∧ (L.getD 8 true = false → w'.cell? ⟨tb, 6, none⟩ = some vk) ∧ (L.getD 15 true = false → w'.cell? ⟨tb, 7, none⟩ = some va))) (i := 17) (v := ?_) (fun _ => True) (fun _ _ _ => trivial) rfl (by kernel_rfl) (by kernel_rfl) (by kernel_rfl) (fun _ _ _ h => h) (fun L w => by (try dsimp only); rw [getD_set_ne true (by decide), getD_set_ne true (by decide)]) (Or.inl ⟨by rfl, ?_⟩) (by first | exact ⟨hct, fun _ => hc6, fun _ => hc7⟩ | exact ⟨hct, fun hh => absurd hh (by decide), fun hh => absurd hh (by decide)⟩ | exact ⟨hct, fun hh => absurd hh (by decide), fun _ => hc7⟩) ?_
          rotate_left
          · (intro w hSw; (try dsimp only at hSw); go_simp; (try (with_reducible rfl)))
          (try simp only [Act.put]); (try simp only [List.setIfInBounds_toArray]); (try simp only [List.set_cons_succ]); (try simp only [List.set_cons_zero])
          refine anyG_all (rs := [18]) (by kernel_rfl) (by simp) ?_
          intro i hi
          obtain rfl : i = 18 := by simpa using hi
          refine anyG_op' rfl (fun K hK => ?_)
          have hy6 := R4.ex.warm 6
          go_simp
          have RS := R4.set6 (.slice (some ⟨gA, 0, none⟩) (acc.length + 1) cA)
          clear hct hc6 hc7 hy6
          have hct := Hct _ _ _ _ _ _ _ _ _ RS
          have hc6 := RS.ex.c6
          have hc7 := RS.ex.c7
          refine hK.out _ _ ⟨(by first | exact ⟨hct, fun _ => hc6, fun _ => hc7⟩ | exact ⟨hct, fun hh => absurd hh (by decide), fun hh => absurd hh (by decide)⟩ | exact ⟨hct, fun hh => absurd hh (by decide), fun _ => hc7⟩), ?_⟩
          clear hK K
          (try simp only [Act.put]); (try simp only [List.setIfInBounds_toArray]); (try simp only [List.set_cons_succ]); (try simp only [List.set_cons_zero])
          refine anyG_take (S := (fun (L : Array Bool) (w' : World) => w'.cell? ⟨tv, 0, none⟩ = some (pV tb) ∧ (L.getD 8 true = false → w'.cell? ⟨tb, 6, none⟩ = some vk) ∧ (L.getD 15 true = false → w'.cell? ⟨tb, 7, none⟩ = some va))) (i := 19) (v := ?_) (fun _ => True) (fun _ _ _ => trivial) rfl (by kernel_rfl) (by kernel_rfl) (by kernel_rfl) (fun _ _ _ h => h) (fun L w => by (try dsimp only); rw [getD_set_ne true (by decide), getD_set_ne true (by decide)]) (Or.inl ⟨by rfl, ?_⟩) (by first | exact ⟨hct, fun _ => hc6, fun _ => hc7⟩ | exact ⟨hct, fun hh => absurd hh (by decide), fun hh => absurd hh (by decide)⟩ | exact ⟨hct, fun hh => absurd hh (by decide), fun _ => hc7⟩) ?_
          rotate_left
          · (intro w hSw; (try dsimp only at hSw); go_simp; (try (with_reducible rfl)))
          (try simp only [Act.put]); (try simp only [List.setIfInBounds_toArray]); (try simp only [List.set_cons_succ]); (try simp only [List.set_cons_zero])
          refine anyG_take (S := (fun (L : Array Bool) (w' : World) => w'.cell? ⟨tv, 0, none⟩ = some (pV tb) ∧ (L.getD 8 true = false → w'.cell? ⟨tb, 6, none⟩ = some vk) ∧ (L.getD 15 true = false → w'.cell? ⟨tb, 7, none⟩ = some va))) (i := 20) (v := ?_) (fun _ => True) (fun _ _ _ => trivial) rfl (by kernel_rfl) (by kernel_rfl) (by kernel_rfl) (fun _ _ _ h => h) (fun L w => by (try dsimp only); rw [getD_set_ne true (by decide), getD_set_ne true (by decide)]) (Or.inl ⟨by rfl, ?_⟩) (by first | exact ⟨hct, fun _ => hc6, fun _ => hc7⟩ | exact ⟨hct, fun hh => absurd hh (by decide), fun hh => absurd hh (by decide)⟩ | exact ⟨hct, fun hh => absurd hh (by decide), fun _ => hc7⟩) ?_
          rotate_left
          · (intro w hSw; (try dsimp only at hSw); go_simp; (try (with_reducible rfl)))
          (try simp only [Act.put]); (try simp only [List.setIfInBounds_toArray]); (try simp only [List.set_cons_succ]); (try simp only [List.set_cons_zero])
          refine anyG_all (rs := [21]) (by kernel_rfl) (by simp) ?_
          intro i hi
          obtain rfl : i = 21 := by simpa using hi
          refine anyG_op' rfl (fun K hK => ?_)
          have hy7 := RS.ex.warm 7
          go_simp
          have RT := RS.set7 (.slice (some ⟨gB, 0, none⟩) (acc.length + 1) cB)
          clear hct hc6 hc7 hy7
          have hct := Hct _ _ _ _ _ _ _ _ _ RT
          have hc6 := RT.ex.c6
          have hc7 := RT.ex.c7
          refine hK.out _ _ ⟨(by first | exact ⟨hct, fun _ => hc6, fun _ => hc7⟩ | exact ⟨hct, fun hh => absurd hh (by decide), fun hh => absurd hh (by decide)⟩ | exact ⟨hct, fun hh => absurd hh (by decide), fun _ => hc7⟩), ?_⟩
          clear hK K
          (try simp only [Act.put]); (try simp only [List.setIfInBounds_toArray]); (try simp only [List.set_cons_succ]); (try simp only [List.set_cons_zero])
          refine anyG_done (by kernel_rfl) ?_ _
          go_wp2_with fail
          refine bodyPost_end (results_none rfl _ _ _) rfl ?_
          exact table1_end hpq hpv hpt hql hvl hqt hvt hlq hwt hlw RT HP2.out hy hz (fun k hk => (HP.out.rowA.lt k hk).2) (fun k hk => (HP.out.rowB.lt k hk).2) (hw2.cell_some cq (by simp; omega)) ct2 (hw2.cell_some HC.out (by simp; omega)) hp2 (HW.out.trans hw2)
        · refine anyG_op' rfl (fun K hK => ?_)
          go_simp
          have E2 := R1.elem (pV u) 49
          rw [show (World.alloc W.drew _).heap.size = W.heap.size + 1 by simp] at E2
          have E2b := E1.alloc (.cells #[(pV u)] 49)
          have R2 := R1.alloc (.cells #[(pV u)] 49)
          clear hct hc6 hc7
          have hct := Hct _ _ _ _ _ _ _ _ _ R2
          have hc6 := R2.ex.c6
          have hc7 := R2.ex.c7
          refine hK.out _ _ ⟨(by first | exact ⟨hct, fun _ => hc6, fun _ => hc7⟩ | exact ⟨hct, fun hh => absurd hh (by decide), fun hh => absurd hh (by decide)⟩ | exact ⟨hct, fun hh => absurd hh (by decide), fun _ => hc7⟩), ?_⟩
          clear hK K
          (try simp only [Act.put]); (try simp only [List.setIfInBounds_toArray]); (try simp only [List.set_cons_succ]); (try simp only [List.set_cons_zero])
          refine anyG_all (rs := [8]) (by kernel_rfl) (by simp) ?_
          intro i hi
          obtain rfl : i = 8 := by simpa using hi
          refine anyG_op' rfl (fun K hK => ?_)
          refine step_append_lies _ rfl (.tmp 14) (.tmp 16) 52 rfl lo 49 i9 _ 1 8 Tryz.underlying52 hii hz0 hz1 hz2 rfl (by decide) vk acc.length xs rfl R2.rowA _ 1 1 [.pointer o] rfl rfl E2b.news (by simp [Value.oneCell']) (by decide) (by unfold maxLen; omega) (by omega) (Nat.le_trans R2.lo_le R2.size) _ rfl ?_
          intro gA cA wA hoA hgA hatA _
          have E3b := E2.appA (n := acc.length + 1) (c := cA) hgA hatA
          have R3 := R2.appA hoA hgA hatA
          clear hct hc6 hc7
          have hct := Hct _ _ _ _ _ _ _ _ _ R3
          have hc6 := R3.ex.c6
          have hc7 := R3.ex.c7
          refine hK.out _ _ ⟨(by first | exact ⟨hct, fun _ => hc6, fun _ => hc7⟩ | exact ⟨hct, fun hh => absurd hh (by decide), fun hh => absurd hh (by decide)⟩ | exact ⟨hct, fun hh => absurd hh (by decide), fun _ => hc7⟩), ?_⟩
          clear hK K
          (try simp only [Act.put]); (try simp only [List.setIfInBounds_toArray]); (try simp only [List.set_cons_succ]); (try simp only [List.set_cons_zero])
          refine anyG_all (rs := [15]) (by kernel_rfl) (by simp) ?_
          intro i hi
          obtain rfl : i = 15 := by simpa using hi
          refine anyG_op' rfl (fun K hK => ?_)
          refine step_append_lies _ rfl (.tmp 21) (.tmp 23) 52 rfl lo 49 i9 _ 1 8 Tryz.underlying52 hii hz0 hz1 hz2 rfl (by decide) va acc.length ys rfl R3.rowB _ 1 1 [pV u] rfl rfl E3b.news (by simp [Value.oneCell']) (by decide) (by unfold maxLen; omega) (by omega) (Nat.le_trans R3.lo_le R3.size) _ rfl ?_
          intro gB cB wB hoB hgB hatB _
          have R4 := R3.swap_appB hoB hgB hatB
          clear hct hc6 hc7
          have hct := Hct _ _ _ _ _ _ _ _ _ R4
          have hc6 := R4.ex.c6
          have hc7 := R4.ex.c7
          refine hK.out _ _ ⟨(by first | exact ⟨hct, fun _ => hc6, fun _ => hc7⟩ | exact ⟨hct, fun hh => absurd hh (by decide), fun hh => absurd hh (by decide)⟩ | exact ⟨hct, fun hh => absurd hh (by decide), fun _ => hc7⟩), ?_⟩
          clear hK K
          (try simp only [Act.put]); (try simp only [List.setIfInBounds_toArray]); (try simp only [List.set_cons_succ]); (try simp only [List.set_cons_zero])
          refine anyG_take (S := (fun (L : Array Bool) (w' : World) => w'.cell? ⟨tv, 0, none⟩ = some (pV tb) ∧ (L.getD 8 true = false → w'.cell? ⟨tb, 6, none⟩ = some vk) ∧ (L.getD 15 true = false → w'.cell? ⟨tb, 7, none⟩ = some va))) (i := 16) (v := ?_) (fun _ => True) (fun _ _ _ => trivial) rfl (by kernel_rfl) (by kernel_rfl) (by kernel_rfl) (fun _ _ _ h => h) (fun L w => by (try dsimp only); rw [getD_set_ne true (by decide), getD_set_ne true (by decide)]) (Or.inl ⟨by rfl, ?_⟩) (by first | exact ⟨hct, fun _ => hc6, fun _ => hc7⟩ | exact ⟨hct, fun hh => absurd hh (by decide), fun hh => absurd hh (by decide)⟩ | exact ⟨hct, fun hh => absurd hh (by decide), fun _ => hc7⟩) ?_
          rotate_left
          · (intro w hSw; (try dsimp only at hSw); go_simp; (try (with_reducible rfl)))
          (try simp only [Act.put]); (try simp only [List.setIfInBounds_toArray]); (try simp only [List.set_cons_succ]); (try simp only [List.set_cons_zero])
          refine anyG_take (S := (fun (L : Array Bool) (w' : World) => w'.cell? ⟨tv, 0, none⟩ = some (pV tb) ∧ (L.getD 8 true = false → w'.cell? ⟨tb, 6, none⟩ = some vk) ∧ (L.getD 15 true = false → w'.cell? ⟨tb, 7, none⟩ = some va))) (i := 17) (v := ?_) (fun _ => True) (fun _ _ _ => trivial) rfl (by kernel_rfl) (by kernel_rfl) (by kernel_rfl) (fun _ _ _ h => h) (fun L w => by (try dsimp only); rw [getD_set_ne true (by decide), getD_set_ne true (by decide)]) (Or.inl ⟨by rfl, ?_⟩) (by first | exact ⟨hct, fun _ => hc6, fun _ => hc7⟩ | exact ⟨hct, fun hh => absurd hh (by decide), fun hh => absurd hh (by decide)⟩ | exact ⟨hct, fun hh => absurd hh (by decide), fun _ => hc7⟩) ?_
          rotate_left
          · (intro w hSw; (try dsimp only at hSw); go_simp; (try (with_reducible rfl)))
          (try simp only [Act.put]); (try simp only [List.setIfInBounds_toArray]); (try simp only [List.set_cons_succ]); (try simp only [List.set_cons_zero])
          refine anyG_all (rs := [18]) (by kernel_rfl) (by simp) ?_
          intro i hi
          obtain rfl : i = 18 := by simpa using hi
          refine anyG_op' rfl (fun K hK => ?_)
          have hy6 := R4.ex.warm 6
          go_simp
          have RS := R4.set6 (.slice (some ⟨gA, 0, none⟩) (acc.length + 1) cA)
          clear hct hc6 hc7 hy6
          have hct := Hct _ _ _ _ _ _ _ _ _ RS
          have hc6 := RS.ex.c6
          have hc7 := RS.ex.c7
          refine hK.out _ _ ⟨(by first | exact ⟨hct, fun _ => hc6, fun _ => hc7⟩ | exact ⟨hct, fun hh => absurd hh (by decide), fun hh => absurd hh (by decide)⟩ | exact ⟨hct, fun hh => absurd hh (by decide), fun _ => hc7⟩), ?_⟩
          clear hK K
          (try simp only [Act.put]); (try simp only [List.setIfInBounds_toArray]); (try simp only [List.set_cons_succ]); (try simp only [List.set_cons_zero])
          refine anyG_take (S := (fun (L : Array Bool) (w' : World) => w'.cell? ⟨tv, 0, none⟩ = some (pV tb) ∧ (L.getD 8 true = false → w'.cell? ⟨tb, 6, none⟩ = some vk) ∧ (L.getD 15 true = false → w'.cell? ⟨tb, 7, none⟩ = some va))) (i := 19) (v := ?_) (fun _ => True) (fun _ _ _ => trivial) rfl (by kernel_rfl) (by kernel_rfl) (by kernel_rfl) (fun _ _ _ h => h) (fun L w => by (try dsimp only); rw [getD_set_ne true (by decide), getD_set_ne true (by decide)]) (Or.inl ⟨by rfl, ?_⟩) (by first | exact ⟨hct, fun _ => hc6, fun _ => hc7⟩ | exact ⟨hct, fun hh => absurd hh (by decide), fun hh => absurd hh (by decide)⟩ | exact ⟨hct, fun hh => absurd hh (by decide), fun _ => hc7⟩) ?_
          rotate_left
          · (intro w hSw; (try dsimp only at hSw); go_simp; (try (with_reducible rfl)))
          (try simp only [Act.put]); (try simp only [List.setIfInBounds_toArray]); (try simp only [List.set_cons_succ]); (try simp only [List.set_cons_zero])
          refine anyG_take (S := (fun (L : Array Bool) (w' : World) => w'.cell? ⟨tv, 0, none⟩ = some (pV tb) ∧ (L.getD 8 true = false → w'.cell? ⟨tb, 6, none⟩ = some vk) ∧ (L.getD 15 true = false → w'.cell? ⟨tb, 7, none⟩ = some va))) (i := 20) (v := ?_) (fun _ => True) (fun _ _ _ => trivial) rfl (by kernel_rfl) (by kernel_rfl) (by kernel_rfl) (fun _ _ _ h => h) (fun L w => by (try dsimp only); rw [getD_set_ne true (by decide), getD_set_ne true (by decide)]) (Or.inl ⟨by rfl, ?_⟩) (by first | exact ⟨hct, fun _ => hc6, fun _ => hc7⟩ | exact ⟨hct, fun hh => absurd hh (by decide), fun hh => absurd hh (by decide)⟩ | exact ⟨hct, fun hh => absurd hh (by decide), fun _ => hc7⟩) ?_
          rotate_left
          · (intro w hSw; (try dsimp only at hSw); go_simp; (try (with_reducible rfl)))
          (try simp only [Act.put]); (try simp only [List.setIfInBounds_toArray]); (try simp only [List.set_cons_succ]); (try simp only [List.set_cons_zero])
          refine anyG_all (rs := [21]) (by kernel_rfl) (by simp) ?_
          intro i hi
          obtain rfl : i = 21 := by simpa using hi
          refine anyG_op' rfl (fun K hK => ?_)
          have hy7 := RS.ex.warm 7
          go_simp
          have RT := RS.set7 (.slice (some ⟨gB, 0, none⟩) (acc.length + 1) cB)
          clear hct hc6 hc7 hy7
          have hct := Hct _ _ _ _ _ _ _ _ _ RT
          have hc6 := RT.ex.c6
          have hc7 := RT.ex.c7
          refine hK.out _ _ ⟨(by first | exact ⟨hct, fun _ => hc6, fun _ => hc7⟩ | exact ⟨hct, fun hh => absurd hh (by decide), fun hh => absurd hh (by decide)⟩ | exact ⟨hct, fun hh => absurd hh (by decide), fun _ => hc7⟩), ?_⟩
          clear hK K
          (try simp only [Act.put]); (try simp only [List.setIfInBounds_toArray]); (try simp only [List.set_cons_succ]); (try simp only [List.set_cons_zero])
          refine anyG_done (by kernel_rfl) ?_ _
          go_wp2_with fail
          refine bodyPost_end (results_none rfl _ _ _) rfl ?_
          exact table1_end hpq hpv hpt hql hvl hqt hvt hlq hwt hlw RT HP2.out hy hz (fun k hk => (HP.out.rowA.lt k hk).2) (fun k hk => (HP.out.rowB.lt k hk).2) (hw2.cell_some cq (by simp; omega)) ct2 (hw2.cell_some HC.out (by simp; omega)) hp2 (HW.out.trans hw2)
      · refine anyG_op' rfl (fun K hK => ?_)
        go_simp
        have E1 := R0.elem (pV u) 49
        have R1 := R0.alloc (.cells #[(pV u)] 49)
        clear hct hc6 hc7
        have hct := Hct _ _ _ _ _ _ _ _ _ R1
        have hc6 := R1.ex.c6
        have hc7 := R1.ex.c7
        refine hK.out _ _ ⟨(by first | exact ⟨hct, fun _ => hc6, fun _ => hc7⟩ | exact ⟨hct, fun hh => absurd hh (by decide), fun hh => absurd hh (by decide)⟩ | exact ⟨hct, fun hh => absurd hh (by decide), fun _ => hc7⟩), ?_⟩
        clear hK K
        (try simp only [Act.put]); (try simp only [List.setIfInBounds_toArray]); (try simp only [List.set_cons_succ]); (try simp only [List.set_cons_zero])
        refine anyG_all (rs := [7]) (by kernel_rfl) (by simp) ?_
        intro i hi
        obtain rfl : i = 7 := by simpa using hi
        refine anyG_op' rfl (fun K hK => ?_)
        go_simp
        have E2 := R1.elem (.pointer o) 49
        rw [show (World.alloc W.drew _).heap.size = W.heap.size + 1 by simp] at E2
        have E2b := E1.alloc (.cells #[(.pointer o)] 49)
        have R2 := R1.alloc (.cells #[(.pointer o)] 49)
        clear hct hc6 hc7
        have hct := Hct _ _ _ _ _ _ _ _ _ R2
        have hc6 := R2.ex.c6
        have hc7 := R2.ex.c7
        refine hK.out _ _ ⟨(by first | exact ⟨hct, fun _ => hc6, fun _ => hc7⟩ | exact ⟨hct, fun hh => absurd hh (by decide), fun hh => absurd hh (by decide)⟩ | exact ⟨hct, fun hh => absurd hh (by decide), fun _ => hc7⟩), ?_⟩
        clear hK K
        (try simp only [Act.put]); (try simp only [List.setIfInBounds_toArray]); (try simp only [List.set_cons_succ]); (try simp only [List.set_cons_zero])
        refine anyG_all (rs := [8]) (by kernel_rfl) (by simp) ?_
        intro i hi
        obtain rfl : i = 8 := by simpa using hi
        refine anyG_op' rfl (fun K hK => ?_)
        refine step_append_lies _ rfl (.tmp 14) (.tmp 16) 52 rfl lo 49 i9 _ 1 8 Tryz.underlying52 hii hz0 hz1 hz2 rfl (by decide) vk acc.length xs rfl R2.rowA _ 1 1 [.pointer o] rfl rfl E2.news (by simp [Value.oneCell']) (by decide) (by unfold maxLen; omega) (by omega) (Nat.le_trans R2.lo_le R2.size) _ rfl ?_
        intro gA cA wA hoA hgA hatA _
        have E3b := E2b.appA (n := acc.length + 1) (c := cA) hgA hatA
        have R3 := R2.appA hoA hgA hatA
        clear hct hc6 hc7
        have hct := Hct _ _ _ _ _ _ _ _ _ R3
        have hc6 := R3.ex.c6
        have hc7 := R3.ex.c7
        refine hK.out _ _ ⟨(by first | exact ⟨hct, fun _ => hc6, fun _ => hc7⟩ | exact ⟨hct, fun hh => absurd hh (by decide), fun hh => absurd hh (by decide)⟩ | exact ⟨hct, fun hh => absurd hh (by decide), fun _ => hc7⟩), ?_⟩
        clear hK K
        (try simp only [Act.put]); (try simp only [List.setIfInBounds_toArray]); (try simp only [List.set_cons_succ]); (try simp only [List.set_cons_zero])
        refine anyG_all (rs := [15]) (by kernel_rfl) (by simp) ?_
        intro i hi
        obtain rfl : i = 15 := by simpa using hi
        refine anyG_op' rfl (fun K hK => ?_)
        refine step_append_lies _ rfl (.tmp 21) (.tmp 23) 52 rfl lo 49 i9 _ 1 8 Tryz.underlying52 hii hz0 hz1 hz2 rfl (by decide) va acc.length ys rfl R3.rowB _ 1 1 [pV u] rfl rfl E3b.news (by simp [Value.oneCell']) (by decide) (by unfold maxLen; omega) (by omega) (Nat.le_trans R3.lo_le R3.size) _ rfl ?_
        intro gB cB wB hoB hgB hatB _
        have R4 := R3.swap_appB hoB hgB hatB
        clear hct hc6 hc7
        have hct := Hct _ _ _ _ _ _ _ _ _ R4
        have hc6 := R4.ex.c6
        have hc7 := R4.ex.c7
        refine hK.out _ _ ⟨(by first | exact ⟨hct, fun _ => hc6, fun _ => hc7⟩ | exact ⟨hct, fun hh => absurd hh (by decide), fun hh => absurd hh (by decide)⟩ | exact ⟨hct, fun hh => absurd hh (by decide), fun _ => hc7⟩), ?_⟩
        clear hK K
        (try simp only [Act.put]); (try simp only [List.setIfInBounds_toArray]); (try simp only [List.set_cons_succ]); (try simp only [List.set_cons_zero])
        refine anyG_take (S := (fun (L : Array Bool) (w' : World) => w'.cell? ⟨tv, 0, none⟩ = some (pV tb) ∧ (L.getD 8 true = false → w'.cell? ⟨tb, 6, none⟩ = some vk) ∧ (L.getD 15 true = false → w'.cell? ⟨tb, 7, none⟩ = some va))) (i := 16) (v := ?_) (fun _ => True) (fun _ _ _ => trivial) rfl (by kernel_rfl) (by kernel_rfl) (by kernel_rfl) (fun _ _ _ h => h) (fun L w => by (try dsimp only); rw [getD_set_ne true (by decide), getD_set_ne true (by decide)]) (Or.inl ⟨by rfl, ?_⟩) (by first | exact ⟨hct, fun _ => hc6, fun _ => hc7⟩ | exact ⟨hct, fun hh => absurd hh (by decide), fun hh => absurd hh (by decide)⟩ | exact ⟨hct, fun hh => absurd hh (by decide), fun _ => hc7⟩) ?_
        rotate_left
        · (intro w hSw; (try dsimp only at hSw); go_simp; (try (with_reducible rfl)))
        (try simp only [Act.put]); (try simp only [List.setIfInBounds_toArray]); (try simp only [List.set_cons_succ]); (try simp only [List.set_cons_zero])
        refine anyG_take (S := (fun (L : Array Bool) (w' : World) => w'.cell? ⟨tv, 0, none⟩ = some (pV tb) ∧ (L.getD 8 true = false → w'.cell? ⟨tb, 6, none⟩ = some vk) ∧ (L.getD 15 true = false → w'.cell? ⟨tb, 7, none⟩ = some va))) (i := 17) (v := ?_) (fun _ => True) (fun _ _ _ => trivial) rfl (by kernel_rfl) (by kernel_rfl) (by kernel_rfl) (fun _ _ _ h => h) (fun L w => by (try dsimp only); rw [getD_set_ne true (by decide), getD_set_ne true (by decide)]) (Or.inl ⟨by rfl, ?_⟩) (by first | exact ⟨hct, fun _ => hc6, fun _ => hc7⟩ | exact ⟨hct, fun hh => absurd hh (by decide), fun hh => absurd hh (by decide)⟩ | exact ⟨hct, fun hh => absurd hh (by decide), fun _ => hc7⟩) ?_
        rotate_left
        · (intro w hSw; (try dsimp only at hSw); go_simp; (try (with_reducible rfl)))
        (try simp only [Act.put]); (try simp only [List.setIfInBounds_toArray]); (try simp only [List.set_cons_succ]); (try simp only [List.set_cons_zero])
        refine anyG_all (rs := [18]) (by kernel_rfl) (by simp) ?_
        intro i hi
        obtain rfl : i = 18 := by simpa using hi
        refine anyG_op' rfl (fun K hK => ?_)
        have hy6 := R4.ex.warm 6
        go_simp
        have RS := R4.set6 (.slice (some ⟨gA, 0, none⟩) (acc.length + 1) cA)
        clear hct hc6 hc7 hy6
        have hct := Hct _ _ _ _ _ _ _ _ _ RS
        have hc6 := RS.ex.c6
        have hc7 := RS.ex.c7
        refine hK.out _ _ ⟨(by first | exact ⟨hct, fun _ => hc6, fun _ => hc7⟩ | exact ⟨hct, fun hh => absurd hh (by decide), fun hh => absurd hh (by decide)⟩ | exact ⟨hct, fun hh => absurd hh (by decide), fun _ => hc7⟩), ?_⟩
        clear hK K
        (try simp only [Act.put]); (try simp only [List.setIfInBounds_toArray]); (try simp only [List.set_cons_succ]); (try simp only [List.set_cons_zero])
        refine anyG_take (S := (fun (L : Array Bool) (w' : World) => w'.cell? ⟨tv, 0, none⟩ = some (pV tb) ∧ (L.getD 8 true = false → w'.cell? ⟨tb, 6, none⟩ = some vk) ∧ (L.getD 15 true = false → w'.cell? ⟨tb, 7, none⟩ = some va))) (i := 19) (v := ?_) (fun _ => True) (fun _ _ _ => trivial) rfl (by kernel_rfl) (by kernel_rfl) (by kernel_rfl) (fun _ _ _ h => h) (fun L w => by (try dsimp only); rw [getD_set_ne true (by decide), getD_set_ne true (by decide)]) (Or.inl ⟨by rfl, ?_⟩) (by first | exact ⟨hct, fun _ => hc6, fun _ => hc7⟩ | exact ⟨hct, fun hh => absurd hh (by decide), fun hh => absurd hh (by decide)⟩ | exact ⟨hct, fun hh => absurd hh (by decide), fun _ => hc7⟩) ?_
        rotate_left
        · (intro w hSw; (try dsimp only at hSw); go_simp; (try (with_reducible rfl)))
        (try simp only [Act.put]); (try simp only [List.setIfInBounds_toArray]); (try simp only [List.set_cons_succ]); (try simp only [List.set_cons_zero])
        refine anyG_take (S := (fun (L : Array Bool) (w' : World) => w'.cell? ⟨tv, 0, none⟩ = some (pV tb) ∧ (L.getD 8 true = false → w'.cell? ⟨tb, 6, none⟩ = some vk) ∧ (L.getD 15 true = false → w'.cell? ⟨tb, 7, none⟩ = some va))) (i := 20) (v := ?_) (fun _ => True) (fun _ _ _ => trivial) rfl (by kernel_rfl) (by kernel_rfl) (by kernel_rfl) (fun _ _ _ h => h) (fun L w => by (try dsimp only); rw [getD_set_ne true (by decide), getD_set_ne true (by decide)]) (Or.inl ⟨by rfl, ?_⟩) (by first | exact ⟨hct, fun _ => hc6, fun _ => hc7⟩ | exact ⟨hct, fun hh => absurd hh (by decide), fun hh => absurd hh (by decide)⟩ | exact ⟨hct, fun hh => absurd hh (by decide), fun _ => hc7⟩) ?_
        rotate_left
        · (intro w hSw; (try dsimp only at hSw); go_simp; (try (with_reducible rfl)))
        (try simp only [Act.put]); (try simp only [List.setIfInBounds_toArray]); (try simp only [List.set_cons_succ]); (try simp only [List.set_cons_zero])
        refine anyG_all (rs := [21]) (by kernel_rfl) (by simp) ?_
        intro i hi
        obtain rfl : i = 21 := by simpa using hi
        refine anyG_op' rfl (fun K hK => ?_)
        have hy7 := RS.ex.warm 7
        go_simp
        have RT := RS.set7 (.slice (some ⟨gB, 0, none⟩) (acc.length + 1) cB)
        clear hct hc6 hc7 hy7
        have hct := Hct _ _ _ _ _ _ _ _ _ RT
        have hc6 := RT.ex.c6
        have hc7 := RT.ex.c7
        refine hK.out _ _ ⟨(by first | exact ⟨hct, fun _ => hc6, fun _ => hc7⟩ | exact ⟨hct, fun hh => absurd hh (by decide), fun hh => absurd hh (by decide)⟩ | exact ⟨hct, fun hh => absurd hh (by decide), fun _ => hc7⟩), ?_⟩
        clear hK K
        (try simp only [Act.put]); (try simp only [List.setIfInBounds_toArray]); (try simp only [List.set_cons_succ]); (try simp only [List.set_cons_zero])
        refine anyG_done (by kernel_rfl) ?_ _
        go_wp2_with fail
        refine bodyPost_end (results_none rfl _ _ _) rfl ?_
        exact table1_end hpq hpv hpt hql hvl hqt hvt hlq hwt hlw RT HP2.out hy hz (fun k hk => (HP.out.rowA.lt k hk).2) (fun k hk => (HP.out.rowB.lt k hk).2) (hw2.cell_some cq (by simp; omega)) ct2 (hw2.cell_some HC.out (by simp; omega)) hp2 (HW.out.trans hw2)
end Go.Proofs.YtoggkigfijgbfaaGreatDoor.P5
namespace Go.Proofs.YtoggkigfijgbfaaGreatDoor.P5
set_option maxRecDepth 20000
open Go.RowKit Go.Maps

set_option maxHeartbeats 8000000 in
theorem table_step {n : Nat} (S : ∀ m, m ≤ n → Spec m) (hn : n ≤ 1099511627776) {w : World} {p d : Nat} {ts : List Tok} (h : PAt w p d ts) (hD : parseF (n + 1) .table d ts ≠ .out) :
    Calls Tryz.prog 232 #[pV p] w (Ends p d [p] (parseF (n + 1) .table d ts) (VE w.heap.size) w) := by
  have hpl := h.lt
  have hmf : ∀ (fn : Fn) (first cap : Array Value) (w : World), (Instr.makeFunc fn first cap).run Tryz.prog w = .ok (.func fn first cap) w := fun _ _ _ _ => rfl
  unfold parseF at hD ⊢
  simp only [] at hD ⊢
  have D0 : parseF n (.list [123] [125] 2) d ts ≠ .out := bind_done hD
  cases n with
  | zero => exact absurd rfl D0
  | succ n =>
  have P1 : Past [p] w (((w.alloc (.cells #[pV p] 99)).alloc (.cells #[iV 12, iV (linT ts), iV 0, sV [], .pointer none, .pointer none, .slice none 0 0, .slice none 0 0, .slice none 0 0, .slice none 0 0] 55)).alloc (.cells #[pV (w.heap.size + 1)] 49)) := (((Past.refl _ _).alloc _).alloc _).alloc _
  have hX0 : ExC (((w.alloc (.cells #[pV p] 99)).alloc (.cells #[iV 12, iV (linT ts), iV 0, sV [], .pointer none, .pointer none, .slice none 0 0, .slice none 0 0, .slice none 0 0, .slice none 0 0] 55)).alloc (.cells #[pV (w.heap.size + 1)] 49)) (w.heap.size + 1) 12 (linT ts) 0 [] (.pointer none) (.pointer none) (.slice none 0 0) (.slice none 0 0) (.slice none 0 0) (.slice none 0 0) := by
    have hx := exC_new (w.alloc (.cells #[pV p] 99)) 12 (linT ts) 0 [] (.pointer none) (.pointer none) (.slice none 0 0) (.slice none 0 0) (.slice none 0 0) (.slice none 0 0) 55
    have hz : (w.alloc (.cells #[pV p] 99)).heap.size = w.heap.size + 1 := by simp
    rw [hz] at hx
    exact hx.keep (Below.heap_alloc _ _ _ hx.lt)
  have I0 : ITab p w.heap.size (w.heap.size + 2) (w.heap.size + 1) (w.heap.size + 3) (linT ts) [] (((w.alloc (.cells #[pV p] 99)).alloc (.cells #[iV 12, iV (linT ts), iV 0, sV [], .pointer none, .pointer none, .slice none 0 0, .slice none 0 0, .slice none 0 0, .slice none 0 0] 55)).alloc (.cells #[pV (w.heap.size + 1)] 49)) :=
    ⟨by simp [go_sem], by simp [go_sem], by simp, _, _, _, _, hX0, Pair.nil _ _ _ _⟩
  have L := list_any (K := 254) (c1 := w.heap.size) (c2 := w.heap.size + 2) [123] [125] (by decide) (by decide) (ITab p w.heap.size (w.heap.size + 2) (w.heap.size + 1) (w.heap.size + 3) (linT ts)) w P1 hpl (w.heap.size + 3) (by simp)
    (fun acc w1 w2 hi hw => hi.past hw (by omega) (by omega) (by omega) (by omega))
    (fun m d q acc w1 ts hm ha hi hwo hlq hc h hD => table1_any (fun k hk => S k (by omega)) hpl (by omega) (by omega) (by omega) (by omega) (by omega) (by omega) (by omega) (by omega) (by omega) hi hwo hlq hc h hD)
    (fun args w => by simp [go_sem]) (((h.alloc _).alloc _).alloc _) I0 D0
  have L := Lib.hid L
  have HL := Lib.hid (line_any (h.alloc (.cells #[pV p] 99)))
  generalize parseF (n + 1) (.list [123] [125] 2) d ts = r0 at hD D0 L ⊢
  clear S P1 hX0 I0 h
  cases r0 with
  | out => exact absurd rfl D0
  | bad c l =>
    clear hD D0
    go_enter Tryz.func232, Tryz.ntmps232
    go_wp2_with (first
      | (go_at_call 49; (with_reducible refine HL.out.mono ?_); rintro e w1 ⟨rfl, hq⟩; obtain rfl := hq.symm)
      | (go_at_call 189; (with_reducible refine L.out.mono ?_); rintro e wb hB; obtain ⟨b', rfl, hb1, hb2, hb3, hb4⟩ := hB))
    exact ⟨rfl, b', rfl, hb1, hb2, hb3, hb4⟩
  | ok x0 ts0 =>
    clear hD D0
    go_enter Tryz.func232, Tryz.ntmps232
    go_wp2_with (first
      | (go_at_call 49; (with_reducible refine HL.out.mono ?_); rintro e w1 ⟨rfl, hq⟩; obtain rfl := hq.symm)
      | (go_at_call 189; (with_reducible refine L.out.mono ?_); rintro e w2 ⟨_, rfl, ⟨rfl, acc, rfl, hi⟩, hp2, hw2⟩; obtain ⟨cq2, cf2, hlo, vk, va, xs, ys, hX2, hO⟩ := hi))
    go_ret
    have hV := hO.sl
    exact ⟨_, rfl, ⟨at_ex hX2 ⟨by omega, hX2.lt⟩ rfl rfl (hV.1.past (Past.refl [] _) (by simp) (by omega)) (hV.2.past (Past.refl [] _) (by simp) (by omega)) (sl_nil _ _) (sl_nil _ _), rfl⟩, hp2, hw2⟩
theorem spec (n : Nat) (hn : n ≤ 1099511627776) : Spec n := spec_all (fun _ hn S _ _ _ _ h hD => table_step S hn h hD) n hn n (Nat.le_refl _)
/-- The parser, at any fuel that is enough. -/
theorem Parse_all (n : Nat) (hn : n ≤ 1099511627776) (s : ByteArray) (w : World) (hE : Env4 w) (hD : sourceF n s.data.toList ≠ .out) :
    Calls Tryz.prog 11 #[.string s] w (GivesP (sourceF n s.data.toList) w) := Parse_any (spec n hn) s w hE hD
end Go.Proofs.YtoggkigfijgbfaaGreatDoor.P5
