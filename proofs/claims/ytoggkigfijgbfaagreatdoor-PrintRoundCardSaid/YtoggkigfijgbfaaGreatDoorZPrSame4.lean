/- print.Same: the comparison of two Stmt. -/
import Derived.Test.YtoggkigfijgbfaaGreatDoorZAbb
import Derived.Test.YtoggkigfijgbfaaGreatDoorZH
import Derived.Test.YtoggkigfijgbfaaGreatDoorZPrSeq
namespace Go.Proofs.YtoggkigfijgbfaaGreatDoor.P6
set_option maxRecDepth 20000
open Go.RowKit

theorem allStmt {b w w' : World} {p g g2 : Nat} {l l2 : Int} {t u : Tree} {va vb vo vx vy va2 vb2 vo2 vx2 vy2 : Value} (hbw : b.heap.size ≤ w.heap.size) (hp : b.heap.size ≤ p) (hB : Below b.heap.size b w) (X : StB b t g l va vb vo vx vy) (Y : StB b u g2 l2 va2 vb2 vo2 vx2 vy2) (P : Past [p] w w') : w'.cell? ⟨g, 0, none⟩ = some (iV (kindT t)) ∧ w'.cell? ⟨g, 2, none⟩ = some (sV (nameT6 t)) ∧ w'.cell? ⟨g, 3, none⟩ = some (va) ∧ w'.cell? ⟨g, 4, none⟩ = some (vb) ∧ w'.cell? ⟨g, 5, none⟩ = some (vo) ∧ w'.cell? ⟨g, 6, none⟩ = some (vx) ∧ w'.cell? ⟨g, 7, none⟩ = some (vy) ∧ w'.cell? ⟨g2, 0, none⟩ = some (iV (kindT u)) ∧ w'.cell? ⟨g2, 2, none⟩ = some (sV (nameT6 u)) ∧ w'.cell? ⟨g2, 3, none⟩ = some (va2) ∧ w'.cell? ⟨g2, 4, none⟩ = some (vb2) ∧ w'.cell? ⟨g2, 5, none⟩ = some (vo2) ∧ w'.cell? ⟨g2, 6, none⟩ = some (vx2) ∧ w'.cell? ⟨g2, 7, none⟩ = some (vy2) := by
  have H1 : ∀ o, w'.cell? ⟨g, o, none⟩ = b.cell? ⟨g, o, none⟩ := fun o => (P.cell (p := ⟨g, o, none⟩) (Nat.lt_of_lt_of_le X.lt hbw) (by have := X.lt; simp; omega)).trans (hB.cell (p := ⟨g, o, none⟩) X.lt)
  have H2 : ∀ o, w'.cell? ⟨g2, o, none⟩ = b.cell? ⟨g2, o, none⟩ := fun o => (P.cell (p := ⟨g2, o, none⟩) (Nat.lt_of_lt_of_le Y.lt hbw) (by have := Y.lt; simp; omega)).trans (hB.cell (p := ⟨g2, o, none⟩) Y.lt)
  exact ⟨(H1 0).trans X.c.c0, (H1 2).trans X.c.c2, (H1 3).trans X.c.c3, (H1 4).trans X.c.c4, (H1 5).trans X.c.c5, (H1 6).trans X.c.c6, (H1 7).trans X.c.c7, (H2 0).trans Y.c.c0, (H2 2).trans Y.c.c2, (H2 3).trans Y.c.c3, (H2 4).trans Y.c.c4, (H2 5).trans Y.c.c5, (H2 6).trans Y.c.c6, (H2 7).trans Y.c.c7⟩
set_option maxHeartbeats 16000000 in
theorem ofStmt_next {b : World} {p n : Nat} (S : SSpec b p n) (hp : b.heap.size ≤ p) {w : World} {k : Nat} {t u : Tree} {x y : Value} (hB : Below b.heap.size b w) (h : PA w p k) (hX : TS b t x) (hY : TS b u y) (hd : depthT t < n + 1) : Calls Tryz.prog 67 #[pV p, x, y] w (Cmp p k (eqT t u) (sizeT t) w) := by
  have hle := h.le
  rcases hX.cases with ⟨rfl, rfl⟩ | ⟨g, l, va, vb, vo, vx, vy, rfl, hx⟩
  · rcases hY.cases with ⟨rfl, rfl⟩ | ⟨g2, l2, va2, vb2, vo2, vx2, vy2, rfl, hy⟩
    · clear hX hY S hd
      go_enter Tryz.func67, Tryz.ntmps67
      go_wp2_with fail
      refine bodyPost_ret ab18 rfl ?_
      exact cmp_true (n := 0) rfl h (Past.refl _ _)
    · have he : eqT .nil u = false := by cases u <;> first | rfl | (have := hy.is; cases this)
      rw [he]
      have ne : ∀ W : World, (binOp BinOp.eql 48 (.pointer none) (pV g2)).run Tryz.prog W = .ok (.bool false) W := fun W => by kernel_rfl
      clear hX hY S hd hy
      go_enter Tryz.func67, Tryz.ntmps67
      go_wp2_with fail
      refine bodyPost_ret ab18 rfl ?_
      exact cmp_false rfl (Past.refl _ _)
  · rcases hY.cases with ⟨rfl, rfl⟩ | ⟨g2, l2, va2, vb2, vo2, vx2, vy2, rfl, hy⟩
    · have he : eqT t .nil = false := by cases t <;> first | rfl | (have := hx.is; cases this)
      rw [he]
      have ne : ∀ W : World, (binOp BinOp.eql 48 (pV g) (.pointer none)).run Tryz.prog W = .ok (.bool false) W := fun W => by kernel_rfl
      clear hX hY S hd hx
      go_enter Tryz.func67, Tryz.ntmps67
      go_wp2_with fail
      refine bodyPost_ret ab18 rfl ?_
      exact cmp_false rfl (Past.refl _ _)
    · have EQ := eqT_st hx.is hy.is
      have SZ := size_st hx.is
      have hdx : depthT (leftT t) < n ∧ depthT (rightT t) < n ∧ depthT (toT t) < n ∧ depthT (aT t) < n ∧ depthT (bT t) < n := by
        have hi := hx.is
        cases t <;> first | cases hi | skip
        all_goals (simp only [depthT] at hd; simp only [leftT, rightT, toT, aT, bT]; omega)
      have hpl := h.lt
      have hbw := hB.size
      have XA := Lib.hid hx
      have YA := Lib.hid hy
      have HB := Lib.hid hB
      have HEQ := Lib.hid EQ
      have HSZ := Lib.hid SZ
      have CN := Lib.hid ((count_any (w := w.drew) h.c h.f h.le).mono (R' := fun e w' => e = .returned (.bool (decide (k + 1 ≤ 65536))) ∧ Past [p] w w' ∧ (k + 1 ≤ 65536 → PA w' p (k + 1))) (fun e w' hc => ⟨hc.1, by rw [hc.2]; exact (Past.refl [p] w).drew.setCell (.inl (by simp)) _, fun hk => by rw [hc.2]; exact ⟨World.cell?_setCell_same _ _ _ h.c, (World.frozen?_setCell _ _ _ _).trans h.f, hk⟩⟩))
      have C3 := Lib.hid (fun (W : World) (P : Past [p] w W) (A : PA W p (k + 1)) => S.expr (below_past hp hB P) A hx.l hy.l hdx.1)
      have C4 := Lib.hid (fun (W : World) (P : Past [p] w W) (A : PA W p ((k + 1) + sizeT (leftT t))) => S.expr (below_past hp hB P) A hx.r hy.r hdx.2.1)
      have C5 := Lib.hid (fun (W : World) (P : Past [p] w W) (A : PA W p (((k + 1) + sizeT (leftT t)) + sizeT (rightT t))) => S.expr (below_past hp hB P) A hx.to hy.to hdx.2.2.1)
      have C6 := Lib.hid (fun (W : World) (P : Past [p] w W) (A : PA W p ((((k + 1) + sizeT (leftT t)) + sizeT (rightT t)) + sizeT (toT t))) => S.ofStmts hp (below_past hp hB P) A hx.aa hy.aa hdx.2.2.2.1)
      have C7 := Lib.hid (fun (W : World) (P : Past [p] w W) (A : PA W p (((((k + 1) + sizeT (leftT t)) + sizeT (rightT t)) + sizeT (toT t)) + sizeT (aT t))) => S.ofStmts hp (below_past hp hB P) A hx.bb hy.bb hdx.2.2.2.2)
      have PW := Lib.hid (Past.refl [p] w)
      have KEEP : Hid (∀ W, Past [p] w W → W.cell? ⟨g, 0, none⟩ = some (iV (kindT t)) ∧ W.cell? ⟨g, 2, none⟩ = some (sV (nameT6 t)) ∧ W.cell? ⟨g, 3, none⟩ = some (va) ∧ W.cell? ⟨g, 4, none⟩ = some (vb) ∧ W.cell? ⟨g, 5, none⟩ = some (vo) ∧ W.cell? ⟨g, 6, none⟩ = some (vx) ∧ W.cell? ⟨g, 7, none⟩ = some (vy) ∧ W.cell? ⟨g2, 0, none⟩ = some (iV (kindT u)) ∧ W.cell? ⟨g2, 2, none⟩ = some (sV (nameT6 u)) ∧ W.cell? ⟨g2, 3, none⟩ = some (va2) ∧ W.cell? ⟨g2, 4, none⟩ = some (vb2) ∧ W.cell? ⟨g2, 5, none⟩ = some (vo2) ∧ W.cell? ⟨g2, 6, none⟩ = some (vx2) ∧ W.cell? ⟨g2, 7, none⟩ = some (vy2)) := Lib.hid (fun W P => allStmt hbw hp hB hx hy P)
      clear hX hY S hd hx hy hB EQ SZ hdx h
      go_enter Tryz.func67, Tryz.ntmps67
      go_wp2_with fail
      simp only [List.append]
      refine Seq.start (S := (fun w' => w'.cell? ⟨g, 0, none⟩ = some (iV (kindT t)) ∧ w'.cell? ⟨g, 2, none⟩ = some (sV (nameT6 t)) ∧ w'.cell? ⟨g, 3, none⟩ = some (va) ∧ w'.cell? ⟨g, 4, none⟩ = some (vb) ∧ w'.cell? ⟨g, 5, none⟩ = some (vo) ∧ w'.cell? ⟨g, 6, none⟩ = some (vx) ∧ w'.cell? ⟨g, 7, none⟩ = some (vy) ∧ w'.cell? ⟨g2, 0, none⟩ = some (iV (kindT u)) ∧ w'.cell? ⟨g2, 2, none⟩ = some (sV (nameT6 u)) ∧ w'.cell? ⟨g2, 3, none⟩ = some (va2) ∧ w'.cell? ⟨g2, 4, none⟩ = some (vb2) ∧ w'.cell? ⟨g2, 5, none⟩ = some (vo2) ∧ w'.cell? ⟨g2, 6, none⟩ = some (vx2) ∧ w'.cell? ⟨g2, 7, none⟩ = some (vy2))) (cs := [1, 34, 46, 58, 70, 82]) (by kernel_rfl) ⟨by kernel_rfl, ((((((((OkTo.zero).more 12 (by as_aux_lemma => kernel_rfl)).more 12 (by as_aux_lemma => kernel_rfl)).more 12 (by as_aux_lemma => kernel_rfl)).more 12 (by as_aux_lemma => kernel_rfl)).more 12 (by as_aux_lemma => kernel_rfl)).more 12 (by as_aux_lemma => kernel_rfl)).more 12 (by as_aux_lemma => kernel_rfl)).more 1 (by as_aux_lemma => kernel_rfl)⟩ rfl ?_ (fun OK hHeld => ?_)
      · exact KEEP.out _ PW.out.drew
      refine Seq.take (i := 0) (v := ?_) OK rfl rfl (fun _ _ _ h => h) (Or.inl ⟨by kernel_rfl, ?_⟩) (by assumption) ?_
      rotate_left
      · (intro w hSw; (try dsimp only at hSw); go_simp; (try with_reducible rfl))
      try simp only [Act.put, sqA, sqB, sqC]
      by_cases K0 : k + 1 ≤ 65536
      rotate_left
      · have K1 : decide (k + 1 ≤ 65536) = false := decide_eq_false K0
        rw [K1] at CN
        refine Seq.call (i := 1) OK rfl rfl (fun K hK => ?_)
        go_simp
        go_wp2_with (go_at_call 126; (with_reducible refine CN.out.mono ?_); rintro e w1 ⟨rfl, hq, hpa⟩; replace PW := Lib.hid hq; clear hpa hq)
        refine hK.out _ _ ?_ (fun hHeld => ?_)
        · exact KEEP.out _ ab14
        clear hK K
        try simp only [Act.put, sqA, sqB, sqC]
        as_aux_lemma =>
          refine Seq.take (i := 2) (v := ?_) OK rfl rfl (fun _ _ _ h => h) (Or.inl ⟨by kernel_rfl, ?_⟩) (by assumption) ?_
          rotate_left
          · (intro w hSw; (try dsimp only at hSw); go_simp; (try with_reducible rfl))
          try simp only [Act.put, sqA, sqB, sqC]
          refine Seq.off 3 OK rfl rfl (fun _ _ _ h => h) (by kernel_rfl) hHeld ?_
          try simp only [Act.put, sqA, sqB, sqC]
          refine Seq.off 4 OK rfl rfl (fun _ _ _ h => h) (by kernel_rfl) hHeld ?_
          try simp only [Act.put, sqA, sqB, sqC]
          refine Seq.off 5 OK rfl rfl (fun _ _ _ h => h) (by kernel_rfl) hHeld ?_
          try simp only [Act.put, sqA, sqB, sqC]
          refine Seq.off 6 OK rfl rfl (fun _ _ _ h => h) (by kernel_rfl) hHeld ?_
          try simp only [Act.put, sqA, sqB, sqC]
          refine Seq.off 7 OK rfl rfl (fun _ _ _ h => h) (by kernel_rfl) hHeld ?_
          try simp only [Act.put, sqA, sqB, sqC]
          refine Seq.off 8 OK rfl rfl (fun _ _ _ h => h) (by kernel_rfl) hHeld ?_
          try simp only [Act.put, sqA, sqB, sqC]
          refine Seq.off 9 OK rfl rfl (fun _ _ _ h => h) (by kernel_rfl) hHeld ?_
          try simp only [Act.put, sqA, sqB, sqC]
          refine Seq.off 10 OK rfl rfl (fun _ _ _ h => h) (by kernel_rfl) hHeld ?_
          try simp only [Act.put, sqA, sqB, sqC]
          refine Seq.off 11 OK rfl rfl (fun _ _ _ h => h) (by kernel_rfl) hHeld ?_
          try simp only [Act.put, sqA, sqB, sqC]
          refine Seq.take (i := 12) (v := ?_) OK rfl rfl (fun _ _ _ h => h) (Or.inl ⟨by kernel_rfl, ?_⟩) (by assumption) ?_
          rotate_left
          · (intro w hSw; (try dsimp only at hSw); go_simp; (try with_reducible rfl))
          try simp only [Act.put, sqA, sqB, sqC]
          refine Seq.take (i := 13) (v := ?_) OK rfl rfl (fun _ _ _ h => h) (Or.inl ⟨by kernel_rfl, ?_⟩) (by assumption) ?_
          rotate_left
          · (intro w hSw; (try dsimp only at hSw); go_simp; (try with_reducible rfl))
          try simp only [Act.put, sqA, sqB, sqC]
          refine Seq.off 14 OK rfl rfl (fun _ _ _ h => h) (by kernel_rfl) hHeld ?_
          try simp only [Act.put, sqA, sqB, sqC]
          refine Seq.off 15 OK rfl rfl (fun _ _ _ h => h) (by kernel_rfl) hHeld ?_
          try simp only [Act.put, sqA, sqB, sqC]
          refine Seq.off 16 OK rfl rfl (fun _ _ _ h => h) (by kernel_rfl) hHeld ?_
          try simp only [Act.put, sqA, sqB, sqC]
          refine Seq.off 17 OK rfl rfl (fun _ _ _ h => h) (by kernel_rfl) hHeld ?_
          try simp only [Act.put, sqA, sqB, sqC]
          refine Seq.off 18 OK rfl rfl (fun _ _ _ h => h) (by kernel_rfl) hHeld ?_
          try simp only [Act.put, sqA, sqB, sqC]
          refine Seq.off 19 OK rfl rfl (fun _ _ _ h => h) (by kernel_rfl) hHeld ?_
          try simp only [Act.put, sqA, sqB, sqC]
          refine Seq.off 20 OK rfl rfl (fun _ _ _ h => h) (by kernel_rfl) hHeld ?_
          try simp only [Act.put, sqA, sqB, sqC]
          refine Seq.off 21 OK rfl rfl (fun _ _ _ h => h) (by kernel_rfl) hHeld ?_
          try simp only [Act.put, sqA, sqB, sqC]
          refine Seq.off 22 OK rfl rfl (fun _ _ _ h => h) (by kernel_rfl) hHeld ?_
          try simp only [Act.put, sqA, sqB, sqC]
          refine Seq.take (i := 23) (v := ?_) OK rfl rfl (fun _ _ _ h => h) (Or.inl ⟨by kernel_rfl, ?_⟩) (by assumption) ?_
          rotate_left
          · (intro w hSw; (try dsimp only at hSw); go_simp; (try with_reducible rfl))
          try simp only [Act.put, sqA, sqB, sqC]
          refine Seq.take (i := 24) (v := ?_) OK rfl rfl (fun _ _ _ h => h) (Or.inl ⟨by kernel_rfl, ?_⟩) (by assumption) ?_
          rotate_left
          · (intro w hSw; (try dsimp only at hSw); go_simp; (try with_reducible rfl))
          try simp only [Act.put, sqA, sqB, sqC]
          refine Seq.off 25 OK rfl rfl (fun _ _ _ h => h) (by kernel_rfl) hHeld ?_
          try simp only [Act.put, sqA, sqB, sqC]
          refine Seq.off 26 OK rfl rfl (fun _ _ _ h => h) (by kernel_rfl) hHeld ?_
          try simp only [Act.put, sqA, sqB, sqC]
          refine Seq.off 27 OK rfl rfl (fun _ _ _ h => h) (by kernel_rfl) hHeld ?_
          try simp only [Act.put, sqA, sqB, sqC]
          refine Seq.off 28 OK rfl rfl (fun _ _ _ h => h) (by kernel_rfl) hHeld ?_
          try simp only [Act.put, sqA, sqB, sqC]
          refine Seq.off 29 OK rfl rfl (fun _ _ _ h => h) (by kernel_rfl) hHeld ?_
          try simp only [Act.put, sqA, sqB, sqC]
          refine Seq.off 30 OK rfl rfl (fun _ _ _ h => h) (by kernel_rfl) hHeld ?_
          try simp only [Act.put, sqA, sqB, sqC]
          refine Seq.off 31 OK rfl rfl (fun _ _ _ h => h) (by kernel_rfl) hHeld ?_
          try simp only [Act.put, sqA, sqB, sqC]
          refine Seq.off 32 OK rfl rfl (fun _ _ _ h => h) (by kernel_rfl) hHeld ?_
          try simp only [Act.put, sqA, sqB, sqC]
          refine Seq.off 33 OK rfl rfl (fun _ _ _ h => h) (by kernel_rfl) hHeld ?_
          try simp only [Act.put, sqA, sqB, sqC]
          refine Seq.skip (i := 34) OK rfl rfl (by kernel_rfl) (by assumption) ?_
          try simp only [Act.put, sqA, sqB, sqC]
          refine Seq.take (i := 35) (v := ?_) OK rfl rfl (fun _ _ _ h => h) (Or.inl ⟨by kernel_rfl, ?_⟩) (by assumption) ?_
          rotate_left
          · (intro w hSw; (try dsimp only at hSw); go_simp; (try with_reducible rfl))
          try simp only [Act.put, sqA, sqB, sqC]
          refine Seq.take (i := 36) (v := ?_) OK rfl rfl (fun _ _ _ h => h) (Or.inl ⟨by kernel_rfl, ?_⟩) (by assumption) ?_
          rotate_left
          · (intro w hSw; (try dsimp only at hSw); go_simp; (try with_reducible rfl))
          try simp only [Act.put, sqA, sqB, sqC]
          refine Seq.off 37 OK rfl rfl (fun _ _ _ h => h) (by kernel_rfl) hHeld ?_
          try simp only [Act.put, sqA, sqB, sqC]
          refine Seq.off 38 OK rfl rfl (fun _ _ _ h => h) (by kernel_rfl) hHeld ?_
          try simp only [Act.put, sqA, sqB, sqC]
          refine Seq.off 39 OK rfl rfl (fun _ _ _ h => h) (by kernel_rfl) hHeld ?_
          try simp only [Act.put, sqA, sqB, sqC]
          refine Seq.off 40 OK rfl rfl (fun _ _ _ h => h) (by kernel_rfl) hHeld ?_
          try simp only [Act.put, sqA, sqB, sqC]
          refine Seq.off 41 OK rfl rfl (fun _ _ _ h => h) (by kernel_rfl) hHeld ?_
          try simp only [Act.put, sqA, sqB, sqC]
          refine Seq.off 42 OK rfl rfl (fun _ _ _ h => h) (by kernel_rfl) hHeld ?_
          try simp only [Act.put, sqA, sqB, sqC]
          refine Seq.off 43 OK rfl rfl (fun _ _ _ h => h) (by kernel_rfl) hHeld ?_
          try simp only [Act.put, sqA, sqB, sqC]
          refine Seq.off 44 OK rfl rfl (fun _ _ _ h => h) (by kernel_rfl) hHeld ?_
          try simp only [Act.put, sqA, sqB, sqC]
          refine Seq.off 45 OK rfl rfl (fun _ _ _ h => h) (by kernel_rfl) hHeld ?_
          try simp only [Act.put, sqA, sqB, sqC]
          refine Seq.skip (i := 46) OK rfl rfl (by kernel_rfl) (by assumption) ?_
          try simp only [Act.put, sqA, sqB, sqC]
          refine Seq.take (i := 47) (v := ?_) OK rfl rfl (fun _ _ _ h => h) (Or.inl ⟨by kernel_rfl, ?_⟩) (by assumption) ?_
          rotate_left
          · (intro w hSw; (try dsimp only at hSw); go_simp; (try with_reducible rfl))
          try simp only [Act.put, sqA, sqB, sqC]
          refine Seq.take (i := 48) (v := ?_) OK rfl rfl (fun _ _ _ h => h) (Or.inl ⟨by kernel_rfl, ?_⟩) (by assumption) ?_
          rotate_left
          · (intro w hSw; (try dsimp only at hSw); go_simp; (try with_reducible rfl))
          try simp only [Act.put, sqA, sqB, sqC]
          refine Seq.off 49 OK rfl rfl (fun _ _ _ h => h) (by kernel_rfl) hHeld ?_
          try simp only [Act.put, sqA, sqB, sqC]
          refine Seq.off 50 OK rfl rfl (fun _ _ _ h => h) (by kernel_rfl) hHeld ?_
          try simp only [Act.put, sqA, sqB, sqC]
          refine Seq.off 51 OK rfl rfl (fun _ _ _ h => h) (by kernel_rfl) hHeld ?_
          try simp only [Act.put, sqA, sqB, sqC]
          refine Seq.off 52 OK rfl rfl (fun _ _ _ h => h) (by kernel_rfl) hHeld ?_
          try simp only [Act.put, sqA, sqB, sqC]
          refine Seq.off 53 OK rfl rfl (fun _ _ _ h => h) (by kernel_rfl) hHeld ?_
          try simp only [Act.put, sqA, sqB, sqC]
          refine Seq.off 54 OK rfl rfl (fun _ _ _ h => h) (by kernel_rfl) hHeld ?_
          try simp only [Act.put, sqA, sqB, sqC]
          refine Seq.off 55 OK rfl rfl (fun _ _ _ h => h) (by kernel_rfl) hHeld ?_
          try simp only [Act.put, sqA, sqB, sqC]
          refine Seq.off 56 OK rfl rfl (fun _ _ _ h => h) (by kernel_rfl) hHeld ?_
          try simp only [Act.put, sqA, sqB, sqC]
          refine Seq.off 57 OK rfl rfl (fun _ _ _ h => h) (by kernel_rfl) hHeld ?_
          try simp only [Act.put, sqA, sqB, sqC]
          refine Seq.skip (i := 58) OK rfl rfl (by kernel_rfl) (by assumption) ?_
          try simp only [Act.put, sqA, sqB, sqC]
          refine Seq.take (i := 59) (v := ?_) OK rfl rfl (fun _ _ _ h => h) (Or.inl ⟨by kernel_rfl, ?_⟩) (by assumption) ?_
          rotate_left
          · (intro w hSw; (try dsimp only at hSw); go_simp; (try with_reducible rfl))
          try simp only [Act.put, sqA, sqB, sqC]
          refine Seq.take (i := 60) (v := ?_) OK rfl rfl (fun _ _ _ h => h) (Or.inl ⟨by kernel_rfl, ?_⟩) (by assumption) ?_
          rotate_left
          · (intro w hSw; (try dsimp only at hSw); go_simp; (try with_reducible rfl))
          try simp only [Act.put, sqA, sqB, sqC]
          refine Seq.off 61 OK rfl rfl (fun _ _ _ h => h) (by kernel_rfl) hHeld ?_
          try simp only [Act.put, sqA, sqB, sqC]
          refine Seq.off 62 OK rfl rfl (fun _ _ _ h => h) (by kernel_rfl) hHeld ?_
          try simp only [Act.put, sqA, sqB, sqC]
          refine Seq.off 63 OK rfl rfl (fun _ _ _ h => h) (by kernel_rfl) hHeld ?_
          try simp only [Act.put, sqA, sqB, sqC]
          refine Seq.off 64 OK rfl rfl (fun _ _ _ h => h) (by kernel_rfl) hHeld ?_
          try simp only [Act.put, sqA, sqB, sqC]
          refine Seq.off 65 OK rfl rfl (fun _ _ _ h => h) (by kernel_rfl) hHeld ?_
          try simp only [Act.put, sqA, sqB, sqC]
          refine Seq.off 66 OK rfl rfl (fun _ _ _ h => h) (by kernel_rfl) hHeld ?_
          try simp only [Act.put, sqA, sqB, sqC]
          refine Seq.off 67 OK rfl rfl (fun _ _ _ h => h) (by kernel_rfl) hHeld ?_
          try simp only [Act.put, sqA, sqB, sqC]
          refine Seq.off 68 OK rfl rfl (fun _ _ _ h => h) (by kernel_rfl) hHeld ?_
          try simp only [Act.put, sqA, sqB, sqC]
          refine Seq.off 69 OK rfl rfl (fun _ _ _ h => h) (by kernel_rfl) hHeld ?_
          try simp only [Act.put, sqA, sqB, sqC]
          refine Seq.skip (i := 70) OK rfl rfl (by kernel_rfl) (by assumption) ?_
          try simp only [Act.put, sqA, sqB, sqC]
          refine Seq.take (i := 71) (v := ?_) OK rfl rfl (fun _ _ _ h => h) (Or.inl ⟨by kernel_rfl, ?_⟩) (by assumption) ?_
          rotate_left
          · (intro w hSw; (try dsimp only at hSw); go_simp; (try with_reducible rfl))
          try simp only [Act.put, sqA, sqB, sqC]
          refine Seq.take (i := 72) (v := ?_) OK rfl rfl (fun _ _ _ h => h) (Or.inl ⟨by kernel_rfl, ?_⟩) (by assumption) ?_
          rotate_left
          · (intro w hSw; (try dsimp only at hSw); go_simp; (try with_reducible rfl))
          try simp only [Act.put, sqA, sqB, sqC]
          refine Seq.off 73 OK rfl rfl (fun _ _ _ h => h) (by kernel_rfl) hHeld ?_
          try simp only [Act.put, sqA, sqB, sqC]
          refine Seq.off 74 OK rfl rfl (fun _ _ _ h => h) (by kernel_rfl) hHeld ?_
          try simp only [Act.put, sqA, sqB, sqC]
          refine Seq.off 75 OK rfl rfl (fun _ _ _ h => h) (by kernel_rfl) hHeld ?_
          try simp only [Act.put, sqA, sqB, sqC]
          refine Seq.off 76 OK rfl rfl (fun _ _ _ h => h) (by kernel_rfl) hHeld ?_
          try simp only [Act.put, sqA, sqB, sqC]
          refine Seq.off 77 OK rfl rfl (fun _ _ _ h => h) (by kernel_rfl) hHeld ?_
          try simp only [Act.put, sqA, sqB, sqC]
          refine Seq.off 78 OK rfl rfl (fun _ _ _ h => h) (by kernel_rfl) hHeld ?_
          try simp only [Act.put, sqA, sqB, sqC]
          refine Seq.off 79 OK rfl rfl (fun _ _ _ h => h) (by kernel_rfl) hHeld ?_
          try simp only [Act.put, sqA, sqB, sqC]
          refine Seq.off 80 OK rfl rfl (fun _ _ _ h => h) (by kernel_rfl) hHeld ?_
          try simp only [Act.put, sqA, sqB, sqC]
          refine Seq.off 81 OK rfl rfl (fun _ _ _ h => h) (by kernel_rfl) hHeld ?_
          try simp only [Act.put, sqA, sqB, sqC]
          refine Seq.skip (i := 82) OK rfl rfl (by kernel_rfl) (by assumption) ?_
          try simp only [Act.put, sqA, sqB, sqC]
          refine Seq.take (i := 83) (v := ?_) OK rfl rfl (fun _ _ _ h => h) (Or.inl ⟨by kernel_rfl, ?_⟩) (by assumption) ?_
          rotate_left
          · (intro w hSw; (try dsimp only at hSw); go_simp; (try with_reducible rfl))
          try simp only [Act.put, sqA, sqB, sqC]
          refine Seq.take (i := 84) (v := ?_) OK rfl rfl (fun _ _ _ h => h) (Or.inl ⟨by kernel_rfl, ?_⟩) (by assumption) ?_
          rotate_left
          · (intro w hSw; (try dsimp only at hSw); go_simp; (try with_reducible rfl))
          try simp only [Act.put, sqA, sqB, sqC]
          refine Seq.done ?_
          have hf : (eqT t u && decide (k + sizeT t ≤ 65536)) = false := by
            cases hq : (eqT t u && decide (k + sizeT t ≤ 65536)) with
            | false => rfl
            | true =>
              exfalso
              rw [HEQ.out, HSZ.out] at hq
              simp only [Bool.and_eq_true, decide_eq_true_eq] at hq
              obtain ⟨⟨e0, e2, e3, e4, e5, e6, e7⟩, hs⟩ := hq
              omega
          go_wp2_with fail
          refine bodyPost_ret ab18 rfl ?_
          exact cmp_false hf PW.out
      have K1 : decide (k + 1 ≤ 65536) = true := decide_eq_true K0
      rw [K1] at CN
      refine Seq.call (i := 1) OK rfl rfl (fun K hK => ?_)
      go_simp
      go_wp2_with (go_at_call 126; (with_reducible refine CN.out.mono ?_); rintro e w1 ⟨rfl, hq, hpa⟩; replace PW := Lib.hid hq; have PAq := Lib.hid (hpa K0); clear hpa hq)
      refine hK.out _ _ ?_ (fun hHeld => ?_)
      · exact KEEP.out _ ab14
      clear hK K
      try simp only [Act.put, sqA, sqB, sqC]
      refine Seq.take (i := 2) (v := ?_) OK rfl rfl (fun _ _ _ h => h) (Or.inl ⟨by kernel_rfl, ?_⟩) (by assumption) ?_
      rotate_left
      · (intro w hSw; (try dsimp only at hSw); go_simp; (try with_reducible rfl))
      try simp only [Act.put, sqA, sqB, sqC]
      refine Seq.take (i := 3) (v := ?_) OK rfl rfl (fun _ _ _ h => h) (Or.inl ⟨by kernel_rfl, ?_⟩) (by assumption) ?_
      rotate_left
      · (intro w hSw; (try dsimp only at hSw); go_simp; (try with_reducible rfl))
      try simp only [Act.put, sqA, sqB, sqC]
      refine Seq.take (i := 4) (v := ?_) OK rfl rfl (fun _ _ _ h => h) (Or.inl ⟨by kernel_rfl, ?_⟩) (by assumption) ?_
      rotate_left
      · (intro w hSw; (try dsimp only at hSw); go_simp; (try with_reducible rfl))
      try simp only [Act.put, sqA, sqB, sqC]
      refine Seq.take (i := 5) (v := ?_) OK rfl rfl (fun _ _ _ h => h) (Or.inl ⟨by kernel_rfl, ?_⟩) (by assumption) ?_
      rotate_left
      · (intro w hSw; (try dsimp only at hSw); go_simp; (try with_reducible rfl))
      try simp only [Act.put, sqA, sqB, sqC]
      refine Seq.take (i := 6) (v := ?_) OK rfl rfl (fun _ _ _ h => h) (Or.inl ⟨by kernel_rfl, ?_⟩) (by assumption) ?_
      rotate_left
      · (intro w hSw; (try dsimp only at hSw); go_simp; (try with_reducible rfl))
      try simp only [Act.put, sqA, sqB, sqC]
      refine Seq.take (i := 7) (v := ?_) OK rfl rfl (fun _ _ _ h => h) (Or.inl ⟨by kernel_rfl, ?_⟩) (by assumption) ?_
      rotate_left
      · (intro w hSw; (try dsimp only at hSw); go_simp; (try with_reducible rfl))
      try simp only [Act.put, sqA, sqB, sqC]
      refine Seq.take (i := 8) (v := ?_) OK rfl rfl (fun _ _ _ h => h) (Or.inl ⟨by kernel_rfl, ?_⟩) (by assumption) ?_
      rotate_left
      · (intro w hSw; (try dsimp only at hSw); go_simp; (try with_reducible rfl))
      try simp only [Act.put, sqA, sqB, sqC]
      refine Seq.take (i := 9) (v := ?_) OK rfl rfl (fun _ _ _ h => h) (Or.inl ⟨by kernel_rfl, ?_⟩) (by assumption) ?_
      rotate_left
      · (intro w hSw; (try dsimp only at hSw); go_simp; (try with_reducible rfl))
      try simp only [Act.put, sqA, sqB, sqC]
      refine Seq.take (i := 10) (v := ?_) OK rfl rfl (fun _ _ _ h => h) (Or.inl ⟨by kernel_rfl, ?_⟩) (by assumption) ?_
      rotate_left
      · (intro w hSw; (try dsimp only at hSw); go_simp; (try with_reducible rfl))
      try simp only [Act.put, sqA, sqB, sqC]
      refine Seq.take (i := 11) (v := ?_) OK rfl rfl (fun _ _ _ h => h) (Or.inl ⟨by kernel_rfl, ?_⟩) (by assumption) ?_
      rotate_left
      · (intro w hSw; (try dsimp only at hSw); go_simp; (try with_reducible rfl))
      try simp only [Act.put, sqA, sqB, sqC]
      cases V0 : (kindT t == kindT u)
      · have hv := V0
        as_aux_lemma =>
          refine Seq.take (i := 12) (v := ?_) OK rfl rfl (fun _ _ _ h => h) (Or.inl ⟨by kernel_rfl, ?_⟩) (by assumption) ?_
          rotate_left
          · (intro w hSw; (try dsimp only at hSw); go_simp; (try with_reducible rfl))
          try simp only [Act.put, sqA, sqB, sqC]
          refine Seq.take (i := 13) (v := ?_) OK rfl rfl (fun _ _ _ h => h) (Or.inl ⟨by kernel_rfl, ?_⟩) (by assumption) ?_
          rotate_left
          · (intro w hSw; (try dsimp only at hSw); go_simp; (try with_reducible rfl))
          try simp only [Act.put, sqA, sqB, sqC]
          refine Seq.off 14 OK rfl rfl (fun _ _ _ h => h) (by kernel_rfl) hHeld ?_
          try simp only [Act.put, sqA, sqB, sqC]
          refine Seq.off 15 OK rfl rfl (fun _ _ _ h => h) (by kernel_rfl) hHeld ?_
          try simp only [Act.put, sqA, sqB, sqC]
          refine Seq.off 16 OK rfl rfl (fun _ _ _ h => h) (by kernel_rfl) hHeld ?_
          try simp only [Act.put, sqA, sqB, sqC]
          refine Seq.off 17 OK rfl rfl (fun _ _ _ h => h) (by kernel_rfl) hHeld ?_
          try simp only [Act.put, sqA, sqB, sqC]
          refine Seq.off 18 OK rfl rfl (fun _ _ _ h => h) (by kernel_rfl) hHeld ?_
          try simp only [Act.put, sqA, sqB, sqC]
          refine Seq.off 19 OK rfl rfl (fun _ _ _ h => h) (by kernel_rfl) hHeld ?_
          try simp only [Act.put, sqA, sqB, sqC]
          refine Seq.off 20 OK rfl rfl (fun _ _ _ h => h) (by kernel_rfl) hHeld ?_
          try simp only [Act.put, sqA, sqB, sqC]
          refine Seq.off 21 OK rfl rfl (fun _ _ _ h => h) (by kernel_rfl) hHeld ?_
          try simp only [Act.put, sqA, sqB, sqC]
          refine Seq.off 22 OK rfl rfl (fun _ _ _ h => h) (by kernel_rfl) hHeld ?_
          try simp only [Act.put, sqA, sqB, sqC]
          refine Seq.take (i := 23) (v := ?_) OK rfl rfl (fun _ _ _ h => h) (Or.inl ⟨by kernel_rfl, ?_⟩) (by assumption) ?_
          rotate_left
          · (intro w hSw; (try dsimp only at hSw); go_simp; (try with_reducible rfl))
          try simp only [Act.put, sqA, sqB, sqC]
          refine Seq.take (i := 24) (v := ?_) OK rfl rfl (fun _ _ _ h => h) (Or.inl ⟨by kernel_rfl, ?_⟩) (by assumption) ?_
          rotate_left
          · (intro w hSw; (try dsimp only at hSw); go_simp; (try with_reducible rfl))
          try simp only [Act.put, sqA, sqB, sqC]
          refine Seq.off 25 OK rfl rfl (fun _ _ _ h => h) (by kernel_rfl) hHeld ?_
          try simp only [Act.put, sqA, sqB, sqC]
          refine Seq.off 26 OK rfl rfl (fun _ _ _ h => h) (by kernel_rfl) hHeld ?_
          try simp only [Act.put, sqA, sqB, sqC]
          refine Seq.off 27 OK rfl rfl (fun _ _ _ h => h) (by kernel_rfl) hHeld ?_
          try simp only [Act.put, sqA, sqB, sqC]
          refine Seq.off 28 OK rfl rfl (fun _ _ _ h => h) (by kernel_rfl) hHeld ?_
          try simp only [Act.put, sqA, sqB, sqC]
          refine Seq.off 29 OK rfl rfl (fun _ _ _ h => h) (by kernel_rfl) hHeld ?_
          try simp only [Act.put, sqA, sqB, sqC]
          refine Seq.off 30 OK rfl rfl (fun _ _ _ h => h) (by kernel_rfl) hHeld ?_
          try simp only [Act.put, sqA, sqB, sqC]
          refine Seq.off 31 OK rfl rfl (fun _ _ _ h => h) (by kernel_rfl) hHeld ?_
          try simp only [Act.put, sqA, sqB, sqC]
          refine Seq.off 32 OK rfl rfl (fun _ _ _ h => h) (by kernel_rfl) hHeld ?_
          try simp only [Act.put, sqA, sqB, sqC]
          refine Seq.off 33 OK rfl rfl (fun _ _ _ h => h) (by kernel_rfl) hHeld ?_
          try simp only [Act.put, sqA, sqB, sqC]
          refine Seq.skip (i := 34) OK rfl rfl (by kernel_rfl) (by assumption) ?_
          try simp only [Act.put, sqA, sqB, sqC]
          refine Seq.take (i := 35) (v := ?_) OK rfl rfl (fun _ _ _ h => h) (Or.inl ⟨by kernel_rfl, ?_⟩) (by assumption) ?_
          rotate_left
          · (intro w hSw; (try dsimp only at hSw); go_simp; (try with_reducible rfl))
          try simp only [Act.put, sqA, sqB, sqC]
          refine Seq.take (i := 36) (v := ?_) OK rfl rfl (fun _ _ _ h => h) (Or.inl ⟨by kernel_rfl, ?_⟩) (by assumption) ?_
          rotate_left
          · (intro w hSw; (try dsimp only at hSw); go_simp; (try with_reducible rfl))
          try simp only [Act.put, sqA, sqB, sqC]
          refine Seq.off 37 OK rfl rfl (fun _ _ _ h => h) (by kernel_rfl) hHeld ?_
          try simp only [Act.put, sqA, sqB, sqC]
          refine Seq.off 38 OK rfl rfl (fun _ _ _ h => h) (by kernel_rfl) hHeld ?_
          try simp only [Act.put, sqA, sqB, sqC]
          refine Seq.off 39 OK rfl rfl (fun _ _ _ h => h) (by kernel_rfl) hHeld ?_
          try simp only [Act.put, sqA, sqB, sqC]
          refine Seq.off 40 OK rfl rfl (fun _ _ _ h => h) (by kernel_rfl) hHeld ?_
          try simp only [Act.put, sqA, sqB, sqC]
          refine Seq.off 41 OK rfl rfl (fun _ _ _ h => h) (by kernel_rfl) hHeld ?_
          try simp only [Act.put, sqA, sqB, sqC]
          refine Seq.off 42 OK rfl rfl (fun _ _ _ h => h) (by kernel_rfl) hHeld ?_
          try simp only [Act.put, sqA, sqB, sqC]
          refine Seq.off 43 OK rfl rfl (fun _ _ _ h => h) (by kernel_rfl) hHeld ?_
          try simp only [Act.put, sqA, sqB, sqC]
          refine Seq.off 44 OK rfl rfl (fun _ _ _ h => h) (by kernel_rfl) hHeld ?_
          try simp only [Act.put, sqA, sqB, sqC]
          refine Seq.off 45 OK rfl rfl (fun _ _ _ h => h) (by kernel_rfl) hHeld ?_
          try simp only [Act.put, sqA, sqB, sqC]
          refine Seq.skip (i := 46) OK rfl rfl (by kernel_rfl) (by assumption) ?_
          try simp only [Act.put, sqA, sqB, sqC]
          refine Seq.take (i := 47) (v := ?_) OK rfl rfl (fun _ _ _ h => h) (Or.inl ⟨by kernel_rfl, ?_⟩) (by assumption) ?_
          rotate_left
          · (intro w hSw; (try dsimp only at hSw); go_simp; (try with_reducible rfl))
          try simp only [Act.put, sqA, sqB, sqC]
          refine Seq.take (i := 48) (v := ?_) OK rfl rfl (fun _ _ _ h => h) (Or.inl ⟨by kernel_rfl, ?_⟩) (by assumption) ?_
          rotate_left
          · (intro w hSw; (try dsimp only at hSw); go_simp; (try with_reducible rfl))
          try simp only [Act.put, sqA, sqB, sqC]
          refine Seq.off 49 OK rfl rfl (fun _ _ _ h => h) (by kernel_rfl) hHeld ?_
          try simp only [Act.put, sqA, sqB, sqC]
          refine Seq.off 50 OK rfl rfl (fun _ _ _ h => h) (by kernel_rfl) hHeld ?_
          try simp only [Act.put, sqA, sqB, sqC]
          refine Seq.off 51 OK rfl rfl (fun _ _ _ h => h) (by kernel_rfl) hHeld ?_
          try simp only [Act.put, sqA, sqB, sqC]
          refine Seq.off 52 OK rfl rfl (fun _ _ _ h => h) (by kernel_rfl) hHeld ?_
          try simp only [Act.put, sqA, sqB, sqC]
          refine Seq.off 53 OK rfl rfl (fun _ _ _ h => h) (by kernel_rfl) hHeld ?_
          try simp only [Act.put, sqA, sqB, sqC]
          refine Seq.off 54 OK rfl rfl (fun _ _ _ h => h) (by kernel_rfl) hHeld ?_
          try simp only [Act.put, sqA, sqB, sqC]
          refine Seq.off 55 OK rfl rfl (fun _ _ _ h => h) (by kernel_rfl) hHeld ?_
          try simp only [Act.put, sqA, sqB, sqC]
          refine Seq.off 56 OK rfl rfl (fun _ _ _ h => h) (by kernel_rfl) hHeld ?_
          try simp only [Act.put, sqA, sqB, sqC]
          refine Seq.off 57 OK rfl rfl (fun _ _ _ h => h) (by kernel_rfl) hHeld ?_
          try simp only [Act.put, sqA, sqB, sqC]
          refine Seq.skip (i := 58) OK rfl rfl (by kernel_rfl) (by assumption) ?_
          try simp only [Act.put, sqA, sqB, sqC]
          refine Seq.take (i := 59) (v := ?_) OK rfl rfl (fun _ _ _ h => h) (Or.inl ⟨by kernel_rfl, ?_⟩) (by assumption) ?_
          rotate_left
          · (intro w hSw; (try dsimp only at hSw); go_simp; (try with_reducible rfl))
          try simp only [Act.put, sqA, sqB, sqC]
          refine Seq.take (i := 60) (v := ?_) OK rfl rfl (fun _ _ _ h => h) (Or.inl ⟨by kernel_rfl, ?_⟩) (by assumption) ?_
          rotate_left
          · (intro w hSw; (try dsimp only at hSw); go_simp; (try with_reducible rfl))
          try simp only [Act.put, sqA, sqB, sqC]
          refine Seq.off 61 OK rfl rfl (fun _ _ _ h => h) (by kernel_rfl) hHeld ?_
          try simp only [Act.put, sqA, sqB, sqC]
          refine Seq.off 62 OK rfl rfl (fun _ _ _ h => h) (by kernel_rfl) hHeld ?_
          try simp only [Act.put, sqA, sqB, sqC]
          refine Seq.off 63 OK rfl rfl (fun _ _ _ h => h) (by kernel_rfl) hHeld ?_
          try simp only [Act.put, sqA, sqB, sqC]
          refine Seq.off 64 OK rfl rfl (fun _ _ _ h => h) (by kernel_rfl) hHeld ?_
          try simp only [Act.put, sqA, sqB, sqC]
          refine Seq.off 65 OK rfl rfl (fun _ _ _ h => h) (by kernel_rfl) hHeld ?_
          try simp only [Act.put, sqA, sqB, sqC]
          refine Seq.off 66 OK rfl rfl (fun _ _ _ h => h) (by kernel_rfl) hHeld ?_
          try simp only [Act.put, sqA, sqB, sqC]
          refine Seq.off 67 OK rfl rfl (fun _ _ _ h => h) (by kernel_rfl) hHeld ?_
          try simp only [Act.put, sqA, sqB, sqC]
          refine Seq.off 68 OK rfl rfl (fun _ _ _ h => h) (by kernel_rfl) hHeld ?_
          try simp only [Act.put, sqA, sqB, sqC]
          refine Seq.off 69 OK rfl rfl (fun _ _ _ h => h) (by kernel_rfl) hHeld ?_
          try simp only [Act.put, sqA, sqB, sqC]
          refine Seq.skip (i := 70) OK rfl rfl (by kernel_rfl) (by assumption) ?_
          try simp only [Act.put, sqA, sqB, sqC]
          refine Seq.take (i := 71) (v := ?_) OK rfl rfl (fun _ _ _ h => h) (Or.inl ⟨by kernel_rfl, ?_⟩) (by assumption) ?_
          rotate_left
          · (intro w hSw; (try dsimp only at hSw); go_simp; (try with_reducible rfl))
          try simp only [Act.put, sqA, sqB, sqC]
          refine Seq.take (i := 72) (v := ?_) OK rfl rfl (fun _ _ _ h => h) (Or.inl ⟨by kernel_rfl, ?_⟩) (by assumption) ?_
          rotate_left
          · (intro w hSw; (try dsimp only at hSw); go_simp; (try with_reducible rfl))
          try simp only [Act.put, sqA, sqB, sqC]
          refine Seq.off 73 OK rfl rfl (fun _ _ _ h => h) (by kernel_rfl) hHeld ?_
          try simp only [Act.put, sqA, sqB, sqC]
          refine Seq.off 74 OK rfl rfl (fun _ _ _ h => h) (by kernel_rfl) hHeld ?_
          try simp only [Act.put, sqA, sqB, sqC]
          refine Seq.off 75 OK rfl rfl (fun _ _ _ h => h) (by kernel_rfl) hHeld ?_
          try simp only [Act.put, sqA, sqB, sqC]
          refine Seq.off 76 OK rfl rfl (fun _ _ _ h => h) (by kernel_rfl) hHeld ?_
          try simp only [Act.put, sqA, sqB, sqC]
          refine Seq.off 77 OK rfl rfl (fun _ _ _ h => h) (by kernel_rfl) hHeld ?_
          try simp only [Act.put, sqA, sqB, sqC]
          refine Seq.off 78 OK rfl rfl (fun _ _ _ h => h) (by kernel_rfl) hHeld ?_
          try simp only [Act.put, sqA, sqB, sqC]
          refine Seq.off 79 OK rfl rfl (fun _ _ _ h => h) (by kernel_rfl) hHeld ?_
          try simp only [Act.put, sqA, sqB, sqC]
          refine Seq.off 80 OK rfl rfl (fun _ _ _ h => h) (by kernel_rfl) hHeld ?_
          try simp only [Act.put, sqA, sqB, sqC]
          refine Seq.off 81 OK rfl rfl (fun _ _ _ h => h) (by kernel_rfl) hHeld ?_
          try simp only [Act.put, sqA, sqB, sqC]
          refine Seq.skip (i := 82) OK rfl rfl (by kernel_rfl) (by assumption) ?_
          try simp only [Act.put, sqA, sqB, sqC]
          refine Seq.take (i := 83) (v := ?_) OK rfl rfl (fun _ _ _ h => h) (Or.inl ⟨by kernel_rfl, ?_⟩) (by assumption) ?_
          rotate_left
          · (intro w hSw; (try dsimp only at hSw); go_simp; (try with_reducible rfl))
          try simp only [Act.put, sqA, sqB, sqC]
          refine Seq.take (i := 84) (v := ?_) OK rfl rfl (fun _ _ _ h => h) (Or.inl ⟨by kernel_rfl, ?_⟩) (by assumption) ?_
          rotate_left
          · (intro w hSw; (try dsimp only at hSw); go_simp; (try with_reducible rfl))
          try simp only [Act.put, sqA, sqB, sqC]
          refine Seq.done ?_
          have hf : (eqT t u && decide (k + sizeT t ≤ 65536)) = false := by
            cases hq : (eqT t u && decide (k + sizeT t ≤ 65536)) with
            | false => rfl
            | true =>
              exfalso
              rw [HEQ.out, HSZ.out] at hq
              simp only [Bool.and_eq_true, decide_eq_true_eq] at hq
              obtain ⟨⟨e0, e2, e3, e4, e5, e6, e7⟩, hs⟩ := hq
              rw [e0] at hv; cases hv
          go_wp2_with fail
          refine bodyPost_ret ab18 rfl ?_
          exact cmp_false hf PW.out
      refine Seq.take (i := 12) (v := ?_) OK rfl rfl (fun _ _ _ h => h) (Or.inl ⟨by kernel_rfl, ?_⟩) (by assumption) ?_
      rotate_left
      · (intro w hSw; (try dsimp only at hSw); go_simp; (try with_reducible rfl))
      try simp only [Act.put, sqA, sqB, sqC]
      refine Seq.take (i := 13) (v := ?_) OK rfl rfl (fun _ _ _ h => h) (Or.inl ⟨by kernel_rfl, ?_⟩) (by assumption) ?_
      rotate_left
      · (intro w hSw; (try dsimp only at hSw); go_simp; (try with_reducible rfl))
      try simp only [Act.put, sqA, sqB, sqC]
      refine Seq.take (i := 14) (v := ?_) OK rfl rfl (fun _ _ _ h => h) (Or.inl ⟨by kernel_rfl, ?_⟩) (by assumption) ?_
      rotate_left
      · (intro w hSw; (try dsimp only at hSw); go_simp; (try with_reducible rfl))
      try simp only [Act.put, sqA, sqB, sqC]
      refine Seq.take (i := 15) (v := ?_) OK rfl rfl (fun _ _ _ h => h) (Or.inl ⟨by kernel_rfl, ?_⟩) (by assumption) ?_
      rotate_left
      · (intro w hSw; (try dsimp only at hSw); go_simp; (try with_reducible rfl))
      try simp only [Act.put, sqA, sqB, sqC]
      refine Seq.take (i := 16) (v := ?_) OK rfl rfl (fun _ _ _ h => h) (Or.inl ⟨by kernel_rfl, ?_⟩) (by assumption) ?_
      rotate_left
      · (intro w hSw; (try dsimp only at hSw); go_simp; (try with_reducible rfl))
      try simp only [Act.put, sqA, sqB, sqC]
      refine Seq.take (i := 17) (v := ?_) OK rfl rfl (fun _ _ _ h => h) (Or.inl ⟨by kernel_rfl, ?_⟩) (by assumption) ?_
      rotate_left
      · (intro w hSw; (try dsimp only at hSw); go_simp; (try with_reducible rfl))
      try simp only [Act.put, sqA, sqB, sqC]
      refine Seq.take (i := 18) (v := ?_) OK rfl rfl (fun _ _ _ h => h) (Or.inl ⟨by kernel_rfl, ?_⟩) (by assumption) ?_
      rotate_left
      · (intro w hSw; (try dsimp only at hSw); go_simp; (try with_reducible rfl))
      try simp only [Act.put, sqA, sqB, sqC]
      refine Seq.take (i := 19) (v := ?_) OK rfl rfl (fun _ _ _ h => h) (Or.inl ⟨by kernel_rfl, ?_⟩) (by assumption) ?_
      rotate_left
      · (intro w hSw; (try dsimp only at hSw); go_simp; (try with_reducible rfl))
      try simp only [Act.put, sqA, sqB, sqC]
      refine Seq.take (i := 20) (v := ?_) OK rfl rfl (fun _ _ _ h => h) (Or.inl ⟨by kernel_rfl, ?_⟩) (by assumption) ?_
      rotate_left
      · (intro w hSw; (try dsimp only at hSw); go_simp; (try with_reducible rfl))
      try simp only [Act.put, sqA, sqB, sqC]
      refine Seq.take (i := 21) (v := ?_) OK rfl rfl (fun _ _ _ h => h) (Or.inl ⟨by kernel_rfl, ?_⟩) (by assumption) ?_
      rotate_left
      · (intro w hSw; (try dsimp only at hSw); go_simp; (try with_reducible rfl))
      try simp only [Act.put, sqA, sqB, sqC]
      refine Seq.take (i := 22) (v := ?_) OK rfl rfl (fun _ _ _ h => h) (Or.inl ⟨by kernel_rfl, ?_⟩) (by assumption) ?_
      rotate_left
      · (intro w hSw; (try dsimp only at hSw); go_simp; (try with_reducible rfl))
      try simp only [Act.put, sqA, sqB, sqC]
      cases V2 : (nameT6 t == nameT6 u)
      · have hv := V2
        as_aux_lemma =>
          refine Seq.take (i := 23) (v := ?_) OK rfl rfl (fun _ _ _ h => h) (Or.inl ⟨by kernel_rfl, ?_⟩) (by assumption) ?_
          rotate_left
          · (intro w hSw; (try dsimp only at hSw); go_simp; (try with_reducible rfl))
          try simp only [Act.put, sqA, sqB, sqC]
          refine Seq.take (i := 24) (v := ?_) OK rfl rfl (fun _ _ _ h => h) (Or.inl ⟨by kernel_rfl, ?_⟩) (by assumption) ?_
          rotate_left
          · (intro w hSw; (try dsimp only at hSw); go_simp; (try with_reducible rfl))
          try simp only [Act.put, sqA, sqB, sqC]
          refine Seq.off 25 OK rfl rfl (fun _ _ _ h => h) (by kernel_rfl) hHeld ?_
          try simp only [Act.put, sqA, sqB, sqC]
          refine Seq.off 26 OK rfl rfl (fun _ _ _ h => h) (by kernel_rfl) hHeld ?_
          try simp only [Act.put, sqA, sqB, sqC]
          refine Seq.off 27 OK rfl rfl (fun _ _ _ h => h) (by kernel_rfl) hHeld ?_
          try simp only [Act.put, sqA, sqB, sqC]
          refine Seq.off 28 OK rfl rfl (fun _ _ _ h => h) (by kernel_rfl) hHeld ?_
          try simp only [Act.put, sqA, sqB, sqC]
          refine Seq.off 29 OK rfl rfl (fun _ _ _ h => h) (by kernel_rfl) hHeld ?_
          try simp only [Act.put, sqA, sqB, sqC]
          refine Seq.off 30 OK rfl rfl (fun _ _ _ h => h) (by kernel_rfl) hHeld ?_
          try simp only [Act.put, sqA, sqB, sqC]
          refine Seq.off 31 OK rfl rfl (fun _ _ _ h => h) (by kernel_rfl) hHeld ?_
          try simp only [Act.put, sqA, sqB, sqC]
          refine Seq.off 32 OK rfl rfl (fun _ _ _ h => h) (by kernel_rfl) hHeld ?_
          try simp only [Act.put, sqA, sqB, sqC]
          refine Seq.off 33 OK rfl rfl (fun _ _ _ h => h) (by kernel_rfl) hHeld ?_
          try simp only [Act.put, sqA, sqB, sqC]
          refine Seq.skip (i := 34) OK rfl rfl (by kernel_rfl) (by assumption) ?_
          try simp only [Act.put, sqA, sqB, sqC]
          refine Seq.take (i := 35) (v := ?_) OK rfl rfl (fun _ _ _ h => h) (Or.inl ⟨by kernel_rfl, ?_⟩) (by assumption) ?_
          rotate_left
          · (intro w hSw; (try dsimp only at hSw); go_simp; (try with_reducible rfl))
          try simp only [Act.put, sqA, sqB, sqC]
          refine Seq.take (i := 36) (v := ?_) OK rfl rfl (fun _ _ _ h => h) (Or.inl ⟨by kernel_rfl, ?_⟩) (by assumption) ?_
          rotate_left
          · (intro w hSw; (try dsimp only at hSw); go_simp; (try with_reducible rfl))
          try simp only [Act.put, sqA, sqB, sqC]
          refine Seq.off 37 OK rfl rfl (fun _ _ _ h => h) (by kernel_rfl) hHeld ?_
          try simp only [Act.put, sqA, sqB, sqC]
          refine Seq.off 38 OK rfl rfl (fun _ _ _ h => h) (by kernel_rfl) hHeld ?_
          try simp only [Act.put, sqA, sqB, sqC]
          refine Seq.off 39 OK rfl rfl (fun _ _ _ h => h) (by kernel_rfl) hHeld ?_
          try simp only [Act.put, sqA, sqB, sqC]
          refine Seq.off 40 OK rfl rfl (fun _ _ _ h => h) (by kernel_rfl) hHeld ?_
          try simp only [Act.put, sqA, sqB, sqC]
          refine Seq.off 41 OK rfl rfl (fun _ _ _ h => h) (by kernel_rfl) hHeld ?_
          try simp only [Act.put, sqA, sqB, sqC]
          refine Seq.off 42 OK rfl rfl (fun _ _ _ h => h) (by kernel_rfl) hHeld ?_
          try simp only [Act.put, sqA, sqB, sqC]
          refine Seq.off 43 OK rfl rfl (fun _ _ _ h => h) (by kernel_rfl) hHeld ?_
          try simp only [Act.put, sqA, sqB, sqC]
          refine Seq.off 44 OK rfl rfl (fun _ _ _ h => h) (by kernel_rfl) hHeld ?_
          try simp only [Act.put, sqA, sqB, sqC]
          refine Seq.off 45 OK rfl rfl (fun _ _ _ h => h) (by kernel_rfl) hHeld ?_
          try simp only [Act.put, sqA, sqB, sqC]
          refine Seq.skip (i := 46) OK rfl rfl (by kernel_rfl) (by assumption) ?_
          try simp only [Act.put, sqA, sqB, sqC]
          refine Seq.take (i := 47) (v := ?_) OK rfl rfl (fun _ _ _ h => h) (Or.inl ⟨by kernel_rfl, ?_⟩) (by assumption) ?_
          rotate_left
          · (intro w hSw; (try dsimp only at hSw); go_simp; (try with_reducible rfl))
          try simp only [Act.put, sqA, sqB, sqC]
          refine Seq.take (i := 48) (v := ?_) OK rfl rfl (fun _ _ _ h => h) (Or.inl ⟨by kernel_rfl, ?_⟩) (by assumption) ?_
          rotate_left
          · (intro w hSw; (try dsimp only at hSw); go_simp; (try with_reducible rfl))
          try simp only [Act.put, sqA, sqB, sqC]
          refine Seq.off 49 OK rfl rfl (fun _ _ _ h => h) (by kernel_rfl) hHeld ?_
          try simp only [Act.put, sqA, sqB, sqC]
          refine Seq.off 50 OK rfl rfl (fun _ _ _ h => h) (by kernel_rfl) hHeld ?_
          try simp only [Act.put, sqA, sqB, sqC]
          refine Seq.off 51 OK rfl rfl (fun _ _ _ h => h) (by kernel_rfl) hHeld ?_
          try simp only [Act.put, sqA, sqB, sqC]
          refine Seq.off 52 OK rfl rfl (fun _ _ _ h => h) (by kernel_rfl) hHeld ?_
          try simp only [Act.put, sqA, sqB, sqC]
          refine Seq.off 53 OK rfl rfl (fun _ _ _ h => h) (by kernel_rfl) hHeld ?_
          try simp only [Act.put, sqA, sqB, sqC]
          refine Seq.off 54 OK rfl rfl (fun _ _ _ h => h) (by kernel_rfl) hHeld ?_
          try simp only [Act.put, sqA, sqB, sqC]
          refine Seq.off 55 OK rfl rfl (fun _ _ _ h => h) (by kernel_rfl) hHeld ?_
          try simp only [Act.put, sqA, sqB, sqC]
          refine Seq.off 56 OK rfl rfl (fun _ _ _ h => h) (by kernel_rfl) hHeld ?_
          try simp only [Act.put, sqA, sqB, sqC]
          refine Seq.off 57 OK rfl rfl (fun _ _ _ h => h) (by kernel_rfl) hHeld ?_
          try simp only [Act.put, sqA, sqB, sqC]
          refine Seq.skip (i := 58) OK rfl rfl (by kernel_rfl) (by assumption) ?_
          try simp only [Act.put, sqA, sqB, sqC]
          refine Seq.take (i := 59) (v := ?_) OK rfl rfl (fun _ _ _ h => h) (Or.inl ⟨by kernel_rfl, ?_⟩) (by assumption) ?_
          rotate_left
          · (intro w hSw; (try dsimp only at hSw); go_simp; (try with_reducible rfl))
          try simp only [Act.put, sqA, sqB, sqC]
          refine Seq.take (i := 60) (v := ?_) OK rfl rfl (fun _ _ _ h => h) (Or.inl ⟨by kernel_rfl, ?_⟩) (by assumption) ?_
          rotate_left
          · (intro w hSw; (try dsimp only at hSw); go_simp; (try with_reducible rfl))
          try simp only [Act.put, sqA, sqB, sqC]
          refine Seq.off 61 OK rfl rfl (fun _ _ _ h => h) (by kernel_rfl) hHeld ?_
          try simp only [Act.put, sqA, sqB, sqC]
          refine Seq.off 62 OK rfl rfl (fun _ _ _ h => h) (by kernel_rfl) hHeld ?_
          try simp only [Act.put, sqA, sqB, sqC]
          refine Seq.off 63 OK rfl rfl (fun _ _ _ h => h) (by kernel_rfl) hHeld ?_
          try simp only [Act.put, sqA, sqB, sqC]
          refine Seq.off 64 OK rfl rfl (fun _ _ _ h => h) (by kernel_rfl) hHeld ?_
          try simp only [Act.put, sqA, sqB, sqC]
          refine Seq.off 65 OK rfl rfl (fun _ _ _ h => h) (by kernel_rfl) hHeld ?_
          try simp only [Act.put, sqA, sqB, sqC]
          refine Seq.off 66 OK rfl rfl (fun _ _ _ h => h) (by kernel_rfl) hHeld ?_
          try simp only [Act.put, sqA, sqB, sqC]
          refine Seq.off 67 OK rfl rfl (fun _ _ _ h => h) (by kernel_rfl) hHeld ?_
          try simp only [Act.put, sqA, sqB, sqC]
          refine Seq.off 68 OK rfl rfl (fun _ _ _ h => h) (by kernel_rfl) hHeld ?_
          try simp only [Act.put, sqA, sqB, sqC]
          refine Seq.off 69 OK rfl rfl (fun _ _ _ h => h) (by kernel_rfl) hHeld ?_
          try simp only [Act.put, sqA, sqB, sqC]
          refine Seq.skip (i := 70) OK rfl rfl (by kernel_rfl) (by assumption) ?_
          try simp only [Act.put, sqA, sqB, sqC]
          refine Seq.take (i := 71) (v := ?_) OK rfl rfl (fun _ _ _ h => h) (Or.inl ⟨by kernel_rfl, ?_⟩) (by assumption) ?_
          rotate_left
          · (intro w hSw; (try dsimp only at hSw); go_simp; (try with_reducible rfl))
          try simp only [Act.put, sqA, sqB, sqC]
          refine Seq.take (i := 72) (v := ?_) OK rfl rfl (fun _ _ _ h => h) (Or.inl ⟨by kernel_rfl, ?_⟩) (by assumption) ?_
          rotate_left
          · (intro w hSw; (try dsimp only at hSw); go_simp; (try with_reducible rfl))
          try simp only [Act.put, sqA, sqB, sqC]
          refine Seq.off 73 OK rfl rfl (fun _ _ _ h => h) (by kernel_rfl) hHeld ?_
          try simp only [Act.put, sqA, sqB, sqC]
          refine Seq.off 74 OK rfl rfl (fun _ _ _ h => h) (by kernel_rfl) hHeld ?_
          try simp only [Act.put, sqA, sqB, sqC]
          refine Seq.off 75 OK rfl rfl (fun _ _ _ h => h) (by kernel_rfl) hHeld ?_
          try simp only [Act.put, sqA, sqB, sqC]
          refine Seq.off 76 OK rfl rfl (fun _ _ _ h => h) (by kernel_rfl) hHeld ?_
          try simp only [Act.put, sqA, sqB, sqC]
          refine Seq.off 77 OK rfl rfl (fun _ _ _ h => h) (by kernel_rfl) hHeld ?_
          try simp only [Act.put, sqA, sqB, sqC]
          refine Seq.off 78 OK rfl rfl (fun _ _ _ h => h) (by kernel_rfl) hHeld ?_
          try simp only [Act.put, sqA, sqB, sqC]
          refine Seq.off 79 OK rfl rfl (fun _ _ _ h => h) (by kernel_rfl) hHeld ?_
          try simp only [Act.put, sqA, sqB, sqC]
          refine Seq.off 80 OK rfl rfl (fun _ _ _ h => h) (by kernel_rfl) hHeld ?_
          try simp only [Act.put, sqA, sqB, sqC]
          refine Seq.off 81 OK rfl rfl (fun _ _ _ h => h) (by kernel_rfl) hHeld ?_
          try simp only [Act.put, sqA, sqB, sqC]
          refine Seq.skip (i := 82) OK rfl rfl (by kernel_rfl) (by assumption) ?_
          try simp only [Act.put, sqA, sqB, sqC]
          refine Seq.take (i := 83) (v := ?_) OK rfl rfl (fun _ _ _ h => h) (Or.inl ⟨by kernel_rfl, ?_⟩) (by assumption) ?_
          rotate_left
          · (intro w hSw; (try dsimp only at hSw); go_simp; (try with_reducible rfl))
          try simp only [Act.put, sqA, sqB, sqC]
          refine Seq.take (i := 84) (v := ?_) OK rfl rfl (fun _ _ _ h => h) (Or.inl ⟨by kernel_rfl, ?_⟩) (by assumption) ?_
          rotate_left
          · (intro w hSw; (try dsimp only at hSw); go_simp; (try with_reducible rfl))
          try simp only [Act.put, sqA, sqB, sqC]
          refine Seq.done ?_
          have hf : (eqT t u && decide (k + sizeT t ≤ 65536)) = false := by
            cases hq : (eqT t u && decide (k + sizeT t ≤ 65536)) with
            | false => rfl
            | true =>
              exfalso
              rw [HEQ.out, HSZ.out] at hq
              simp only [Bool.and_eq_true, decide_eq_true_eq] at hq
              obtain ⟨⟨e0, e2, e3, e4, e5, e6, e7⟩, hs⟩ := hq
              rw [e2] at hv; cases hv
          go_wp2_with fail
          refine bodyPost_ret ab18 rfl ?_
          exact cmp_false hf PW.out
      refine Seq.take (i := 23) (v := ?_) OK rfl rfl (fun _ _ _ h => h) (Or.inl ⟨by kernel_rfl, ?_⟩) (by assumption) ?_
      rotate_left
      · (intro w hSw; (try dsimp only at hSw); go_simp; (try with_reducible rfl))
      try simp only [Act.put, sqA, sqB, sqC]
      refine Seq.take (i := 24) (v := ?_) OK rfl rfl (fun _ _ _ h => h) (Or.inl ⟨by kernel_rfl, ?_⟩) (by assumption) ?_
      rotate_left
      · (intro w hSw; (try dsimp only at hSw); go_simp; (try with_reducible rfl))
      try simp only [Act.put, sqA, sqB, sqC]
      refine Seq.take (i := 25) (v := ?_) OK rfl rfl (fun _ _ _ h => h) (Or.inl ⟨by kernel_rfl, ?_⟩) (by assumption) ?_
      rotate_left
      · (intro w hSw; (try dsimp only at hSw); go_simp; (try with_reducible rfl))
      try simp only [Act.put, sqA, sqB, sqC]
      refine Seq.take (i := 26) (v := ?_) OK rfl rfl (fun _ _ _ h => h) (Or.inl ⟨by kernel_rfl, ?_⟩) (by assumption) ?_
      rotate_left
      · (intro w hSw; (try dsimp only at hSw); go_simp; (try with_reducible rfl))
      try simp only [Act.put, sqA, sqB, sqC]
      refine Seq.take (i := 27) (v := ?_) OK rfl rfl (fun _ _ _ h => h) (Or.inl ⟨by kernel_rfl, ?_⟩) (by assumption) ?_
      rotate_left
      · (intro w hSw; (try dsimp only at hSw); go_simp; (try with_reducible rfl))
      try simp only [Act.put, sqA, sqB, sqC]
      refine Seq.take (i := 28) (v := ?_) OK rfl rfl (fun _ _ _ h => h) (Or.inl ⟨by kernel_rfl, ?_⟩) (by assumption) ?_
      rotate_left
      · (intro w hSw; (try dsimp only at hSw); go_simp; (try with_reducible rfl))
      try simp only [Act.put, sqA, sqB, sqC]
      refine Seq.take (i := 29) (v := ?_) OK rfl rfl (fun _ _ _ h => h) (Or.inl ⟨by kernel_rfl, ?_⟩) (by assumption) ?_
      rotate_left
      · (intro w hSw; (try dsimp only at hSw); go_simp; (try with_reducible rfl))
      try simp only [Act.put, sqA, sqB, sqC]
      refine Seq.take (i := 30) (v := ?_) OK rfl rfl (fun _ _ _ h => h) (Or.inl ⟨by kernel_rfl, ?_⟩) (by assumption) ?_
      rotate_left
      · (intro w hSw; (try dsimp only at hSw); go_simp; (try with_reducible rfl))
      try simp only [Act.put, sqA, sqB, sqC]
      refine Seq.take (i := 31) (v := ?_) OK rfl rfl (fun _ _ _ h => h) (Or.inl ⟨by kernel_rfl, ?_⟩) (by assumption) ?_
      rotate_left
      · (intro w hSw; (try dsimp only at hSw); go_simp; (try with_reducible rfl))
      try simp only [Act.put, sqA, sqB, sqC]
      refine Seq.take (i := 32) (v := ?_) OK rfl rfl (fun _ _ _ h => h) (Or.inl ⟨by kernel_rfl, ?_⟩) (by assumption) ?_
      rotate_left
      · (intro w hSw; (try dsimp only at hSw); go_simp; (try with_reducible rfl))
      try simp only [Act.put, sqA, sqB, sqC]
      refine Seq.take (i := 33) (v := ?_) OK rfl rfl (fun _ _ _ h => h) (Or.inl ⟨by kernel_rfl, ?_⟩) (by assumption) ?_
      rotate_left
      · (intro w hSw; (try dsimp only at hSw); go_simp; (try with_reducible rfl))
      try simp only [Act.put, sqA, sqB, sqC]
      by_cases V3 : (eqT (leftT t) (leftT u) && decide ((k + 1) + sizeT (leftT t) ≤ 65536)) = true
      rotate_left
      · have hv : (eqT (leftT t) (leftT u) && decide ((k + 1) + sizeT (leftT t) ≤ 65536)) = false := by simpa only [Bool.not_eq_true] using V3
        refine Seq.call (i := 34) OK rfl rfl (fun K hK => ?_)
        go_simp
        go_wp2_with (go_at_call 127; (with_reducible refine (C3.out _ PW.out PAq.out).mono ?_); rintro e w1 hC; obtain ⟨h1, hw⟩ := hC.no hv; replace PW := Lib.hid (PW.out.trans hw); subst h1)
        refine hK.out _ _ ?_ (fun hHeld => ?_)
        · exact KEEP.out _ ab14
        clear hK K
        try simp only [Act.put, sqA, sqB, sqC]
        as_aux_lemma =>
          refine Seq.take (i := 35) (v := ?_) OK rfl rfl (fun _ _ _ h => h) (Or.inl ⟨by kernel_rfl, ?_⟩) (by assumption) ?_
          rotate_left
          · (intro w hSw; (try dsimp only at hSw); go_simp; (try with_reducible rfl))
          try simp only [Act.put, sqA, sqB, sqC]
          refine Seq.take (i := 36) (v := ?_) OK rfl rfl (fun _ _ _ h => h) (Or.inl ⟨by kernel_rfl, ?_⟩) (by assumption) ?_
          rotate_left
          · (intro w hSw; (try dsimp only at hSw); go_simp; (try with_reducible rfl))
          try simp only [Act.put, sqA, sqB, sqC]
          refine Seq.off 37 OK rfl rfl (fun _ _ _ h => h) (by kernel_rfl) hHeld ?_
          try simp only [Act.put, sqA, sqB, sqC]
          refine Seq.off 38 OK rfl rfl (fun _ _ _ h => h) (by kernel_rfl) hHeld ?_
          try simp only [Act.put, sqA, sqB, sqC]
          refine Seq.off 39 OK rfl rfl (fun _ _ _ h => h) (by kernel_rfl) hHeld ?_
          try simp only [Act.put, sqA, sqB, sqC]
          refine Seq.off 40 OK rfl rfl (fun _ _ _ h => h) (by kernel_rfl) hHeld ?_
          try simp only [Act.put, sqA, sqB, sqC]
          refine Seq.off 41 OK rfl rfl (fun _ _ _ h => h) (by kernel_rfl) hHeld ?_
          try simp only [Act.put, sqA, sqB, sqC]
          refine Seq.off 42 OK rfl rfl (fun _ _ _ h => h) (by kernel_rfl) hHeld ?_
          try simp only [Act.put, sqA, sqB, sqC]
          refine Seq.off 43 OK rfl rfl (fun _ _ _ h => h) (by kernel_rfl) hHeld ?_
          try simp only [Act.put, sqA, sqB, sqC]
          refine Seq.off 44 OK rfl rfl (fun _ _ _ h => h) (by kernel_rfl) hHeld ?_
          try simp only [Act.put, sqA, sqB, sqC]
          refine Seq.off 45 OK rfl rfl (fun _ _ _ h => h) (by kernel_rfl) hHeld ?_
          try simp only [Act.put, sqA, sqB, sqC]
          refine Seq.skip (i := 46) OK rfl rfl (by kernel_rfl) (by assumption) ?_
          try simp only [Act.put, sqA, sqB, sqC]
          refine Seq.take (i := 47) (v := ?_) OK rfl rfl (fun _ _ _ h => h) (Or.inl ⟨by kernel_rfl, ?_⟩) (by assumption) ?_
          rotate_left
          · (intro w hSw; (try dsimp only at hSw); go_simp; (try with_reducible rfl))
          try simp only [Act.put, sqA, sqB, sqC]
          refine Seq.take (i := 48) (v := ?_) OK rfl rfl (fun _ _ _ h => h) (Or.inl ⟨by kernel_rfl, ?_⟩) (by assumption) ?_
          rotate_left
          · (intro w hSw; (try dsimp only at hSw); go_simp; (try with_reducible rfl))
          try simp only [Act.put, sqA, sqB, sqC]
          refine Seq.off 49 OK rfl rfl (fun _ _ _ h => h) (by kernel_rfl) hHeld ?_
          try simp only [Act.put, sqA, sqB, sqC]
          refine Seq.off 50 OK rfl rfl (fun _ _ _ h => h) (by kernel_rfl) hHeld ?_
          try simp only [Act.put, sqA, sqB, sqC]
          refine Seq.off 51 OK rfl rfl (fun _ _ _ h => h) (by kernel_rfl) hHeld ?_
          try simp only [Act.put, sqA, sqB, sqC]
          refine Seq.off 52 OK rfl rfl (fun _ _ _ h => h) (by kernel_rfl) hHeld ?_
          try simp only [Act.put, sqA, sqB, sqC]
          refine Seq.off 53 OK rfl rfl (fun _ _ _ h => h) (by kernel_rfl) hHeld ?_
          try simp only [Act.put, sqA, sqB, sqC]
          refine Seq.off 54 OK rfl rfl (fun _ _ _ h => h) (by kernel_rfl) hHeld ?_
          try simp only [Act.put, sqA, sqB, sqC]
          refine Seq.off 55 OK rfl rfl (fun _ _ _ h => h) (by kernel_rfl) hHeld ?_
          try simp only [Act.put, sqA, sqB, sqC]
          refine Seq.off 56 OK rfl rfl (fun _ _ _ h => h) (by kernel_rfl) hHeld ?_
          try simp only [Act.put, sqA, sqB, sqC]
          refine Seq.off 57 OK rfl rfl (fun _ _ _ h => h) (by kernel_rfl) hHeld ?_
          try simp only [Act.put, sqA, sqB, sqC]
          refine Seq.skip (i := 58) OK rfl rfl (by kernel_rfl) (by assumption) ?_
          try simp only [Act.put, sqA, sqB, sqC]
          refine Seq.take (i := 59) (v := ?_) OK rfl rfl (fun _ _ _ h => h) (Or.inl ⟨by kernel_rfl, ?_⟩) (by assumption) ?_
          rotate_left
          · (intro w hSw; (try dsimp only at hSw); go_simp; (try with_reducible rfl))
          try simp only [Act.put, sqA, sqB, sqC]
          refine Seq.take (i := 60) (v := ?_) OK rfl rfl (fun _ _ _ h => h) (Or.inl ⟨by kernel_rfl, ?_⟩) (by assumption) ?_
          rotate_left
          · (intro w hSw; (try dsimp only at hSw); go_simp; (try with_reducible rfl))
          try simp only [Act.put, sqA, sqB, sqC]
          refine Seq.off 61 OK rfl rfl (fun _ _ _ h => h) (by kernel_rfl) hHeld ?_
          try simp only [Act.put, sqA, sqB, sqC]
          refine Seq.off 62 OK rfl rfl (fun _ _ _ h => h) (by kernel_rfl) hHeld ?_
          try simp only [Act.put, sqA, sqB, sqC]
          refine Seq.off 63 OK rfl rfl (fun _ _ _ h => h) (by kernel_rfl) hHeld ?_
          try simp only [Act.put, sqA, sqB, sqC]
          refine Seq.off 64 OK rfl rfl (fun _ _ _ h => h) (by kernel_rfl) hHeld ?_
          try simp only [Act.put, sqA, sqB, sqC]
          refine Seq.off 65 OK rfl rfl (fun _ _ _ h => h) (by kernel_rfl) hHeld ?_
          try simp only [Act.put, sqA, sqB, sqC]
          refine Seq.off 66 OK rfl rfl (fun _ _ _ h => h) (by kernel_rfl) hHeld ?_
          try simp only [Act.put, sqA, sqB, sqC]
          refine Seq.off 67 OK rfl rfl (fun _ _ _ h => h) (by kernel_rfl) hHeld ?_
          try simp only [Act.put, sqA, sqB, sqC]
          refine Seq.off 68 OK rfl rfl (fun _ _ _ h => h) (by kernel_rfl) hHeld ?_
          try simp only [Act.put, sqA, sqB, sqC]
          refine Seq.off 69 OK rfl rfl (fun _ _ _ h => h) (by kernel_rfl) hHeld ?_
          try simp only [Act.put, sqA, sqB, sqC]
          refine Seq.skip (i := 70) OK rfl rfl (by kernel_rfl) (by assumption) ?_
          try simp only [Act.put, sqA, sqB, sqC]
          refine Seq.take (i := 71) (v := ?_) OK rfl rfl (fun _ _ _ h => h) (Or.inl ⟨by kernel_rfl, ?_⟩) (by assumption) ?_
          rotate_left
          · (intro w hSw; (try dsimp only at hSw); go_simp; (try with_reducible rfl))
          try simp only [Act.put, sqA, sqB, sqC]
          refine Seq.take (i := 72) (v := ?_) OK rfl rfl (fun _ _ _ h => h) (Or.inl ⟨by kernel_rfl, ?_⟩) (by assumption) ?_
          rotate_left
          · (intro w hSw; (try dsimp only at hSw); go_simp; (try with_reducible rfl))
          try simp only [Act.put, sqA, sqB, sqC]
          refine Seq.off 73 OK rfl rfl (fun _ _ _ h => h) (by kernel_rfl) hHeld ?_
          try simp only [Act.put, sqA, sqB, sqC]
          refine Seq.off 74 OK rfl rfl (fun _ _ _ h => h) (by kernel_rfl) hHeld ?_
          try simp only [Act.put, sqA, sqB, sqC]
          refine Seq.off 75 OK rfl rfl (fun _ _ _ h => h) (by kernel_rfl) hHeld ?_
          try simp only [Act.put, sqA, sqB, sqC]
          refine Seq.off 76 OK rfl rfl (fun _ _ _ h => h) (by kernel_rfl) hHeld ?_
          try simp only [Act.put, sqA, sqB, sqC]
          refine Seq.off 77 OK rfl rfl (fun _ _ _ h => h) (by kernel_rfl) hHeld ?_
          try simp only [Act.put, sqA, sqB, sqC]
          refine Seq.off 78 OK rfl rfl (fun _ _ _ h => h) (by kernel_rfl) hHeld ?_
          try simp only [Act.put, sqA, sqB, sqC]
          refine Seq.off 79 OK rfl rfl (fun _ _ _ h => h) (by kernel_rfl) hHeld ?_
          try simp only [Act.put, sqA, sqB, sqC]
          refine Seq.off 80 OK rfl rfl (fun _ _ _ h => h) (by kernel_rfl) hHeld ?_
          try simp only [Act.put, sqA, sqB, sqC]
          refine Seq.off 81 OK rfl rfl (fun _ _ _ h => h) (by kernel_rfl) hHeld ?_
          try simp only [Act.put, sqA, sqB, sqC]
          refine Seq.skip (i := 82) OK rfl rfl (by kernel_rfl) (by assumption) ?_
          try simp only [Act.put, sqA, sqB, sqC]
          refine Seq.take (i := 83) (v := ?_) OK rfl rfl (fun _ _ _ h => h) (Or.inl ⟨by kernel_rfl, ?_⟩) (by assumption) ?_
          rotate_left
          · (intro w hSw; (try dsimp only at hSw); go_simp; (try with_reducible rfl))
          try simp only [Act.put, sqA, sqB, sqC]
          refine Seq.take (i := 84) (v := ?_) OK rfl rfl (fun _ _ _ h => h) (Or.inl ⟨by kernel_rfl, ?_⟩) (by assumption) ?_
          rotate_left
          · (intro w hSw; (try dsimp only at hSw); go_simp; (try with_reducible rfl))
          try simp only [Act.put, sqA, sqB, sqC]
          refine Seq.done ?_
          have hf : (eqT t u && decide (k + sizeT t ≤ 65536)) = false := by
            cases hq : (eqT t u && decide (k + sizeT t ≤ 65536)) with
            | false => rfl
            | true =>
              exfalso
              rw [HEQ.out, HSZ.out] at hq
              simp only [Bool.and_eq_true, decide_eq_true_eq] at hq
              obtain ⟨⟨e0, e2, e3, e4, e5, e6, e7⟩, hs⟩ := hq
              rw [e3, decide_eq_true (by omega)] at hv; cases hv
          go_wp2_with fail
          refine bodyPost_ret ab18 rfl ?_
          exact cmp_false hf PW.out
      refine Seq.call (i := 34) OK rfl rfl (fun K hK => ?_)
      go_simp
      go_wp2_with (go_at_call 127; (with_reducible refine (C3.out _ PW.out PAq.out).mono ?_); rintro e w1 hC; obtain ⟨h1, hpa, hw⟩ := hC.yes V3; replace PW := Lib.hid (PW.out.trans hw); subst h1; replace PAq := Lib.hid hpa)
      refine hK.out _ _ ?_ (fun hHeld => ?_)
      · exact KEEP.out _ ab14
      clear hK K
      try simp only [Act.put, sqA, sqB, sqC]
      refine Seq.take (i := 35) (v := ?_) OK rfl rfl (fun _ _ _ h => h) (Or.inl ⟨by kernel_rfl, ?_⟩) (by assumption) ?_
      rotate_left
      · (intro w hSw; (try dsimp only at hSw); go_simp; (try with_reducible rfl))
      try simp only [Act.put, sqA, sqB, sqC]
      refine Seq.take (i := 36) (v := ?_) OK rfl rfl (fun _ _ _ h => h) (Or.inl ⟨by kernel_rfl, ?_⟩) (by assumption) ?_
      rotate_left
      · (intro w hSw; (try dsimp only at hSw); go_simp; (try with_reducible rfl))
      try simp only [Act.put, sqA, sqB, sqC]
      refine Seq.take (i := 37) (v := ?_) OK rfl rfl (fun _ _ _ h => h) (Or.inl ⟨by kernel_rfl, ?_⟩) (by assumption) ?_
      rotate_left
      · (intro w hSw; (try dsimp only at hSw); go_simp; (try with_reducible rfl))
      try simp only [Act.put, sqA, sqB, sqC]
      refine Seq.take (i := 38) (v := ?_) OK rfl rfl (fun _ _ _ h => h) (Or.inl ⟨by kernel_rfl, ?_⟩) (by assumption) ?_
      rotate_left
      · (intro w hSw; (try dsimp only at hSw); go_simp; (try with_reducible rfl))
      try simp only [Act.put, sqA, sqB, sqC]
      refine Seq.take (i := 39) (v := ?_) OK rfl rfl (fun _ _ _ h => h) (Or.inl ⟨by kernel_rfl, ?_⟩) (by assumption) ?_
      rotate_left
      · (intro w hSw; (try dsimp only at hSw); go_simp; (try with_reducible rfl))
      try simp only [Act.put, sqA, sqB, sqC]
      refine Seq.take (i := 40) (v := ?_) OK rfl rfl (fun _ _ _ h => h) (Or.inl ⟨by kernel_rfl, ?_⟩) (by assumption) ?_
      rotate_left
      · (intro w hSw; (try dsimp only at hSw); go_simp; (try with_reducible rfl))
      try simp only [Act.put, sqA, sqB, sqC]
      refine Seq.take (i := 41) (v := ?_) OK rfl rfl (fun _ _ _ h => h) (Or.inl ⟨by kernel_rfl, ?_⟩) (by assumption) ?_
      rotate_left
      · (intro w hSw; (try dsimp only at hSw); go_simp; (try with_reducible rfl))
      try simp only [Act.put, sqA, sqB, sqC]
      refine Seq.take (i := 42) (v := ?_) OK rfl rfl (fun _ _ _ h => h) (Or.inl ⟨by kernel_rfl, ?_⟩) (by assumption) ?_
      rotate_left
      · (intro w hSw; (try dsimp only at hSw); go_simp; (try with_reducible rfl))
      try simp only [Act.put, sqA, sqB, sqC]
      refine Seq.take (i := 43) (v := ?_) OK rfl rfl (fun _ _ _ h => h) (Or.inl ⟨by kernel_rfl, ?_⟩) (by assumption) ?_
      rotate_left
      · (intro w hSw; (try dsimp only at hSw); go_simp; (try with_reducible rfl))
      try simp only [Act.put, sqA, sqB, sqC]
      refine Seq.take (i := 44) (v := ?_) OK rfl rfl (fun _ _ _ h => h) (Or.inl ⟨by kernel_rfl, ?_⟩) (by assumption) ?_
      rotate_left
      · (intro w hSw; (try dsimp only at hSw); go_simp; (try with_reducible rfl))
      try simp only [Act.put, sqA, sqB, sqC]
      refine Seq.take (i := 45) (v := ?_) OK rfl rfl (fun _ _ _ h => h) (Or.inl ⟨by kernel_rfl, ?_⟩) (by assumption) ?_
      rotate_left
      · (intro w hSw; (try dsimp only at hSw); go_simp; (try with_reducible rfl))
      try simp only [Act.put, sqA, sqB, sqC]
      by_cases V4 : (eqT (rightT t) (rightT u) && decide (((k + 1) + sizeT (leftT t)) + sizeT (rightT t) ≤ 65536)) = true
      rotate_left
      · have hv : (eqT (rightT t) (rightT u) && decide (((k + 1) + sizeT (leftT t)) + sizeT (rightT t) ≤ 65536)) = false := by simpa only [Bool.not_eq_true] using V4
        refine Seq.call (i := 46) OK rfl rfl (fun K hK => ?_)
        go_simp
        go_wp2_with (go_at_call 127; (with_reducible refine (C4.out _ PW.out PAq.out).mono ?_); rintro e w1 hC; obtain ⟨h1, hw⟩ := hC.no hv; replace PW := Lib.hid (PW.out.trans hw); subst h1)
        refine hK.out _ _ ?_ (fun hHeld => ?_)
        · exact KEEP.out _ ab14
        clear hK K
        try simp only [Act.put, sqA, sqB, sqC]
        as_aux_lemma =>
          refine Seq.take (i := 47) (v := ?_) OK rfl rfl (fun _ _ _ h => h) (Or.inl ⟨by kernel_rfl, ?_⟩) (by assumption) ?_
          rotate_left
          · (intro w hSw; (try dsimp only at hSw); go_simp; (try with_reducible rfl))
          try simp only [Act.put, sqA, sqB, sqC]
          refine Seq.take (i := 48) (v := ?_) OK rfl rfl (fun _ _ _ h => h) (Or.inl ⟨by kernel_rfl, ?_⟩) (by assumption) ?_
          rotate_left
          · (intro w hSw; (try dsimp only at hSw); go_simp; (try with_reducible rfl))
          try simp only [Act.put, sqA, sqB, sqC]
          refine Seq.off 49 OK rfl rfl (fun _ _ _ h => h) (by kernel_rfl) hHeld ?_
          try simp only [Act.put, sqA, sqB, sqC]
          refine Seq.off 50 OK rfl rfl (fun _ _ _ h => h) (by kernel_rfl) hHeld ?_
          try simp only [Act.put, sqA, sqB, sqC]
          refine Seq.off 51 OK rfl rfl (fun _ _ _ h => h) (by kernel_rfl) hHeld ?_
          try simp only [Act.put, sqA, sqB, sqC]
          refine Seq.off 52 OK rfl rfl (fun _ _ _ h => h) (by kernel_rfl) hHeld ?_
          try simp only [Act.put, sqA, sqB, sqC]
          refine Seq.off 53 OK rfl rfl (fun _ _ _ h => h) (by kernel_rfl) hHeld ?_
          try simp only [Act.put, sqA, sqB, sqC]
          refine Seq.off 54 OK rfl rfl (fun _ _ _ h => h) (by kernel_rfl) hHeld ?_
          try simp only [Act.put, sqA, sqB, sqC]
          refine Seq.off 55 OK rfl rfl (fun _ _ _ h => h) (by kernel_rfl) hHeld ?_
          try simp only [Act.put, sqA, sqB, sqC]
          refine Seq.off 56 OK rfl rfl (fun _ _ _ h => h) (by kernel_rfl) hHeld ?_
          try simp only [Act.put, sqA, sqB, sqC]
          refine Seq.off 57 OK rfl rfl (fun _ _ _ h => h) (by kernel_rfl) hHeld ?_
          try simp only [Act.put, sqA, sqB, sqC]
          refine Seq.skip (i := 58) OK rfl rfl (by kernel_rfl) (by assumption) ?_
          try simp only [Act.put, sqA, sqB, sqC]
          refine Seq.take (i := 59) (v := ?_) OK rfl rfl (fun _ _ _ h => h) (Or.inl ⟨by kernel_rfl, ?_⟩) (by assumption) ?_
          rotate_left
          · (intro w hSw; (try dsimp only at hSw); go_simp; (try with_reducible rfl))
          try simp only [Act.put, sqA, sqB, sqC]
          refine Seq.take (i := 60) (v := ?_) OK rfl rfl (fun _ _ _ h => h) (Or.inl ⟨by kernel_rfl, ?_⟩) (by assumption) ?_
          rotate_left
          · (intro w hSw; (try dsimp only at hSw); go_simp; (try with_reducible rfl))
          try simp only [Act.put, sqA, sqB, sqC]
          refine Seq.off 61 OK rfl rfl (fun _ _ _ h => h) (by kernel_rfl) hHeld ?_
          try simp only [Act.put, sqA, sqB, sqC]
          refine Seq.off 62 OK rfl rfl (fun _ _ _ h => h) (by kernel_rfl) hHeld ?_
          try simp only [Act.put, sqA, sqB, sqC]
          refine Seq.off 63 OK rfl rfl (fun _ _ _ h => h) (by kernel_rfl) hHeld ?_
          try simp only [Act.put, sqA, sqB, sqC]
          refine Seq.off 64 OK rfl rfl (fun _ _ _ h => h) (by kernel_rfl) hHeld ?_
          try simp only [Act.put, sqA, sqB, sqC]
          refine Seq.off 65 OK rfl rfl (fun _ _ _ h => h) (by kernel_rfl) hHeld ?_
          try simp only [Act.put, sqA, sqB, sqC]
          refine Seq.off 66 OK rfl rfl (fun _ _ _ h => h) (by kernel_rfl) hHeld ?_
          try simp only [Act.put, sqA, sqB, sqC]
          refine Seq.off 67 OK rfl rfl (fun _ _ _ h => h) (by kernel_rfl) hHeld ?_
          try simp only [Act.put, sqA, sqB, sqC]
          refine Seq.off 68 OK rfl rfl (fun _ _ _ h => h) (by kernel_rfl) hHeld ?_
          try simp only [Act.put, sqA, sqB, sqC]
          refine Seq.off 69 OK rfl rfl (fun _ _ _ h => h) (by kernel_rfl) hHeld ?_
          try simp only [Act.put, sqA, sqB, sqC]
          refine Seq.skip (i := 70) OK rfl rfl (by kernel_rfl) (by assumption) ?_
          try simp only [Act.put, sqA, sqB, sqC]
          refine Seq.take (i := 71) (v := ?_) OK rfl rfl (fun _ _ _ h => h) (Or.inl ⟨by kernel_rfl, ?_⟩) (by assumption) ?_
          rotate_left
          · (intro w hSw; (try dsimp only at hSw); go_simp; (try with_reducible rfl))
          try simp only [Act.put, sqA, sqB, sqC]
          refine Seq.take (i := 72) (v := ?_) OK rfl rfl (fun _ _ _ h => h) (Or.inl ⟨by kernel_rfl, ?_⟩) (by assumption) ?_
          rotate_left
          · (intro w hSw; (try dsimp only at hSw); go_simp; (try with_reducible rfl))
          try simp only [Act.put, sqA, sqB, sqC]
          refine Seq.off 73 OK rfl rfl (fun _ _ _ h => h) (by kernel_rfl) hHeld ?_
          try simp only [Act.put, sqA, sqB, sqC]
          refine Seq.off 74 OK rfl rfl (fun _ _ _ h => h) (by kernel_rfl) hHeld ?_
          try simp only [Act.put, sqA, sqB, sqC]
          refine Seq.off 75 OK rfl rfl (fun _ _ _ h => h) (by kernel_rfl) hHeld ?_
          try simp only [Act.put, sqA, sqB, sqC]
          refine Seq.off 76 OK rfl rfl (fun _ _ _ h => h) (by kernel_rfl) hHeld ?_
          try simp only [Act.put, sqA, sqB, sqC]
          refine Seq.off 77 OK rfl rfl (fun _ _ _ h => h) (by kernel_rfl) hHeld ?_
          try simp only [Act.put, sqA, sqB, sqC]
          refine Seq.off 78 OK rfl rfl (fun _ _ _ h => h) (by kernel_rfl) hHeld ?_
          try simp only [Act.put, sqA, sqB, sqC]
          refine Seq.off 79 OK rfl rfl (fun _ _ _ h => h) (by kernel_rfl) hHeld ?_
          try simp only [Act.put, sqA, sqB, sqC]
          refine Seq.off 80 OK rfl rfl (fun _ _ _ h => h) (by kernel_rfl) hHeld ?_
          try simp only [Act.put, sqA, sqB, sqC]
          refine Seq.off 81 OK rfl rfl (fun _ _ _ h => h) (by kernel_rfl) hHeld ?_
          try simp only [Act.put, sqA, sqB, sqC]
          refine Seq.skip (i := 82) OK rfl rfl (by kernel_rfl) (by assumption) ?_
          try simp only [Act.put, sqA, sqB, sqC]
          refine Seq.take (i := 83) (v := ?_) OK rfl rfl (fun _ _ _ h => h) (Or.inl ⟨by kernel_rfl, ?_⟩) (by assumption) ?_
          rotate_left
          · (intro w hSw; (try dsimp only at hSw); go_simp; (try with_reducible rfl))
          try simp only [Act.put, sqA, sqB, sqC]
          refine Seq.take (i := 84) (v := ?_) OK rfl rfl (fun _ _ _ h => h) (Or.inl ⟨by kernel_rfl, ?_⟩) (by assumption) ?_
          rotate_left
          · (intro w hSw; (try dsimp only at hSw); go_simp; (try with_reducible rfl))
          try simp only [Act.put, sqA, sqB, sqC]
          refine Seq.done ?_
          have hf : (eqT t u && decide (k + sizeT t ≤ 65536)) = false := by
            cases hq : (eqT t u && decide (k + sizeT t ≤ 65536)) with
            | false => rfl
            | true =>
              exfalso
              rw [HEQ.out, HSZ.out] at hq
              simp only [Bool.and_eq_true, decide_eq_true_eq] at hq
              obtain ⟨⟨e0, e2, e3, e4, e5, e6, e7⟩, hs⟩ := hq
              rw [e4, decide_eq_true (by omega)] at hv; cases hv
          go_wp2_with fail
          refine bodyPost_ret ab18 rfl ?_
          exact cmp_false hf PW.out
      refine Seq.call (i := 46) OK rfl rfl (fun K hK => ?_)
      go_simp
      go_wp2_with (go_at_call 127; (with_reducible refine (C4.out _ PW.out PAq.out).mono ?_); rintro e w1 hC; obtain ⟨h1, hpa, hw⟩ := hC.yes V4; replace PW := Lib.hid (PW.out.trans hw); subst h1; replace PAq := Lib.hid hpa)
      refine hK.out _ _ ?_ (fun hHeld => ?_)
      · exact KEEP.out _ ab14
      clear hK K
      try simp only [Act.put, sqA, sqB, sqC]
      refine Seq.take (i := 47) (v := ?_) OK rfl rfl (fun _ _ _ h => h) (Or.inl ⟨by kernel_rfl, ?_⟩) (by assumption) ?_
      rotate_left
      · (intro w hSw; (try dsimp only at hSw); go_simp; (try with_reducible rfl))
      try simp only [Act.put, sqA, sqB, sqC]
      refine Seq.take (i := 48) (v := ?_) OK rfl rfl (fun _ _ _ h => h) (Or.inl ⟨by kernel_rfl, ?_⟩) (by assumption) ?_
      rotate_left
      · (intro w hSw; (try dsimp only at hSw); go_simp; (try with_reducible rfl))
      try simp only [Act.put, sqA, sqB, sqC]
      refine Seq.take (i := 49) (v := ?_) OK rfl rfl (fun _ _ _ h => h) (Or.inl ⟨by kernel_rfl, ?_⟩) (by assumption) ?_
      rotate_left
      · (intro w hSw; (try dsimp only at hSw); go_simp; (try with_reducible rfl))
      try simp only [Act.put, sqA, sqB, sqC]
      refine Seq.take (i := 50) (v := ?_) OK rfl rfl (fun _ _ _ h => h) (Or.inl ⟨by kernel_rfl, ?_⟩) (by assumption) ?_
      rotate_left
      · (intro w hSw; (try dsimp only at hSw); go_simp; (try with_reducible rfl))
      try simp only [Act.put, sqA, sqB, sqC]
      refine Seq.take (i := 51) (v := ?_) OK rfl rfl (fun _ _ _ h => h) (Or.inl ⟨by kernel_rfl, ?_⟩) (by assumption) ?_
      rotate_left
      · (intro w hSw; (try dsimp only at hSw); go_simp; (try with_reducible rfl))
      try simp only [Act.put, sqA, sqB, sqC]
      refine Seq.take (i := 52) (v := ?_) OK rfl rfl (fun _ _ _ h => h) (Or.inl ⟨by kernel_rfl, ?_⟩) (by assumption) ?_
      rotate_left
      · (intro w hSw; (try dsimp only at hSw); go_simp; (try with_reducible rfl))
      try simp only [Act.put, sqA, sqB, sqC]
      refine Seq.take (i := 53) (v := ?_) OK rfl rfl (fun _ _ _ h => h) (Or.inl ⟨by kernel_rfl, ?_⟩) (by assumption) ?_
      rotate_left
      · (intro w hSw; (try dsimp only at hSw); go_simp; (try with_reducible rfl))
      try simp only [Act.put, sqA, sqB, sqC]
      refine Seq.take (i := 54) (v := ?_) OK rfl rfl (fun _ _ _ h => h) (Or.inl ⟨by kernel_rfl, ?_⟩) (by assumption) ?_
      rotate_left
      · (intro w hSw; (try dsimp only at hSw); go_simp; (try with_reducible rfl))
      try simp only [Act.put, sqA, sqB, sqC]
      refine Seq.take (i := 55) (v := ?_) OK rfl rfl (fun _ _ _ h => h) (Or.inl ⟨by kernel_rfl, ?_⟩) (by assumption) ?_
      rotate_left
      · (intro w hSw; (try dsimp only at hSw); go_simp; (try with_reducible rfl))
      try simp only [Act.put, sqA, sqB, sqC]
      refine Seq.take (i := 56) (v := ?_) OK rfl rfl (fun _ _ _ h => h) (Or.inl ⟨by kernel_rfl, ?_⟩) (by assumption) ?_
      rotate_left
      · (intro w hSw; (try dsimp only at hSw); go_simp; (try with_reducible rfl))
      try simp only [Act.put, sqA, sqB, sqC]
      refine Seq.take (i := 57) (v := ?_) OK rfl rfl (fun _ _ _ h => h) (Or.inl ⟨by kernel_rfl, ?_⟩) (by assumption) ?_
      rotate_left
      · (intro w hSw; (try dsimp only at hSw); go_simp; (try with_reducible rfl))
      try simp only [Act.put, sqA, sqB, sqC]
      by_cases V5 : (eqT (toT t) (toT u) && decide ((((k + 1) + sizeT (leftT t)) + sizeT (rightT t)) + sizeT (toT t) ≤ 65536)) = true
      rotate_left
      · have hv : (eqT (toT t) (toT u) && decide ((((k + 1) + sizeT (leftT t)) + sizeT (rightT t)) + sizeT (toT t) ≤ 65536)) = false := by simpa only [Bool.not_eq_true] using V5
        refine Seq.call (i := 58) OK rfl rfl (fun K hK => ?_)
        go_simp
        go_wp2_with (go_at_call 127; (with_reducible refine (C5.out _ PW.out PAq.out).mono ?_); rintro e w1 hC; obtain ⟨h1, hw⟩ := hC.no hv; replace PW := Lib.hid (PW.out.trans hw); subst h1)
        refine hK.out _ _ ?_ (fun hHeld => ?_)
        · exact KEEP.out _ ab14
        clear hK K
        try simp only [Act.put, sqA, sqB, sqC]
        as_aux_lemma =>
          refine Seq.take (i := 59) (v := ?_) OK rfl rfl (fun _ _ _ h => h) (Or.inl ⟨by kernel_rfl, ?_⟩) (by assumption) ?_
          rotate_left
          · (intro w hSw; (try dsimp only at hSw); go_simp; (try with_reducible rfl))
          try simp only [Act.put, sqA, sqB, sqC]
          refine Seq.take (i := 60) (v := ?_) OK rfl rfl (fun _ _ _ h => h) (Or.inl ⟨by kernel_rfl, ?_⟩) (by assumption) ?_
          rotate_left
          · (intro w hSw; (try dsimp only at hSw); go_simp; (try with_reducible rfl))
          try simp only [Act.put, sqA, sqB, sqC]
          refine Seq.off 61 OK rfl rfl (fun _ _ _ h => h) (by kernel_rfl) hHeld ?_
          try simp only [Act.put, sqA, sqB, sqC]
          refine Seq.off 62 OK rfl rfl (fun _ _ _ h => h) (by kernel_rfl) hHeld ?_
          try simp only [Act.put, sqA, sqB, sqC]
          refine Seq.off 63 OK rfl rfl (fun _ _ _ h => h) (by kernel_rfl) hHeld ?_
          try simp only [Act.put, sqA, sqB, sqC]
          refine Seq.off 64 OK rfl rfl (fun _ _ _ h => h) (by kernel_rfl) hHeld ?_
          try simp only [Act.put, sqA, sqB, sqC]
          refine Seq.off 65 OK rfl rfl (fun _ _ _ h => h) (by kernel_rfl) hHeld ?_
          try simp only [Act.put, sqA, sqB, sqC]
          refine Seq.off 66 OK rfl rfl (fun _ _ _ h => h) (by kernel_rfl) hHeld ?_
          try simp only [Act.put, sqA, sqB, sqC]
          refine Seq.off 67 OK rfl rfl (fun _ _ _ h => h) (by kernel_rfl) hHeld ?_
          try simp only [Act.put, sqA, sqB, sqC]
          refine Seq.off 68 OK rfl rfl (fun _ _ _ h => h) (by kernel_rfl) hHeld ?_
          try simp only [Act.put, sqA, sqB, sqC]
          refine Seq.off 69 OK rfl rfl (fun _ _ _ h => h) (by kernel_rfl) hHeld ?_
          try simp only [Act.put, sqA, sqB, sqC]
          refine Seq.skip (i := 70) OK rfl rfl (by kernel_rfl) (by assumption) ?_
          try simp only [Act.put, sqA, sqB, sqC]
          refine Seq.take (i := 71) (v := ?_) OK rfl rfl (fun _ _ _ h => h) (Or.inl ⟨by kernel_rfl, ?_⟩) (by assumption) ?_
          rotate_left
          · (intro w hSw; (try dsimp only at hSw); go_simp; (try with_reducible rfl))
          try simp only [Act.put, sqA, sqB, sqC]
          refine Seq.take (i := 72) (v := ?_) OK rfl rfl (fun _ _ _ h => h) (Or.inl ⟨by kernel_rfl, ?_⟩) (by assumption) ?_
          rotate_left
          · (intro w hSw; (try dsimp only at hSw); go_simp; (try with_reducible rfl))
          try simp only [Act.put, sqA, sqB, sqC]
          refine Seq.off 73 OK rfl rfl (fun _ _ _ h => h) (by kernel_rfl) hHeld ?_
          try simp only [Act.put, sqA, sqB, sqC]
          refine Seq.off 74 OK rfl rfl (fun _ _ _ h => h) (by kernel_rfl) hHeld ?_
          try simp only [Act.put, sqA, sqB, sqC]
          refine Seq.off 75 OK rfl rfl (fun _ _ _ h => h) (by kernel_rfl) hHeld ?_
          try simp only [Act.put, sqA, sqB, sqC]
          refine Seq.off 76 OK rfl rfl (fun _ _ _ h => h) (by kernel_rfl) hHeld ?_
          try simp only [Act.put, sqA, sqB, sqC]
          refine Seq.off 77 OK rfl rfl (fun _ _ _ h => h) (by kernel_rfl) hHeld ?_
          try simp only [Act.put, sqA, sqB, sqC]
          refine Seq.off 78 OK rfl rfl (fun _ _ _ h => h) (by kernel_rfl) hHeld ?_
          try simp only [Act.put, sqA, sqB, sqC]
          refine Seq.off 79 OK rfl rfl (fun _ _ _ h => h) (by kernel_rfl) hHeld ?_
          try simp only [Act.put, sqA, sqB, sqC]
          refine Seq.off 80 OK rfl rfl (fun _ _ _ h => h) (by kernel_rfl) hHeld ?_
          try simp only [Act.put, sqA, sqB, sqC]
          refine Seq.off 81 OK rfl rfl (fun _ _ _ h => h) (by kernel_rfl) hHeld ?_
          try simp only [Act.put, sqA, sqB, sqC]
          refine Seq.skip (i := 82) OK rfl rfl (by kernel_rfl) (by assumption) ?_
          try simp only [Act.put, sqA, sqB, sqC]
          refine Seq.take (i := 83) (v := ?_) OK rfl rfl (fun _ _ _ h => h) (Or.inl ⟨by kernel_rfl, ?_⟩) (by assumption) ?_
          rotate_left
          · (intro w hSw; (try dsimp only at hSw); go_simp; (try with_reducible rfl))
          try simp only [Act.put, sqA, sqB, sqC]
          refine Seq.take (i := 84) (v := ?_) OK rfl rfl (fun _ _ _ h => h) (Or.inl ⟨by kernel_rfl, ?_⟩) (by assumption) ?_
          rotate_left
          · (intro w hSw; (try dsimp only at hSw); go_simp; (try with_reducible rfl))
          try simp only [Act.put, sqA, sqB, sqC]
          refine Seq.done ?_
          have hf : (eqT t u && decide (k + sizeT t ≤ 65536)) = false := by
            cases hq : (eqT t u && decide (k + sizeT t ≤ 65536)) with
            | false => rfl
            | true =>
              exfalso
              rw [HEQ.out, HSZ.out] at hq
              simp only [Bool.and_eq_true, decide_eq_true_eq] at hq
              obtain ⟨⟨e0, e2, e3, e4, e5, e6, e7⟩, hs⟩ := hq
              rw [e5, decide_eq_true (by omega)] at hv; cases hv
          go_wp2_with fail
          refine bodyPost_ret ab18 rfl ?_
          exact cmp_false hf PW.out
      refine Seq.call (i := 58) OK rfl rfl (fun K hK => ?_)
      go_simp
      go_wp2_with (go_at_call 127; (with_reducible refine (C5.out _ PW.out PAq.out).mono ?_); rintro e w1 hC; obtain ⟨h1, hpa, hw⟩ := hC.yes V5; replace PW := Lib.hid (PW.out.trans hw); subst h1; replace PAq := Lib.hid hpa)
      refine hK.out _ _ ?_ (fun hHeld => ?_)
      · exact KEEP.out _ ab14
      clear hK K
      try simp only [Act.put, sqA, sqB, sqC]
      refine Seq.take (i := 59) (v := ?_) OK rfl rfl (fun _ _ _ h => h) (Or.inl ⟨by kernel_rfl, ?_⟩) (by assumption) ?_
      rotate_left
      · (intro w hSw; (try dsimp only at hSw); go_simp; (try with_reducible rfl))
      try simp only [Act.put, sqA, sqB, sqC]
      refine Seq.take (i := 60) (v := ?_) OK rfl rfl (fun _ _ _ h => h) (Or.inl ⟨by kernel_rfl, ?_⟩) (by assumption) ?_
      rotate_left
      · (intro w hSw; (try dsimp only at hSw); go_simp; (try with_reducible rfl))
      try simp only [Act.put, sqA, sqB, sqC]
      refine Seq.take (i := 61) (v := ?_) OK rfl rfl (fun _ _ _ h => h) (Or.inl ⟨by kernel_rfl, ?_⟩) (by assumption) ?_
      rotate_left
      · (intro w hSw; (try dsimp only at hSw); go_simp; (try with_reducible rfl))
      try simp only [Act.put, sqA, sqB, sqC]
      refine Seq.take (i := 62) (v := ?_) OK rfl rfl (fun _ _ _ h => h) (Or.inl ⟨by kernel_rfl, ?_⟩) (by assumption) ?_
      rotate_left
      · (intro w hSw; (try dsimp only at hSw); go_simp; (try with_reducible rfl))
      try simp only [Act.put, sqA, sqB, sqC]
      refine Seq.take (i := 63) (v := ?_) OK rfl rfl (fun _ _ _ h => h) (Or.inl ⟨by kernel_rfl, ?_⟩) (by assumption) ?_
      rotate_left
      · (intro w hSw; (try dsimp only at hSw); go_simp; (try with_reducible rfl))
      try simp only [Act.put, sqA, sqB, sqC]
      refine Seq.take (i := 64) (v := ?_) OK rfl rfl (fun _ _ _ h => h) (Or.inl ⟨by kernel_rfl, ?_⟩) (by assumption) ?_
      rotate_left
      · (intro w hSw; (try dsimp only at hSw); go_simp; (try with_reducible rfl))
      try simp only [Act.put, sqA, sqB, sqC]
      refine Seq.take (i := 65) (v := ?_) OK rfl rfl (fun _ _ _ h => h) (Or.inl ⟨by kernel_rfl, ?_⟩) (by assumption) ?_
      rotate_left
      · (intro w hSw; (try dsimp only at hSw); go_simp; (try with_reducible rfl))
      try simp only [Act.put, sqA, sqB, sqC]
      refine Seq.take (i := 66) (v := ?_) OK rfl rfl (fun _ _ _ h => h) (Or.inl ⟨by kernel_rfl, ?_⟩) (by assumption) ?_
      rotate_left
      · (intro w hSw; (try dsimp only at hSw); go_simp; (try with_reducible rfl))
      try simp only [Act.put, sqA, sqB, sqC]
      refine Seq.take (i := 67) (v := ?_) OK rfl rfl (fun _ _ _ h => h) (Or.inl ⟨by kernel_rfl, ?_⟩) (by assumption) ?_
      rotate_left
      · (intro w hSw; (try dsimp only at hSw); go_simp; (try with_reducible rfl))
      try simp only [Act.put, sqA, sqB, sqC]
      refine Seq.take (i := 68) (v := ?_) OK rfl rfl (fun _ _ _ h => h) (Or.inl ⟨by kernel_rfl, ?_⟩) (by assumption) ?_
      rotate_left
      · (intro w hSw; (try dsimp only at hSw); go_simp; (try with_reducible rfl))
      try simp only [Act.put, sqA, sqB, sqC]
      refine Seq.take (i := 69) (v := ?_) OK rfl rfl (fun _ _ _ h => h) (Or.inl ⟨by kernel_rfl, ?_⟩) (by assumption) ?_
      rotate_left
      · (intro w hSw; (try dsimp only at hSw); go_simp; (try with_reducible rfl))
      try simp only [Act.put, sqA, sqB, sqC]
      by_cases V6 : (eqT (aT t) (aT u) && decide (((((k + 1) + sizeT (leftT t)) + sizeT (rightT t)) + sizeT (toT t)) + sizeT (aT t) ≤ 65536)) = true
      rotate_left
      · have hv : (eqT (aT t) (aT u) && decide (((((k + 1) + sizeT (leftT t)) + sizeT (rightT t)) + sizeT (toT t)) + sizeT (aT t) ≤ 65536)) = false := by simpa only [Bool.not_eq_true] using V6
        refine Seq.call (i := 70) OK rfl rfl (fun K hK => ?_)
        go_simp
        go_wp2_with (go_at_call 40; (with_reducible refine (C6.out _ PW.out PAq.out).mono ?_); rintro e w1 hC; obtain ⟨h1, hw⟩ := hC.no hv; replace PW := Lib.hid (PW.out.trans hw); subst h1)
        refine hK.out _ _ ?_ (fun hHeld => ?_)
        · exact KEEP.out _ ab14
        clear hK K
        try simp only [Act.put, sqA, sqB, sqC]
        as_aux_lemma =>
          refine Seq.take (i := 71) (v := ?_) OK rfl rfl (fun _ _ _ h => h) (Or.inl ⟨by kernel_rfl, ?_⟩) (by assumption) ?_
          rotate_left
          · (intro w hSw; (try dsimp only at hSw); go_simp; (try with_reducible rfl))
          try simp only [Act.put, sqA, sqB, sqC]
          refine Seq.take (i := 72) (v := ?_) OK rfl rfl (fun _ _ _ h => h) (Or.inl ⟨by kernel_rfl, ?_⟩) (by assumption) ?_
          rotate_left
          · (intro w hSw; (try dsimp only at hSw); go_simp; (try with_reducible rfl))
          try simp only [Act.put, sqA, sqB, sqC]
          refine Seq.off 73 OK rfl rfl (fun _ _ _ h => h) (by kernel_rfl) hHeld ?_
          try simp only [Act.put, sqA, sqB, sqC]
          refine Seq.off 74 OK rfl rfl (fun _ _ _ h => h) (by kernel_rfl) hHeld ?_
          try simp only [Act.put, sqA, sqB, sqC]
          refine Seq.off 75 OK rfl rfl (fun _ _ _ h => h) (by kernel_rfl) hHeld ?_
          try simp only [Act.put, sqA, sqB, sqC]
          refine Seq.off 76 OK rfl rfl (fun _ _ _ h => h) (by kernel_rfl) hHeld ?_
          try simp only [Act.put, sqA, sqB, sqC]
          refine Seq.off 77 OK rfl rfl (fun _ _ _ h => h) (by kernel_rfl) hHeld ?_
          try simp only [Act.put, sqA, sqB, sqC]
          refine Seq.off 78 OK rfl rfl (fun _ _ _ h => h) (by kernel_rfl) hHeld ?_
          try simp only [Act.put, sqA, sqB, sqC]
          refine Seq.off 79 OK rfl rfl (fun _ _ _ h => h) (by kernel_rfl) hHeld ?_
          try simp only [Act.put, sqA, sqB, sqC]
          refine Seq.off 80 OK rfl rfl (fun _ _ _ h => h) (by kernel_rfl) hHeld ?_
          try simp only [Act.put, sqA, sqB, sqC]
          refine Seq.off 81 OK rfl rfl (fun _ _ _ h => h) (by kernel_rfl) hHeld ?_
          try simp only [Act.put, sqA, sqB, sqC]
          refine Seq.skip (i := 82) OK rfl rfl (by kernel_rfl) (by assumption) ?_
          try simp only [Act.put, sqA, sqB, sqC]
          refine Seq.take (i := 83) (v := ?_) OK rfl rfl (fun _ _ _ h => h) (Or.inl ⟨by kernel_rfl, ?_⟩) (by assumption) ?_
          rotate_left
          · (intro w hSw; (try dsimp only at hSw); go_simp; (try with_reducible rfl))
          try simp only [Act.put, sqA, sqB, sqC]
          refine Seq.take (i := 84) (v := ?_) OK rfl rfl (fun _ _ _ h => h) (Or.inl ⟨by kernel_rfl, ?_⟩) (by assumption) ?_
          rotate_left
          · (intro w hSw; (try dsimp only at hSw); go_simp; (try with_reducible rfl))
          try simp only [Act.put, sqA, sqB, sqC]
          refine Seq.done ?_
          have hf : (eqT t u && decide (k + sizeT t ≤ 65536)) = false := by
            cases hq : (eqT t u && decide (k + sizeT t ≤ 65536)) with
            | false => rfl
            | true =>
              exfalso
              rw [HEQ.out, HSZ.out] at hq
              simp only [Bool.and_eq_true, decide_eq_true_eq] at hq
              obtain ⟨⟨e0, e2, e3, e4, e5, e6, e7⟩, hs⟩ := hq
              rw [e6, decide_eq_true (by omega)] at hv; cases hv
          go_wp2_with fail
          refine bodyPost_ret ab18 rfl ?_
          exact cmp_false hf PW.out
      refine Seq.call (i := 70) OK rfl rfl (fun K hK => ?_)
      go_simp
      go_wp2_with (go_at_call 40; (with_reducible refine (C6.out _ PW.out PAq.out).mono ?_); rintro e w1 hC; obtain ⟨h1, hpa, hw⟩ := hC.yes V6; replace PW := Lib.hid (PW.out.trans hw); subst h1; replace PAq := Lib.hid hpa)
      refine hK.out _ _ ?_ (fun hHeld => ?_)
      · exact KEEP.out _ ab14
      clear hK K
      try simp only [Act.put, sqA, sqB, sqC]
      refine Seq.take (i := 71) (v := ?_) OK rfl rfl (fun _ _ _ h => h) (Or.inl ⟨by kernel_rfl, ?_⟩) (by assumption) ?_
      rotate_left
      · (intro w hSw; (try dsimp only at hSw); go_simp; (try with_reducible rfl))
      try simp only [Act.put, sqA, sqB, sqC]
      refine Seq.take (i := 72) (v := ?_) OK rfl rfl (fun _ _ _ h => h) (Or.inl ⟨by kernel_rfl, ?_⟩) (by assumption) ?_
      rotate_left
      · (intro w hSw; (try dsimp only at hSw); go_simp; (try with_reducible rfl))
      try simp only [Act.put, sqA, sqB, sqC]
      refine Seq.take (i := 73) (v := ?_) OK rfl rfl (fun _ _ _ h => h) (Or.inl ⟨by kernel_rfl, ?_⟩) (by assumption) ?_
      rotate_left
      · (intro w hSw; (try dsimp only at hSw); go_simp; (try with_reducible rfl))
      try simp only [Act.put, sqA, sqB, sqC]
      refine Seq.take (i := 74) (v := ?_) OK rfl rfl (fun _ _ _ h => h) (Or.inl ⟨by kernel_rfl, ?_⟩) (by assumption) ?_
      rotate_left
      · (intro w hSw; (try dsimp only at hSw); go_simp; (try with_reducible rfl))
      try simp only [Act.put, sqA, sqB, sqC]
      refine Seq.take (i := 75) (v := ?_) OK rfl rfl (fun _ _ _ h => h) (Or.inl ⟨by kernel_rfl, ?_⟩) (by assumption) ?_
      rotate_left
      · (intro w hSw; (try dsimp only at hSw); go_simp; (try with_reducible rfl))
      try simp only [Act.put, sqA, sqB, sqC]
      refine Seq.take (i := 76) (v := ?_) OK rfl rfl (fun _ _ _ h => h) (Or.inl ⟨by kernel_rfl, ?_⟩) (by assumption) ?_
      rotate_left
      · (intro w hSw; (try dsimp only at hSw); go_simp; (try with_reducible rfl))
      try simp only [Act.put, sqA, sqB, sqC]
      refine Seq.take (i := 77) (v := ?_) OK rfl rfl (fun _ _ _ h => h) (Or.inl ⟨by kernel_rfl, ?_⟩) (by assumption) ?_
      rotate_left
      · (intro w hSw; (try dsimp only at hSw); go_simp; (try with_reducible rfl))
      try simp only [Act.put, sqA, sqB, sqC]
      refine Seq.take (i := 78) (v := ?_) OK rfl rfl (fun _ _ _ h => h) (Or.inl ⟨by kernel_rfl, ?_⟩) (by assumption) ?_
      rotate_left
      · (intro w hSw; (try dsimp only at hSw); go_simp; (try with_reducible rfl))
      try simp only [Act.put, sqA, sqB, sqC]
      refine Seq.take (i := 79) (v := ?_) OK rfl rfl (fun _ _ _ h => h) (Or.inl ⟨by kernel_rfl, ?_⟩) (by assumption) ?_
      rotate_left
      · (intro w hSw; (try dsimp only at hSw); go_simp; (try with_reducible rfl))
      try simp only [Act.put, sqA, sqB, sqC]
      refine Seq.take (i := 80) (v := ?_) OK rfl rfl (fun _ _ _ h => h) (Or.inl ⟨by kernel_rfl, ?_⟩) (by assumption) ?_
      rotate_left
      · (intro w hSw; (try dsimp only at hSw); go_simp; (try with_reducible rfl))
      try simp only [Act.put, sqA, sqB, sqC]
      refine Seq.take (i := 81) (v := ?_) OK rfl rfl (fun _ _ _ h => h) (Or.inl ⟨by kernel_rfl, ?_⟩) (by assumption) ?_
      rotate_left
      · (intro w hSw; (try dsimp only at hSw); go_simp; (try with_reducible rfl))
      try simp only [Act.put, sqA, sqB, sqC]
      by_cases V7 : (eqT (bT t) (bT u) && decide ((((((k + 1) + sizeT (leftT t)) + sizeT (rightT t)) + sizeT (toT t)) + sizeT (aT t)) + sizeT (bT t) ≤ 65536)) = true
      rotate_left
      · have hv : (eqT (bT t) (bT u) && decide ((((((k + 1) + sizeT (leftT t)) + sizeT (rightT t)) + sizeT (toT t)) + sizeT (aT t)) + sizeT (bT t) ≤ 65536)) = false := by simpa only [Bool.not_eq_true] using V7
        refine Seq.call (i := 82) OK rfl rfl (fun K hK => ?_)
        go_simp
        go_wp2_with (go_at_call 40; (with_reducible refine (C7.out _ PW.out PAq.out).mono ?_); rintro e w1 hC; obtain ⟨h1, hw⟩ := hC.no hv; replace PW := Lib.hid (PW.out.trans hw); subst h1)
        refine hK.out _ _ ?_ (fun hHeld => ?_)
        · exact KEEP.out _ ab14
        clear hK K
        try simp only [Act.put, sqA, sqB, sqC]
        as_aux_lemma =>
          refine Seq.take (i := 83) (v := ?_) OK rfl rfl (fun _ _ _ h => h) (Or.inl ⟨by kernel_rfl, ?_⟩) (by assumption) ?_
          rotate_left
          · (intro w hSw; (try dsimp only at hSw); go_simp; (try with_reducible rfl))
          try simp only [Act.put, sqA, sqB, sqC]
          refine Seq.take (i := 84) (v := ?_) OK rfl rfl (fun _ _ _ h => h) (Or.inl ⟨by kernel_rfl, ?_⟩) (by assumption) ?_
          rotate_left
          · (intro w hSw; (try dsimp only at hSw); go_simp; (try with_reducible rfl))
          try simp only [Act.put, sqA, sqB, sqC]
          refine Seq.done ?_
          have hf : (eqT t u && decide (k + sizeT t ≤ 65536)) = false := by
            cases hq : (eqT t u && decide (k + sizeT t ≤ 65536)) with
            | false => rfl
            | true =>
              exfalso
              rw [HEQ.out, HSZ.out] at hq
              simp only [Bool.and_eq_true, decide_eq_true_eq] at hq
              obtain ⟨⟨e0, e2, e3, e4, e5, e6, e7⟩, hs⟩ := hq
              rw [e7, decide_eq_true (by omega)] at hv; cases hv
          go_wp2_with fail
          refine bodyPost_ret ab18 rfl ?_
          exact cmp_false hf PW.out
      refine Seq.call (i := 82) OK rfl rfl (fun K hK => ?_)
      go_simp
      go_wp2_with (go_at_call 40; (with_reducible refine (C7.out _ PW.out PAq.out).mono ?_); rintro e w1 hC; obtain ⟨h1, hpa, hw⟩ := hC.yes V7; replace PW := Lib.hid (PW.out.trans hw); subst h1; replace PAq := Lib.hid hpa)
      refine hK.out _ _ ?_ (fun hHeld => ?_)
      · exact KEEP.out _ ab14
      clear hK K
      try simp only [Act.put, sqA, sqB, sqC]
      refine Seq.take (i := 83) (v := ?_) OK rfl rfl (fun _ _ _ h => h) (Or.inl ⟨by kernel_rfl, ?_⟩) (by assumption) ?_
      rotate_left
      · (intro w hSw; (try dsimp only at hSw); go_simp; (try with_reducible rfl))
      try simp only [Act.put, sqA, sqB, sqC]
      refine Seq.take (i := 84) (v := ?_) OK rfl rfl (fun _ _ _ h => h) (Or.inl ⟨by kernel_rfl, ?_⟩) (by assumption) ?_
      rotate_left
      · (intro w hSw; (try dsimp only at hSw); go_simp; (try with_reducible rfl))
      try simp only [Act.put, sqA, sqB, sqC]
      refine Seq.done ?_
      have hall : eqT t u = true := by rw [HEQ.out]; simp only [Bool.and_eq_true] at *; exact ⟨V0, V2, V3.1, V4.1, V5.1, V6.1, V7.1⟩
      go_wp2_with fail
      refine bodyPost_ret ab18 rfl ?_
      refine cmp_true hall ?_ PW.out
      have e := HSZ.out
      have e2 : k + sizeT t = ((((((k + 1) + sizeT (leftT t)) + sizeT (rightT t)) + sizeT (toT t)) + sizeT (aT t)) + sizeT (bT t)) := by omega
      rw [e2]
      exact PAq.out
end Go.Proofs.YtoggkigfijgbfaaGreatDoor.P6
