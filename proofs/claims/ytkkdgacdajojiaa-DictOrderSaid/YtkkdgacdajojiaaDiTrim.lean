/- trim: the nils that end the array go. -/
import Derived.Test.YtkkdgacdajojiaaBase
import Derived.Test.YtkkdgacdajojiaaDiRow
namespace Go.Proofs.Ytkkdgacdajojiaa
set_option maxRecDepth 20000
set_option maxRecDepth 20000
open Go.RowKit Go.Maps Go.Sort Go.BigFrame

theorem run_slice2 (w : World) (a : Addr) (ha : a.add 0 = a) (N c n : Nat) (h : n ≤ c) : (Instr.slice 22 (.slice (some a) N c) none (some (iV n)) (some (iV n))).run Try.prog w = .ok (.slice (some a) n n) w := by
  have hs := size_val
  cases hq : Try.prog.info? 24 with
  | none => simp [hq] at hs
  | some i =>
    have e1 : ∀ (x y : Nat) (code : BoundsCode), x ≤ y → (Instr.sliceBound (iV x) y code).run Try.prog w = .ok x w := fun x y code h => by
      simp [Instr.sliceBound, asIntOf, h]
    simp [Instr.slice, Instr.sliceBounds, run_underlying Try.underlying22, e1, h, sizeOf, typeInfo, hq, Result.andThen, ha]
theorem trim_snoc_nil (B : List VV) : trimA (B ++ [nilP]) = trimA B := by
  induction B with
  | nil => rfl
  | cons v r ih => simp only [List.cons_append, trimA, ih]
theorem trim_snoc {B : List VV} {x : VV} (h : x ≠ nilP) : trimA (B ++ [x]) = B ++ [x] := trim_id _ (by simpa using h)
/-- What is written is of the table's struct alone. -/
theorem TabAt.setSlot {w : World} {tp ga oa ca gp op cp mb N : Nat} {t : Tab} (h : TabAt w tp ga oa ca gp op cp mb t N) {B : List VV} (hB : B = trimA t.arr) : TabAt (w.setCell ⟨tp, 2, none⟩ (.slice (some ⟨ga, oa, none⟩) B.length B.length)) tp ga oa B.length gp op cp mb { t with arr := B } N := by
  obtain ⟨a1, a2, a3, a4, a5⟩ := h.apt
  have hz : B.length ≤ t.arr.length := by rw [hB]; exact trim_len _
  obtain ⟨z, hz2⟩ := trim_pre t.arr
  refine ⟨?_, ?_, h.prs.keep (Below.heap_setCell _ _ _ _ (Ne.symm a2)), h.map.keep (Below.heap_setCell _ _ _ _ (Ne.symm a3)), ?_, ⟨h.small.1, by have := h.small.2.1; simp only; omega, h.small.2.2⟩⟩
  · rw [setCell_eq_setRow w tp 2 _ _ _ _ h.self, setRow_heap w tp _ _ _ _ h.self]
    rfl
  · refine RowV.keep ?_ (Below.heap_setCell _ _ _ _ (Ne.symm a1))
    have hr := h.arr
    rw [hz2, ← hB] at hr
    have h1 := h.arr.room
    exact hr.part (Nat.le_refl _) (by omega)
  · have := h.apart
    have h1 := h.arr.room
    rcases this with h | h | h
    · exact .inl h
    · exact .inr (.inl (by omega))
    · exact .inr (.inr h)
set_option maxHeartbeats 2000000 in
theorem trim_any {w : World} {tp ga oa ca gp op cp mb N : Nat} {t : Tab} (h : TabAt w tp ga oa ca gp op cp mb t N) :
    Calls Try.prog 85 #[bV tp] w fun e w' => e = .returned (.tuple #[]) ∧ ∃ wx, Below w.heap.size w wx ∧ w' = wx.setCell ⟨tp, 2, none⟩ (.slice (some ⟨ga, oa, none⟩) (trimA t.arr).length (trimA t.arr).length) := by
  have H : Hid (∀ W, Below w.heap.size w W → TabAt W tp ga oa ca gp op cp mb t N) := fun W hb => h.below hb
  have c2 := h.cells.2.2.1
  have hs := h.small.2.1
  have hcap := h.arr.room
  have hmax := h.arr.max
  have S1 : ∀ (n : Nat) (W : World), n ≤ ca → (Instr.slice 22 (.slice (some ⟨ga, oa, none⟩) t.arr.length ca) none (some (iV n)) (some (iV n))).run Try.prog W = .ok (.slice (some ⟨ga, oa, none⟩) n n) W := fun n W hn => run_slice2 W ⟨ga, oa, none⟩ (by simp [Addr.add]) _ _ n hn
  generalize hA : t.arr = A at *
  obtain ⟨n, hn⟩ : ∃ n, n = A.length := ⟨_, rfl⟩
  rw [← hn] at c2 hs hcap S1
  have SL := Lib.hid S1
  have HA := Lib.hid hA
  have HN := Lib.hid hn
  have cN := null_re
  clear h hn hA S1
  go_enter Try.func85, Try.ntmps85
  go_wp2
  go_loopg [2] n (fun m i wr => m ≤ n ∧ i = Value.int .i64 (m : Int) ∧ Hid (trimA A = trimA (A.take m)) ∧ Hid (Below w.heap.size w wr))
  case atStart => exact ⟨Nat.le_refl _, rfl, by rw [HN.out, List.take_length]; exact rfl, Below.refl _ _⟩
  case round =>
    obtain ⟨hk, rfl, T, B⟩ := hrel
    have e2 := (H.out _ B.out).cells.2.2.1
    rw [HA.out, ← HN.out] at e2
    have k2 := fun d os => cell_regrown e2 d os
    have l1 := mem_block_lt (H.out _ B.out).self
    clear e2
    by_cases h0 : gk = 0
    · have E : Hid ((trimA A).length = gk) := Lib.hid (by rw [T.out, h0]; simp [trimA])
      have k4 : decide ((0 : Int) < (gk : Int)) = false := decide_eq_false (by omega)
      have k5 : decide (0 < gk) = false := decide_eq_false (by omega)
      clear h0
      go_wp2_with fail
      refine wp_region_quiet_below (by kernel_rfl) (by kernel_rfl) ?_
      repeat (go_big_quiet_step (fail))
      refine wpQuiet_nil ?_
      intro w3 ⟨⟨dq, osq⟩, hw3⟩
      have B3 : Hid (Below wr.heap.size wr w3) := by rw [hw3]; exact below_regrown wr dq osq
      clear hw3
      have BB : Hid (Below w.heap.size w w3) := B.out.trans (B3.out.mono B.out.size)
      have e3 := (H.out _ BB.out).cells.2.2.1
      have f3 := (H.out _ BB.out).froz 2
      rw [HA.out, ← HN.out] at e3
      have s1 := SL.out gk w3 (by omega)
      go_wp2_with fail
      refine bodyPost_end (results_none rfl _ _ _) rfl ?_
      exact ⟨rfl, w3, BB.out, by rw [E.out]⟩
    · obtain ⟨x, hx⟩ : ∃ x, A[gk - 1]? = some x := ⟨_, List.getElem?_eq_getElem (by rw [← HN.out]; omega)⟩
      have TK : Hid (A.take gk = A.take (gk - 1) ++ [x]) := Lib.hid (by
        have := List.take_add_one (l := A) (i := gk - 1)
        rw [show gk - 1 + 1 = gk by omega, hx] at this
        exact this)
      have hr := (H.out _ B.out).arr
      rw [HA.out] at hr
      obtain ⟨d0, d1⟩ := hr.at hx
      have y0 := fun d os => cell_regrown d0 d os
      have y1 := fun d os => cell_regrown d1 d os
      have q1 : IntKind.i64.wrap ((gk : Int) - 1) = (gk : Int) - 1 := IntWalk.i64_in _ (by omega)
      have q2 : (0 : Int) ≤ (gk : Int) - 1 := by omega
      have q3 : (gk : Int) - 1 < (n : Int) := by omega
      have q4 : ((gk : Int) - 1).toNat = gk - 1 := by omega
      have q5 : (0 : Int) < (gk : Int) := by omega
      have q6 : 0 < gk := by omega
      have q7 : 1 ≤ gk := by omega
      obtain ⟨x1, x2⟩ := x
      clear d0 d1 hr hx h0
      by_cases z1 : x1 = 1
      · subst z1
        by_cases z2 : x2 = 0
        · subst z2
          go_wp2_with fail
          refine wp_region_quiet_below (by kernel_rfl) (by kernel_rfl) ?_
          repeat (go_big_quiet_step (exact cN _ _ _))
          refine wpQuiet_nil ?_
          intro w3 ⟨⟨dq, osq⟩, hw3⟩
          have B3 : Hid (Below wr.heap.size wr w3) := by rw [hw3]; exact below_regrown wr dq osq
          clear hw3
          go_wp2_with fail
          go_roundg (gk - 1)
          case measure => omega
          case rel => exact ⟨by omega, congrArg (Value.int .i64) (by omega), Lib.hid (by rw [T.out, TK.out]; exact trim_snoc_nil _), B.out.trans (B3.out.mono B.out.size)⟩
        · have z3 := not_eq z2
          have E : Hid ((trimA A).length = gk) := Lib.hid (by rw [T.out, TK.out, trim_snoc (by simp [nilP, z2]), ← TK.out, List.length_take]; have := HN.out; omega)
          clear z2
          go_wp2_with fail
          refine wp_region_quiet_below (by kernel_rfl) (by kernel_rfl) ?_
          repeat (go_big_quiet_step (exact cN _ _ _))
          refine wpQuiet_nil ?_
          intro w3 ⟨⟨dq, osq⟩, hw3⟩
          have B3 : Hid (Below wr.heap.size wr w3) := by rw [hw3]; exact below_regrown wr dq osq
          clear hw3
          have BB : Hid (Below w.heap.size w w3) := B.out.trans (B3.out.mono B.out.size)
          have e3 := (H.out _ BB.out).cells.2.2.1
          have f3 := (H.out _ BB.out).froz 2
          rw [HA.out, ← HN.out] at e3
          have s1 := SL.out gk w3 (by omega)
          go_wp2_with fail
          refine bodyPost_end (results_none rfl _ _ _) rfl ?_
          exact ⟨rfl, w3, BB.out, by rw [E.out]⟩
      · have z3 := not_eq z1
        have E : Hid ((trimA A).length = gk) := Lib.hid (by rw [T.out, TK.out, trim_snoc (by simp [nilP, z1]), ← TK.out, List.length_take]; have := HN.out; omega)
        clear z1
        go_wp2_with fail
        refine wp_region_quiet_below (by kernel_rfl) (by kernel_rfl) ?_
        repeat (go_big_quiet_step (exact cN _ _ _))
        refine wpQuiet_nil ?_
        intro w3 ⟨⟨dq, osq⟩, hw3⟩
        have B3 : Hid (Below wr.heap.size wr w3) := by rw [hw3]; exact below_regrown wr dq osq
        clear hw3
        have BB : Hid (Below w.heap.size w w3) := B.out.trans (B3.out.mono B.out.size)
        have e3 := (H.out _ BB.out).cells.2.2.1
        have f3 := (H.out _ BB.out).froz 2
        rw [HA.out, ← HN.out] at e3
        have s1 := SL.out gk w3 (by omega)
        go_wp2_with fail
        refine bodyPost_end (results_none rfl _ _ _) rfl ?_
        exact ⟨rfl, w3, BB.out, by rw [E.out]⟩
end Go.Proofs.Ytkkdgacdajojiaa
