/- arrayMay: may the array's values be, and is the last one not nil? -/
import Derived.Test.YtkkdgacdajojiaaBase
import Derived.Test.YtkkdgacdajojiaaDiHead
namespace Go.Proofs.Ytkkdgacdajojiaa
set_option maxRecDepth 20000
set_option maxRecDepth 20000
open Go.RowKit Go.Maps Go.Sort Go.BigFrame

def arrB (A : List VV) : Bool := decide ((∀ v ∈ A, elemOk v = true) ∧ A.getLast? ≠ some nilP)
/-- A struct of slots whose array is that row. -/
structure ArrIn (w : World) (tp ga oa ca : Nat) (A : List VV) : Prop where
  c2 : w.cell? ⟨tp, 2, none⟩ = some (.slice (some ⟨ga, oa, none⟩) A.length ca)
  row : RowV w ga oa ca A
  lt : tp < w.heap.size
  small : A.length ≤ 1073741824
theorem ArrIn.below {w w' : World} {tp ga oa ca : Nat} {A : List VV} (h : ArrIn w tp ga oa ca A) (hb : Below w.heap.size w w') : ArrIn w' tp ga oa ca A :=
  ⟨(hb.cell (p := ⟨tp, 2, none⟩) h.lt).trans h.c2, h.row.keep (hb.block ga h.row.lt), Nat.lt_of_lt_of_le h.lt hb.size, h.small⟩
theorem may_ok {w : World} {k n : Int} {b : Bool} (h : mayB k n = b) : Calls Try.prog 58 #[.agg #[.int .i64 k, .int .i64 n]] w fun e w' => e = .returned (.bool b) ∧ Below w.heap.size w w' := h ▸ May_any k n w
set_option maxHeartbeats 2000000 in
theorem arrayMay_any {w : World} {tp ga oa ca : Nat} {A : List VV} (h : ArrIn w tp ga oa ca A) :
    Calls Try.prog 80 #[bV tp] w fun e w' => e = .returned (.bool (arrB A)) ∧ Below w.heap.size w w' := by
  have c2 := h.c2
  have H : Hid (∀ wr, Below w.heap.size w wr → ArrIn wr tp ga oa ca A) := fun wr hb => h.below hb
  have hs := h.small
  have hcap := h.row.room
  have hmax := h.row.max
  obtain ⟨n, hn⟩ : ∃ n, n = A.length := ⟨_, rfl⟩
  rw [← hn] at c2 hs hcap
  have HN := Lib.hid hn
  clear h hn
  go_enter Try.func80, Try.ntmps80
  go_wp2
  go_loopw [11] (fun i wr => ∃ k : Nat, k ≤ n ∧ i = .int .i64 k ∧ (∀ v ∈ A.take k, elemOk v = true) ∧ Below w.heap.size w wr) (fun i _ => n - (intOf i).toNat)
  case atStart => exact ⟨0, Nat.zero_le _, rfl, by simp, Below.refl _ _⟩
  case round =>
    obtain ⟨k, hk, rfl, hok, hb⟩ := hrel
    have B := Lib.hid hb
    have HO := Lib.hid hok
    clear hok
    by_cases hlt : k < n
    · obtain ⟨p, hp⟩ : ∃ p, A[k]? = some p := ⟨_, List.getElem?_eq_getElem (by rw [← HN.out]; exact hlt)⟩
      obtain ⟨d0, d1⟩ := (H.out _ hb).row.at hp
      have HP := Lib.hid hp
      clear hb hp
      cases hm : mayB p.1 p.2 with
      | false =>
        have C := Lib.hid (fun W => may_ok (w := W) hm)
        go_wp2_with (go_at_call 58; refine (C.out _).mono ?_; rintro e w1 ⟨rfl, hb1⟩; have B1 := Lib.hid (below_box hb1); clear hb1)
        go_ret
        refine ⟨ret_bool ?_, B.out.trans (B1.out.mono B.out.size)⟩
        symm
        apply false_of
        intro e
        have := (of_decide_eq_true e).1 p (List.mem_of_getElem? HP.out)
        rw [elemOk_iff] at this
        have h9 := this.1
        unfold mayP at h9
        rw [hm] at h9; cases h9
      | true =>
        have C := Lib.hid (fun W => may_ok (w := W) hm)
        by_cases h0 : p.1 = 0
        · have q0 : (p.1 == 0) = true := by simp [h0]
          have H0 := Lib.hid h0
          clear h0
          go_wp2_with (go_at_call 58; refine (C.out _).mono ?_; rintro e w1 ⟨rfl, hb1⟩; have z0 := boxed hb1 (j := 0) rfl; have B1 := Lib.hid (below_box hb1); clear hb1)
          go_ret
          refine ⟨ret_bool ?_, B.out.trans (B1.out.mono B.out.size)⟩
          symm
          apply false_of
          intro e
          have := (of_decide_eq_true e).1 p (List.mem_of_getElem? HP.out)
          rw [elemOk_iff] at this
          exact this.2 H0.out
        · have q0 : (p.1 == 0) = false := not_eq h0
          have H0 := Lib.hid h0
          clear h0
          go_wp2_with (go_at_call 58; refine (C.out _).mono ?_; rintro e w1 ⟨rfl, hb1⟩; have z0 := boxed hb1 (j := 0) rfl; have B1 := Lib.hid (below_box hb1); clear hb1)
          go_roundw
          case rel =>
            refine ⟨k + 1, by omega, by go_num, fun v hv => ?_, B.out.trans (B1.out.mono B.out.size)⟩
            rw [List.take_add_one, HP.out] at hv
            rcases List.mem_append.1 hv with hv | hv
            · exact HO.out v hv
            · simp at hv; subst hv
              exact elemOk_iff.2 ⟨hm, H0.out⟩
          case measure => simp [intOf]; omega
    · have hA : Hid (∀ v ∈ A, elemOk v = true) := by
        intro v hv
        refine HO.out v ?_
        rw [List.take_of_length_le (by have := HN.out; omega)]
        exact hv
      have cN := null_re
      have e2 := (H.out _ hb).c2
      rw [← HN.out] at e2
      have k2 := fun d os => cell_regrown e2 d os
      by_cases h0 : n = 0
      · obtain rfl : A = [] := List.length_eq_zero_iff.1 (by have := HN.out; omega)
        subst h0
        clear hb
        go_wp2
        go_quiet (fail)
        go_wp2_with fail
        go_ret
        exact ⟨rfl, below_drewN B.out _⟩
      · obtain ⟨x, hx⟩ : ∃ x, A[n - 1]? = some x := ⟨_, List.getElem?_eq_getElem (by rw [← HN.out]; omega)⟩
        obtain ⟨d0, d1⟩ := (H.out _ hb).row.at hx
        have k0 := fun d os => cell_regrown d0 d os
        have k1 := fun d os => cell_regrown d1 d os
        have hlast : Hid (A.getLast? = some x) := by
          rw [List.getLast?_eq_getElem?, ← HN.out]; exact hx
        have q0 : ((n : Int) == 0) = false := not_eq (by omega)
        have q1 : (n == 0) = false := beq_eq_false_iff_ne.2 h0
        have q2 : IntKind.i64.wrap ((n : Int) - 1) = (n : Int) - 1 := IntWalk.i64_in _ (by omega)
        have q3 : (0 : Int) ≤ (n : Int) - 1 := by omega
        have q4 : (n : Int) - 1 < n := by omega
        have q5 : ((n : Int) - 1).toNat = n - 1 := by omega
        have q6 : 1 ≤ n := by omega
        have fin : Hid (arrB A = decide (x ≠ nilP)) := by
          unfold arrB
          congr 1
          rw [hlast.out]
          simp only [eq_iff_iff]
          exact ⟨fun h e => h.2 (by rw [e]), fun h => ⟨hA.out, fun e => h (by injection e)⟩⟩
        obtain ⟨x1, x2⟩ := x
        clear hb hx d0 d1 h0
        by_cases y1 : x1 = 1
        · subst y1
          by_cases y2 : x2 = 0
          · subst y2
            go_wp2_with fail
            refine wp_region_quiet_below (by kernel_rfl) (by kernel_rfl) ?_
            repeat (go_big_quiet_step (exact cN _ _ _))
            refine wpQuiet_nil ?_
            intro w1 ⟨⟨dq, osq⟩, hw⟩
            have B1 : Hid (Below wr.heap.size wr w1) := by rw [hw]; exact below_regrown wr dq osq
            clear hw
            go_wp2_with fail
            go_ret
            refine ⟨ret_bool ?_, B.out.trans (B1.out.mono B.out.size)⟩
            rw [fin.out]; decide
          · have y3 := not_eq y2
            have Y := Lib.hid y2
            clear y2
            go_wp2_with fail
            refine wp_region_quiet_below (by kernel_rfl) (by kernel_rfl) ?_
            repeat (go_big_quiet_step (exact cN _ _ _))
            refine wpQuiet_nil ?_
            intro w1 ⟨⟨dq, osq⟩, hw⟩
            have B1 : Hid (Below wr.heap.size wr w1) := by rw [hw]; exact below_regrown wr dq osq
            clear hw
            go_wp2_with fail
            go_ret
            refine ⟨ret_bool ?_, B.out.trans (B1.out.mono B.out.size)⟩
            have y2 := Y.out
            rw [fin.out]; simp [nilP, y2]
        · have y3 := not_eq y1
          have Y := Lib.hid y1
          clear y1
          go_wp2_with fail
          refine wp_region_quiet_below (by kernel_rfl) (by kernel_rfl) ?_
          repeat (go_big_quiet_step (exact cN _ _ _))
          refine wpQuiet_nil ?_
          intro w1 ⟨⟨dq, osq⟩, hw⟩
          have B1 : Hid (Below wr.heap.size wr w1) := by rw [hw]; exact below_regrown wr dq osq
          clear hw
          go_wp2_with fail
          go_ret
          refine ⟨ret_bool ?_, B.out.trans (B1.out.mono B.out.size)⟩
          have y1 := Y.out
          rw [fin.out]; simp [nilP, y1]
end Go.Proofs.Ytkkdgacdajojiaa
