/- keyFrom; dict.Next. -/
import Derived.Test.YtkkdgacdajojiaaBase
import Derived.Test.YtkkdgacdajojiaaDiNext
namespace Go.Proofs.Ytkkdgacdajojiaa
set_option maxRecDepth 20000
set_option maxRecDepth 20000
open Go.RowKit Go.Maps Go.Sort Go.BigFrame

theorem firstA_step {A : List VV} {j : Nat} {x : VV} (hx : A[j]? = some x) : firstA (A.drop j) j = if x = nilP then firstA (A.drop (j + 1)) (j + 1) else some j := by
  have hj : j < A.length := (List.getElem?_eq_some_iff.1 hx).1
  rw [List.drop_eq_getElem_cons hj, (List.getElem?_eq_some_iff.1 hx).2]
  rfl
theorem firstA_end {A : List VV} {j : Nat} (hj : A.length ≤ j) : firstA (A.drop j) j = none := by
  rw [List.drop_of_length_le hj]; rfl
theorem fromT_some {t : Tab} {p i : Nat} (h : firstA (t.arr.drop p) p = some i) : fromT t p = intP (i + 1) := by unfold fromT; rw [h]
theorem fromT_none {t : Tab} {p : Nat} (h : firstA (t.arr.drop p) p = none) : fromT t p = (flatQ t.prs).getD (p - t.arr.length) nilP := by unfold fromT; rw [h]
theorem new_cell {w w1 : World} {cs : Array Value} {T : TypeId} (hb : Below (w.alloc (.cells cs T (0, 0))).heap.size (w.alloc (.cells cs T (0, 0))) w1) : w1.heap[w.heap.size]? = some (.cells cs T (0, 0)) ∧ Below w.heap.size w w1 :=
  ⟨(hb.block _ (by simp)).trans (MapKept.heap_alloc w _).1, ((Below.refl _ _).alloc (Nat.le_refl _) _).trans (hb.mono (by simp))⟩
set_option maxHeartbeats 4000000 in
theorem keyFrom_any {w : World} {tp ga oa ca gp op cp mb N : Nat} {t : Tab} (h : TabAt w tp ga oa ca gp op cp mb t N) {p : Nat} (hp : p ≤ t.arr.length + 2 * t.prs.length + 2) :
    Calls Try.prog 64 #[bV tp, .int .i64 (p : Int)] w fun e w' => e = .returned (vV (fromT t p)) ∧ Below w.heap.size w w' := by
  have H : Hid (∀ W, Below w.heap.size w W → TabAt W tp ga oa ca gp op cp mb t N) := fun W hb => h.below hb
  have hsm := h.small
  obtain ⟨n, hn⟩ : ∃ n, n = t.arr.length := ⟨_, rfl⟩
  have HN := Lib.hid hn
  obtain ⟨m, hm⟩ : ∃ m, m = 2 * t.prs.length := ⟨_, rfl⟩
  have HMM := Lib.hid hm
  have hnb : n ≤ 1073741824 := by omega
  have hmb : m ≤ 2147483648 := by omega
  have hpb : p ≤ n + m + 2 := by omega
  clear h hn hm hp
  go_enter Try.func64, Try.ntmps64
  go_wp2_with fail
  go_loopg [1] (n + m + 3) (fun k i wr => ∃ j : Nat, k + j = n + m + 3 + p ∧ (j ≤ p ∨ j ≤ n) ∧ p ≤ j ∧ i = Value.int .i64 (j : Int) ∧ Hid (firstA (t.arr.drop p) p = firstA (t.arr.drop j) j) ∧ Hid (Below (w.alloc (.cells #[.int .i64 0, .int .i64 0] 24)).heap.size (w.alloc (.cells #[.int .i64 0, .int .i64 0] 24)) wr))
  case atStart => exact ⟨p, rfl, .inl (Nat.le_refl _), Nat.le_refl _, rfl, rfl, Below.refl _ _⟩
  case round =>
    obtain ⟨j, hkj, hj, hpj, rfl, F, B⟩ := hrel
    obtain ⟨ho, hbw⟩ := new_cell B.out
    obtain ⟨-, -, c2, c3, -⟩ := (H.out _ hbw).cells
    rw [← HN.out] at c2
    rw [← HMM.out] at c3
    have BW := Lib.hid hbw
    have OC := Lib.hid ho
    have l0 := mem_block_lt ho
    by_cases hlt : j < n
    · obtain ⟨x, hx⟩ : ∃ x, t.arr[j]? = some x := ⟨_, List.getElem?_eq_getElem (by rw [← HN.out]; exact hlt)⟩
      obtain ⟨d0, d1⟩ := (H.out _ hbw).arr.at hx
      have k2 := fun d os => cell_regrown c2 d os
      have k0 := fun d os => cell_regrown d0 d os
      have k1 := fun d os => cell_regrown d1 d os
      have cN := null_re wr
      have HX := Lib.hid hx
      have q1 : IntKind.i64.wrap ((j : Int) + 1) = (j : Int) + 1 := IntWalk.i64_in _ (by omega)
      obtain ⟨x1, x2⟩ := x
      by_cases hz : (x1, x2) = nilP
      · have ST := Lib.hid (F.out.trans ((firstA_step HX.out).trans (if_pos hz)))
        have z1 : (x1 == 1) = true := by injection hz with e _; rw [e]; rfl
        have z2 : (x2 == 0) = true := by injection hz with _ e; rw [e]; rfl
        clear hz hx ho hbw d0 d1
        go_wp2_with fail
        refine wp_region_quiet_below (by kernel_rfl) (by kernel_rfl) ?_
        repeat (go_big_quiet_step (with_reducible exact cN _ _))
        refine wpQuiet_nil ?_
        intro w3 ⟨⟨dq, osq⟩, hw3⟩
        have B3 : Hid (Below wr.heap.size wr w3) := by rw [hw3]; exact below_regrown wr dq osq
        clear hw3
        go_wp2_with fail
        go_roundg (gk - 1)
        case measure => omega
        case rel => exact ⟨j + 1, by omega, by omega, by omega, congrArg (Value.int .i64) (by omega), ST, B.out.trans (B3.out.mono B.out.size)⟩
      · have ST := Lib.hid (F.out.trans ((firstA_step HX.out).trans (if_neg hz)))
        have R := fromT_some ST.out
        have RR := Lib.hid R
        have HZ := Lib.hid hz
        go_upto_region 3 with fail
        go_cut [23] (fun s23 wx => s23 = Value.bool true ∧ Hid (Below wr.heap.size wr wx))
        case first =>
          by_cases z1 : x1 = 1
          · have z2 : (x2 == 0) = false := not_eq (fun e => HZ.out (by rw [z1, e]; rfl))
            have z3 : (x1 == 1) = true := by simp [z1]
            clear z1 hz hx ho hbw d0 d1 R
            refine wp_region_quiet_below (by kernel_rfl) (by kernel_rfl) ?_
            repeat (go_big_quiet_step (with_reducible exact cN _ _))
            refine wpQuiet_nil ?_
            intro w3 ⟨⟨dq, osq⟩, hw3⟩
            have B3 : Hid (Below wr.heap.size wr w3) := by rw [hw3]; exact below_regrown wr dq osq
            clear hw3
            go_wp2_with fail
            go_meet
            exact ⟨rfl, B3⟩
          · have z3 := not_eq z1
            clear z1 hz hx ho hbw d0 d1 R
            refine wp_region_quiet_below (by kernel_rfl) (by kernel_rfl) ?_
            repeat (go_big_quiet_step (with_reducible exact cN _ _))
            refine wpQuiet_nil ?_
            intro w3 ⟨⟨dq, osq⟩, hw3⟩
            have B3 : Hid (Below wr.heap.size wr w3) := by rw [hw3]; exact below_regrown wr dq osq
            clear hw3
            go_wp2_with fail
            go_meet
            exact ⟨rfl, B3⟩
        case rest =>
          obtain ⟨rfl, B3⟩ := hcut
          have B5 := Lib.hid (BW.out.trans (B3.out.mono BW.out.size))
          have OC3 := Lib.hid ((B3.out.block _ (mem_block_lt OC.out)).trans OC.out)
          have l3 := mem_block_lt OC3.out
          clear k0 k1 k2 cN d0 d1 hx ho hbw hz R c2 c3 HX
          go_wp2_with (go_at_call 83; refine (number_any _ _).mono ?_; rintro e w4 ⟨rfl, hb4⟩; have B4 := Lib.hid hb4; obtain ⟨o0, o1, o2, o3⟩ := cells2 ((hb4.block _ l3).trans OC3.out); have l4 := Nat.lt_of_lt_of_le l3 hb4.size; clear hb4)
          refine bodyPost_ret (v := .agg #[.int .i64 3, .int .i64 ((j : Int) + 1)]) (by simp [results, Try.results64, go_sem, o0, o1]) rfl ⟨by rw [RR.out]; rfl, ?_⟩
          exact ((B5.out.trans (B4.out.mono B5.out.size)).setCell (by simp) _).setCell (by simp) _
    · have ST := F.out.trans (firstA_end (A := t.arr) (by rw [← HN.out]; omega : t.arr.length ≤ j))
      have R := fromT_none ST
      rw [← HN.out] at R
      have hjp : j = p ∨ j = n := by omega
      rw [show p - n = j - n by omega] at R
      have RR := Lib.hid R
      have q1 : IntKind.i64.wrap ((j : Int) - (n : Int)) = (j : Int) - (n : Int) := IntWalk.i64_in _ (by omega)
      by_cases hat : j - n < m
      · obtain ⟨x, hx⟩ : ∃ x, (flatQ t.prs)[j - n]? = some x := ⟨_, List.getElem?_eq_getElem (by rw [flatQ_len, ← HMM.out]; exact hat)⟩
        obtain ⟨d0, d1⟩ := (H.out _ hbw).prs.at hx
        have RX : Hid (fromT t p = x) := Lib.hid (by rw [RR.out, List.getD_eq_getElem?_getD, hx, Option.getD_some])
        obtain ⟨o0, o1, o2, o3⟩ := cells2 ho
        have q2 : (0 : Int) ≤ (j : Int) - (n : Int) := by omega
        have q3 : ((j : Int) - (n : Int)).toNat = j - n := by omega
        have q4 : (j : Int) - (n : Int) < (m : Int) := by omega
        clear hx hbw ho R ST hjp hj
        go_wp2_with fail
        refine bodyPost_ret (v := vV x) (by simp [results, Try.results64, go_sem, o0, o1]) rfl ⟨by rw [RX.out], ?_⟩
        exact (BW.out.setCell (by simp) _).setCell (by simp) _
      · have RX : Hid (fromT t p = nilP) := Lib.hid (by rw [RR.out, List.getD_eq_getElem?_getD, List.getElem?_eq_none (by rw [flatQ_len, ← HMM.out]; omega), Option.getD_none])
        have q4 : ¬ (j : Int) - (n : Int) < (m : Int) := by omega
        clear hbw ho R ST hjp hj
        go_wp2_with (go_at_call 51; refine (null_any _).mono ?_; rintro e w4 ⟨rfl, hb4⟩; have B4 := Lib.hid hb4; obtain ⟨o0, o1, o2, o3⟩ := cells2 ((hb4.block _ l0).trans OC.out); have l4 := Nat.lt_of_lt_of_le l0 hb4.size; clear hb4)
        refine bodyPost_ret (v := vV nilP) (by simp [results, Try.results64, go_sem, o0, o1, nilP]) rfl ⟨by rw [RX.out], ?_⟩
        exact ((BW.out.trans (B4.out.mono BW.out.size)).setCell (by simp) _).setCell (by simp) _
set_option maxHeartbeats 4000000 in
theorem may_ok3 {w : World} {k n : Int} {b : Bool} (h : mayP (k, n) = b) : Calls Try.prog 58 #[.agg #[.int .i64 k, .int .i64 n]] w fun e w' => e = .returned (.bool b) ∧ Below w.heap.size w w' := may_ok h
set_option maxHeartbeats 4000000 in
theorem Next_none {w : World} {v : Value} {l : List VV} (h : SlV w v l) (hl : l.length ≤ 1073741824) {k : VV} (ht : cutL l = none) :
    Calls Try.prog 26 #[v, vV k] w fun e w' => e = .returned (.tuple #[vV (nextL l k).1, .int .i64 (nextL l k).2]) ∧ Below w.heap.size w w' := by
  have e1 : nextL l k = ((0, 0), 2) := by unfold nextL; rw [ht]
  rw [e1]
  obtain ⟨g, hC⟩ := cut_ofs h hl
  have HC := Lib.hid hC
  have HT := Lib.hid ht
  obtain ⟨a, b⟩ := k
  clear h ht hC e1
  go_enter Try.func26, Try.ntmps26
  go_wp2_with (first
    | (go_at_call 46; refine (HC.out _ ?_).mono ?_; (· exact ((Below.refl _ _).alloc (Nat.le_refl _) _).alloc (by simp) _); rintro e w1 ⟨hb, hP⟩; rw [HT.out] at hP; obtain ⟨pv, rfl⟩ := hP; obtain ⟨x1, x2, x3, x4⟩ := two_in hb; have B := Lib.hid x4; have HX2 := Lib.hid x2; obtain ⟨y0, y1, y2, y3⟩ := cells2 x2; clear hb x1 x2 x4))
  refine bodyPost_ret (v := .tuple #[.agg #[.int .i64 0, .int .i64 0], .int .i64 2]) (by simp [results, Try.results26, go_sem, y0, y1]) rfl ⟨rfl, ?_⟩
  exact (B.out.setCell (by simp) _).setCell (by simp) _
set_option maxHeartbeats 8000000 in
theorem Next_some {w : World} {v : Value} {l : List VV} (h : SlV w v l) (hl : l.length ≤ 1073741824) {k : VV} (hk : wfP k) {t : Tab} (ht : cutL l = some t) :
    Calls Try.prog 26 #[v, vV k] w fun e w' => e = .returned (.tuple #[vV (nextL l k).1, .int .i64 (nextL l k).2]) ∧ Below w.heap.size w w' := by
  have HNM : Hid (mayP k = false ∨ k.1 = 0 → nextL l k = ((0, 0), 2)) := fun h => by
    unfold nextL; rw [ht]; simp only; rw [if_neg]; rintro ⟨h1, h2⟩
    rcases h with h | h
    · rw [h] at h1; cases h1
    · exact h2 h
  have HNK : Hid (mayP k = true → k.1 ≠ 0 → behindT t k = none → nextL l k = ((0, 0), 5)) := fun h1 h2 h3 => by
    unfold nextL; rw [ht]; simp only; rw [if_pos ⟨h1, h2⟩, h3]
  have HOK : Hid (∀ p, mayP k = true → k.1 ≠ 0 → behindT t k = some p → nextL l k = (fromT t p, 0)) := fun p h1 h2 h3 => by
    unfold nextL; rw [ht]; simp only; rw [if_pos ⟨h1, h2⟩, h3]
  obtain ⟨g, hC⟩ := cut_ofs h hl
  have HC := Lib.hid hC
  have HT := Lib.hid ht
  have HK := Lib.hid hk
  obtain ⟨a, b⟩ := k
  generalize hR : nextL l (a, b) = R at *
  clear h ht hC hk hR
  go_enter Try.func26, Try.ntmps26
  go_upto_region 2 with (first
    | (go_at_call 46; refine (HC.out _ ?_).mono ?_; (· exact ((Below.refl _ _).alloc (Nat.le_refl _) _).alloc (by simp) _); rintro e w1 ⟨hb, hP⟩; rw [HT.out] at hP; obtain ⟨tp, oa, ca, op, cp, mb, rfl, h1, h2, h3⟩ := hP; have H3 := Lib.hid h3; have TW := Lib.hid (two_in hb); clear hb h1 h2 h3))
  have KB : Hid (∀ W, Below w1.heap.size w1 W → W.heap[w.heap.size]? = some (.cells #[.int .i64 a, .int .i64 b] 24 (0, 0)) ∧ W.heap[w.heap.size + 1]? = some (.cells #[.int .i64 0, .int .i64 0] 24 (0, 0))) := fun W hb => by
    obtain ⟨h1, h2, h3, _⟩ := TW.out
    exact ⟨(hb.block _ (mem_block_lt h1)).trans h1, (hb.block _ h3).trans h2⟩
  have BW : Hid (Below w.heap.size w w1) := TW.out.2.2.2
  have BB : Hid (Below w1.heap.size w1 w1) := Below.refl _ _
  obtain ⟨kk, kv⟩ := KB.out w1 BB.out
  obtain ⟨y0, y1, -, -⟩ := cells2 kk
  obtain ⟨y2, y3, y4, y5⟩ := cells2 kv
  have hg1 := mem_block_lt kv
  clear kk kv HC TW
  cases mk : mayP (a, b) with
  | false =>
    have CK := Lib.hid (fun W => may_ok3 (w := W) mk)
    have E := Lib.hid (HNM.out (.inl mk))
    clear mk
    go_wp2_with (go_at_call 58; (with_reducible refine (CK.out _).mono ?_); rintro e w3 ⟨rfl, hb⟩; replace BB := Lib.hid (BB.out.trans (hb.mono BB.out.size)); obtain ⟨kk, kv⟩ := KB.out w3 BB.out; have hg3 := mem_block_lt kv; obtain ⟨y0, y1, -, -⟩ := cells2 kk; obtain ⟨y2, y3, y4, y5⟩ := cells2 kv; clear hb kk kv)
    rw [E.out]
    refine bodyPost_ret (v := .tuple #[.agg #[.int .i64 0, .int .i64 0], .int .i64 2]) (by simp [results, Try.results26, go_sem, y2, y3]) rfl ⟨rfl, ?_⟩
    exact ((BW.out.trans (BB.out.mono BW.out.size)).setCell (by simp) _).setCell (by simp) _
  | true =>
    have CK := Lib.hid (fun W => may_ok3 (w := W) mk)
    by_cases z : a = 0
    · have E := Lib.hid (HNM.out (.inr z))
      have z1 : (a == 0) = true := by simp [z]
      clear mk z
      go_wp2_with (go_at_call 58; (with_reducible refine (CK.out _).mono ?_); rintro e w3 ⟨rfl, hb⟩; replace BB := Lib.hid (BB.out.trans (hb.mono BB.out.size)); obtain ⟨kk, kv⟩ := KB.out w3 BB.out; have hg3 := mem_block_lt kv; obtain ⟨y0, y1, -, -⟩ := cells2 kk; obtain ⟨y2, y3, y4, y5⟩ := cells2 kv; clear hb kk kv)
      rw [E.out]
      refine bodyPost_ret (v := .tuple #[.agg #[.int .i64 0, .int .i64 0], .int .i64 2]) (by simp [results, Try.results26, go_sem, y2, y3]) rfl ⟨rfl, ?_⟩
      exact ((BW.out.trans (BB.out.mono BW.out.size)).setCell (by simp) _).setCell (by simp) _
    · have z1 : (a == 0) = false := not_eq z
      have CB : Hid (∀ W, Below w1.heap.size w1 W → Calls Try.prog 63 #[bV tp, .agg #[.int .i64 a, .int .i64 b]] W fun e w' => (∃ p : Nat, p ≤ t.arr.length + 2 * t.prs.length + 2 ∧ e = .returned (.tuple #[.int .i64 (p : Int), .bool (behindT t (a, b)).isSome]) ∧ ∀ q, behindT t (a, b) = some q → p = q) ∧ Below W.heap.size W w') := fun W hb => behind_any (H3.out.below hb) HK.out
      cases hq : behindT t (a, b) with
      | none =>
        have E := Lib.hid (HNK.out mk z hq)
        rw [hq] at CB
        clear mk z hq
        go_wp2_with (first
          | (go_at_call 58; (with_reducible refine (CK.out _).mono ?_); rintro e w3 ⟨rfl, hb⟩; replace BB := Lib.hid (BB.out.trans (hb.mono BB.out.size)); obtain ⟨kk, kv⟩ := KB.out w3 BB.out; have hg3 := mem_block_lt kv; obtain ⟨y0, y1, -, -⟩ := cells2 kk; obtain ⟨y2, y3, y4, y5⟩ := cells2 kv; clear hb kk kv)
          | (go_at_call 63; (with_reducible refine (CB.out _ BB.out).mono ?_); rintro e w4 ⟨⟨p, hp, rfl, hpq⟩, hb⟩; replace BB := Lib.hid (BB.out.trans (hb.mono BB.out.size)); obtain ⟨kk, kv⟩ := KB.out w4 BB.out; have hg4 := mem_block_lt kv; obtain ⟨y0, y1, -, -⟩ := cells2 kk; obtain ⟨y2, y3, y4, y5⟩ := cells2 kv; clear hb kk kv hpq))
        rw [E.out]
        refine bodyPost_ret (v := .tuple #[.agg #[.int .i64 0, .int .i64 0], .int .i64 5]) (by simp [results, Try.results26, go_sem, y2, y3]) rfl ⟨rfl, ?_⟩
        exact ((BW.out.trans (BB.out.mono BW.out.size)).setCell (by simp) _).setCell (by simp) _
      | some q =>
        have E := Lib.hid (HOK.out q mk z hq)
        rw [hq] at CB
        have CF : Hid (∀ W p, p ≤ t.arr.length + 2 * t.prs.length + 2 → Below w1.heap.size w1 W → Calls Try.prog 64 #[bV tp, .int .i64 ((p : Nat) : Int)] W fun e w' => e = .returned (vV (fromT t p)) ∧ Below W.heap.size W w') := fun W p hp hb => keyFrom_any (H3.out.below hb) hp
        clear mk z hq
        go_wp2_with (first
          | (go_at_call 58; (with_reducible refine (CK.out _).mono ?_); rintro e w3 ⟨rfl, hb⟩; replace BB := Lib.hid (BB.out.trans (hb.mono BB.out.size)); obtain ⟨kk, kv⟩ := KB.out w3 BB.out; have hg3 := mem_block_lt kv; obtain ⟨y0, y1, -, -⟩ := cells2 kk; obtain ⟨y2, y3, y4, y5⟩ := cells2 kv; clear hb kk kv)
          | (go_at_call 63; (with_reducible refine (CB.out _ BB.out).mono ?_); rintro e w4 ⟨⟨p, hp, rfl, hpq⟩, hb⟩; have HP := Lib.hid hp; have HPQ := Lib.hid (hpq q rfl); replace BB := Lib.hid (BB.out.trans (hb.mono BB.out.size)); clear hb hpq hp y0 y1 y2 y3 y4 y5)
          | (go_at_call 64; (with_reducible refine (CF.out _ _ HP.out BB.out).mono ?_); rintro e w5 ⟨rfl, hb⟩; replace BB := Lib.hid (BB.out.trans (hb.mono BB.out.size)); obtain ⟨kk, kv⟩ := KB.out w5 BB.out; have hg5 := mem_block_lt kv; obtain ⟨y2, y3, y4, y5⟩ := cells2 kv; clear hb kk kv))
        rw [E.out]
        refine bodyPost_ret (v := .tuple #[vV (fromT t q), .int .i64 0]) (by simp [results, Try.results26, go_sem, y2, y3, HPQ.out]) rfl ⟨rfl, ?_⟩
        exact ((BW.out.trans (BB.out.mono BW.out.size)).setCell (by simp) _).setCell (by simp) _
/-- dict.Next. -/
theorem Next_any {w : World} {v : Value} {l : List VV} (h : SlV w v l) (hl : l.length ≤ 1073741824) {k : VV} (hk : wfP k) :
    Calls Try.prog 26 #[v, vV k] w fun e w' => e = .returned (.tuple #[vV (nextL l k).1, .int .i64 (nextL l k).2]) ∧ Below w.heap.size w w' := by
  cases ht : cutL l with
  | none => exact Next_none h hl ht
  | some t => exact Next_some h hl hk ht
end Go.Proofs.Ytkkdgacdajojiaa
