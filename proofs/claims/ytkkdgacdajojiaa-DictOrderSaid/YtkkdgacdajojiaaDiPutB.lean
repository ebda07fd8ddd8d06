/- put: a pair's key; any other. -/
import Derived.Test.YtkkdgacdajojiaaBase
import Derived.Test.YtkkdgacdajojiaaDiPutA
namespace Go.Proofs.Ytkkdgacdajojiaa
set_option maxRecDepth 20000
set_option maxRecDepth 20000
open Go.RowKit Go.Maps Go.Sort Go.BigFrame

theorem getT_found {t : Tab} {k : VV} {i : Nat} (hk : listedB t.arr.length k = false) (hi : idxQ t.prs k = some i) : (t.prs.getD i (nilP, nilP)).2 = getT t k := by
  unfold getT
  rw [if_neg (by simp [hk]), hi]
theorem getT_is {t : Tab} {k : VV} {i : Nat} (hk : listedB t.arr.length k = false) (hi : idxQ t.prs k = some i) (x : VV) (hx : t.prs[i]? = some (k, x)) : getT t k = x := by
  rw [← getT_found hk hi]; simp [List.getD_eq_getElem?_getD, hx]
theorem not_nil {v1 v2 : Int} (h : elemOk (v1, v2) = true) (hn : (v1, v2) ≠ nilP) : (v1 == 1) = false := not_eq fun e => hn (may_nil (elemOk_iff.1 h).1 e)
set_option maxHeartbeats 4000000 in
theorem put_pair_nil {w : World} {base tp ga oa ca gp op cp mb N : Nat} {t : Tab} {k v : VV} (h : PutIn w base tp ga oa ca gp op cp mb N t k v) (hk : listedB t.arr.length k = false) {i : Nat} (hi : idxQ t.prs k = some i) (hv : v = nilP) :
    Calls Try.prog 60 #[bV tp, vV k, vV v] w (Puts w base tp t k v) := by
  have e1 : putT t k v = ({ t with prs := outQ t.prs i }, objsL [getT t k, k, k]) := by
    unfold putT
    rw [if_neg (by simp [hk]), hi]
    simp only [if_pos hv, getT_found hk hi]
  have H : Hid (∀ W, Below w.heap.size w W → TabAt W tp ga oa ca gp op cp mb t N) := fun W hb => h.tab.below hb
  have CG : Hid (∀ W, Below w.heap.size w W → Calls Try.prog 52 #[bV tp, vV k] W fun e w' => e = .returned (vV (getT t k)) ∧ Below W.heap.size W w') := fun W hb => get_any (h.tab.below hb) h.wk
  have CL : Hid (∀ W, Below w.heap.size w W → Calls Try.prog 82 #[bV tp, vV k] W fun e w' => e = .returned (.bool false) ∧ Below W.heap.size W w') := fun W hb => listed_ok (h.tab.below hb).look k hk
  have LK : Hid (∀ W, Below w.heap.size w W → (Instr.lookup 72 (.map (some mb)) (.agg #[.int .i64 k.1, .int .i64 k.2]) true).run Try.prog W = .ok (.tuple #[iV ((((idxQ t.prs k).map (2 * ·)).getD 0 : Nat) : Int), .bool ((idxQ t.prs k).map (2 * ·)).isSome]) W) := fun W hb => (h.tab.below hb).map.run_look h.wk
  rw [hi] at LK
  have WG : Hid (wfP (getT t k)) := getT_wf h.tab k
  generalize getT t k = old at *
  obtain ⟨x, hx⟩ := idxQ_some hi
  have hil : i < t.prs.length := (List.getElem?_eq_some_iff.1 hx).1
  obtain ⟨p1, p2⟩ := flatQ_at t.prs i _ hx
  obtain ⟨u, hu⟩ : ∃ u, u = 2 * i := ⟨_, rfl⟩
  rw [← hu] at p1 p2
  have HX := Lib.hid hx
  have HIL := Lib.hid hil
  have HU := Lib.hid hu
  have HP1 := Lib.hid p1
  have HP2 := Lib.hid p2
  obtain ⟨n, hn⟩ : ∃ n, n = 2 * t.prs.length := ⟨_, rfl⟩
  have HN := Lib.hid hn
  have hsm := h.tab.small.2.2
  have q4 : u + 1 < n := by omega
  have q5 : (u : Int) + 1 < (n : Int) := by omega
  have q6 : (u : Int) < (n : Int) := by omega
  have q7 : IntKind.i64.wrap ((u : Int) + 1) = (u : Int) + 1 := IntWalk.i64_in _ (by omega)
  have q8 : ((u : Int) + 1).toNat = u + 1 := by omega
  have q9 : (0 : Int) ≤ (u : Int) + 1 := by omega
  have HE := Lib.hid e1
  have PI := Lib.hid h
  obtain ⟨a, b⟩ := k
  obtain ⟨v1, v2⟩ := v
  have z1 : (v1 == 1) = true := by injection hv with h1 _; rw [h1]; rfl
  have z2 : (v2 == 0) = true := by injection hv with _ h2; rw [h2]; rfl
  clear hv
  obtain ⟨g1, g2⟩ := old
  have B0 : Hid (∀ o1 o2, Below w.heap.size w ((w.alloc o1).alloc o2)) := fun o1 o2 => ((Below.refl _ _).alloc (Nat.le_refl _) _).alloc (by simp) _
  have LL : ∀ j, (Instr.lookup 72 (.map (some mb)) (.agg #[.int .i64 a, .int .i64 b]) true).run Try.prog (((w.alloc (.cells #[.int .i64 a, .int .i64 b] 24)).alloc (.cells #[.int .i64 v1, .int .i64 v2] 24)).drewN j) = .ok (.tuple #[.int .i64 (u : Int), .bool true]) (((w.alloc (.cells #[.int .i64 a, .int .i64 b] 24)).alloc (.cells #[.int .i64 v1, .int .i64 v2] 24)).drewN j) := fun j => by
    have := LK.out (((w.alloc (.cells #[.int .i64 a, .int .i64 b] 24)).alloc (.cells #[.int .i64 v1, .int .i64 v2] 24)).drewN j) (below_drewN (B0.out _ _) j)
    rw [hu]; exact this
  have c4 := h.tab.cells.2.2.2.2
  have l1 := mem_block_lt h.tab.self
  clear h hk e1 hi LK hx hil p1 p2 hu hn
  go_enter Try.func60, Try.ntmps60
  go_wp2_with fail
  go_quiet (fail)
  have B1 : Hid (Below w.heap.size w (((w.alloc (.cells #[.int .i64 a, .int .i64 b] 24)).alloc (.cells #[.int .i64 v1, .int .i64 v2] 24)).drewN nq)) := below_drewN (B0.out _ _) nq
  have K1 : Hid (∀ W, Below (((w.alloc (.cells #[.int .i64 a, .int .i64 b] 24)).alloc (.cells #[.int .i64 v1, .int .i64 v2] 24)).drewN nq).heap.size (((w.alloc (.cells #[.int .i64 a, .int .i64 b] 24)).alloc (.cells #[.int .i64 v1, .int .i64 v2] 24)).drewN nq) W → W.heap[w.heap.size]? = some (.cells #[.int .i64 a, .int .i64 b] 24 (0, 0)) ∧ W.heap[w.heap.size + 1]? = some (.cells #[.int .i64 v1, .int .i64 v2] 24 (0, 0))) := fun W hb => by
    obtain ⟨h1, h2, _, _⟩ := two_in (w := w) (w1 := W) ⟨hb.os, hb.tape, hb.output, hb.size, hb.block⟩
    exact ⟨h1, h2⟩
  clear c4 l1 LL B0
  generalize ((w.alloc (.cells #[.int .i64 a, .int .i64 b] 24)).alloc (.cells #[.int .i64 v1, .int .i64 v2] 24)).drewN nq = W1 at *
  obtain ⟨kk, kv⟩ := K1.out W1 (Below.refl _ _)
  obtain ⟨x0, x1, -, -⟩ := cells2 kk
  clear kk kv
  go_upto_region 8 with (first
    | (go_at_call 52; refine (CG.out _ B1.out).mono ?_; rintro e w2 ⟨rfl, hb2⟩; have B2 := Lib.hid hb2; obtain ⟨kk, kv⟩ := K1.out w2 hb2; obtain ⟨y0, y1, -, -⟩ := cells2 kk; have sz2 : w.heap.size < w2.heap.size := mem_block_lt kk; clear hb2 kk kv)
    | (go_at_call 82; refine (CL.out _ ((B1.out.trans (B2.out.mono B1.out.size)).trans (((Below.refl _ _).alloc (Nat.le_refl _) _).mono (Nat.le_of_lt sz2)))).mono ?_; rintro e w3 ⟨rfl, hb3⟩; have B3 := Lib.hid hb3; clear hb3))
  have SO : Hid (∀ W, Below w3.heap.size w3 W → W.heap[w2.heap.size]? = some (.cells #[.int .i64 g1, .int .i64 g2] 24 (0, 0))) := fun W hb => by
    have h3 := (B3.out.block w2.heap.size (by simp)).trans (MapKept.heap_alloc w2 _).1
    exact (hb.block _ (mem_block_lt h3)).trans h3
  have BW : Hid (Below W1.heap.size W1 w3) := (B2.out.alloc B2.out.size _).trans (B3.out.mono (by have := B2.out.size; simp; omega))
  have BB3 : Hid (Below w.heap.size w w3) := B1.out.trans (BW.out.mono B1.out.size)
  have KK : Hid (∀ W, Below w3.heap.size w3 W → W.heap[w.heap.size]? = some (.cells #[.int .i64 a, .int .i64 b] 24 (0, 0)) ∧ W.heap[w.heap.size + 1]? = some (.cells #[.int .i64 v1, .int .i64 v2] 24 (0, 0))) := fun W hb => K1.out W (BW.out.trans (hb.mono BW.out.size))
  have hsz2 := B2.out.size
  have hs0 := B1.out.size
  have hs3 := BB3.out.size
  have TT : Hid (∀ W, Below w3.heap.size w3 W → TabAt W tp ga oa ca gp op cp mb t N ∧ Below w.heap.size w W) := fun W hb => by
    have h1 := BB3.out.trans (hb.mono BB3.out.size)
    exact ⟨H.out W h1, h1⟩
  clear x0 x1 y0 y1 CL CG B2 B3 K1 H
  have na : w2.heap.size ≠ tp ∧ w2.heap.size ≠ gp ∧ w2.heap.size ≠ mb := by obtain ⟨q1, q2, q3, q4⟩ := PI.out.tab.lts; omega
  have nb : w.heap.size ≠ tp ∧ w.heap.size ≠ gp ∧ w.heap.size ≠ mb := by obtain ⟨q1, q2, q3, q4⟩ := PI.out.tab.lts; omega
  obtain ⟨kk, kv⟩ := KK.out w3 (Below.refl _ _)
  obtain ⟨x0, x1, -, -⟩ := cells2 kk
  obtain ⟨x2, x3, -, -⟩ := cells2 kv
  have y0 := fun d os => cell_regrown x0 d os
  have y1 := fun d os => cell_regrown x1 d os
  have y2 := fun d os => cell_regrown x2 d os
  have y3 := fun d os => cell_regrown x3 d os
  have cN := null_re w3
  clear x0 x1 x2 x3 kk kv
  refine wp_region_quiet_below (by kernel_rfl) (by kernel_rfl) ?_
  repeat (go_big_quiet_step (with_reducible exact cN _ _))
  refine wpQuiet_nil ?_
  intro w4 ⟨⟨dq, osq⟩, hw4⟩
  have B4 : Hid (Below w3.heap.size w3 w4) := by rw [hw4]; exact below_regrown w3 dq osq
  clear hw4
  clear y0 y1 y2 y3 cN
  obtain ⟨T4, B4w⟩ := TT.out w4 B4.out
  obtain ⟨-, -, -, c3, -⟩ := T4.cells
  rw [← HN.out] at c3
  obtain ⟨d0, d1⟩ := T4.prs.at HP1.out
  have HT4 := Lib.hid T4
  have HB4 := Lib.hid B4w
  have k4 := KK.out w4 B4.out
  have o4 := SO.out w4 B4.out
  have BA : Hid (∀ o, Below w4.heap.size w4 (w4.alloc o)) := fun o => (Below.refl _ _).alloc (Nat.le_refl _) _
  have nc : w4.heap.size ≠ tp ∧ w4.heap.size ≠ gp ∧ w4.heap.size ≠ mb := by obtain ⟨q1, q2, q3, q4⟩ := T4.lts; omega
  have CT : Hid (∀ o, Calls Try.prog 87 #[bV tp, iV (u : Int)] (w4.alloc o) fun e w' => e = .returned (.tuple #[]) ∧ ∃ cp', TabAt w' tp ga oa ca gp op cp' mb { t with prs := outQ t.prs i } (N + 1) ∧ Below base (w4.alloc o) w' ∧ Frm (S3 tp gp mb) (w4.alloc o) w') := fun o => by
    rw [HU.out]
    exact takeOut_any (T4.below (BA.out o)) PI.out.good.nodup PI.out.bt PI.out.bg PI.out.bm (by have := B4w.size; have := PI.out.sz; simp; omega) HIL.out (by have := PI.out.small.1; omega)
  have KX : Hid (∀ W, Frm (S3 tp gp mb) (w4.alloc (.cells #[.int .i64 a, .int .i64 b] 24)) W → W.heap[w.heap.size]? = some (.cells #[.int .i64 a, .int .i64 b] 24 (0, 0)) ∧ W.heap[w2.heap.size]? = some (.cells #[.int .i64 g1, .int .i64 g2] 24 (0, 0)) ∧ W.heap[w4.heap.size]? = some (.cells #[.int .i64 a, .int .i64 b] 24 (0, 0))) := fun W hf => by
    have l1 := mem_block_lt k4.1
    have l2 := mem_block_lt o4
    have e1 := hf.block w.heap.size (by simp; omega) (by simp [S3]; omega)
    have e2 := hf.block w2.heap.size (by simp; omega) (by simp [S3]; omega)
    have e3 := hf.block w4.heap.size (by simp) (by simp [S3]; omega)
    exact ⟨e1.trans ((Below.heap_alloc _ _ _ l1).trans k4.1), e2.trans ((Below.heap_alloc _ _ _ l2).trans o4), e3.trans (MapKept.heap_alloc w4 _).1⟩
  have l4 := T4.prs.lt
  have l5 := mem_block_lt T4.self
  clear T4 B4w k4 o4 TT SO KK
  go_wp2_with (first
    | (go_at_call 87; refine (CT.out _).mono ?_; rintro e w6 ⟨rfl, cp6, h6, hb6, hf6⟩; have T6 := Lib.hid h6; have B6 := Lib.hid hb6; obtain ⟨kk, ko, ky⟩ := KX.out w6 hf6; obtain ⟨x0, x1, -, -⟩ := cells2 kk; obtain ⟨x2, x3, -, -⟩ := cells2 ko; obtain ⟨x4, x5, -, -⟩ := cells2 ky; have s6 : w4.heap.size < w6.heap.size := mem_block_lt ky; clear h6 hb6 hf6 kk ko ky)
    | (go_at_call 86; refine (objects_any (slV_new (l := [(g1, g2), (a, b), (a, b)]) rfl (by intro y hy; simp at hy; rcases hy with rfl | rfl; exact WG.out; exact PI.out.wk) (by simp)) (by simp)).mono ?_; rintro e w7 h7; obtain ⟨vv, rfl, o7, b7⟩ := objs_many (w := w) (congrArg Prod.snd HE.out) h7 (by have := HB4.out.size; simp; omega); have O7 := Lib.hid o7; have B7 := Lib.hid b7; clear o7 b7))
  go_ret
  have hz4 := HB4.out.size
  have hb9 : Below w6.heap.size w6 w7 := ((Below.refl _ _).alloc (Nat.le_refl _) _).trans (B7.out.mono (by simp))
  have hp := PI.out.sz
  refine ⟨vv, rfl, O7.out, ?_, ((HB4.out.mono hp).trans ((BA.out _).mono (by omega))).trans (B6.out.trans (hb9.mono (by omega)))⟩
  rw [HE.out]
  exact (T6.out.below hb9).layIn
set_option maxHeartbeats 4000000 in
theorem put_pair {w : World} {base tp ga oa ca gp op cp mb N : Nat} {t : Tab} {k v : VV} (h : PutIn w base tp ga oa ca gp op cp mb N t k v) (hk : listedB t.arr.length k = false) {i : Nat} (hi : idxQ t.prs k = some i) (hv : v ≠ nilP) :
    Calls Try.prog 60 #[bV tp, vV k, vV v] w (Puts w base tp t k v) := by
  have e1 : putT t k v = ({ t with prs := t.prs.set i (k, v) }, objsL [getT t k, k]) := by
    unfold putT
    rw [if_neg (by simp [hk]), hi]
    simp only [if_neg hv, getT_found hk hi]
  have H : Hid (∀ W, Below w.heap.size w W → TabAt W tp ga oa ca gp op cp mb t N) := fun W hb => h.tab.below hb
  have CG : Hid (∀ W, Below w.heap.size w W → Calls Try.prog 52 #[bV tp, vV k] W fun e w' => e = .returned (vV (getT t k)) ∧ Below W.heap.size W w') := fun W hb => get_any (h.tab.below hb) h.wk
  have CL : Hid (∀ W, Below w.heap.size w W → Calls Try.prog 82 #[bV tp, vV k] W fun e w' => e = .returned (.bool false) ∧ Below W.heap.size W w') := fun W hb => listed_ok (h.tab.below hb).look k hk
  have LK : Hid (∀ W, Below w.heap.size w W → (Instr.lookup 72 (.map (some mb)) (.agg #[.int .i64 k.1, .int .i64 k.2]) true).run Try.prog W = .ok (.tuple #[iV ((((idxQ t.prs k).map (2 * ·)).getD 0 : Nat) : Int), .bool ((idxQ t.prs k).map (2 * ·)).isSome]) W) := fun W hb => (h.tab.below hb).map.run_look h.wk
  rw [hi] at LK
  have WG : Hid (wfP (getT t k)) := getT_wf h.tab k
  generalize getT t k = old at *
  obtain ⟨x, hx⟩ := idxQ_some hi
  have hil : i < t.prs.length := (List.getElem?_eq_some_iff.1 hx).1
  obtain ⟨p1, p2⟩ := flatQ_at t.prs i _ hx
  obtain ⟨u, hu⟩ : ∃ u, u = 2 * i := ⟨_, rfl⟩
  rw [← hu] at p1 p2
  have HX := Lib.hid hx
  have HIL := Lib.hid hil
  have HU := Lib.hid hu
  have HP1 := Lib.hid p1
  have HP2 := Lib.hid p2
  obtain ⟨n, hn⟩ : ∃ n, n = 2 * t.prs.length := ⟨_, rfl⟩
  have HN := Lib.hid hn
  have hsm := h.tab.small.2.2
  have q4 : u + 1 < n := by omega
  have q5 : (u : Int) + 1 < (n : Int) := by omega
  have q6 : (u : Int) < (n : Int) := by omega
  have q7 : IntKind.i64.wrap ((u : Int) + 1) = (u : Int) + 1 := IntWalk.i64_in _ (by omega)
  have q8 : ((u : Int) + 1).toNat = u + 1 := by omega
  have q9 : (0 : Int) ≤ (u : Int) + 1 := by omega
  have HE := Lib.hid e1
  have PI := Lib.hid h
  obtain ⟨a, b⟩ := k
  obtain ⟨v1, v2⟩ := v
  have z1 : (v1 == 1) = false := not_nil PI.out.elem hv
  clear hv
  obtain ⟨g1, g2⟩ := old
  have B0 : Hid (∀ o1 o2, Below w.heap.size w ((w.alloc o1).alloc o2)) := fun o1 o2 => ((Below.refl _ _).alloc (Nat.le_refl _) _).alloc (by simp) _
  have LL : ∀ j, (Instr.lookup 72 (.map (some mb)) (.agg #[.int .i64 a, .int .i64 b]) true).run Try.prog (((w.alloc (.cells #[.int .i64 a, .int .i64 b] 24)).alloc (.cells #[.int .i64 v1, .int .i64 v2] 24)).drewN j) = .ok (.tuple #[.int .i64 (u : Int), .bool true]) (((w.alloc (.cells #[.int .i64 a, .int .i64 b] 24)).alloc (.cells #[.int .i64 v1, .int .i64 v2] 24)).drewN j) := fun j => by
    have := LK.out (((w.alloc (.cells #[.int .i64 a, .int .i64 b] 24)).alloc (.cells #[.int .i64 v1, .int .i64 v2] 24)).drewN j) (below_drewN (B0.out _ _) j)
    rw [hu]; exact this
  have c4 := h.tab.cells.2.2.2.2
  have l1 := mem_block_lt h.tab.self
  clear h hk e1 hi LK hx hil p1 p2 hu hn
  go_enter Try.func60, Try.ntmps60
  go_wp2_with fail
  go_quiet (fail)
  have B1 : Hid (Below w.heap.size w (((w.alloc (.cells #[.int .i64 a, .int .i64 b] 24)).alloc (.cells #[.int .i64 v1, .int .i64 v2] 24)).drewN nq)) := below_drewN (B0.out _ _) nq
  have K1 : Hid (∀ W, Below (((w.alloc (.cells #[.int .i64 a, .int .i64 b] 24)).alloc (.cells #[.int .i64 v1, .int .i64 v2] 24)).drewN nq).heap.size (((w.alloc (.cells #[.int .i64 a, .int .i64 b] 24)).alloc (.cells #[.int .i64 v1, .int .i64 v2] 24)).drewN nq) W → W.heap[w.heap.size]? = some (.cells #[.int .i64 a, .int .i64 b] 24 (0, 0)) ∧ W.heap[w.heap.size + 1]? = some (.cells #[.int .i64 v1, .int .i64 v2] 24 (0, 0))) := fun W hb => by
    obtain ⟨h1, h2, _, _⟩ := two_in (w := w) (w1 := W) ⟨hb.os, hb.tape, hb.output, hb.size, hb.block⟩
    exact ⟨h1, h2⟩
  clear c4 l1 LL B0
  generalize ((w.alloc (.cells #[.int .i64 a, .int .i64 b] 24)).alloc (.cells #[.int .i64 v1, .int .i64 v2] 24)).drewN nq = W1 at *
  obtain ⟨kk, kv⟩ := K1.out W1 (Below.refl _ _)
  obtain ⟨x0, x1, -, -⟩ := cells2 kk
  clear kk kv
  go_upto_region 8 with (first
    | (go_at_call 52; refine (CG.out _ B1.out).mono ?_; rintro e w2 ⟨rfl, hb2⟩; have B2 := Lib.hid hb2; obtain ⟨kk, kv⟩ := K1.out w2 hb2; obtain ⟨y0, y1, -, -⟩ := cells2 kk; have sz2 : w.heap.size < w2.heap.size := mem_block_lt kk; clear hb2 kk kv)
    | (go_at_call 82; refine (CL.out _ ((B1.out.trans (B2.out.mono B1.out.size)).trans (((Below.refl _ _).alloc (Nat.le_refl _) _).mono (Nat.le_of_lt sz2)))).mono ?_; rintro e w3 ⟨rfl, hb3⟩; have B3 := Lib.hid hb3; clear hb3))
  have SO : Hid (∀ W, Below w3.heap.size w3 W → W.heap[w2.heap.size]? = some (.cells #[.int .i64 g1, .int .i64 g2] 24 (0, 0))) := fun W hb => by
    have h3 := (B3.out.block w2.heap.size (by simp)).trans (MapKept.heap_alloc w2 _).1
    exact (hb.block _ (mem_block_lt h3)).trans h3
  have BW : Hid (Below W1.heap.size W1 w3) := (B2.out.alloc B2.out.size _).trans (B3.out.mono (by have := B2.out.size; simp; omega))
  have BB3 : Hid (Below w.heap.size w w3) := B1.out.trans (BW.out.mono B1.out.size)
  have KK : Hid (∀ W, Below w3.heap.size w3 W → W.heap[w.heap.size]? = some (.cells #[.int .i64 a, .int .i64 b] 24 (0, 0)) ∧ W.heap[w.heap.size + 1]? = some (.cells #[.int .i64 v1, .int .i64 v2] 24 (0, 0))) := fun W hb => K1.out W (BW.out.trans (hb.mono BW.out.size))
  have hsz2 := B2.out.size
  have hs0 := B1.out.size
  have hs3 := BB3.out.size
  have TT : Hid (∀ W, Below w3.heap.size w3 W → TabAt W tp ga oa ca gp op cp mb t N ∧ Below w.heap.size w W) := fun W hb => by
    have h1 := BB3.out.trans (hb.mono BB3.out.size)
    exact ⟨H.out W h1, h1⟩
  clear x0 x1 y0 y1 CL CG B2 B3 K1 H
  have na : w2.heap.size ≠ tp ∧ w2.heap.size ≠ gp ∧ w2.heap.size ≠ mb := by obtain ⟨q1, q2, q3, q4⟩ := PI.out.tab.lts; omega
  have nb : w.heap.size ≠ tp ∧ w.heap.size ≠ gp ∧ w.heap.size ≠ mb := by obtain ⟨q1, q2, q3, q4⟩ := PI.out.tab.lts; omega
  obtain ⟨kk, kv⟩ := KK.out w3 (Below.refl _ _)
  obtain ⟨x0, x1, -, -⟩ := cells2 kk
  obtain ⟨x2, x3, -, -⟩ := cells2 kv
  have y0 := fun d os => cell_regrown x0 d os
  have y1 := fun d os => cell_regrown x1 d os
  have y2 := fun d os => cell_regrown x2 d os
  have y3 := fun d os => cell_regrown x3 d os
  have cN := null_re w3
  clear x0 x1 x2 x3 kk kv
  refine wp_region_quiet_below (by kernel_rfl) (by kernel_rfl) ?_
  repeat (go_big_quiet_step (with_reducible exact cN _ _))
  refine wpQuiet_nil ?_
  intro w4 ⟨⟨dq, osq⟩, hw4⟩
  have B4 : Hid (Below w3.heap.size w3 w4) := by rw [hw4]; exact below_regrown w3 dq osq
  clear hw4
  clear y0 y1 y2 y3 cN
  obtain ⟨T4, B4w⟩ := TT.out w4 B4.out
  obtain ⟨-, -, -, c3, -⟩ := T4.cells
  rw [← HN.out] at c3
  have RP := T4.prs
  obtain ⟨d0, d1⟩ := RP.at HP2.out
  have f1 := RP.froz (op + (u + 1) * 2)
  have f2 := RP.froz (op + (u + 1) * 2 + 1)
  have HT4 := Lib.hid T4
  have HB4 := Lib.hid B4w
  have k4 := KK.out w4 B4.out
  have o4 := SO.out w4 B4.out
  obtain ⟨x2, x3, -, -⟩ := cells2 k4.2
  have l4 := RP.lt
  have l5 := mem_block_lt T4.self
  have ng : w2.heap.size ≠ gp ∧ w.heap.size ≠ gp := ⟨na.2.1, nb.2.1⟩
  have T5 : Hid (TabAt ((w4.setCell ⟨gp, op + (u + 1) * 2, none⟩ (.int .i64 v1)).setCell ⟨gp, op + (u + 1) * 2 + 1, none⟩ (.int .i64 v2)).drew tp ga oa ca gp op cp mb { t with prs := t.prs.set i ((a, b), (v1, v2)) } N) := Lib.hid (by
    have := tab_setPrs T4 HX.out PI.out.wv
    rw [← HU.out] at this
    exact this.keep fun _ _ => rfl)
  have B5 : Hid (Below base w ((w4.setCell ⟨gp, op + (u + 1) * 2, none⟩ (.int .i64 v1)).setCell ⟨gp, op + (u + 1) * 2 + 1, none⟩ (.int .i64 v2)).drew) := (below_set2 (B4w.mono PI.out.sz) PI.out.bg _ _).drew
  have K5 : Hid (((w4.setCell ⟨gp, op + (u + 1) * 2, none⟩ (.int .i64 v1)).setCell ⟨gp, op + (u + 1) * 2 + 1, none⟩ (.int .i64 v2)).drew.heap[w.heap.size]? = some (.cells #[.int .i64 a, .int .i64 b] 24 (0, 0)) ∧ ((w4.setCell ⟨gp, op + (u + 1) * 2, none⟩ (.int .i64 v1)).setCell ⟨gp, op + (u + 1) * 2 + 1, none⟩ (.int .i64 v2)).drew.heap[w2.heap.size]? = some (.cells #[.int .i64 g1, .int .i64 g2] 24 (0, 0))) := ⟨(heap_set2 w4 (.int .i64 v1) (.int .i64 v2) ng.2).trans k4.1, (heap_set2 w4 (.int .i64 v1) (.int .i64 v2) ng.1).trans o4⟩
  clear T4 B4w k4 o4 TT SO KK RP
  go_wp2_with fail
  go_region
  all_goals
    generalize ((w4.setCell ⟨gp, op + (u + 1) * 2, none⟩ (.int .i64 v1)).setCell ⟨gp, op + (u + 1) * 2 + 1, none⟩ (.int .i64 v2)).drew = W5 at *
    clear x2 x3 c3 d0 d1 f1 f2
    obtain ⟨x0, x1, -, -⟩ := cells2 K5.out.1
    obtain ⟨x2, x3, -, -⟩ := cells2 K5.out.2
    go_wp2_with (go_at_call 86; refine (objects_any (slV_new (l := [(g1, g2), (a, b)]) rfl (by intro y hy; simp at hy; rcases hy with rfl | rfl; exact WG.out; exact PI.out.wk) (by simp)) (by simp)).mono ?_; rintro e w7 h7; obtain ⟨vv, rfl, o7, b7⟩ := objs_many (w := w) (congrArg Prod.snd HE.out) h7 (by have := B5.out.size; simp; omega); have O7 := Lib.hid o7; have B7 := Lib.hid b7; clear o7 b7)
    go_ret
    have hz5 := B5.out.size
    have hb9 : Below W5.heap.size W5 w7 := ((Below.refl _ _).alloc (Nat.le_refl _) _).trans (B7.out.mono (by simp))
    have hp := PI.out.sz
    refine ⟨vv, rfl, O7.out, ?_, B5.out.trans (hb9.mono (by omega))⟩
    rw [HE.out]
    exact (T5.out.below hb9).layIn
set_option maxHeartbeats 4000000 in
theorem put_no {w : World} {base tp ga oa ca gp op cp mb N : Nat} {t : Tab} {k v : VV} (h : PutIn w base tp ga oa ca gp op cp mb N t k v) (hk : listedB t.arr.length k = false) (hi : idxQ t.prs k = none) (hv : v = nilP) :
    Calls Try.prog 60 #[bV tp, vV k, vV v] w (Puts w base tp t k v) := by
  have e1 : putT t k v = (t, objsL [k]) := by
    unfold putT
    rw [if_neg (by simp [hk]), hi]
    simp only [if_pos hv]
  have H : Hid (∀ W, Below w.heap.size w W → TabAt W tp ga oa ca gp op cp mb t N) := fun W hb => h.tab.below hb
  have CG : Hid (∀ W, Below w.heap.size w W → Calls Try.prog 52 #[bV tp, vV k] W fun e w' => e = .returned (vV (getT t k)) ∧ Below W.heap.size W w') := fun W hb => get_any (h.tab.below hb) h.wk
  have CL : Hid (∀ W, Below w.heap.size w W → Calls Try.prog 82 #[bV tp, vV k] W fun e w' => e = .returned (.bool false) ∧ Below W.heap.size W w') := fun W hb => listed_ok (h.tab.below hb).look k hk
  have LK : Hid (∀ W, Below w.heap.size w W → (Instr.lookup 72 (.map (some mb)) (.agg #[.int .i64 k.1, .int .i64 k.2]) true).run Try.prog W = .ok (.tuple #[iV ((((idxQ t.prs k).map (2 * ·)).getD 0 : Nat) : Int), .bool ((idxQ t.prs k).map (2 * ·)).isSome]) W) := fun W hb => (h.tab.below hb).map.run_look h.wk
  rw [hi] at LK
  have WG : Hid (wfP (getT t k)) := getT_wf h.tab k
  generalize getT t k = old at *
  have HE := Lib.hid e1
  have PI := Lib.hid h
  obtain ⟨a, b⟩ := k
  obtain ⟨v1, v2⟩ := v
  have z1 : (v1 == 1) = true := by injection hv with h1 _; rw [h1]; rfl
  have z2 : (v2 == 0) = true := by injection hv with _ h2; rw [h2]; rfl
  clear hv
  obtain ⟨g1, g2⟩ := old
  have B0 : Hid (∀ o1 o2, Below w.heap.size w ((w.alloc o1).alloc o2)) := fun o1 o2 => ((Below.refl _ _).alloc (Nat.le_refl _) _).alloc (by simp) _
  have LL : ∀ j, (Instr.lookup 72 (.map (some mb)) (.agg #[.int .i64 a, .int .i64 b]) true).run Try.prog (((w.alloc (.cells #[.int .i64 a, .int .i64 b] 24)).alloc (.cells #[.int .i64 v1, .int .i64 v2] 24)).drewN j) = .ok (.tuple #[.int .i64 0, .bool false]) (((w.alloc (.cells #[.int .i64 a, .int .i64 b] 24)).alloc (.cells #[.int .i64 v1, .int .i64 v2] 24)).drewN j) := fun j => by
    have := LK.out (((w.alloc (.cells #[.int .i64 a, .int .i64 b] 24)).alloc (.cells #[.int .i64 v1, .int .i64 v2] 24)).drewN j) (below_drewN (B0.out _ _) j)
    exact this
  have c4 := h.tab.cells.2.2.2.2
  have l1 := mem_block_lt h.tab.self
  clear h hk e1 hi LK 
  go_enter Try.func60, Try.ntmps60
  go_wp2_with fail
  go_quiet (fail)
  have B1 : Hid (Below w.heap.size w (((w.alloc (.cells #[.int .i64 a, .int .i64 b] 24)).alloc (.cells #[.int .i64 v1, .int .i64 v2] 24)).drewN nq)) := below_drewN (B0.out _ _) nq
  have K1 : Hid (∀ W, Below (((w.alloc (.cells #[.int .i64 a, .int .i64 b] 24)).alloc (.cells #[.int .i64 v1, .int .i64 v2] 24)).drewN nq).heap.size (((w.alloc (.cells #[.int .i64 a, .int .i64 b] 24)).alloc (.cells #[.int .i64 v1, .int .i64 v2] 24)).drewN nq) W → W.heap[w.heap.size]? = some (.cells #[.int .i64 a, .int .i64 b] 24 (0, 0)) ∧ W.heap[w.heap.size + 1]? = some (.cells #[.int .i64 v1, .int .i64 v2] 24 (0, 0))) := fun W hb => by
    obtain ⟨h1, h2, _, _⟩ := two_in (w := w) (w1 := W) ⟨hb.os, hb.tape, hb.output, hb.size, hb.block⟩
    exact ⟨h1, h2⟩
  clear c4 l1 LL B0
  generalize ((w.alloc (.cells #[.int .i64 a, .int .i64 b] 24)).alloc (.cells #[.int .i64 v1, .int .i64 v2] 24)).drewN nq = W1 at *
  obtain ⟨kk, kv⟩ := K1.out W1 (Below.refl _ _)
  obtain ⟨x0, x1, -, -⟩ := cells2 kk
  clear kk kv
  go_upto_region 8 with (first
    | (go_at_call 52; refine (CG.out _ B1.out).mono ?_; rintro e w2 ⟨rfl, hb2⟩; have B2 := Lib.hid hb2; obtain ⟨kk, kv⟩ := K1.out w2 hb2; obtain ⟨y0, y1, -, -⟩ := cells2 kk; have sz2 : w.heap.size < w2.heap.size := mem_block_lt kk; clear hb2 kk kv)
    | (go_at_call 82; refine (CL.out _ ((B1.out.trans (B2.out.mono B1.out.size)).trans (((Below.refl _ _).alloc (Nat.le_refl _) _).mono (Nat.le_of_lt sz2)))).mono ?_; rintro e w3 ⟨rfl, hb3⟩; have B3 := Lib.hid hb3; clear hb3))
  have SO : Hid (∀ W, Below w3.heap.size w3 W → W.heap[w2.heap.size]? = some (.cells #[.int .i64 g1, .int .i64 g2] 24 (0, 0))) := fun W hb => by
    have h3 := (B3.out.block w2.heap.size (by simp)).trans (MapKept.heap_alloc w2 _).1
    exact (hb.block _ (mem_block_lt h3)).trans h3
  have BW : Hid (Below W1.heap.size W1 w3) := (B2.out.alloc B2.out.size _).trans (B3.out.mono (by have := B2.out.size; simp; omega))
  have BB3 : Hid (Below w.heap.size w w3) := B1.out.trans (BW.out.mono B1.out.size)
  have KK : Hid (∀ W, Below w3.heap.size w3 W → W.heap[w.heap.size]? = some (.cells #[.int .i64 a, .int .i64 b] 24 (0, 0)) ∧ W.heap[w.heap.size + 1]? = some (.cells #[.int .i64 v1, .int .i64 v2] 24 (0, 0))) := fun W hb => K1.out W (BW.out.trans (hb.mono BW.out.size))
  have hsz2 := B2.out.size
  have hs0 := B1.out.size
  have hs3 := BB3.out.size
  have TT : Hid (∀ W, Below w3.heap.size w3 W → TabAt W tp ga oa ca gp op cp mb t N ∧ Below w.heap.size w W) := fun W hb => by
    have h1 := BB3.out.trans (hb.mono BB3.out.size)
    exact ⟨H.out W h1, h1⟩
  clear x0 x1 y0 y1 CL CG B2 B3 K1 H
  have na : w2.heap.size ≠ tp ∧ w2.heap.size ≠ gp ∧ w2.heap.size ≠ mb := by obtain ⟨q1, q2, q3, q4⟩ := PI.out.tab.lts; omega
  have nb : w.heap.size ≠ tp ∧ w.heap.size ≠ gp ∧ w.heap.size ≠ mb := by obtain ⟨q1, q2, q3, q4⟩ := PI.out.tab.lts; omega
  go_wp2_with fail
  refine wp_region_quiet_below (by kernel_rfl) (by kernel_rfl) ?_
  repeat (go_big_quiet_step (fail))
  refine wpQuiet_nil ?_
  intro w4 ⟨⟨dq, osq⟩, hw4⟩
  have B4 : Hid (Below w3.heap.size w3 w4) := by rw [hw4]; exact below_regrown w3 dq osq
  clear hw4
  go_wp2_with fail
  obtain ⟨kk, kv⟩ := KK.out w4 B4.out
  obtain ⟨x0, x1, -, -⟩ := cells2 kk
  obtain ⟨x2, x3, -, -⟩ := cells2 kv
  have y0 := fun d os => cell_regrown x0 d os
  have y1 := fun d os => cell_regrown x1 d os
  have y2 := fun d os => cell_regrown x2 d os
  have y3 := fun d os => cell_regrown x3 d os
  have cN := null_re w4
  clear x0 x1 x2 x3 kk kv
  refine wp_region_quiet_below (by kernel_rfl) (by kernel_rfl) ?_
  repeat (go_big_quiet_step (with_reducible exact cN _ _))
  refine wpQuiet_nil ?_
  intro w5 ⟨⟨dq, osq⟩, hw5⟩
  have B5 : Hid (Below w4.heap.size w4 w5) := by rw [hw5]; exact below_regrown w4 dq osq
  clear hw5
  clear y0 y1 y2 y3 cN
  have B35 : Hid (Below w3.heap.size w3 w5) := B4.out.trans (B5.out.mono B4.out.size)
  obtain ⟨T5, B5w⟩ := TT.out w5 B35.out
  have HT5 := Lib.hid T5
  have HB5 := Lib.hid B5w
  obtain ⟨x0, x1, -, -⟩ := cells2 (KK.out w5 B35.out).1
  clear T5 B5w TT SO KK
  go_wp2_with (go_at_call 86; refine (objects_any (slV_new (l := [(a, b)]) rfl (by intro y hy; simp at hy; subst hy; exact PI.out.wk) (by simp)) (by simp)).mono ?_; rintro e w7 h7; obtain ⟨vv, rfl, o7, b7⟩ := objs_many (w := w) (congrArg Prod.snd HE.out) h7 (by have := HB5.out.size; simp; omega); have O7 := Lib.hid o7; have B7 := Lib.hid b7; clear o7 b7)
  go_ret
  have hz5 := HB5.out.size
  have hb9 : Below w5.heap.size w5 w7 := ((Below.refl _ _).alloc (Nat.le_refl _) _).trans (B7.out.mono (by simp))
  have hp := PI.out.sz
  refine ⟨vv, rfl, O7.out, ?_, (HB5.out.mono hp).trans (hb9.mono (by omega))⟩
  rw [HE.out]
  exact (HT5.out.below hb9).layIn
set_option maxHeartbeats 4000000 in
theorem put_after {w : World} {base tp ga oa ca gp op cp mb N : Nat} {t : Tab} {k v : VV} (h : PutIn w base tp ga oa ca gp op cp mb N t k v) (hk : listedB t.arr.length k = false) (hi : idxQ t.prs k = none) (hv : v ≠ nilP) (hka : k = intP (t.arr.length + 1)) :
    Calls Try.prog 60 #[bV tp, vV k, vV v] w (Puts w base tp t k v) := by
  have e1 : putT t k v = ({ t with arr := (longT t.prs.length (t.arr ++ [v]) t.prs).1, prs := (longT t.prs.length (t.arr ++ [v]) t.prs).2 }, []) := by
    unfold putT
    rw [if_neg (by simp [hk]), hi]
    simp only [if_neg hv, if_pos hka]
  have H : Hid (∀ W, Below w.heap.size w W → TabAt W tp ga oa ca gp op cp mb t N) := fun W hb => h.tab.below hb
  have CG : Hid (∀ W, Below w.heap.size w W → Calls Try.prog 52 #[bV tp, vV k] W fun e w' => e = .returned (vV (getT t k)) ∧ Below W.heap.size W w') := fun W hb => get_any (h.tab.below hb) h.wk
  have CL : Hid (∀ W, Below w.heap.size w W → Calls Try.prog 82 #[bV tp, vV k] W fun e w' => e = .returned (.bool false) ∧ Below W.heap.size W w') := fun W hb => listed_ok (h.tab.below hb).look k hk
  have LK : Hid (∀ W, Below w.heap.size w W → (Instr.lookup 72 (.map (some mb)) (.agg #[.int .i64 k.1, .int .i64 k.2]) true).run Try.prog W = .ok (.tuple #[iV ((((idxQ t.prs k).map (2 * ·)).getD 0 : Nat) : Int), .bool ((idxQ t.prs k).map (2 * ·)).isSome]) W) := fun W hb => (h.tab.below hb).map.run_look h.wk
  rw [hi] at LK
  have WG : Hid (wfP (getT t k)) := getT_wf h.tab k
  generalize getT t k = old at *
  have SM := Lib.hid (h.good.append (keyP_iff.2 ⟨h.elem, hv⟩))
  obtain ⟨n, hn⟩ : ∃ n, n = t.arr.length := ⟨_, rfl⟩
  rw [← hn] at hka
  have HN := Lib.hid hn
  have HE := Lib.hid e1
  have PI := Lib.hid h
  obtain ⟨a, b⟩ := k
  obtain ⟨v1, v2⟩ := v
  have z1 : (v1 == 1) = false := not_nil PI.out.elem hv
  clear hv
  have z3 : (a == 3) = true := by injection hka with e1 _; rw [e1]; rfl
  have z4 : (b == (n : Int) + 1) = true := by injection hka with _ e2; rw [e2]; simp
  clear hka
  obtain ⟨g1, g2⟩ := old
  have B0 : Hid (∀ o1 o2, Below w.heap.size w ((w.alloc o1).alloc o2)) := fun o1 o2 => ((Below.refl _ _).alloc (Nat.le_refl _) _).alloc (by simp) _
  have LL : ∀ j, (Instr.lookup 72 (.map (some mb)) (.agg #[.int .i64 a, .int .i64 b]) true).run Try.prog (((w.alloc (.cells #[.int .i64 a, .int .i64 b] 24)).alloc (.cells #[.int .i64 v1, .int .i64 v2] 24)).drewN j) = .ok (.tuple #[.int .i64 0, .bool false]) (((w.alloc (.cells #[.int .i64 a, .int .i64 b] 24)).alloc (.cells #[.int .i64 v1, .int .i64 v2] 24)).drewN j) := fun j => by
    have := LK.out (((w.alloc (.cells #[.int .i64 a, .int .i64 b] 24)).alloc (.cells #[.int .i64 v1, .int .i64 v2] 24)).drewN j) (below_drewN (B0.out _ _) j)
    exact this
  have c4 := h.tab.cells.2.2.2.2
  have l1 := mem_block_lt h.tab.self
  clear h hk e1 hi LK hn
  go_enter Try.func60, Try.ntmps60
  go_wp2_with fail
  go_quiet (fail)
  have B1 : Hid (Below w.heap.size w (((w.alloc (.cells #[.int .i64 a, .int .i64 b] 24)).alloc (.cells #[.int .i64 v1, .int .i64 v2] 24)).drewN nq)) := below_drewN (B0.out _ _) nq
  have K1 : Hid (∀ W, Below (((w.alloc (.cells #[.int .i64 a, .int .i64 b] 24)).alloc (.cells #[.int .i64 v1, .int .i64 v2] 24)).drewN nq).heap.size (((w.alloc (.cells #[.int .i64 a, .int .i64 b] 24)).alloc (.cells #[.int .i64 v1, .int .i64 v2] 24)).drewN nq) W → W.heap[w.heap.size]? = some (.cells #[.int .i64 a, .int .i64 b] 24 (0, 0)) ∧ W.heap[w.heap.size + 1]? = some (.cells #[.int .i64 v1, .int .i64 v2] 24 (0, 0))) := fun W hb => by
    obtain ⟨h1, h2, _, _⟩ := two_in (w := w) (w1 := W) ⟨hb.os, hb.tape, hb.output, hb.size, hb.block⟩
    exact ⟨h1, h2⟩
  clear c4 l1 LL B0
  generalize ((w.alloc (.cells #[.int .i64 a, .int .i64 b] 24)).alloc (.cells #[.int .i64 v1, .int .i64 v2] 24)).drewN nq = W1 at *
  obtain ⟨kk, kv⟩ := K1.out W1 (Below.refl _ _)
  obtain ⟨x0, x1, -, -⟩ := cells2 kk
  clear kk kv
  go_upto_region 8 with (first
    | (go_at_call 52; refine (CG.out _ B1.out).mono ?_; rintro e w2 ⟨rfl, hb2⟩; have B2 := Lib.hid hb2; obtain ⟨kk, kv⟩ := K1.out w2 hb2; obtain ⟨y0, y1, -, -⟩ := cells2 kk; have sz2 : w.heap.size < w2.heap.size := mem_block_lt kk; clear hb2 kk kv)
    | (go_at_call 82; refine (CL.out _ ((B1.out.trans (B2.out.mono B1.out.size)).trans (((Below.refl _ _).alloc (Nat.le_refl _) _).mono (Nat.le_of_lt sz2)))).mono ?_; rintro e w3 ⟨rfl, hb3⟩; have B3 := Lib.hid hb3; clear hb3))
  have SO : Hid (∀ W, Below w3.heap.size w3 W → W.heap[w2.heap.size]? = some (.cells #[.int .i64 g1, .int .i64 g2] 24 (0, 0))) := fun W hb => by
    have h3 := (B3.out.block w2.heap.size (by simp)).trans (MapKept.heap_alloc w2 _).1
    exact (hb.block _ (mem_block_lt h3)).trans h3
  have BW : Hid (Below W1.heap.size W1 w3) := (B2.out.alloc B2.out.size _).trans (B3.out.mono (by have := B2.out.size; simp; omega))
  have BB3 : Hid (Below w.heap.size w w3) := B1.out.trans (BW.out.mono B1.out.size)
  have KK : Hid (∀ W, Below w3.heap.size w3 W → W.heap[w.heap.size]? = some (.cells #[.int .i64 a, .int .i64 b] 24 (0, 0)) ∧ W.heap[w.heap.size + 1]? = some (.cells #[.int .i64 v1, .int .i64 v2] 24 (0, 0))) := fun W hb => K1.out W (BW.out.trans (hb.mono BW.out.size))
  have hsz2 := B2.out.size
  have hs0 := B1.out.size
  have hs3 := BB3.out.size
  have TT : Hid (∀ W, Below w3.heap.size w3 W → TabAt W tp ga oa ca gp op cp mb t N ∧ Below w.heap.size w W) := fun W hb => by
    have h1 := BB3.out.trans (hb.mono BB3.out.size)
    exact ⟨H.out W h1, h1⟩
  clear x0 x1 y0 y1 CL CG B2 B3 K1 H
  have na : w2.heap.size ≠ tp ∧ w2.heap.size ≠ gp ∧ w2.heap.size ≠ mb := by obtain ⟨q1, q2, q3, q4⟩ := PI.out.tab.lts; omega
  have nb : w.heap.size ≠ tp ∧ w.heap.size ≠ gp ∧ w.heap.size ≠ mb := by obtain ⟨q1, q2, q3, q4⟩ := PI.out.tab.lts; omega
  go_wp2_with fail
  refine wp_region_quiet_below (by kernel_rfl) (by kernel_rfl) ?_
  repeat (go_big_quiet_step (fail))
  refine wpQuiet_nil ?_
  intro w4 ⟨⟨dq, osq⟩, hw4⟩
  have B4 : Hid (Below w3.heap.size w3 w4) := by rw [hw4]; exact below_regrown w3 dq osq
  clear hw4
  go_wp2_with fail
  obtain ⟨kk, kv⟩ := KK.out w4 B4.out
  obtain ⟨x0, x1, -, -⟩ := cells2 kk
  obtain ⟨x2, x3, -, -⟩ := cells2 kv
  have y0 := fun d os => cell_regrown x0 d os
  have y1 := fun d os => cell_regrown x1 d os
  have y2 := fun d os => cell_regrown x2 d os
  have y3 := fun d os => cell_regrown x3 d os
  have cN := null_re w4
  clear x0 x1 x2 x3 kk kv
  refine wp_region_quiet_below (by kernel_rfl) (by kernel_rfl) ?_
  repeat (go_big_quiet_step (with_reducible exact cN _ _))
  refine wpQuiet_nil ?_
  intro w5 ⟨⟨dq, osq⟩, hw5⟩
  have B5 : Hid (Below w4.heap.size w4 w5) := by rw [hw5]; exact below_regrown w4 dq osq
  clear hw5
  clear y0 y1 y2 y3 cN
  have B35 : Hid (Below w3.heap.size w3 w5) := B4.out.trans (B5.out.mono B4.out.size)
  go_wp2_with fail
  obtain ⟨kk, -⟩ := KK.out w5 B35.out
  obtain ⟨x0, x1, -, -⟩ := cells2 kk
  have y0 := fun d os => cell_regrown x0 d os
  have y1 := fun d os => cell_regrown x1 d os
  have cA := after_re (HN.out ▸ (TT.out w5 B35.out).1.look : LookAt w5 tp n)
  clear x0 x1 kk
  refine wp_region_quiet_below (by kernel_rfl) (by kernel_rfl) ?_
  repeat (go_big_quiet_step (with_reducible exact cA _ _))
  refine wpQuiet_nil ?_
  intro w6 ⟨⟨dq, osq⟩, hw6⟩
  have B6 : Hid (Below w5.heap.size w5 w6) := by rw [hw6]; exact below_regrown w5 dq osq
  clear hw6
  clear y0 y1 cA
  have B36 : Hid (Below w3.heap.size w3 w6) := B35.out.trans (B6.out.mono B35.out.size)
  obtain ⟨T6, B6w⟩ := TT.out w6 B36.out
  obtain ⟨x2, x3, -, -⟩ := cells2 (KK.out w6 B36.out).2
  have hp := PI.out.sz
  have CG : Hid (Calls Try.prog 89 #[bV tp, vV (v1, v2)] w6 fun e w' => e = .returned (.tuple #[]) ∧ ∃ ga oa ca cp N', TabAt w' tp ga oa ca gp op cp mb ⟨t.meta_, (longT t.prs.length (t.arr ++ [(v1, v2)]) t.prs).1, (longT t.prs.length (t.arr ++ [(v1, v2)]) t.prs).2⟩ N' ∧ base ≤ ga ∧ Below base w6 w') :=
    lengthen_any (m0 := t.meta_) (A := t.arr) (q := t.prs) T6 PI.out.wv SM.out PI.out.bt PI.out.ba PI.out.bg PI.out.bm (by have := B6w.size; omega) (by have := PI.out.small.1; omega) (by have := PI.out.small.2; omega)
  have HB6 := Lib.hid B6w
  clear T6 B6w TT SO KK
  go_wp2_with (go_at_call 89; refine CG.out.mono ?_; rintro e w7 ⟨rfl, g7, o7, c7, p7, N7, h7, hg7, hb7⟩; have T7 := Lib.hid h7; have B7 := Lib.hid hb7; clear h7 hg7 hb7)
  go_ret
  refine ⟨_, rfl, ?_, ?_, (HB6.out.mono hp).trans B7.out⟩
  · rw [HE.out]; exact OwnV.nil _ _
  · rw [HE.out]; exact T7.out.layIn
/-- A pair more behind all. -/
theorem lay_grown {W w1 : World} {tp ga oa ca gp op cp mb N g1 o1 c1 n1 : Nat} {t : Tab} {k v : VV} (h : TabAt W tp ga oa ca gp op cp mb t N) (hR : RowV w1 g1 o1 c1 (flatQ t.prs ++ [k, v])) (hG : Grew W w1 gp op cp (flatQ t.prs).length g1 o1 c1) (hn1 : n1 = 2 * t.prs.length + 2) :
    LayIn (w1.setCell ⟨tp, 3, none⟩ (.slice (some ⟨g1, o1, none⟩) n1 c1)) tp { t with prs := t.prs ++ [(k, v)] } := by
  subst hn1
  obtain ⟨a1, a2, a3, a4, a5⟩ := h.apt
  obtain ⟨b1, b2, b3, b4⟩ := h.lts
  have g1t : g1 ≠ tp := by
    rcases hG with ⟨rfl, _⟩ | ⟨hg, _⟩
    · exact Ne.symm a2
    · omega
  refine ⟨ga, oa, ca, g1, o1, c1, .map (some mb), ?_, ?_, ?_⟩
  · have := self_prs (v := .slice (some ⟨g1, o1, none⟩) (2 * t.prs.length + 2) c1) ((hG.other b1 a2).trans h.self)
    simpa [Nat.mul_add] using this
  · refine RowV.keep ?_ (Below.heap_setCell _ _ _ _ (Ne.symm a1))
    by_cases e : ga = gp
    · subst e
      rcases hG with ⟨_, _, _, _, hI⟩ | ⟨_, hb⟩
      · rcases h.apart with x | x | x
        · exact absurd rfl x
        · have hroom := h.arr.room
          exact h.arr.inRow hI (.inr (by omega))
        · have hr := hR.room
          have hroom := h.prs.room
          simp only [List.length_append, List.length_cons, List.length_nil] at hr
          exfalso
          subst x
          have : c1 = 0 := by assumption
          omega
      · exact h.arr.keep (hb.block ga b2)
    · exact h.arr.keep (hG.other b2 e)
  · refine RowV.keep ?_ (Below.heap_setCell _ _ _ _ g1t)
    rw [flatQ_append]
    exact hR
theorem prsSlot {w w1 : World} {tp ga oa ca gp op cp mb N : Nat} {t : Tab} (h : TabAt w tp ga oa ca gp op cp mb t N) (e : w1.heap[tp]? = w.heap[tp]?) : w1.cell? ⟨tp, 3, none⟩ = some (.slice (some ⟨gp, op, none⟩) (2 * t.prs.length) cp) ∧ w1.frozen? ⟨tp, 3, none⟩ = false := ⟨(h.slots e).1, (h.slots e).2.2⟩
set_option maxHeartbeats 4000000 in
theorem put_other {w : World} {base tp ga oa ca gp op cp mb N : Nat} {t : Tab} {k v : VV} (h : PutIn w base tp ga oa ca gp op cp mb N t k v) (hk : listedB t.arr.length k = false) (hi : idxQ t.prs k = none) (hv : v ≠ nilP) (hka : k ≠ intP (t.arr.length + 1)) :
    Calls Try.prog 60 #[bV tp, vV k, vV v] w (Puts w base tp t k v) := by
  have e1 : putT t k v = ({ t with prs := t.prs ++ [(k, v)] }, []) := by
    unfold putT
    rw [if_neg (by simp [hk]), hi]
    simp only [if_neg hv, if_neg hka]
  have H : Hid (∀ W, Below w.heap.size w W → TabAt W tp ga oa ca gp op cp mb t N) := fun W hb => h.tab.below hb
  have CG : Hid (∀ W, Below w.heap.size w W → Calls Try.prog 52 #[bV tp, vV k] W fun e w' => e = .returned (vV (getT t k)) ∧ Below W.heap.size W w') := fun W hb => get_any (h.tab.below hb) h.wk
  have CL : Hid (∀ W, Below w.heap.size w W → Calls Try.prog 82 #[bV tp, vV k] W fun e w' => e = .returned (.bool false) ∧ Below W.heap.size W w') := fun W hb => listed_ok (h.tab.below hb).look k hk
  have LK : Hid (∀ W, Below w.heap.size w W → (Instr.lookup 72 (.map (some mb)) (.agg #[.int .i64 k.1, .int .i64 k.2]) true).run Try.prog W = .ok (.tuple #[iV ((((idxQ t.prs k).map (2 * ·)).getD 0 : Nat) : Int), .bool ((idxQ t.prs k).map (2 * ·)).isSome]) W) := fun W hb => (h.tab.below hb).map.run_look h.wk
  rw [hi] at LK
  have WG : Hid (wfP (getT t k)) := getT_wf h.tab k
  generalize getT t k = old at *
  obtain ⟨n, hn⟩ : ∃ n, n = t.arr.length := ⟨_, rfl⟩
  rw [← hn] at hka
  have HN := Lib.hid hn
  obtain ⟨m, hm⟩ : ∃ m, m = 2 * t.prs.length := ⟨_, rfl⟩
  have HMM := Lib.hid hm
  have hml : m ≤ 2147483648 := by have := h.small.1; omega
  have HE := Lib.hid e1
  have PI := Lib.hid h
  obtain ⟨a, b⟩ := k
  obtain ⟨v1, v2⟩ := v
  have z1 : (v1 == 1) = false := not_nil PI.out.elem hv
  clear hv
  have HKA := Lib.hid hka
  clear hka
  obtain ⟨g1, g2⟩ := old
  have B0 : Hid (∀ o1 o2, Below w.heap.size w ((w.alloc o1).alloc o2)) := fun o1 o2 => ((Below.refl _ _).alloc (Nat.le_refl _) _).alloc (by simp) _
  have LL : ∀ j, (Instr.lookup 72 (.map (some mb)) (.agg #[.int .i64 a, .int .i64 b]) true).run Try.prog (((w.alloc (.cells #[.int .i64 a, .int .i64 b] 24)).alloc (.cells #[.int .i64 v1, .int .i64 v2] 24)).drewN j) = .ok (.tuple #[.int .i64 0, .bool false]) (((w.alloc (.cells #[.int .i64 a, .int .i64 b] 24)).alloc (.cells #[.int .i64 v1, .int .i64 v2] 24)).drewN j) := fun j => by
    have := LK.out (((w.alloc (.cells #[.int .i64 a, .int .i64 b] 24)).alloc (.cells #[.int .i64 v1, .int .i64 v2] 24)).drewN j) (below_drewN (B0.out _ _) j)
    exact this
  have c4 := h.tab.cells.2.2.2.2
  have l1 := mem_block_lt h.tab.self
  clear h hk e1 hi LK hn hm
  go_enter Try.func60, Try.ntmps60
  go_wp2_with fail
  go_quiet (fail)
  have B1 : Hid (Below w.heap.size w (((w.alloc (.cells #[.int .i64 a, .int .i64 b] 24)).alloc (.cells #[.int .i64 v1, .int .i64 v2] 24)).drewN nq)) := below_drewN (B0.out _ _) nq
  have K1 : Hid (∀ W, Below (((w.alloc (.cells #[.int .i64 a, .int .i64 b] 24)).alloc (.cells #[.int .i64 v1, .int .i64 v2] 24)).drewN nq).heap.size (((w.alloc (.cells #[.int .i64 a, .int .i64 b] 24)).alloc (.cells #[.int .i64 v1, .int .i64 v2] 24)).drewN nq) W → W.heap[w.heap.size]? = some (.cells #[.int .i64 a, .int .i64 b] 24 (0, 0)) ∧ W.heap[w.heap.size + 1]? = some (.cells #[.int .i64 v1, .int .i64 v2] 24 (0, 0))) := fun W hb => by
    obtain ⟨h1, h2, _, _⟩ := two_in (w := w) (w1 := W) ⟨hb.os, hb.tape, hb.output, hb.size, hb.block⟩
    exact ⟨h1, h2⟩
  clear c4 l1 LL B0
  generalize ((w.alloc (.cells #[.int .i64 a, .int .i64 b] 24)).alloc (.cells #[.int .i64 v1, .int .i64 v2] 24)).drewN nq = W1 at *
  obtain ⟨kk, kv⟩ := K1.out W1 (Below.refl _ _)
  obtain ⟨x0, x1, -, -⟩ := cells2 kk
  clear kk kv
  go_upto_region 8 with (first
    | (go_at_call 52; refine (CG.out _ B1.out).mono ?_; rintro e w2 ⟨rfl, hb2⟩; have B2 := Lib.hid hb2; obtain ⟨kk, kv⟩ := K1.out w2 hb2; obtain ⟨y0, y1, -, -⟩ := cells2 kk; have sz2 : w.heap.size < w2.heap.size := mem_block_lt kk; clear hb2 kk kv)
    | (go_at_call 82; refine (CL.out _ ((B1.out.trans (B2.out.mono B1.out.size)).trans (((Below.refl _ _).alloc (Nat.le_refl _) _).mono (Nat.le_of_lt sz2)))).mono ?_; rintro e w3 ⟨rfl, hb3⟩; have B3 := Lib.hid hb3; clear hb3))
  have SO : Hid (∀ W, Below w3.heap.size w3 W → W.heap[w2.heap.size]? = some (.cells #[.int .i64 g1, .int .i64 g2] 24 (0, 0))) := fun W hb => by
    have h3 := (B3.out.block w2.heap.size (by simp)).trans (MapKept.heap_alloc w2 _).1
    exact (hb.block _ (mem_block_lt h3)).trans h3
  have BW : Hid (Below W1.heap.size W1 w3) := (B2.out.alloc B2.out.size _).trans (B3.out.mono (by have := B2.out.size; simp; omega))
  have BB3 : Hid (Below w.heap.size w w3) := B1.out.trans (BW.out.mono B1.out.size)
  have KK : Hid (∀ W, Below w3.heap.size w3 W → W.heap[w.heap.size]? = some (.cells #[.int .i64 a, .int .i64 b] 24 (0, 0)) ∧ W.heap[w.heap.size + 1]? = some (.cells #[.int .i64 v1, .int .i64 v2] 24 (0, 0))) := fun W hb => K1.out W (BW.out.trans (hb.mono BW.out.size))
  have hsz2 := B2.out.size
  have hs0 := B1.out.size
  have hs3 := BB3.out.size
  have TT : Hid (∀ W, Below w3.heap.size w3 W → TabAt W tp ga oa ca gp op cp mb t N ∧ Below w.heap.size w W) := fun W hb => by
    have h1 := BB3.out.trans (hb.mono BB3.out.size)
    exact ⟨H.out W h1, h1⟩
  clear x0 x1 y0 y1 CL CG B2 B3 K1 H
  have na : w2.heap.size ≠ tp ∧ w2.heap.size ≠ gp ∧ w2.heap.size ≠ mb := by obtain ⟨q1, q2, q3, q4⟩ := PI.out.tab.lts; omega
  have nb : w.heap.size ≠ tp ∧ w.heap.size ≠ gp ∧ w.heap.size ≠ mb := by obtain ⟨q1, q2, q3, q4⟩ := PI.out.tab.lts; omega
  go_wp2_with fail
  refine wp_region_quiet_below (by kernel_rfl) (by kernel_rfl) ?_
  repeat (go_big_quiet_step (fail))
  refine wpQuiet_nil ?_
  intro w4 ⟨⟨dq, osq⟩, hw4⟩
  have B4 : Hid (Below w3.heap.size w3 w4) := by rw [hw4]; exact below_regrown w3 dq osq
  clear hw4
  go_wp2_with fail
  obtain ⟨kk, kv⟩ := KK.out w4 B4.out
  obtain ⟨x0, x1, -, -⟩ := cells2 kk
  obtain ⟨x2, x3, -, -⟩ := cells2 kv
  have y0 := fun d os => cell_regrown x0 d os
  have y1 := fun d os => cell_regrown x1 d os
  have y2 := fun d os => cell_regrown x2 d os
  have y3 := fun d os => cell_regrown x3 d os
  have cN := null_re w4
  clear x0 x1 x2 x3 kk kv
  refine wp_region_quiet_below (by kernel_rfl) (by kernel_rfl) ?_
  repeat (go_big_quiet_step (with_reducible exact cN _ _))
  refine wpQuiet_nil ?_
  intro w5 ⟨⟨dq, osq⟩, hw5⟩
  have B5 : Hid (Below w4.heap.size w4 w5) := by rw [hw5]; exact below_regrown w4 dq osq
  clear hw5
  clear y0 y1 y2 y3 cN
  have B35 : Hid (Below w3.heap.size w3 w5) := B4.out.trans (B5.out.mono B4.out.size)
  go_wp2_with fail
  obtain ⟨kk, -⟩ := KK.out w5 B35.out
  obtain ⟨x0, x1, -, -⟩ := cells2 kk
  have y0 := fun d os => cell_regrown x0 d os
  have y1 := fun d os => cell_regrown x1 d os
  have cA := after_re (HN.out ▸ (TT.out w5 B35.out).1.look : LookAt w5 tp n)
  clear x0 x1 kk
  go_cut [95] (fun s95 wx => s95 = Value.bool false ∧ Hid (Below w5.heap.size w5 wx))
  case first =>
    by_cases z3 : a = 3
    · have z4 : (b == (n : Int) + 1) = false := not_eq (fun e => HKA.out (Prod.ext z3 e))
      have z5 : (a == 3) = true := by simp [z3]
      clear z3
      refine wp_region_quiet_below (by kernel_rfl) (by kernel_rfl) ?_
      repeat (go_big_quiet_step (with_reducible exact cA _ _))
      refine wpQuiet_nil ?_
      intro w6 ⟨⟨dq, osq⟩, hw6⟩
      have B6 : Hid (Below w5.heap.size w5 w6) := by rw [hw6]; exact below_regrown w5 dq osq
      clear hw6
      go_wp2_with fail
      go_meet
      exact ⟨rfl, B6⟩
    · have z5 := not_eq z3
      clear z3
      refine wp_region_quiet_below (by kernel_rfl) (by kernel_rfl) ?_
      repeat (go_big_quiet_step (with_reducible exact cA _ _))
      refine wpQuiet_nil ?_
      intro w6 ⟨⟨dq, osq⟩, hw6⟩
      have B6 : Hid (Below w5.heap.size w5 w6) := by rw [hw6]; exact below_regrown w5 dq osq
      clear hw6
      go_wp2_with fail
      go_meet
      exact ⟨rfl, B6⟩
  case rest =>
    obtain ⟨rfl, B6⟩ := hcut
    clear y0 y1 cA
    have B36 : Hid (Below w3.heap.size w3 wc) := B35.out.trans (B6.out.mono B35.out.size)
    obtain ⟨T6, B6w⟩ := TT.out wc B36.out
    obtain ⟨x0, x1, -, -⟩ := cells2 (KK.out wc B36.out).1
    obtain ⟨x2, x3, -, -⟩ := cells2 (KK.out wc B36.out).2
    obtain ⟨-, -, -, c3, -⟩ := T6.cells
    rw [← HMM.out] at c3
    have hp := PI.out.sz
    have hz6 := B6w.size
    have BE : Hid (Below wc.heap.size wc (wc.alloc (.cells #[.int .i64 a, .int .i64 b, .int .i64 v1, .int .i64 v2] 24)).drew) := ((Below.refl _ _).alloc (Nat.le_refl _) _).drew
    have T7 : Hid (TabAt (wc.alloc (.cells #[.int .i64 a, .int .i64 b, .int .i64 v1, .int .i64 v2] 24)).drew tp ga oa ca gp op cp mb t N) := T6.below BE.out
    have ROW2 : Hid (RowV (wc.alloc (.cells #[.int .i64 a, .int .i64 b, .int .i64 v1, .int .i64 v2] 24)).drew gp op cp (flatQ t.prs)) := T7.out.prs
    have NW2 : Hid (∀ j x, (cellsV [(a, b), (v1, v2)])[j]? = some x → (wc.alloc (.cells #[.int .i64 a, .int .i64 b, .int .i64 v1, .int .i64 v2] 24)).drew.cell? ((⟨wc.heap.size, 0, none⟩ : Addr).add j) = some x) := news_two (w := wc) (m := (a, b)) (k := (v1, v2))
    have SZ2 : Hid ((wc.alloc (.cells #[.int .i64 a, .int .i64 b, .int .i64 v1, .int .i64 v2] 24)).drew.heap.size = wc.heap.size + 1) := Lib.hid (by simp)
    have HL : Hid (m = (flatQ t.prs).length) := Lib.hid (by rw [flatQ_len]; exact HMM.out)
    obtain ⟨b1, b2, b3, b4⟩ := T6.lts
    have a2 := T6.apt.2.1
    have HB6 := Lib.hid B6w
    clear T6 B6w TT SO KK
    go_wp2_with fail
    go_region_law (refine step_append_V rfl _ _ rfl ROW2.out HL.out rfl ⟨wc.heap.size, 0, none⟩ 2 2 rfl [(a, b), (v1, v2)] rfl NW2.out ?_ (by omega) ?_; (· (intro y hy; simp at hy; rcases hy with rfl | rfl; exact PI.out.wk; exact PI.out.wv)); intro w1 g1 o1 k1 hR1 hG1; have y1 := hG1.out.size; have e1 := hG1.out.other (k := tp) (by rw [SZ2.out]; omega) a2; obtain ⟨y2, yf⟩ := prsSlot T7.out e1; have y3 : tp < w1.heap.size := Nat.lt_of_lt_of_le (by rw [SZ2.out]; omega) y1)
    all_goals
      go_wp2_with fail
      go_ret
      have L1 := lay_grown (n1 := m + 2) T7.out hR1.out (by have := hG1.out; rw [HL.out] at this; exact this) (by rw [HMM.out])
      refine ⟨_, rfl, ?_, ?_, (HB6.out.mono hp).trans ((BE.out.mono (by omega)).trans ((hG1.out.below PI.out.bg (by rw [SZ2.out]; omega)).setCell PI.out.bt _))⟩
      · rw [HE.out]; exact OwnV.nil _ _
      · rw [HE.out]; exact L1
/-- put. -/
theorem put_any {w : World} {base tp ga oa ca gp op cp mb N : Nat} {t : Tab} {k v : VV} (h : PutIn w base tp ga oa ca gp op cp mb N t k v) : Calls Try.prog 60 #[bV tp, vV k, vV v] w (Puts w base tp t k v) := by
  cases hk : listedB t.arr.length k with
  | true => exact put_listed h hk
  | false =>
    cases hi : idxQ t.prs k with
    | some i =>
      by_cases hv : v = nilP
      · exact put_pair_nil h hk hi hv
      · exact put_pair h hk hi hv
    | none =>
      by_cases hv : v = nilP
      · exact put_no h hk hi hv
      · by_cases hka : k = intP (t.arr.length + 1)
        · exact put_after h hk hi hv hka
        · exact put_other h hk hi hv hka
end Go.Proofs.Ytkkdgacdajojiaa
