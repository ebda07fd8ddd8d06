/- put: what is common; a key of the array. -/
import Derived.Test.YtkkdgacdajojiaaBase
import Derived.Test.YtkkdgacdajojiaaDiLay
namespace Go.Proofs.Ytkkdgacdajojiaa
set_option maxRecDepth 20000
set_option maxRecDepth 20000
open Go.RowKit Go.Maps Go.Sort Go.BigFrame

theorem RowV.setNone {w : World} {g off c op cp : Nat} {P : List VV} (h : RowV w g off c []) (hP : RowV w g op cp P) {j : Nat} (hj : j < P.length) (x y : Value) : RowV ((w.setCell ⟨g, op + j * 2, none⟩ x).setCell ⟨g, op + j * 2 + 1, none⟩ y) g off c [] := by
  obtain ⟨⟨cur, h1, h2, h6⟩, h3, h4, h5⟩ := h
  obtain ⟨⟨cur2, k1, k2, k6⟩, k3, k4, k5⟩ := hP
  rw [h1] at k1; injection k1 with k1; injection k1 with k1 _ _
  have k1 : cur = cur2 := by simpa using congrArg Array.toList k1
  subst k1
  have hl : op + j * 2 + 1 < cur.length := by omega
  refine ⟨⟨(cur.set (op + j * 2) x).set (op + j * 2 + 1) y, ?_, by simpa using h2, by simp [cellsV]⟩, h3, h4, h5⟩
  have e1 : (w.setCell ⟨g, op + j * 2, none⟩ x).heap[g]? = some (.cells (cur.set (op + j * 2) x).toArray 24 (0, 0)) := by
    rw [setCell_eq_setRow w g _ _ _ _ _ h1, setRow_heap w g _ _ _ _ h1]
    simp [Array.setIfInBounds, show op + j * 2 < cur.length by omega]
  rw [setCell_eq_setRow _ g _ _ _ _ _ e1, setRow_heap _ g _ _ _ _ e1]
  simp [Array.setIfInBounds, hl]
/-- An element of the array is written. -/
theorem tab_setArr {w : World} {tp ga oa ca gp op cp mb N : Nat} {t : Tab} (h : TabAt w tp ga oa ca gp op cp mb t N) {i : Nat} (hi : i < t.arr.length) {v : VV} (hv : wfP v) :
    TabAt ((w.setCell ⟨ga, oa + i * 2, none⟩ (iV v.1)).setCell ⟨ga, oa + i * 2 + 1, none⟩ (iV v.2)) tp ga oa ca gp op cp mb { t with arr := t.arr.set i v } N := by
  obtain ⟨a1, a2, a3, a4, a5⟩ := h.apt
  refine ⟨?_, h.arr.set hi hv, ?_, h.map.keep (heap_set2 _ _ _ (Ne.symm a4)), h.apart, ⟨h.small.1, by simpa using h.small.2.1, h.small.2.2⟩⟩
  · rw [heap_set2 _ _ _ a1]; simpa using h.self
  · by_cases e : gp = ga
    · subst e
      rcases h.apart with x | x | x
      · exact absurd rfl x
      · exact h.prs.setApart h.arr hi (.inr x) _ _
      · have hroom := h.prs.room
        have hl : flatQ t.prs = [] := List.length_eq_zero_iff.1 (by omega)
        have hp := h.prs
        rw [hl] at hp ⊢
        exact hp.setNone h.arr hi _ _
    · exact h.prs.keep (heap_set2 _ _ _ e)
/-- .. a value of a pair. -/
theorem tab_setPrs {w : World} {tp ga oa ca gp op cp mb N : Nat} {t : Tab} (h : TabAt w tp ga oa ca gp op cp mb t N) {i : Nat} {k x v : VV} (hi : t.prs[i]? = some (k, x)) (hv : wfP v) :
    TabAt ((w.setCell ⟨gp, op + (2 * i + 1) * 2, none⟩ (iV v.1)).setCell ⟨gp, op + (2 * i + 1) * 2 + 1, none⟩ (iV v.2)) tp ga oa ca gp op cp mb { t with prs := t.prs.set i (k, v) } N := by
  obtain ⟨a1, a2, a3, a4, a5⟩ := h.apt
  have hl : i < t.prs.length := (List.getElem?_eq_some_iff.1 hi).1
  have hfl := flatQ_len t.prs
  have hk := (flatQ_at t.prs i _ hi).1
  refine ⟨?_, ?_, ?_, (h.map.keep (heap_set2 _ _ _ (Ne.symm a5))).congr (Nat.le_refl _) fun u _ => ?_, h.apart, ⟨h.small.1, h.small.2.1, by simpa using h.small.2.2⟩⟩
  · rw [heap_set2 _ _ _ a2]; simpa using h.self
  · by_cases e : ga = gp
    · subst e
      rcases h.apart with x | x | x
      · exact absurd rfl x
      · exact h.arr.setApart h.prs (by omega) (.inl x) _ _
      · have hroom := h.prs.room; omega
    · exact h.arr.keep (heap_set2 _ _ _ e)
  · rw [flatQ_set]
    have e1 : (flatQ t.prs).set (2 * i) k = flatQ t.prs := by
      apply List.ext_getElem?
      intro j
      rw [List.getElem?_set]
      split
      · rename_i e; subst e; rw [hk]; split <;> first | rfl | omega
      · rfl
    simp only [e1]
    exact h.prs.set (by omega) hv
  · have e2 : ∀ u, idxQ (t.prs.set i (k, v)) u = idxQ t.prs u := fun u => by
      unfold idxQ
      have : ∀ (q : List (VV × VV)), q.findIdx? (fun p => p.1 == u) = (q.map (·.1)).findIdx? (· == u) := fun q => by rw [List.findIdx?_map]; rfl
      rw [this, this, set_keys hi]
    simp only [e2]
/-- What lay reads of a struct. -/
def LayIn (w : World) (tp : Nat) (t : Tab) : Prop := ∃ ga oa ca gp op cp mv, w.heap[tp]? = some (.cells #[iV t.meta_.1, iV t.meta_.2, .slice (some ⟨ga, oa, none⟩) t.arr.length ca, .slice (some ⟨gp, op, none⟩) (2 * t.prs.length) cp, mv] 74 (0, 0)) ∧ RowV w ga oa ca t.arr ∧ RowV w gp op cp (flatQ t.prs)
theorem TabAt.layIn {w : World} {tp ga oa ca gp op cp mb N : Nat} {t : Tab} (h : TabAt w tp ga oa ca gp op cp mb t N) : LayIn w tp t := ⟨ga, oa, ca, gp, op, cp, _, h.self, h.arr, h.prs⟩
theorem LayIn.below {w w' : World} {tp : Nat} {t : Tab} (h : LayIn w tp t) (hb : Below w.heap.size w w') : LayIn w' tp t := by
  obtain ⟨ga, oa, ca, gp, op, cp, mv, h1, h2, h3⟩ := h
  exact ⟨ga, oa, ca, gp, op, cp, mv, (hb.block tp (mem_block_lt h1)).trans h1, h2.keep (hb.block ga h2.lt), h3.keep (hb.block gp h3.lt)⟩
/-- What put leaves. -/
def Puts (w : World) (base tp : Nat) (t : Tab) (k v : VV) (e : Ending) (w' : World) : Prop :=
  ∃ vv, e = .returned vv ∧ OwnV w' w.heap.size vv (putT t k v).2 ∧ LayIn w' tp (putT t k v).1 ∧ Below base w w'
structure PutIn (w : World) (base tp ga oa ca gp op cp mb N : Nat) (t : Tab) (k v : VV) : Prop where
  tab : TabAt w tp ga oa ca gp op cp mb t N
  good : Good t
  key : keyP k = true
  elem : elemOk v = true
  wk : wfP k
  wv : wfP v
  bt : base ≤ tp
  ba : base ≤ ga
  bg : base ≤ gp
  bm : base ≤ mb
  sz : base ≤ w.heap.size
  small : N + t.prs.length + 1 ≤ 1073741824 ∧ t.arr.length + t.prs.length + 2 ≤ 1073741824
theorem objs_one {w : World} {W : World} {x : VV} {l : List VV} (hl : l = objsL [x]) {e : Ending} {w' : World} (h : GivesV (objsL [x]) W e w') (hs : w.heap.size ≤ W.heap.size) : ∃ vv, e = .returned vv ∧ OwnV w' w.heap.size vv l ∧ Below W.heap.size W w' := by
  subst hl
  obtain ⟨v, he, ho, hb⟩ := h
  refine ⟨v, he, ⟨?_, ho.2⟩, hb⟩
  obtain ⟨h1, h2⟩ := ho.1
  refine ⟨h1, h2.imp id fun ⟨g, cap, cur, a, b, c⟩ => ⟨g, cap, cur, a, Nat.le_trans hs b, c⟩⟩
theorem objs_many {w : World} {W : World} {L l : List VV} (hl : l = objsL L) {e : Ending} {w' : World} (h : GivesV (objsL L) W e w') (hs : w.heap.size ≤ W.heap.size) : ∃ vv, e = .returned vv ∧ OwnV w' w.heap.size vv l ∧ Below W.heap.size W w' := by
  subst hl
  obtain ⟨v, he, ho, hb⟩ := h
  refine ⟨v, he, ⟨?_, ho.2⟩, hb⟩
  obtain ⟨h1, h2⟩ := ho.1
  refine ⟨h1, h2.imp id fun ⟨g, cap, cur, a, b, c⟩ => ⟨g, cap, cur, a, Nat.le_trans hs b, c⟩⟩
theorem slV_new {w : World} {l : List VV} {cs : Array Value} (hc : cs = (cellsV l).toArray) (hw : ∀ v ∈ l, wfP v) (h0 : l.length ≤ 9223372036854775807) : SlV (w.alloc (.cells cs 24 (0, 0))) (.slice (some ⟨w.heap.size, 0, none⟩) l.length l.length) l := by
  subst hc
  exact .inr ⟨w.heap.size, 0, l.length, rfl, ⟨⟨cellsV l, (MapKept.heap_alloc w _).1, by rw [cellsV_len]; omega, by rw [List.drop_zero, ← cellsV_len, List.take_length]⟩, Nat.le_refl _, h0, hw⟩⟩
theorem getT_wf {w : World} {tp ga oa ca gp op cp mb N : Nat} {t : Tab} (h : TabAt w tp ga oa ca gp op cp mb t N) (k : VV) : wfP (getT t k) := by
  have hn : wfP nilP := ⟨⟨by decide, by decide⟩, by decide, by decide⟩
  unfold getT
  split
  · rw [List.getD_eq_getElem?_getD]
    cases e : t.arr[(k.2 - 1).toNat]? with
    | none => exact hn
    | some x => exact h.arr.wf _ (List.mem_of_getElem? e)
  · cases e : idxQ t.prs k with
    | none => exact hn
    | some i =>
      obtain ⟨x, hx⟩ := idxQ_some e
      simp only [List.getD_eq_getElem?_getD, hx, Option.getD_some]
      exact h.prs.wf _ (List.mem_of_getElem? (flatQ_at _ i _ hx).2)
set_option maxHeartbeats 4000000 in
theorem put_listed {w : World} {base tp ga oa ca gp op cp mb N : Nat} {t : Tab} {k v : VV} (h : PutIn w base tp ga oa ca gp op cp mb N t k v) (hk : listedB t.arr.length k = true) :
    Calls Try.prog 60 #[bV tp, vV k, vV v] w (Puts w base tp t k v) := by
  obtain ⟨i, hki, hi, -⟩ := listed_int hk
  have e1 : putT t k v = ({ t with arr := trimA (t.arr.set i v) }, objsL [getT t k]) := by
    have e2 : (k.2 - 1).toNat = i := by rw [hki]; simp only [intP]; omega
    unfold putT
    rw [if_pos hk, e2]
    congr 1
    rw [hki, getT_listed hi]
  have H : Hid (∀ W, Below w.heap.size w W → TabAt W tp ga oa ca gp op cp mb t N) := fun W hb => h.tab.below hb
  have CG : Hid (∀ W, Below w.heap.size w W → Calls Try.prog 52 #[bV tp, vV k] W fun e w' => e = .returned (vV (getT t k)) ∧ Below W.heap.size W w') := fun W hb => get_any (h.tab.below hb) h.wk
  have CL : Hid (∀ W, Below w.heap.size w W → Calls Try.prog 82 #[bV tp, vV k] W fun e w' => e = .returned (.bool true) ∧ Below W.heap.size W w') := fun W hb => listed_ok (h.tab.below hb).look k hk
  have LK : Hid (∀ W, Below w.heap.size w W → ∃ (u : Nat) (b : Bool), (Instr.lookup 72 (.map (some mb)) (.agg #[.int .i64 k.1, .int .i64 k.2]) true).run Try.prog W = .ok (.tuple #[iV (u : Int), .bool b]) W) := fun W hb => ⟨_, _, (h.tab.below hb).map.run_look h.wk⟩
  have WG : Hid (wfP (getT t k)) := getT_wf h.tab k
  generalize getT t k = old at *
  obtain ⟨x, hx⟩ : ∃ x, t.arr[i]? = some x := ⟨_, List.getElem?_eq_getElem hi⟩
  have HX := Lib.hid hx
  have HE := Lib.hid e1
  have PI := Lib.hid h
  obtain ⟨a, b⟩ := k
  obtain ⟨v1, v2⟩ := v
  obtain ⟨g1, g2⟩ := old
  have hb2 : b = (i : Int) + 1 := by unfold intP at hki; injection hki
  have hsm := h.tab.small.2.1
  obtain ⟨n, hn⟩ : ∃ n, n = t.arr.length := ⟨_, rfl⟩
  have HN := Lib.hid hn
  have HI := Lib.hid hi
  have q1 : IntKind.i64.wrap (b - 1) = b - 1 := IntWalk.i64_in _ (by omega)
  have q2 : (0 : Int) ≤ b - 1 := by omega
  have q3 : (b - 1).toNat = i := by omega
  have q4 : b - 1 < (n : Int) := by omega
  have B0 : Hid (∀ o1 o2, Below w.heap.size w ((w.alloc o1).alloc o2)) := fun o1 o2 => ((Below.refl _ _).alloc (Nat.le_refl _) _).alloc (by simp) _
  obtain ⟨u, bb, hlk⟩ := LK.out ((w.alloc (.cells #[.int .i64 a, .int .i64 b] 24)).alloc (.cells #[.int .i64 v1, .int .i64 v2] 24)) (B0.out _ _)
  have LL : ∀ j, (Instr.lookup 72 (.map (some mb)) (.agg #[.int .i64 a, .int .i64 b]) true).run Try.prog (((w.alloc (.cells #[.int .i64 a, .int .i64 b] 24)).alloc (.cells #[.int .i64 v1, .int .i64 v2] 24)).drewN j) = .ok (.tuple #[iV (u : Int), .bool bb]) (((w.alloc (.cells #[.int .i64 a, .int .i64 b] 24)).alloc (.cells #[.int .i64 v1, .int .i64 v2] 24)).drewN j) := fun j => by
    have h1 := (h.tab.below (B0.out (.cells #[.int .i64 a, .int .i64 b] 24) (.cells #[.int .i64 v1, .int .i64 v2] 24))).map
    have h2 := h1.run_look h.wk
    have h3 := (h1.keep (w' := ((w.alloc (.cells #[.int .i64 a, .int .i64 b] 24)).alloc (.cells #[.int .i64 v1, .int .i64 v2] 24)).drewN j) rfl).run_look h.wk
    rw [hlk] at h2
    injection h2 with h2
    rw [h3, ← h2]
  have c4 := h.tab.cells.2.2.2.2
  have l1 := mem_block_lt h.tab.self
  clear h hk hki hb2 hx e1 hn hi LK hlk
  go_enter Try.func60, Try.ntmps60
  go_wp2_with fail
  go_quiet (fail)
  have B1 : Hid (Below w.heap.size w (((w.alloc (.cells #[.int .i64 a, .int .i64 b] 24)).alloc (.cells #[.int .i64 v1, .int .i64 v2] 24)).drewN nq)) := below_drewN (B0.out _ _) nq
  have K1 : Hid (∀ W, Below (((w.alloc (.cells #[.int .i64 a, .int .i64 b] 24)).alloc (.cells #[.int .i64 v1, .int .i64 v2] 24)).drewN nq).heap.size (((w.alloc (.cells #[.int .i64 a, .int .i64 b] 24)).alloc (.cells #[.int .i64 v1, .int .i64 v2] 24)).drewN nq) W → W.heap[w.heap.size]? = some (.cells #[.int .i64 a, .int .i64 b] 24 (0, 0)) ∧ W.heap[w.heap.size + 1]? = some (.cells #[.int .i64 v1, .int .i64 v2] 24 (0, 0))) := fun W hb => by
    obtain ⟨h1, h2, _, _⟩ := two_in (w := w) (w1 := W) ⟨hb.os, hb.tape, hb.output, hb.size, hb.block⟩
    exact ⟨h1, h2⟩
  clear c4 l1 LL B0
  generalize ((w.alloc (.cells #[.int .i64 a, .int .i64 b] 24)).alloc (.cells #[.int .i64 v1, .int .i64 v2] 24)).drewN nq = W1 at *
  obtain ⟨kk, kv⟩ := K1.out W1 (Below.refl _ _)
  obtain ⟨x0, x1, -, -⟩ := cells2 kk
  clear kk kv
  go_upto_region 5 with (first
    | (go_at_call 52; refine (CG.out _ B1.out).mono ?_; rintro e w2 ⟨rfl, hb2⟩; have B2 := Lib.hid hb2; obtain ⟨kk, kv⟩ := K1.out w2 hb2; obtain ⟨y0, y1, -, -⟩ := cells2 kk; have sz2 : w.heap.size < w2.heap.size := mem_block_lt kk; clear hb2 kk kv)
    | (go_at_call 82; refine (CL.out _ ((B1.out.trans (B2.out.mono B1.out.size)).trans (((Below.refl _ _).alloc (Nat.le_refl _) _).mono (Nat.le_of_lt sz2)))).mono ?_; rintro e w3 ⟨rfl, hb3⟩; have B3 := Lib.hid hb3; clear hb3))
  have SO : Hid (w3.heap[w2.heap.size]? = some (.cells #[.int .i64 g1, .int .i64 g2] 24 (0, 0))) := (B3.out.block w2.heap.size (by simp)).trans (MapKept.heap_alloc w2 _).1
  have BW : Hid (Below W1.heap.size W1 w3) := (B2.out.alloc B2.out.size _).trans (B3.out.mono (by have := B2.out.size; simp; omega))
  have BB3 : Hid (Below w.heap.size w w3) := B1.out.trans (BW.out.mono B1.out.size)
  have hsz2 := B2.out.size
  have hs0 := B1.out.size
  clear x0 x1 y0 y1 CL CG B2 B3
  obtain ⟨kk, kv⟩ := K1.out w3 BW.out
  obtain ⟨x0, x1, -, -⟩ := cells2 kk
  obtain ⟨x2, x3, -, -⟩ := cells2 kv
  have c2 := (H.out _ BB3.out).cells.2.2.1
  rw [← HN.out] at c2
  have RA := (H.out _ BB3.out).arr
  obtain ⟨d0, d1⟩ := RA.at HX.out
  have f1 := RA.froz (oa + i * 2)
  have f2 := RA.froz (oa + i * 2 + 1)
  have l1 := mem_block_lt (H.out _ BB3.out).self
  have l2 := RA.lt
  have T4 : Hid (TabAt ((w3.setCell ⟨ga, oa + i * 2, none⟩ (.int .i64 v1)).setCell ⟨ga, oa + i * 2 + 1, none⟩ (.int .i64 v2)).drew tp ga oa ca gp op cp mb { t with arr := t.arr.set i (v1, v2) } N) := (tab_setArr (H.out _ BB3.out) HI.out PI.out.wv).keep fun _ _ => rfl
  have B4 : Hid (Below base w ((w3.setCell ⟨ga, oa + i * 2, none⟩ (.int .i64 v1)).setCell ⟨ga, oa + i * 2 + 1, none⟩ (.int .i64 v2)).drew) := (below_set2 (BB3.out.mono PI.out.sz) PI.out.ba _ _).drew
  have S4 : Hid (((w3.setCell ⟨ga, oa + i * 2, none⟩ (.int .i64 v1)).setCell ⟨ga, oa + i * 2 + 1, none⟩ (.int .i64 v2)).drew.heap[w2.heap.size]? = some (.cells #[.int .i64 g1, .int .i64 g2] 24 (0, 0))) := (heap_set2 w3 (.int .i64 v1) (.int .i64 v2) (by have := PI.out.tab.arr.lt; omega)).trans SO.out
  have ntp : w2.heap.size ≠ tp := by have := mem_block_lt PI.out.tab.self; omega
  clear kk kv RA K1 H SO
  go_wp2_with fail
  go_region
  all_goals
    generalize ((w3.setCell ⟨ga, oa + i * 2, none⟩ (.int .i64 v1)).setCell ⟨ga, oa + i * 2 + 1, none⟩ (.int .i64 v2)).drew = W4 at *
    clear x0 x1 x2 x3 c2 d0 d1 f1 f2
    go_wp2_with (first
      | (go_at_call 85; refine (trim_any T4.out).mono ?_; rintro e w5 ⟨rfl, wx, hbx, hw5⟩; have T5 := T4.out.below hbx; have T6 := T5.setSlot rfl; rw [← hw5] at T6; replace T6 := Lib.hid T6; have BX := Lib.hid hbx; have s5 : w5.heap[w2.heap.size]? = some (.cells #[.int .i64 g1, .int .i64 g2] 24 (0, 0)) := (by rw [hw5]; exact (Below.heap_setCell _ _ _ _ ntp).trans ((hbx.block _ (mem_block_lt S4.out)).trans S4.out)); obtain ⟨o0, o1, -, -⟩ := cells2 s5; have B5 : Hid (Below base w w5) := (by rw [hw5]; exact (B4.out.trans (hbx.mono (by have := B4.out.size; have := PI.out.sz; omega))).setCell PI.out.bt _); clear hbx T5 hw5 s5)
      | (go_at_call 86; refine (objects_any (slV_new (l := [(g1, g2)]) rfl (by intro y hy; simp at hy; subst hy; exact WG.out) (by simp)) (by simp)).mono ?_; rintro e w7 h7; obtain ⟨vv, rfl, o7, b7⟩ := objs_one (w := w) (congrArg Prod.snd HE.out) h7 (by have := B5.out.size; simp; omega); have O7 := Lib.hid o7; have B7 := Lib.hid b7; clear o7 b7))
    go_ret
    have hz5 := B5.out.size
    have hb9 : Below w5.heap.size w5 w7 := ((Below.refl _ _).alloc (Nat.le_refl _) _).trans (B7.out.mono (by simp))
    refine ⟨vv, rfl, O7.out, ?_, B5.out.trans (hb9.mono (by have := PI.out.sz; omega))⟩
    rw [HE.out]
    exact (T6.out.below hb9).layIn
end Go.Proofs.Ytkkdgacdajojiaa
