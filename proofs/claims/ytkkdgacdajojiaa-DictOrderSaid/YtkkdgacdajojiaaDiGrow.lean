/- The array grows by a value: append to a field of the struct. -/
import Derived.Test.YtkkdgacdajojiaaBase
import Derived.Test.YtkkdgacdajojiaaDiTake
namespace Go.Proofs.Ytkkdgacdajojiaa
set_option maxRecDepth 20000
set_option maxRecDepth 20000
open Go.RowKit Go.Maps Go.Sort Go.BigFrame

theorem wf_intP {n : Int} (h1 : -9223372036854775808 ≤ n) (h2 : n ≤ 9223372036854775807) : wfP (intP n) := ⟨⟨by simp [intP], by simp [intP]⟩, h1, h2⟩
theorem TabAt.mono {w : World} {tp ga oa ca gp op cp mb N N' : Nat} {t : Tab} (h : TabAt w tp ga oa ca gp op cp mb t N) (hN : N ≤ N') (hN2 : N' ≤ 1073741824) : TabAt w tp ga oa ca gp op cp mb t N' :=
  ⟨h.self, h.arr, h.prs, h.map.congr hN fun _ _ => rfl, h.apart, ⟨hN2, h.small.2⟩⟩
/-- takeOut. -/
theorem takeOut_any {w : World} {base tp ga oa ca gp op cp mb N : Nat} {t : Tab} (h : TabAt w tp ga oa ca gp op cp mb t N) (hn : (t.prs.map (·.1)).Nodup) (hbt : base ≤ tp) (hbg : base ≤ gp) (hbm : base ≤ mb) (hsz : base ≤ w.heap.size) {i : Nat} (hi : i < t.prs.length) (hN : N + 1 ≤ 1073741824) :
    Calls Try.prog 87 #[bV tp, iV (2 * i : Nat)] w fun e w' => e = .returned (.tuple #[]) ∧ ∃ cp', TabAt w' tp ga oa ca gp op cp' mb { t with prs := outQ t.prs i } (N + 1) ∧ Below base w w' ∧ Frm (S3 tp gp mb) w w' := by
  have fb : ∀ {w'}, Frm (S3 tp gp mb) w w' → Below base w w' := fun h => h.below hsz (by rintro k (rfl | rfl | rfl) <;> assumption)
  by_cases e : i + 1 = t.prs.length
  · exact (takeOut_last h hn e).mono fun _ _ ⟨h1, h2, h3⟩ => ⟨h1, _, h2.mono (Nat.le_succ _) hN, fb h3, h3⟩
  · exact (takeOut_mid h hn (by omega) hN).mono fun _ _ ⟨h1, h2, h3⟩ => ⟨h1, _, h2, fb h3, h3⟩
theorem Grew.other {w w' : World} {g off c n g' off' c' : Nat} (h : Grew w w' g off c n g' off' c') {k : Nat} (hk : k < w.heap.size) (hne : k ≠ g) : w'.heap[k]? = w.heap[k]? := by
  rcases h with ⟨_, _, _, h, _⟩ | ⟨_, h⟩
  · exact h.block k hk (by simpa using hne)
  · exact h.block k hk
theorem Grew.size {w w' : World} {g off c n g' off' c' : Nat} (h : Grew w w' g off c n g' off' c') : w.heap.size ≤ w'.heap.size := by
  rcases h with ⟨_, _, _, h, _⟩ | ⟨_, h⟩
  · exact h.size
  · exact h.size
theorem Grew.below {w w' : World} {g off c n g' off' c' base : Nat} (h : Grew w w' g off c n g' off' c') (hb : base ≤ g) (hs : base ≤ w.heap.size) : Below base w w' := by
  rcases h with ⟨_, _, _, h, _⟩ | ⟨_, h⟩
  · exact below_grown h hb hs
  · exact h.mono hs
theorem Grew.ge {w w' : World} {g off c n g' off' c' base : Nat} (h : Grew w w' g off c n g' off' c') (hb : base ≤ g) (hs : base ≤ w.heap.size) : base ≤ g' := by
  rcases h with ⟨rfl, _⟩ | ⟨h, _⟩
  · exact hb
  · omega
/-- The array has grown by a value: what stands then. -/
theorem tab_grown {W w1 : World} {tp ga oa ca gp op cp mb N g1 o1 c1 n1 : Nat} {t : Tab} {v : VV} (h : TabAt W tp ga oa ca gp op cp mb t N) (hR : RowV w1 g1 o1 c1 (t.arr ++ [v])) (hG : Grew W w1 ga oa ca t.arr.length g1 o1 c1) (hlen : t.arr.length + 1 ≤ 1073741824) (hn1 : n1 = t.arr.length + 1) :
    TabAt (w1.setCell ⟨tp, 2, none⟩ (.slice (some ⟨g1, o1, none⟩) n1 c1)) tp g1 o1 c1 gp op cp mb { t with arr := t.arr ++ [v] } N := by
  subst hn1
  obtain ⟨a1, a2, a3, a4, a5⟩ := h.apt
  obtain ⟨b1, b2, b3, b4⟩ := h.lts
  have g1t : g1 ≠ tp := by
    rcases hG with ⟨rfl, _⟩ | ⟨hg, _⟩
    · exact Ne.symm a1
    · omega
  refine ⟨?_, hR.keep (Below.heap_setCell _ _ _ _ g1t), ?_, h.map.keep ((Below.heap_setCell _ _ _ _ (Ne.symm a3)).trans (hG.other b4 (Ne.symm a4))), ?_, ⟨h.small.1, by simp only [List.length_append, List.length_singleton]; exact hlen, h.small.2.2⟩⟩
  · have := self_arr (v := .slice (some ⟨g1, o1, none⟩) (t.arr.length + 1) c1) ((hG.other b1 a1).trans h.self)
    simpa using this
  · refine RowV.keep ?_ (Below.heap_setCell _ _ _ _ (Ne.symm a2))
    by_cases e : gp = ga
    · subst e
      rcases hG with ⟨_, _, _, _, hI⟩ | ⟨_, hb⟩
      · rcases h.apart with x | x | x
        · exact absurd rfl x
        · exact h.prs.inRow hI (.inl x)
        · have hroom := h.prs.room
          have hl : flatQ t.prs = [] := List.length_eq_zero_iff.1 (by omega)
          have hp := h.prs
          rw [hl] at hp ⊢
          obtain ⟨⟨cur, k1, k2, k3⟩, k4, k5, k6⟩ := hp
          obtain ⟨cur', m1, m2, m3⟩ := hI cur _ _ k1
          exact ⟨⟨cur', m1, by omega, rfl⟩, k4, k5, k6⟩
      · exact h.prs.keep (hb.block gp b3)
    · exact h.prs.keep (hG.other b3 e)
  · rcases hG with ⟨rfl, rfl, rfl, _⟩ | ⟨hg, _⟩
    · exact h.apart
    · exact .inl (by omega)
theorem new_val (w : World) (v : VV) : ∀ j u, (cellsV [v])[j]? = some u → (w.alloc (.cells #[iV v.1, iV v.2] 24)).cell? ((⟨w.heap.size, 0, none⟩ : Addr).add j) = some u := by
  intro j u hu
  rw [Addr.add_lit]
  match j, hu with
  | 0, hu => simp [cellsV] at hu; subst hu; simp [go_sem]
  | 1, hu => simp [cellsV] at hu; subst hu; simp [go_sem]
/-- What the first append of lengthen leaves. -/
def Long1 (w : World) (base tp gp op cp mb N : Nat) (t : Tab) (W : World) : Prop := ∃ ga oa ca, TabAt W tp ga oa ca gp op cp mb t N ∧ base ≤ ga ∧ Below base w W
theorem TabAt.arrSlot {w w1 : World} {tp ga oa ca gp op cp mb N : Nat} {t : Tab} (h : TabAt w tp ga oa ca gp op cp mb t N) (e : w1.heap[tp]? = w.heap[tp]?) : w1.cell? ⟨tp, 2, none⟩ = some (.slice (some ⟨ga, oa, none⟩) t.arr.length ca) := by
  have h1 := e.trans h.self
  simp [World.cell?, h1]
theorem TabAt.arrFroz {w w1 : World} {tp ga oa ca gp op cp mb N : Nat} {t : Tab} (h : TabAt w tp ga oa ca gp op cp mb t N) (e : w1.heap[tp]? = w.heap[tp]?) : w1.frozen? ⟨tp, 2, none⟩ = false := by
  have h1 := e.trans h.self
  simp [World.frozen?, h1]
structure LongR (w : World) (base tp gp op mb : Nat) (m0 : VV) (R : List VV × List (VV × VV)) (M m : Nat) (W : World) : Prop where
  ex : ∃ ga oa ca cp A q N, TabAt W tp ga oa ca gp op cp mb ⟨m0, A, q⟩ N ∧ base ≤ ga ∧ Semi A q ∧ m = q.length ∧ longT m A q = R ∧ N + m ≤ M ∧ A.length + m ≤ M
  below : Below base w W
set_option maxHeartbeats 4000000 in
theorem lengthen_any {w : World} {base tp ga oa ca gp op cp mb N : Nat} {m0 v : VV} {A : List VV} {q : List (VV × VV)} (h : TabAt w tp ga oa ca gp op cp mb ⟨m0, A, q⟩ N) (hv : wfP v) (hs : Semi (A ++ [v]) q) (hbt : base ≤ tp) (hba : base ≤ ga) (hbg : base ≤ gp) (hbm : base ≤ mb) (hsz : base ≤ w.heap.size) (hN : N + q.length ≤ 1073741824) (hA : A.length + q.length + 1 ≤ 1073741824) :
    Calls Try.prog 89 #[bV tp, vV v] w fun e w' => e = .returned (.tuple #[]) ∧ ∃ ga oa ca cp N', TabAt w' tp ga oa ca gp op cp mb ⟨m0, (longT q.length (A ++ [v]) q).1, (longT q.length (A ++ [v]) q).2⟩ N' ∧ base ≤ ga ∧ Below base w w' := by
  obtain ⟨v1, v2⟩ := v
  have HB2 : Hid (Below w.heap.size w ((w.alloc (.cells #[.int .i64 v1, .int .i64 v2] 24)).alloc (.cells #[.int .i64 v1, .int .i64 v2] 24)).drew) := (((Below.refl _ _).alloc (Nat.le_refl _) _).alloc (by simp) _).drew
  have HH2 : Hid (TabAt ((w.alloc (.cells #[.int .i64 v1, .int .i64 v2] 24)).alloc (.cells #[.int .i64 v1, .int .i64 v2] 24)).drew tp ga oa ca gp op cp mb ⟨m0, A, q⟩ N) := h.below HB2.out
  have ROW2 : Hid (RowV ((w.alloc (.cells #[.int .i64 v1, .int .i64 v2] 24)).alloc (.cells #[.int .i64 v1, .int .i64 v2] 24)).drew ga oa ca A) := HH2.out.arr
  have NW2 : Hid (∀ j u, (cellsV [(v1, v2)])[j]? = some u → ((w.alloc (.cells #[.int .i64 v1, .int .i64 v2] 24)).alloc (.cells #[.int .i64 v1, .int .i64 v2] 24)).drew.cell? ((⟨w.heap.size + 1, 0, none⟩ : Addr).add j) = some u) := Lib.hid (by
    have := new_val (w.alloc (.cells #[.int .i64 v1, .int .i64 v2] 24)) (v1, v2)
    rw [show (w.alloc (.cells #[.int .i64 v1, .int .i64 v2] 24)).heap.size = w.heap.size + 1 by simp] at this
    exact this)
  have SZ2 : Hid (((w.alloc (.cells #[.int .i64 v1, .int .i64 v2] 24)).alloc (.cells #[.int .i64 v1, .int .i64 v2] 24)).drew.heap.size = w.heap.size + 2) := Lib.hid (by simp)
  obtain ⟨b1, b2, b3, b4⟩ := h.lts
  obtain ⟨a1, a2, a3, a4, a5⟩ := h.apt
  obtain ⟨c0, c1, c2, c3, c4⟩ := h.cells
  have ROW := Lib.hid h.arr
  have WV := Lib.hid hv
  obtain ⟨n, hn⟩ : ∃ n, n = A.length := ⟨_, rfl⟩
  have HN := Lib.hid hn
  have hnA : n ≤ 1073741824 := by omega
  have f2 := h.froz 2
  simp only at c2
  rw [← hn] at c2
  obtain ⟨R, hRR⟩ : ∃ R, R = longT q.length (A ++ [(v1, v2)]) q := ⟨_, rfl⟩
  rw [← hRR]
  have HRR := Lib.hid hRR
  clear h hn hv hRR
  go_enter Try.func89, Try.ntmps89
  go_upto_region 1 with fail
  go_cut [] (fun wx => Hid (Long1 w base tp gp op cp mb N ⟨m0, A ++ [(v1, v2)], q⟩ wx))
  case first =>
    go_region_law (refine step_append_V rfl _ _ rfl ROW2.out HN.out rfl ⟨w.heap.size + 1, 0, none⟩ 1 1 rfl [(v1, v2)] rfl NW2.out ?_ (by omega) ?_; (· (intro x hx; simp at hx; subst hx; exact WV.out)); intro w1 g1 o1 k1 hR1 hG1; have z1 := hG1.out.size; have e1 := hG1.out.other (k := tp) (by rw [SZ2.out]; omega) a1; obtain ⟨y2, yf⟩ := (⟨HH2.out.arrSlot e1, HH2.out.arrFroz e1⟩ : _ ∧ _); have y3 : tp < w1.heap.size := by have := SZ2.out; omega)
    all_goals
      go_wp2_with fail
      go_meet
      have T1 := tab_grown (n1 := n + 1) (t := ⟨m0, A, q⟩) HH2.out hR1.out (by have := hG1.out; rw [HN.out] at this; exact this) (by simp only; omega) (by rw [HN.out])
      exact ⟨g1, o1, k1, T1, hG1.out.ge hba (by rw [SZ2.out]; omega), (HB2.out.mono hsz).trans ((hG1.out.below hba (by rw [SZ2.out]; omega)).setCell hbt _)⟩
  case rest =>
    clear HB2 HH2 ROW2 NW2 SZ2 ROW c0 c1 c2 c3 c4 f2
    have ST : Hid (LongR w base tp gp op mb m0 R 1073741824 q.length wc) := by
      obtain ⟨ga1, oa1, ca1, h1, h2, h3⟩ := hcut.out
      exact ⟨⟨ga1, oa1, ca1, cp, A ++ [(v1, v2)], q, N, h1, h2, hs, rfl, HRR.out.symm, hN, by simp; omega⟩, h3⟩
    clear hcut hs HN hA hN hnA b1 b2 b3 b4 a1 a2 a3 a4 a5
    go_wp2_with fail
    go_loopg [] (q.length) (fun m wr => Hid (LongR w base tp gp op mb m0 R 1073741824 m wr))
    case atStart => exact ST
    case round =>
      obtain ⟨⟨ga1, oa1, ca1, cp1, A1, q1, N1, hT, hga, hS, hm, hR, hNm, hAm⟩, hB⟩ := hrel.out
      have HT := Lib.hid hT
      have HB := Lib.hid hB
      have HS := Lib.hid hS
      have LOOK : Hid (LookAt wr tp A1.length) := hT.look
      have c4 := hT.cells.2.2.2.2
      have k4 := fun d os => cell_regrown c4 d os
      have cA := after_re LOOK.out
      have hA1 := hT.small.2.1
      simp only at hA1
      have LK : ∀ d os, (Instr.lookup 72 (.map (some mb)) (.agg #[.int .i64 3, .int .i64 ((A1.length : Int) + 1)]) true).run Try.prog (grow (redrawn wr d) os) = .ok (.tuple #[iV ((((idxQ q1 (intP (A1.length + 1))).map (2 * ·)).getD 0 : Nat) : Int), .bool ((idxQ q1 (intP (A1.length + 1))).map (2 * ·)).isSome]) (grow (redrawn wr d) os) := fun d os => (hT.below (below_regrown wr d os)).map.run_look (k := intP (A1.length + 1)) (wf_intP (by omega) (by omega))
      have HM := Lib.hid hm
      have HR := Lib.hid hR
      clear hrel hT hB hS hm hR c4
      cases hi : idxQ q1 (intP (A1.length + 1)) with
      | none =>
        have LN : ∀ d os, (Instr.lookup 72 (.map (some mb)) (.agg #[.int .i64 3, .int .i64 ((A1.length : Int) + 1)]) true).run Try.prog (grow (redrawn wr d) os) = .ok (.tuple #[.int .i64 0, .bool false]) (grow (redrawn wr d) os) := fun d os => by have := LK d os; rw [hi] at this; exact this
        have E : Hid (R = (A1, q1)) := Lib.hid (by
          rw [← HR.out]
          cases gk with
          | zero => rfl
          | succ f => unfold longT; rw [hi])
        clear LK hi
        go_wp2_with fail
        refine wp_region_quiet_below (by kernel_rfl) (by kernel_rfl) ?_
        repeat (go_big_quiet_step (with_reducible exact cA _ _))
        refine wpQuiet_nil ?_
        intro w3 ⟨⟨dq, osq⟩, hw3⟩
        have B3 : Hid (Below wr.heap.size wr w3) := by rw [hw3]; exact below_regrown wr dq osq
        clear hw3
        go_wp2_with fail
        refine bodyPost_ret (results_none rfl _ _ _) rfl ?_
        have e := E.out
        rw [e]
        exact ⟨rfl, ga1, oa1, ca1, cp1, N1, HT.out.below B3.out, hga, HB.out.trans (B3.out.mono (by have := HB.out.size; omega))⟩
      | some i =>
        obtain ⟨x, hx⟩ := idxQ_some hi
        obtain ⟨u, hu⟩ : ∃ u, u = 2 * i := ⟨_, rfl⟩
        have LS : ∀ d os, (Instr.lookup 72 (.map (some mb)) (.agg #[.int .i64 3, .int .i64 ((A1.length : Int) + 1)]) true).run Try.prog (grow (redrawn wr d) os) = .ok (.tuple #[.int .i64 (u : Int), .bool true]) (grow (redrawn wr d) os) := fun d os => by have := LK d os; rw [hi] at this; rw [hu]; exact this
        have hil : i < q1.length := (List.getElem?_eq_some_iff.1 hx).1
        have E : Hid (longT (gk - 1) (A1 ++ [x]) (outQ q1 i) = R) := Lib.hid (by
          rw [← HR.out]
          cases gk with
          | zero => have := HM.out; omega
          | succ f =>
            conv => rhs; unfold longT
            rw [hi]
            simp [List.getD_eq_getElem?_getD, hx])
        have SM : Hid (Semi (A1 ++ [x]) (outQ q1 i)) := Lib.hid (by
          have := HS.out.step hi
          rwa [show (q1.getD i (nilP, nilP)).2 = x by simp [List.getD_eq_getElem?_getD, hx]] at this)
        have ND : Hid ((q1.map (·.1)).Nodup) := HS.out.nodup
        obtain ⟨p1, p2⟩ := flatQ_at q1 i _ hx
        rw [← hu] at p1 p2
        have WX : Hid (wfP x) := HT.out.prs.wf _ (List.mem_of_getElem? p2)
        have HP2 := Lib.hid p2
        have HU := Lib.hid hu
        have HI := Lib.hid hil
        clear LK hi hx p1 p2 hu hil
        obtain ⟨n1, hn1⟩ : ∃ n1, n1 = A1.length := ⟨_, rfl⟩
        have HN1 := Lib.hid hn1
        obtain ⟨n2, hn2⟩ : ∃ n2, n2 = 2 * q1.length := ⟨_, rfl⟩
        have HN2 := Lib.hid hn2
        have z1 : u + 1 < n2 := by have := HU.out; have := HI.out; omega
        have z2 : (u : Int) + 1 < (n2 : Int) := by omega
        have z3 : n2 ≤ 2147483648 := by have := HM.out; omega
        have z4 : IntKind.i64.wrap ((u : Int) + 1) = (u : Int) + 1 := IntWalk.i64_in _ (by omega)
        have z5 : ((u : Int) + 1).toNat = u + 1 := by omega
        have z6 : n1 ≤ 1073741824 := by omega
        have z7 : (0 : Int) ≤ (u : Int) + 1 := by omega
        clear hn1 hn2
        go_wp2_with fail
        refine wp_region_quiet_below (by kernel_rfl) (by kernel_rfl) ?_
        repeat (go_big_quiet_step (with_reducible exact cA _ _))
        refine wpQuiet_nil ?_
        intro w3 ⟨⟨dq, osq⟩, hw3⟩
        have B3 : Hid (Below wr.heap.size wr w3) := by rw [hw3]; exact below_regrown wr dq osq
        clear hw3
        have T3 := Lib.hid (HT.out.below B3.out)
        have BB3 : Hid (Below base w w3) := HB.out.trans (B3.out.mono (by have := HB.out.size; omega))
        clear k4 cA LOOK HT HB HS B3
        obtain ⟨b1, b2, b3, b4⟩ := T3.out.lts
        obtain ⟨a1, a2, a3, a4, a5⟩ := T3.out.apt
        obtain ⟨-, -, c2, c3, -⟩ := T3.out.cells
        simp only at c2 c3
        rw [← HN1.out] at c2
        rw [← HN2.out] at c3
        obtain ⟨d0, d1⟩ := T3.out.prs.at HP2.out
        have W4 : Hid (∀ (W : World), Below w3.heap.size w3 W → TabAt W tp ga1 oa1 ca1 gp op cp1 mb ⟨m0, A1, q1⟩ N1) := fun W hb => T3.out.below hb
        have BE : Hid (Below w3.heap.size w3 (w3.alloc (.cells #[.int .i64 x.1, .int .i64 x.2] 24)).drew) := ((Below.refl _ _).alloc (Nat.le_refl _) _).drew
        have ROW2 : Hid (RowV (w3.alloc (.cells #[.int .i64 x.1, .int .i64 x.2] 24)).drew ga1 oa1 ca1 A1) := (W4.out _ BE.out).arr
        have NW2 : Hid (∀ j v, (cellsV [x])[j]? = some v → (w3.alloc (.cells #[.int .i64 x.1, .int .i64 x.2] 24)).drew.cell? ((⟨w3.heap.size, 0, none⟩ : Addr).add j) = some v) := new_val w3 x
        have SZ2 : Hid ((w3.alloc (.cells #[.int .i64 x.1, .int .i64 x.2] 24)).drew.heap.size = w3.heap.size + 1) := Lib.hid (by simp)
        go_upto_region 4 with fail
        go_cut [] (fun wx => Hid (Long1 w base tp gp op cp1 mb N1 ⟨m0, A1 ++ [x], q1⟩ wx))
        case first =>
          go_region_law (refine step_append_V rfl _ _ rfl ROW2.out HN1.out rfl ⟨w3.heap.size, 0, none⟩ 1 1 rfl [x] rfl NW2.out ?_ (by omega) ?_; (· (intro y hy; simp at hy; subst hy; exact WX.out)); intro w1 g1 o1 k1 hR1 hG1; have y1 := hG1.out.size; have e1 := hG1.out.other (k := tp) (by rw [SZ2.out]; omega) a1; obtain ⟨y2, yf⟩ := (⟨(W4.out _ BE.out).arrSlot e1, (W4.out _ BE.out).arrFroz e1⟩ : _ ∧ _); have y3 : tp < w1.heap.size := Nat.lt_of_lt_of_le (by rw [SZ2.out]; omega) y1)
          all_goals
            go_wp2_with fail
            go_meet
            have hz := BB3.out.size
            have T1 := tab_grown (n1 := n1 + 1) (t := ⟨m0, A1, q1⟩) (W4.out _ BE.out) hR1.out (by have := hG1.out; rw [HN1.out] at this; exact this) (by simp only; have := HM.out; have := HI.out; omega) (by rw [HN1.out])
            exact ⟨g1, o1, k1, T1, hG1.out.ge hga (by rw [SZ2.out]; omega), BB3.out.trans ((BE.out.mono (by omega)).trans ((hG1.out.below hga (by rw [SZ2.out]; omega)).setCell hbt _))⟩
        case rest =>
          obtain ⟨g2, o2, k2, h2, hg2, hb2⟩ := hcut.out
          have C := Lib.hid (takeOut_any h2 ND.out hbt hbg hbm (by have := hb2.size; omega) (i := i) (by simp only; exact HI.out) (by have := HM.out; have := HI.out; omega))
          rw [← HU.out] at C
          have B2 := Lib.hid hb2
          clear h2 hb2 d0 d1 c2 c3
          go_wp2_with (go_at_call 87; refine C.out.mono ?_; rintro e w5 ⟨rfl, cp2, h5, hb5, -⟩; have H5 := Lib.hid h5; have B5 := Lib.hid hb5; clear h5 hb5)
          go_roundg (gk - 1)
          case measure => have := HM.out; have := HI.out; omega
          case rel => exact ⟨⟨g2, o2, k2, cp2, A1 ++ [x], outQ q1 i, N1 + 1, H5.out, hg2, SM.out, by rw [outQ_len, HM.out], E.out, by have := HM.out; have := HI.out; omega, by have := HM.out; have := HI.out; simp; omega⟩, B2.out.trans B5.out⟩
end Go.Proofs.Ytkkdgacdajojiaa
