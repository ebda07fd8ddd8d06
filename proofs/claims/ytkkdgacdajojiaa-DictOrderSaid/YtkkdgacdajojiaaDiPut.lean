/- dict.Put. -/
import Derived.Test.YtkkdgacdajojiaaBase
import Derived.Test.YtkkdgacdajojiaaDiPutB
import Derived.Test.YtkkdgacdajojiaaDiNew
namespace Go.Proofs.Ytkkdgacdajojiaa
set_option maxRecDepth 20000
set_option maxRecDepth 20000
open Go.RowKit Go.Maps Go.Sort Go.BigFrame

/-- Slots that came in: nil, or a row that is not empty. -/
def SlN (w : World) (v : Value) (l : List VV) : Prop := (v = .slice none 0 0 ∧ l = []) ∨ ∃ g off c, v = .slice (some ⟨g, off, none⟩) l.length c ∧ RowV w g off c l ∧ 0 < l.length
theorem SlN.sl {w : World} {v : Value} {l : List VV} (h : SlN w v l) : SlV w v l := h.imp id fun ⟨g, off, c, e, h, _⟩ => ⟨g, off, c, e, h⟩
theorem SlN.keep {w w' : World} {v : Value} {l : List VV} (h : SlN w v l) (hb : Below w.heap.size w w') : SlN w' v l := h.imp id fun ⟨g, off, c, e, h, h0⟩ => ⟨g, off, c, e, h.keep (hb.block g h.lt), h0⟩
/-- What Put answers. -/
def GivesPut (r : Option (List VV × List VV) × Int) (w : World) (e : Ending) (w' : World) : Prop :=
  Below w.heap.size w w' ∧ match r with
    | (none, n) => e = .returned (.tuple #[.slice none 0 0, .slice none 0 0, .int .i64 n])
    | (some (nx, gn), n) => ∃ g off c vg, e = .returned (.tuple #[.slice (some ⟨g, off, none⟩) nx.length c, vg, .int .i64 n]) ∧ RowV w' g off c nx ∧ w.heap.size ≤ g ∧ OwnV w' w.heap.size vg gn
theorem Clone_nil (w : World) : Calls Try.prog 57 #[.slice none 0 0] w fun e w' => e = .returned (.slice none 0 0) ∧ w' = w := by
  have q22 : ∀ (w : World) (a : Option Addr) (n c n' c' : Nat), (binOp .eql 22 (.slice a n c) (.slice none n' c')).run Try.prog w = .ok (.bool a.isNone) w := fun w a n c n' c' => Lib.run_eql_slice_nil w _ _ a n c n' c' Try.underlying22
  go_enter Try.func57, Try.ntmps57
  go_wp2_with fail
  go_ret
  exact ⟨rfl, rfl⟩
/-- Clone and cut, one behind the other. -/
def Cloned (w : World) (l : List VV) (e : Ending) (w' : World) : Prop := ∃ v, e = .returned v ∧ Below w.heap.size w w' ∧ ∃ g, (∀ W, Below w'.heap.size w' W → Calls Try.prog 46 #[v] W (Parts W g l)) ∧ (cutL l ≠ none → w.heap.size ≤ g)
theorem clone_of {w : World} {v : Value} {l : List VV} (h : SlN w v l) (hl : l.length ≤ 1073741824) : Calls Try.prog 57 #[v] w (Cloned w l) := by
  rcases h with ⟨rfl, rfl⟩ | ⟨g, off, c, rfl, h, h0⟩
  · refine (Clone_nil w).mono ?_
    rintro e w' ⟨rfl, rfl⟩
    exact ⟨_, rfl, Below.refl _ _, 0, fun W _ => cut_nil W, fun h => absurd rfl h⟩
  · refine (Clone_any h h0 hl).mono ?_
    rintro e w' ⟨g', c', rfl, hR, hg, hb⟩
    exact ⟨_, rfl, hb, g', fun W hW => cut_any (hR.keep (hW.block g' hR.lt)) hl, fun _ => hg⟩
theorem meta_wf {w : World} {v : Value} {l : List VV} (h : SlV w v l) {t : Tab} (ht : cutL l = some t) : wfP t.meta_ := by
  obtain ⟨_, e⟩ := cutL_some ht
  subst e
  rcases h with ⟨_, h⟩ | ⟨g, off, c, _, h⟩
  · simp [layT] at h
  · exact h.wf _ (by simp [layT])
theorem lay_any {W : World} {tp : Nat} {t : Tab} (h : LayIn W tp t) (hm : wfP t.meta_) (hs : t.arr.length + 2 * t.prs.length ≤ 1073741824) : ∃ ga oa ca gp op cp, W.cell? ⟨tp, 0, none⟩ = some (iV t.meta_.1) ∧ W.cell? ⟨tp, 1, none⟩ = some (iV t.meta_.2) ∧ W.cell? ⟨tp, 2, none⟩ = some (.slice (some ⟨ga, oa, none⟩) t.arr.length ca) ∧ W.cell? ⟨tp, 3, none⟩ = some (.slice (some ⟨gp, op, none⟩) (2 * t.prs.length) cp) ∧
    ∀ W', Below W.heap.size W W' → Calls Try.prog 55 #[vV t.meta_, .slice (some ⟨ga, oa, none⟩) t.arr.length ca, .slice (some ⟨gp, op, none⟩) (2 * t.prs.length) cp] W' (GivesR (layT t) W') := by
  obtain ⟨ga, oa, ca, gp, op, cp, mv, h1, h2, h3⟩ := h
  refine ⟨ga, oa, ca, gp, op, cp, ?_, ?_, ?_, ?_, fun W' hb => lay_rows (h2.keep (hb.block ga h2.lt)) (h3.keep (hb.block gp h3.lt)) hm rfl (flatQ_len _).symm hs⟩ <;> simp [World.cell?, h1]
theorem long_len : ∀ (f : Nat) (A : List VV) (q : List (VV × VV)), (longT f A q).1.length + (longT f A q).2.length = A.length + q.length ∧ (longT f A q).2.length ≤ q.length
  | 0, A, q => ⟨rfl, Nat.le_refl _⟩
  | f + 1, A, q => by
    unfold longT
    cases hi : idxQ q (intP (A.length + 1)) with
    | none => exact ⟨rfl, Nat.le_refl _⟩
    | some i =>
      obtain ⟨v, hv⟩ := idxQ_some hi
      have hlt : i < q.length := (List.getElem?_eq_some_iff.1 hv).1
      have := long_len f (A ++ [(q.getD i (nilP, nilP)).2]) (outQ q i)
      rw [outQ_len, List.length_append, List.length_singleton] at this
      simp only
      omega
theorem put_len (t : Tab) (k v : VV) : (putT t k v).1.arr.length + 2 * (putT t k v).1.prs.length ≤ t.arr.length + 2 * t.prs.length + 2 := by
  unfold putT
  split
  · have := trim_len (t.arr.set (k.2 - 1).toNat v)
    simp only [List.length_set] at this
    simp only; omega
  · cases idxQ t.prs k with
    | some i =>
      simp only
      split
      · have := outQ_len t.prs i; simp only; omega
      · simp only [List.length_set]; omega
    | none =>
      simp only
      split
      · simp only; omega
      · split
        · have := long_len t.prs.length (t.arr ++ [v]) t.prs
          simp only [List.length_append, List.length_singleton] at this ⊢
          omega
        · simp only [List.length_append, List.length_singleton]; omega
theorem put_meta (t : Tab) (k v : VV) : (putT t k v).1.meta_ = t.meta_ := by
  unfold putT
  split
  · rfl
  · cases idxQ t.prs k with
    | some i => simp only; split <;> rfl
    | none =>
      simp only
      split
      · rfl
      · split <;> rfl
theorem OwnV.lower {w : World} {b b' : Nat} {v : Value} {l : List VV} (h : OwnV w b v l) (hb : b' ≤ b) : OwnV w b' v l :=
  ⟨⟨h.1.1, h.1.2.imp id fun ⟨g, cap, cur, a, c, d⟩ => ⟨g, cap, cur, a, Nat.le_trans hb c, d⟩⟩, h.2⟩
theorem not_may {l : List VV} {k v : VV} {t : Tab} (ht : cutL l = some t) (h : mayP k = false ∨ mayP v = false ∨ v.1 = 0) : putL l k v = (none, 2) := by
  unfold putL
  rw [ht]
  simp only
  rw [if_neg]
  rintro ⟨h1, h2, h3⟩
  rcases h with h | h | h
  · rw [h] at h1; cases h1
  · rw [h] at h2; cases h2
  · exact h3 h
theorem may_ok2 {w : World} {k n : Int} {b : Bool} (h : mayP (k, n) = b) : Calls Try.prog 58 #[.agg #[.int .i64 k, .int .i64 n]] w fun e w' => e = .returned (.bool b) ∧ Below w.heap.size w w' := may_ok h
theorem key_ok {w : World} {k n : Int} {b : Bool} (h : keyP (k, n) = b) : Calls Try.prog 59 #[.agg #[.int .i64 k, .int .i64 n]] w fun e w' => e = .returned (.bool b) ∧ Below w.heap.size w w' := h ▸ Key_any k n w
theorem lt_of_heap {w : World} {a b : Nat} {o : Obj} (_ : a = b) (h : w.heap[b]? = some o) : a < w.heap.size := by subst a; exact mem_block_lt h
set_option maxHeartbeats 4000000 in
theorem Put_none {w : World} {v : Value} {l : List VV} (h : SlN w v l) (hl : l.length ≤ 1073741824) {k x : VV} (ht : cutL l = none) :
    Calls Try.prog 24 #[v, vV k, vV x] w (GivesPut (putL l k x) w) := by
  have e1 : putL l k x = (none, 2) := by unfold putL; rw [ht]
  have HC : Hid (∀ W, Below w.heap.size w W → Calls Try.prog 57 #[v] W (Cloned W l)) := fun W hb => clone_of (h.keep hb) hl
  rw [e1]
  have HT := Lib.hid ht
  obtain ⟨a, b⟩ := k
  obtain ⟨x1, x2⟩ := x
  clear h ht e1
  go_enter Try.func24, Try.ntmps24
  go_wp2_with (first
    | (go_at_call 57; refine (HC.out _ ?_).mono ?_; (· exact ((Below.refl _ _).alloc (Nat.le_refl _) _).alloc (by simp) _); rintro e w1 ⟨vc, rfl, hb1, g1, hc1, -⟩; have C1 := Lib.hid hc1; have B1 := Lib.hid (two_in hb1).2.2.2; clear hb1 hc1)
    | (go_at_call 46; refine (C1.out _ (Below.refl _ _)).mono ?_; rintro e w2 ⟨hb2, hP⟩; rw [HT.out] at hP; obtain ⟨pv, rfl⟩ := hP; have B2 := Lib.hid hb2; clear hb2))
  go_ret3
  exact ⟨B1.out.trans (B2.out.mono B1.out.size), rfl⟩
set_option maxHeartbeats 8000000 in
theorem Put_some {w : World} {v : Value} {l : List VV} (h : SlN w v l) (hl : l.length ≤ 268435456) {k x : VV} (hk : wfP k) (hx : wfP x) {t : Tab} (ht : cutL l = some t) :
    Calls Try.prog 24 #[v, vV k, vV x] w (GivesPut (putL l k x) w) := by
  have HC : Hid (∀ W, Below w.heap.size w W → Calls Try.prog 57 #[v] W (Cloned W l)) := fun W hb => clone_of (h.keep hb) (by omega)
  have WM : Hid (wfP t.meta_) := meta_wf h.sl ht
  have GD : Hid (Good t) := (cutL_some ht).1
  have LN : Hid (t.arr.length + 2 * t.prs.length + 2 = l.length) := Lib.hid (by rw [← (cutL_some ht).2]; simp [layT, flatQ_len])
  have WK := Lib.hid hk
  have WX := Lib.hid hx
  have HT := Lib.hid ht
  have HNM : Hid (∀ (_ : mayP k = false ∨ mayP x = false ∨ x.1 = 0), putL l k x = (none, 2)) := fun h => not_may ht h
  have HNK : Hid (mayP k = true → mayP x = true → x.1 ≠ 0 → keyP k = false → putL l k x = (none, 9)) := fun h1 h2 h3 h4 => by
    unfold putL; rw [ht]; simp only; rw [if_pos ⟨h1, h2, h3⟩, if_neg (by simp [h4])]
  have HOK : Hid (mayP k = true → mayP x = true → x.1 ≠ 0 → keyP k = true → putL l k x = (some (layT (putT t k x).1, (putT t k x).2), 0)) := fun h1 h2 h3 h4 => by
    unfold putL; rw [ht]; simp only; rw [if_pos ⟨h1, h2, h3⟩, if_pos h4]
  obtain ⟨a, b⟩ := k
  obtain ⟨x1, x2⟩ := x
  generalize hR : putL l (a, b) (x1, x2) = R at *
  clear h hk hx ht hR
  go_enter Try.func24, Try.ntmps24
  go_upto_region 2 with (first
    | (go_at_call 57; refine (HC.out _ ?_).mono ?_; (· exact ((Below.refl _ _).alloc (Nat.le_refl _) _).alloc (by simp) _); rintro e w1 ⟨vc, rfl, hb1, g1, hc1, hg1⟩; have C1 := Lib.hid hc1; have TW := Lib.hid (two_in hb1); have G1 : Hid (w.heap.size ≤ g1) := (by have := hg1 (by rw [HT.out]; intro e; cases e); simp at this; exact Nat.le_trans (by omega) this); clear hb1 hc1 hg1)
    | (go_at_call 46; refine (C1.out _ (Below.refl _ _)).mono ?_; rintro e w2 ⟨hb2, hP⟩; rw [HT.out] at hP; obtain ⟨tp, oa, ca, op, cp, mb, rfl, htp, hmb, hT⟩ := hP; have B2 := Lib.hid hb2; have T2 := Lib.hid hT; have LT : Hid (w1.heap.size ≤ tp ∧ w1.heap.size ≤ mb) := ⟨htp, hmb⟩; clear hb2 htp hmb hT))
  have KB : Hid (∀ W, Below w2.heap.size w2 W → W.heap[w.heap.size]? = some (.cells #[.int .i64 a, .int .i64 b] 24 (0, 0)) ∧ W.heap[w.heap.size + 1]? = some (.cells #[.int .i64 x1, .int .i64 x2] 24 (0, 0))) := fun W hb => by
    obtain ⟨h1, h2, h3, _⟩ := TW.out
    have hb' := B2.out.trans (hb.mono B2.out.size)
    exact ⟨(hb'.block _ (mem_block_lt h1)).trans h1, (hb'.block _ h3).trans h2⟩
  have BB0 : Hid (Below w.heap.size w w2) := TW.out.2.2.2.trans (B2.out.mono TW.out.2.2.2.size)
  have BB : Hid (Below w2.heap.size w2 w2) := Below.refl _ _
  obtain ⟨kk, kv⟩ := KB.out w2 BB.out
  obtain ⟨y0, y1, -, -⟩ := cells2 kk
  obtain ⟨y2, y3, -, -⟩ := cells2 kv
  have LE : Hid (w.heap.size ≤ tp ∧ w.heap.size ≤ mb) := ⟨Nat.le_trans TW.out.2.2.2.size LT.out.1, Nat.le_trans TW.out.2.2.2.size LT.out.2⟩
  clear kk kv C1 HC B2 TW LT
  cases mk : mayP (a, b) with
  | false =>
    have CK := Lib.hid (fun W => may_ok2 (w := W) mk)
    have E := Lib.hid (HNM.out (.inl mk))
    clear mk
    go_wp2_with (go_at_call 58; (with_reducible refine (CK.out _).mono ?_); rintro e w3 ⟨rfl, hb⟩; replace BB := Lib.hid (BB.out.trans (hb.mono BB.out.size)); clear hb)
    go_ret3
    rw [E.out]
    exact ⟨BB0.out.trans (BB.out.mono BB0.out.size), rfl⟩
  | true =>
    have CK := Lib.hid (fun W => may_ok2 (w := W) mk)
    cases mx : mayP (x1, x2) with
    | false =>
      have CX := Lib.hid (fun W => may_ok2 (w := W) mx)
      have E := Lib.hid (HNM.out (.inr (.inl mx)))
      clear mk mx
      go_wp2_with (first
        | (go_at_call 58; (with_reducible refine (CK.out _).mono ?_); rintro e w3 ⟨rfl, hb⟩; replace BB := Lib.hid (BB.out.trans (hb.mono BB.out.size)); obtain ⟨kk, kv⟩ := KB.out w3 BB.out; obtain ⟨y0, y1, -, -⟩ := cells2 kk; obtain ⟨y2, y3, -, -⟩ := cells2 kv; clear hb kk kv)
        | (go_at_call 58; (with_reducible refine (CX.out _).mono ?_); rintro e w3 ⟨rfl, hb⟩; replace BB := Lib.hid (BB.out.trans (hb.mono BB.out.size)); clear hb))
      go_ret3
      rw [E.out]
      exact ⟨BB0.out.trans (BB.out.mono BB0.out.size), rfl⟩
    | true =>
      have CX := Lib.hid (fun W => may_ok2 (w := W) mx)
      by_cases z : x1 = 0
      · have E := Lib.hid (HNM.out (.inr (.inr z)))
        have z1 : (x1 == 0) = true := by simp [z]
        clear mk mx z
        go_wp2_with (first
          | (go_at_call 58; (with_reducible refine (CK.out _).mono ?_); rintro e w3 ⟨rfl, hb⟩; replace BB := Lib.hid (BB.out.trans (hb.mono BB.out.size)); obtain ⟨kk, kv⟩ := KB.out w3 BB.out; obtain ⟨y0, y1, -, -⟩ := cells2 kk; obtain ⟨y2, y3, -, -⟩ := cells2 kv; clear hb kk kv)
          | (go_at_call 58; (with_reducible refine (CX.out _).mono ?_); rintro e w4 ⟨rfl, hb⟩; replace BB := Lib.hid (BB.out.trans (hb.mono BB.out.size)); obtain ⟨kk, kv⟩ := KB.out w4 BB.out; obtain ⟨y0, y1, -, -⟩ := cells2 kk; obtain ⟨y2, y3, -, -⟩ := cells2 kv; clear hb kk kv))
        go_ret3
        rw [E.out]
        exact ⟨BB0.out.trans (BB.out.mono BB0.out.size), rfl⟩
      · have z1 : (x1 == 0) = false := not_eq z
        cases mq : keyP (a, b) with
        | false =>
          have CQ := Lib.hid (fun W => key_ok (w := W) mq)
          have E := Lib.hid (HNK.out mk mx z mq)
          clear mk mx z mq
          go_wp2_with (first
            | (go_at_call 58; (with_reducible refine (CK.out _).mono ?_); rintro e w3 ⟨rfl, hb⟩; replace BB := Lib.hid (BB.out.trans (hb.mono BB.out.size)); obtain ⟨kk, kv⟩ := KB.out w3 BB.out; obtain ⟨y0, y1, -, -⟩ := cells2 kk; obtain ⟨y2, y3, -, -⟩ := cells2 kv; clear hb kk kv)
            | (go_at_call 58; (with_reducible refine (CX.out _).mono ?_); rintro e w4 ⟨rfl, hb⟩; replace BB := Lib.hid (BB.out.trans (hb.mono BB.out.size)); obtain ⟨kk, kv⟩ := KB.out w4 BB.out; obtain ⟨y0, y1, -, -⟩ := cells2 kk; obtain ⟨y2, y3, -, -⟩ := cells2 kv; clear hb kk kv)
            | (go_at_call 59; (with_reducible refine (CQ.out _).mono ?_); rintro e w5 ⟨rfl, hb⟩; replace BB := Lib.hid (BB.out.trans (hb.mono BB.out.size)); clear hb))
          go_ret3
          rw [E.out]
          exact ⟨BB0.out.trans (BB.out.mono BB0.out.size), rfl⟩
        | true =>
          have CQ := Lib.hid (fun W => key_ok (w := W) mq)
          have E := Lib.hid (HOK.out mk mx z mq)
          have PT : Hid (∀ W, Below w2.heap.size w2 W → Calls Try.prog 60 #[bV tp, vV (a, b), vV (x1, x2)] W (Puts W w.heap.size tp t (a, b) (x1, x2))) := fun W hb =>
            put_any ⟨T2.out.below hb, GD.out, mq, elemOk_iff.2 ⟨mx, z⟩, WK.out, WX.out, LE.out.1, G1.out, G1.out, LE.out.2, Nat.le_trans BB0.out.size hb.size, by have := LN.out; omega, by have := LN.out; omega⟩
          have PL := put_len t (a, b) (x1, x2)
          clear mk mx z mq
          go_upto_region 7 with (first
            | (go_at_call 58; (with_reducible refine (CK.out _).mono ?_); rintro e w3 ⟨rfl, hb⟩; replace BB := Lib.hid (BB.out.trans (hb.mono BB.out.size)); obtain ⟨kk, kv⟩ := KB.out w3 BB.out; obtain ⟨y0, y1, -, -⟩ := cells2 kk; obtain ⟨y2, y3, -, -⟩ := cells2 kv; clear hb kk kv)
            | (go_at_call 58; (with_reducible refine (CX.out _).mono ?_); rintro e w4 ⟨rfl, hb⟩; replace BB := Lib.hid (BB.out.trans (hb.mono BB.out.size)); obtain ⟨kk, kv⟩ := KB.out w4 BB.out; obtain ⟨y0, y1, -, -⟩ := cells2 kk; obtain ⟨y2, y3, -, -⟩ := cells2 kv; clear hb kk kv)
            | (go_at_call 59; (with_reducible refine (CQ.out _).mono ?_); rintro e w5 ⟨rfl, hb⟩; replace BB := Lib.hid (BB.out.trans (hb.mono BB.out.size)); obtain ⟨kk, kv⟩ := KB.out w5 BB.out; obtain ⟨y0, y1, -, -⟩ := cells2 kk; obtain ⟨y2, y3, -, -⟩ := cells2 kv; clear hb kk kv)
            | (go_at_call 60; (with_reducible refine (PT.out _ BB.out).mono ?_); rintro e w6 ⟨vg, rfl, ho6, hl6, hb6⟩; have O6 := Lib.hid ho6; have L6 := Lib.hid hl6; have B6 := Lib.hid hb6; clear ho6 hl6 hb6))
          have PM := put_meta t (a, b) (x1, x2)
          have E2 : Hid (R = (some (layT (putT t (a, b) (x1, x2)).1, (putT t (a, b) (x1, x2)).2), 0)) := E
          generalize putT t (a, b) (x1, x2) = PP at *
          obtain ⟨ga, oa', ca', gp, op', cp', c0, c1, c2, c3, hlay⟩ := lay_any L6.out (by rw [PM]; exact WM.out) (by have := LN.out; omega)
          have HL := Lib.hid hlay
          obtain ⟨m1, m2⟩ : ∃ m1 m2 : Int, True := ⟨0, 0, trivial⟩
          have l6 : tp < w6.heap.size := World.block_lt_of_cell? _ _ c0
          clear y0 y1 y2 y3 hlay PM PL
          refine wp_region_noPanic ?_
          go_region_law (go_simp; go_at_call 55; (with_reducible refine (HL.out _ ((Below.refl _ _).drew)).mono ?_); rintro e w7 ⟨g7, o7, c7, rfl, hR7, hg7, hb7⟩; have R7 := Lib.hid hR7; have G7 : Hid (w6.heap.size ≤ g7) := (by exact hg7); have B7 : Hid (Below w6.heap.size w6 w7) := (by exact ⟨hb7.os, hb7.tape, hb7.output, hb7.size, hb7.block⟩); clear hR7 hg7 hb7)
          all_goals
            refine NoPanic.normal ?_
            go_wp2_with fail
            go_ret3
            have s0 := BB0.out.size
            have s1 := BB.out.size
            have s6 := B6.out.size
            rw [E2.out]
            exact ⟨(BB0.out.trans (BB.out.mono s0)).trans (B6.out.trans (B7.out.mono (by omega))), g7, o7, c7, vg, rfl, R7.out, by have := G7.out; omega, (O6.out.below B7.out).lower (by omega)⟩
/-- dict.Put. -/
theorem Put_any {w : World} {v : Value} {l : List VV} (h : SlN w v l) (hl : l.length ≤ 268435456) {k x : VV} (hk : wfP k) (hx : wfP x) :
    Calls Try.prog 24 #[v, vV k, vV x] w (GivesPut (putL l k x) w) := by
  cases ht : cutL l with
  | none => exact Put_none h (by omega) ht
  | some t => exact Put_some h hl hk hx ht
end Go.Proofs.Ytkkdgacdajojiaa
