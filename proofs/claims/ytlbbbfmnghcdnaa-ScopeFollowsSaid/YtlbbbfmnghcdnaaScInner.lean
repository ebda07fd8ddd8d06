/- inner: a function within. -/
import Derived.Test.YtlbbbfmnghcdnaaScStmt
namespace Go.Proofs.Ytlbbbfmnghcdnaa
set_option maxRecDepth 20000
open Go.RowKit Go.Maps

theorem params_len : ∀ {ps : Tree}, txB ps = true → (paramsL ps).length = lenT ps
  | .nil, _ => rfl
  | .cons (.tx _) r, h => by simp only [paramsL, List.length_cons, lenT, params_len (ps := r) h]
  | .cons .nil _, h => by cases h
  | .cons (.ex ..) _, h => by cases h
  | .cons (.st ..) _, h => by cases h
  | .cons (.cons ..) _, h => by cases h
  | .tx _, h => by cases h
  | .ex .., h => by cases h
  | .st .., h => by cases h
theorem names_row {w : World} {S : Nat → Prop} : ∀ {ps : Tree} {A : Option Addr} {i : Nat}, txB ps = true → RowT w S ps A i → ∀ j s, (paramsL ps)[j]? = some s → ∃ g, A = some ⟨g, 0, none⟩ ∧ w.cell? ⟨g, i + j, none⟩ = some (sV s)
  | .nil, _, _, _, _, j, s, h => by simp [paramsL] at h
  | .cons (.tx x) r, A, i, ht, ⟨g, z, hA, _, hc, hx, hr⟩, j, s, h => by
    cases j with
    | zero =>
      have : x = s := by simpa [paramsL] using h
      subst this
      have hz : z = sV x := hx
      exact ⟨g, hA, by rw [Nat.add_zero, hc, hz]⟩
    | succ j =>
      obtain ⟨g', h1, h2⟩ := names_row (ps := r) ht hr j s (by simpa [paramsL] using h)
      exact ⟨g', h1, by rw [show i + (j + 1) = i + 1 + j by omega]; exact h2⟩
  | .cons .nil _, _, _, h, _, _, _, _ => by cases h
  | .cons (.ex ..) _, _, _, h, _, _, _, _ => by cases h
  | .cons (.st ..) _, _, _, h, _, _, _, _ => by cases h
  | .cons (.cons ..) _, _, _, h, _, _, _, _ => by cases h
  | .tx _, _, _, h, _, _, _, _ => by cases h
  | .ex .., _, _, h, _, _, _, _ => by cases h
  | .st .., _, _, h, _, _, _, _ => by cases h
/-- The loop's head in inner$1. -/
structure DeclRel (N lo p : Nat) (T : Own) (G : Nat → Gh) (w : World) (st : StS) (l : Int) (R : ResS) (A : Option Addr) (i : Nat) (r : Tree) (wr : World) : Prop where
  row : RowT wr (fun k => k < lo) r A i
  wf : wfT r
  tx : txB r = true
  st : ∃ T' G' vn st', WAt wr T' lo p G' vn st' ∧ Turn (fun _ => True) T w T' wr ∧ Same N G G' ∧ PresS st st' ∧ declaresS l r st' = R
set_option maxHeartbeats 4000000 in
theorem inner1_any {n : Nat} (S : ScSpec n) (hn : n ≤ 1099511627776) {N : Nat} {w : World} {T : Own} {lo p g q0 q1 : Nat} {G : Nat → Gh} {vn : Value} {st : StS} {l n0 : Int} {s : List UInt8} {va vb vk vs : Value} {ps bd : Tree} {Ap Ab : Option Addr} {cp cb : Nat} (h : WAt w T lo p G vn st) (hN : N ≤ st.fns.length) (hs : st.stack ≠ [])
    (hc : ExC w g 9 l n0 s va vb vk vs (.slice Ap (lenT ps) cp) (.slice Ab (lenT bd) cb)) (hg : g < lo) (hps : RowT w (fun k => k < lo) ps Ap 0) (hbd : RowT w (fun k => k < lo) bd Ab 0) (hwp : wfT ps) (hwb : wfT bd) (htx : txB ps = true) (hsb : stsB bd = true) (hz : szT ps + szT bd ≤ n)
    (h0 : w.cell? ⟨q0, 0, none⟩ = some (pV p)) (h1 : w.cell? ⟨q1, 0, none⟩ = some (pV g)) (f0 : T q0 = none) (f1 : T q1 = none) (hD : (declaresS l ps st).bind (goS bd) ≠ .out) :
    Calls Try.prog 73 #[pV q1, pV q0] w (EndsS N T lo p G ((declaresS l ps st).bind (goS bd)) w) := by
  generalize hR0 : declaresS l ps st = R0 at hD ⊢
  generalize hR : R0.bind (goS bd) = R at hD ⊢
  have REL := Lib.hid (DeclRel.mk hps hwp htx ⟨T, G, vn, st, h, Turn.refl _ _ _, Same.refl _ _, PresS.refl _, hR0⟩ : DeclRel N lo p T G w st l R0 Ap 0 ps w)
  have HD := Lib.hid hD
  have HR := Lib.hid hR
  have Hbd := Lib.hid hbd
  have c1 := hc.c1
  have c8 := hc.c8
  have HS := Lib.hid S
  have Hs := Lib.hid hs
  have H := Lib.hid h
  have HC := Lib.hid hc
  have bs := h.base
  have hlz := lenT_le ps
  clear h hps hbd hR0 hR hD S hs hc
  go_enter Try.func73, Try.ntmps73
  go_wp2_with fail
  go_loopg [9] (lenT ps) (fun m v wr => ∃ (i : Nat) (r : Tree), v = iV i ∧ i + m = lenT ps ∧ lenT r = m ∧ Hid (DeclRel N lo p T G w st l R0 Ap i r wr))
  case atStart => exact ⟨0, ps, rfl, by simp, rfl, REL⟩
  case round =>
    obtain ⟨i, r, rfl, him, hlr, hF⟩ := hrel
    clear REL
    obtain ⟨T1, G1, vn1, st1, hW1, ht1, hS1, hP1, hg1⟩ := hF.out.st
    have htr := hF.out.tx
    have hwr := hF.out.wf
    have hrw := hF.out.row
    have y0 := ht1.cell_free h0 f0
    have y1 := ht1.cell_free h1 f1
    have fr1 : T1 q0 = none := (ht1.own q0 (World.block_lt_of_cell? w _ h0)).trans f0
    have fr2 : T1 q1 = none := (ht1.own q1 (World.block_lt_of_cell? w _ h1)).trans f1
    have hX1 := HC.out.keep (ht1.free (Nat.lt_of_lt_of_le hg bs) (H.out.old g hg))
    have d1 := hX1.c1
    have d8 := hX1.c8
    have d9 := hX1.c9
    have Hbd1 := Lib.hid ((tree_turn H.out ht1).2 _ _ Hbd.out)
    cases gk with
    | zero =>
      have hi : i = lenT ps := by omega
      subst hi
      have hok : ResS.ok st1 = R0 := by
        rw [← hg1]
        cases r with
        | cons a b => simp [lenT] at hlr
        | nil => rfl
        | tx _ => cases htr
        | ex => cases htr
        | st => cases htr
      have hs1 : st1.stack ≠ [] := by rw [hP1.stack]; exact Hs.out
      have hR2 : goS bd st1 = R := by rw [← HR.out, ← hok]; rfl
      have C := HS.out.stmts (N := N) bd (.slice Ab (lenT bd) cb) l hW1.drew (Nat.le_trans hN hP1.len) hs1 ⟨Ab, cb, rfl, row_drew Hbd1.out⟩ hwb hsb (by omega) (by rw [hR2]; exact HD.out)
      rw [hR2] at C
      replace C := Lib.hid C
      have HW1 := Lib.hid hW1
      have Ht1 := Lib.hid ht1
      have HS1 := Lib.hid hS1
      clear hW1 ht1 hS1 hok hg1 hP1 htr hwr hrw hR2 hs1 hX1
      go_wp2_with fail
      go_still_tail 9, (by kernel_rfl)
      change wpList _ _ _ _ _ (World.drew _)
      go_wp2_with (first
        | (go_at_call 34; (with_reducible refine C.out.mono ?_); intro e w4 hE; rcases R with _ | ⟨cc, ll⟩ | ⟨st3⟩; (· exact hE.elim); (· obtain ⟨b0, T', rfl, hb1, hb2, hb3⟩ := hE; exact ⟨rfl, BadS.after ⟨b0, T', rfl, hb1, hb2, hb3⟩ Ht1.out.drew⟩); obtain ⟨v4, T4, G4, vn4, rfl, rfl, hW4, ht4, hS4⟩ := hE; have HW4 := Lib.hid hW4; have Ht4 := Lib.hid (Ht1.out.drew.trans ht4); have HS4 := Lib.hid (HS1.out.trans hS4 (Nat.le_refl _)); clear hW4 ht4 hS4))
      refine bodyPost_end (results_none rfl _ _ _) rfl ?_
      exact ends_ok rfl HW4.out Ht4.out HS4.out
    | succ m =>
      cases r with
      | nil => simp [lenT] at hlr
      | tx _ => cases htr
      | ex => cases htr
      | st => cases htr
      | cons x r =>
        cases x with
        | nil => cases htr
        | st => cases htr
        | cons => cases htr
        | ex => cases htr
        | tx nm =>
          obtain ⟨ga, z, hA, hga, hcell, hat, hrow⟩ := hrw
          obtain rfl : z = sV nm := hat
          subst hA
          have q0' : (0 : Int) ≤ (i : Int) := by omega
          have q1' : (i : Int) < (lenT ps : Int) := by omega
          simp only [lenT] at hlr
          have hR2 : (declareS nm l st1).bind (declaresS l r) = R0 := by rw [← hg1]; rfl
          obtain ⟨k, rest, hst⟩ : ∃ k rest, st1.stack = k :: rest := by
            cases h : st1.stack with
            | nil => exact absurd (hP1.stack.symm.trans h) Hs.out
            | cons a b => exact ⟨a, b, rfl⟩
          have hk := hW1.stack_lt k (by rw [hst]; simp)
          have hf : st1.fns[k]? = some st1.fns[k] := List.getElem?_eq_getElem hk
          generalize st1.fns[k] = f at hf
          have z0 := hW1.c0
          rw [hst] at z0
          simp only [curV] at z0
          have hD2 : declareS nm l st1 ≠ .out := fun e => by
            have : R0 = .out := by rw [← hR2, e]; rfl
            exact HD.out (by rw [← HR.out, this]; rfl)
          have C3 := declare_any (N := N) hW1.drew hst hf nm hwr.1 l hD2
          have HK : ∀ st2, declareS nm l st1 = .ok st2 → PresS st1 st2 := declareS_keeps nm l st1
          generalize declareS nm l st1 = r1 at C3 hR2 HK
          have HC3 := Lib.hid C3
          have HKK := Lib.hid HK
          have HR2 := Lib.hid hR2
          have HW1 := Lib.hid hW1
          have Ht1 := Lib.hid ht1
          have HS1 := Lib.hid hS1
          have HP1 := Lib.hid hP1
          have Hrow := Lib.hid hrow
          have Hwr := Lib.hid hwr
          have Htr := Lib.hid htr
          clear hW1 ht1 hS1 hg1 hP1 htr hwr hrow C3 HK hR2 hst hf hD2 hX1 Hbd1 d9
          go_wp2_with fail
          go_still_tail 11, (by kernel_rfl)
          change wpList _ _ _ _ _ (World.drew _)
          go_wp2_with (first
            | (go_at_call 51; (with_reducible refine HC3.out.mono ?_); intro e w2 hE; rcases r1 with _ | ⟨cc, ll⟩ | ⟨st2⟩; (· exact hE.elim); (· obtain ⟨b0, T', rfl, hb1, hb2, hb3⟩ := hE; exact ⟨rfl, ends_bad (by rw [← HR.out, ← HR2.out]; rfl) (BadS.after ⟨b0, T', rfl, hb1, hb2, hb3⟩ Ht1.out.drew)⟩); obtain ⟨v2, T2, G2, vn2, rfl, rfl, hW2, ht2, hS2⟩ := hE; have HP2 := Lib.hid (HP1.out.trans (HKK.out st2 rfl)); have HR3 := Lib.hid ((tree_turn HW1.out.drew ht2).2 _ _ (row_drew Hrow.out)); have HW2 := Lib.hid hW2; have Ht2 := Lib.hid (Ht1.out.drew.trans ht2); have HS2 := Lib.hid (HS1.out.trans hS2 (Nat.le_refl _)); clear hW2 ht2 hS2))
          go_roundg m
          case measure => omega
          case rel => exact ⟨i + 1, r, by simp, by omega, by omega, Lib.hid ⟨HR3.out, Hwr.out.2, Htr.out, T2, G2, vn2, st2, HW2.out, Ht2.out, HS2.out, HP2.out, HR2.out⟩⟩
theorem enter_inner1 (args : Array Value) (w : World) : (callFunc 73 args).run Try.prog w = .ok (.enter 73 args) w := enters_of Try.func73 (by kernel_rfl) rfl args w
def innerS (l : Int) (ps bd : Tree) (st : StS) : ResS :=
  if st.fns.length = 256 ∨ 20 < (paramsL ps).length then .bad 3 l
  else if dupB (paramsL ps) = true then .bad 6 l
  else ((declaresS l ps (enterS st)).bind (goS bd)).bind leaveS
theorem enter_keeps {st : StS} (l : Int) (ps bd : Tree) : ∀ st1, (declaresS l ps (enterS st)).bind (goS bd) = .ok st1 → PresS (enterS st) st1 := fun st1 h => by
  obtain ⟨s2, h1, h2⟩ := bindS_eq h
  exact (declaresS_keeps l ps _ _ h1).trans (goS_keeps bd _ _ h2)
set_option maxHeartbeats 4000000 in
theorem inner_any {n : Nat} (S : ScSpec n) (hn : n ≤ 1099511627776) {N : Nat} {w : World} {T : Own} {lo p g : Nat} {G : Nat → Gh} {vn : Value} {st : StS} {l n0 : Int} {s : List UInt8} {va vb vk vs : Value} {ps bd : Tree} {Ap Ab : Option Addr} {cp cb : Nat} (h : WAt w T lo p G vn st) (hN : N ≤ st.fns.length)
    (hc : ExC w g 9 l n0 s va vb vk vs (.slice Ap (lenT ps) cp) (.slice Ab (lenT bd) cb)) (hcap : lenT ps ≤ cp) (hg : g < lo) (hps : RowT w (fun k => k < lo) ps Ap 0) (hbd : RowT w (fun k => k < lo) bd Ab 0) (hwp : wfT ps) (hwb : wfT bd) (htx : txB ps = true) (hsb : stsB bd = true) (hz : szT ps + szT bd ≤ n) (hD : innerS l ps bd st ≠ .out) :
    Calls Try.prog 61 #[pV p, pV g] w (EndsS N T lo p G (innerS l ps bd st) w) := by
  have hgl := hc.lt
  have bs := h.base
  have h3 := (h.alloc (.cells #[pV p] 90)).alloc (.cells #[pV g] 63)
  have T3 : Turn (fun _ => True) T w T ((w.alloc (.cells #[pV p] 90)).alloc (.cells #[pV g] 63)) := ((Turn.refl _ T w).alloc _ fun _ _ => rfl).alloc _ fun _ _ => rfl
  have hps3 := (tree_turn h T3).2 _ _ hps
  have hbd3 := (tree_turn h T3).2 _ _ hbd
  have hc3 : ExC ((w.alloc (.cells #[pV p] 90)).alloc (.cells #[pV g] 63)) g 9 l n0 s va vb vk vs (.slice Ap (lenT ps) cp) (.slice Ab (lenT bd) cb) := hc.keep ((Below.heap_alloc _ _ _ (by simp; omega)).trans (Below.heap_alloc _ _ _ hgl))
  have b0 : ((w.alloc (.cells #[pV p] 90)).alloc (.cells #[pV g] 63)).cell? ⟨w.heap.size, 0, none⟩ = some (pV p) := by simp [go_sem]
  have b1 : ((w.alloc (.cells #[pV p] 90)).alloc (.cells #[pV g] 63)).cell? ⟨w.heap.size + 1, 0, none⟩ = some (pV g) := by simp [go_sem]
  have f0 := h.fresh w.heap.size (Nat.le_refl _)
  have f1 := h.fresh (w.heap.size + 1) (by omega)
  obtain ⟨W3, hW3⟩ : ∃ W3, ((w.alloc (.cells #[pV p] 90)).alloc (.cells #[pV g] 63)) = W3 := ⟨_, rfl⟩
  rw [hW3] at h3 T3 hps3 hbd3 hc3 b0 b1
  obtain ⟨An, cn, hvn, hcn, hcm⟩ := slice_form h3.rn
  have x1 := h3.c1
  rw [hvn] at x1
  have d1 := hc3.c1
  have d8 := hc3.c8
  have hpn := params_len htx
  have hmf : ∀ (fn : Fn) (first cap : Array Value) (w : World), (Instr.makeFunc fn first cap).run Try.prog w = .ok (.func fn first cap) w := fun _ _ _ _ => rfl
  have F3 := Lib.hid (fail_any 3 l W3)
  have F6 := Lib.hid (fail_any 6 l W3)
  have B3 := Lib.hid ((bad_new T W3 3 l 124).after T3)
  have B6 := Lib.hid ((bad_new T W3 6 l 124).after T3)
  have hmany := h.many
  unfold innerS at hD ⊢
  by_cases k1 : st.fns.length = 256
  · rw [if_pos (.inl k1)]
    have q1 : ((st.fns.length : Int) == 256) = true := by rw [k1]; rfl
    clear h h3 T3 hps hbd hc hps3 hbd3 hc3 S hD k1
    go_enter Try.func61, Try.ntmps61
    go_wp2_with (first
      | (go_at_call 48; with_reducible refine F3.out.mono ?_; rintro e w2 ⟨rfl, rfl⟩))
    exact ⟨rfl, B3.out⟩
  have q1 : ((st.fns.length : Int) == 256) = false := beq_eq_false_iff_ne.2 (by omega)
  by_cases k2 : 20 < (paramsL ps).length
  · rw [if_pos (.inr k2)]
    have q2 : (20 : Int) < (lenT ps : Int) := by omega
    clear h h3 T3 hps hbd hc hps3 hbd3 hc3 S hD k1 k2
    go_enter Try.func61, Try.ntmps61
    go_wp2_with (first
      | (go_at_call 48; with_reducible refine F3.out.mono ?_; rintro e w2 ⟨rfl, rfl⟩))
    exact ⟨rfl, B3.out⟩
  rw [if_neg (fun e => e.elim k1 k2)] at hD ⊢
  have q2 : ¬ (20 : Int) < (lenT ps : Int) := by omega
  have HN := Lib.hid (names_row htx hps3)
  have HD := Lib.hid hD
  have Hpn := Lib.hid hpn
  obtain ⟨R, hR⟩ : ∃ R, (if dupB (paramsL ps) = true then ResS.bad 6 l else ((declaresS l ps (enterS st)).bind (goS bd)).bind leaveS) = R := ⟨_, rfl⟩
  rw [hR]
  have CI := fun (hd : (declaresS l ps (enterS st)).bind (goS bd) ≠ .out) => inFunction_any (N := N) (r := (declaresS l ps (enterS st)).bind (goS bd)) h3 (by omega) hN (fun w1 T1 G1 vn1 hw ht => inner1_any (q0 := w.heap.size) (q1 := w.heap.size + 1) S hn (N := st.fns.length + 1) hw (by simp [enterS]) (by simp [enterS]) (hc3.keep (ht.free (Nat.lt_of_lt_of_le hg h3.base) (h3.old g hg))) hg ((tree_turn h3 ht).2 _ _ hps3) ((tree_turn h3 ht).2 _ _ hbd3) hwp hwb htx hsb hz (ht.cell_free b0 f0) (ht.cell_free b1 f1) ((ht.own _ (World.block_lt_of_cell? _ _ b0)).trans f0) ((ht.own _ (World.block_lt_of_cell? _ _ b1)).trans f1) hd) (fun w => enter_inner1 _ w) (enter_keeps l ps bd) hd
  have HCI := Lib.hid CI
  have HT3 := Lib.hid T3
  have HRR := Lib.hid hR
  have hlz := lenT_le ps
  clear h h3 T3 hps hbd hc hps3 hbd3 hc3 S hD CI hR hpn k1 k2
  go_enter Try.func61, Try.ntmps61
  go_wp2_with fail
  go_loopg [30] (lenT ps) (fun m v wr => ∃ i : Nat, v = iV i ∧ i + m = lenT ps ∧ Hid (dupAt ((paramsL ps).take i) ((paramsL ps).drop i) = dupB (paramsL ps)) ∧ wr = W3)
  case atStart => exact ⟨0, rfl, by simp, Lib.hid (by simp [dupB]), rfl⟩
  case round =>
    obtain ⟨i, rfl, him, hd, rfl⟩ := hrel
    cases gk with
    | zero =>
      have hi : i = lenT ps := by omega
      subst hi
      have hnd : dupB (paramsL ps) = false := by
        rw [← hd.out, List.drop_eq_nil_of_le (by rw [Hpn.out]; omega)]; rfl
      have hR2 := HRR.out
      rw [if_neg (by rw [hnd]; simp)] at hR2
      have hD2 : (declaresS l ps (enterS st)).bind (goS bd) ≠ .out := fun e => HD.out (by rw [if_neg (by rw [hnd]; simp), e]; rfl)
      have C := HCI.out hD2
      rw [hR2] at C
      replace C := Lib.hid C
      clear hR2 hD2 hnd
      go_wp2_with (first
        | (go_at_call 32; (with_reducible refine C.out.mono ?_); intro e w4 hE; rcases R with _ | ⟨cc, ll⟩ | ⟨st3⟩; (· exact hE.elim); (· obtain ⟨b0, T', rfl, hb1, hb2, hb3⟩ := hE; exact ⟨rfl, BadS.after ⟨b0, T', rfl, hb1, hb2, hb3⟩ HT3.out⟩); obtain ⟨v4, T4, G4, vn4, rfl, rfl, hW4, ht4, hS4⟩ := hE; have HW4 := Lib.hid hW4; have Ht4 := Lib.hid (HT3.out.trans ht4); have HS4 := Lib.hid hS4; clear hW4 ht4 hS4))
      refine bodyPost_end (results_none rfl _ _ _) rfl ?_
      exact ends_ok rfl HW4.out Ht4.out HS4.out
    | succ m =>
      have hil : i < (paramsL ps).length := by rw [Hpn.out]; omega
      obtain ⟨x, hx⟩ : ∃ x, (paramsL ps)[i]? = some x := ⟨_, List.getElem?_eq_getElem hil⟩
      obtain ⟨ga, rfl, hcell⟩ := HN.out i x hx
      rw [Nat.zero_add] at hcell
      have q1' : (i : Int) < (lenT ps : Int) := by omega
      have q0' : (0 : Int) ≤ (i : Int) := by omega
      have q3 : (i : Int) ≤ (cp : Int) := by omega
      have hdr : (paramsL ps).drop i = x :: (paramsL ps).drop (i + 1) := by
        rw [List.drop_eq_getElem_cons hil]
        rw [List.getElem?_eq_getElem hil] at hx
        injection hx with hx
        rw [hx]
      have htk : (paramsL ps).take (i + 1) = (paramsL ps).take i ++ [x] := by
        rw [List.take_add_one, hx]; rfl
      have hd2 : (((paramsL ps).take i).contains x || dupAt ((paramsL ps).take (i + 1)) ((paramsL ps).drop (i + 1))) = dupB (paramsL ps) := by
        rw [← hd.out, hdr, htk]; rfl
      have hna : NamesAt wr (some ⟨ga, 0, none⟩) ((paramsL ps).take i) := fun j s hj => by
        have hj2 : j < i := by
          have := (List.getElem?_eq_some_iff.1 hj).1
          rw [List.length_take] at this; omega
        rw [List.getElem?_take_of_lt hj2] at hj
        obtain ⟨g', h1, h2⟩ := HN.out j s hj
        rw [Nat.zero_add] at h2
        exact ⟨g', h1, h2⟩
      have C := containsS_any (c := cp) ((paramsL ps).take i) x hna (by rw [List.length_take]; omega)
      rw [List.length_take, Nat.min_eq_left (by omega)] at C
      replace C := Lib.hid C
      have Hd2 := Lib.hid hd2
      clear hd2 hna htk hdr hx
      by_cases hcx : ((paramsL ps).take i).contains x = true
      · have hmem : x ∈ (paramsL ps).take i := List.contains_iff_mem.1 hcx
        have hD1 : dupB (paramsL ps) = true := by rw [← Hd2.out, hcx]; rfl
        have hR2 := HRR.out
        rw [if_pos hD1] at hR2
        have HR2 := Lib.hid hR2
        clear hR2 hD1 hcx
        go_wp2_with (first
          | (go_at_call 72; (with_reducible refine C.out.mono ?_); rintro e w1 ⟨rfl, hq⟩; obtain rfl := hq.symm)
          | (go_at_call 48; with_reducible refine F6.out.mono ?_; rintro e w2 ⟨rfl, rfl⟩))
        exact ⟨rfl, ends_bad HR2.out B6.out⟩
      · have hcx' : ((paramsL ps).take i).contains x = false := by simpa using hcx
        have Hd3 : Hid (dupAt ((paramsL ps).take (i + 1)) ((paramsL ps).drop (i + 1)) = dupB (paramsL ps)) := Lib.hid (by rw [← Hd2.out, hcx', Bool.false_or])
        have hmem : ¬ x ∈ (paramsL ps).take i := fun h => hcx (List.contains_iff_mem.2 h)
        clear hcx hcx'
        go_wp2_with (first
          | (go_at_call 72; (with_reducible refine C.out.mono ?_); rintro e w1 ⟨rfl, hq⟩; obtain rfl := hq.symm))
        go_roundg m
        case measure => omega
        case rel => exact ⟨i + 1, by simp, by omega, Hd3, rfl⟩
end Go.Proofs.Ytlbbbfmnghcdnaa
