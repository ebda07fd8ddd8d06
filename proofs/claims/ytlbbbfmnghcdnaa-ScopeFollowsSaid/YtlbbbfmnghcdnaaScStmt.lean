/- stmt: a local, a call, a block, a return. -/
import Derived.Test.YtlbbbfmnghcdnaaScBlock
namespace Go.Proofs.Ytlbbbfmnghcdnaa
set_option maxRecDepth 20000
open Go.RowKit Go.Maps

theorem at_drew {w : World} {S : Nat → Prop} {t : Tree} {v : Value} (h : At w S t v) : At w.drew S t v := (at_keep (w := w) (w' := w.drew) (fun _ hg => ⟨hg, rfl⟩) t).1 _ h
theorem row_drew {w : World} {S : Nat → Prop} {t : Tree} {A : Option Addr} {i : Nat} (h : RowT w S t A i) : RowT w.drew S t A i := (at_keep (w := w) (w' := w.drew) (fun _ hg => ⟨hg, rfl⟩) t).2 _ _ h
theorem at_alloc {w : World} {lo : Nat} {t : Tree} {v : Value} (h : AtO w lo t v) (hl : lo ≤ w.heap.size) (o : Obj) : AtO (w.alloc o) lo t v := (at_keep (w' := w.alloc o) (fun _ hg => ⟨hg, Below.heap_alloc _ _ _ (Nat.lt_of_lt_of_le hg hl)⟩) t).1 _ h
def callS (t : Tree) (st : StS) : ResS := if isExT t = true ∧ kindS t = 8 then goS t st else .out
/-- A block, by compound. -/
theorem compound_do {n : Nat} (S : ScSpec n) {N : Nat} {w : World} {T : Own} {lo p g : Nat} {G : Nat → Gh} {vn : Value} {st : StS} {l0 : Int} {s : List UInt8} {va vb vc vy : Value} {x : Tree} {Ax : Option Addr} {cx : Nat} (h : WAt w T lo p G vn st) (hN : N ≤ st.fns.length) (hs : st.stack ≠ []) (hc : StC w g 4 l0 s va vb vc (.slice Ax (lenT x) cx) vy) (hx : RowT w (fun k => k < lo) x Ax 0) (hw : wfT x) (hb : stsB x = true) (hz : szT x ≤ n) (hD : goS x st ≠ .out) :
    Calls Try.prog 53 #[pV p, pV g] w (EndsS N T lo p G ((goS x st).bind (backS st.fn.full.length)) w) := by
  have hgl := hc.lt
  have h3 := ((h.alloc (.cells #[pV p] 90)).alloc (.cells #[pV g] 61)).drew
  have T3 : Turn (fun _ => True) T w T ((w.alloc (.cells #[pV p] 90)).alloc (.cells #[pV g] 61)).drew := (((Turn.refl _ T w).alloc _ fun _ _ => rfl).alloc _ fun _ _ => rfl).drew
  have hx3 := (tree_turn h T3).2 _ _ hx
  have hc3 : StC ((w.alloc (.cells #[pV p] 90)).alloc (.cells #[pV g] 61)) g 4 l0 s va vb vc (.slice Ax (lenT x) cx) vy := hc.keep ((Below.heap_alloc _ _ _ (by simp; omega)).trans (Below.heap_alloc _ _ _ hgl))
  have C := block_any S (N := N) x (.slice Ax (lenT x) cx) l0 h3 hN hs ⟨Ax, cx, rfl, hx3⟩ hw hb hz hD
  have x0 := hc3.c0
  have x1 := hc3.c1
  have x6 := hc3.c6
  have b0 : ((w.alloc (.cells #[pV p] 90)).alloc (.cells #[pV g] 61)).cell? ⟨w.heap.size, 0, none⟩ = some (pV p) := by simp [go_sem]
  have b1 : ((w.alloc (.cells #[pV p] 90)).alloc (.cells #[pV g] 61)).cell? ⟨w.heap.size + 1, 0, none⟩ = some (pV g) := by simp [go_sem]
  have hgl1 : g < w.heap.size + 1 := by omega
  have hgl2 : g < w.heap.size + 1 + 1 := by omega
  have y0 := hc.c0
  have HC := Lib.hid C
  have HT := Lib.hid T3
  generalize (goS x st).bind (backS st.fn.full.length) = R at HC ⊢
  clear h h3 T3 hx3 hc3 C hc S hx hD hs
  obtain ⟨W3, hW3⟩ : ∃ W3, ((w.alloc (.cells #[pV p] 90)).alloc (.cells #[pV g] 61)) = W3 := ⟨_, rfl⟩
  rw [hW3] at x0 x1 x6 b0 b1 HC HT
  go_enter Try.func53, Try.ntmps53
  go_wp2_with fail
  clear hW3 y0 hgl hgl1 hgl2
  go_still_tail 9, (by kernel_rfl)
  change wpList _ _ _ _ _ (World.drew _)
  go_wp2_with (first
    | (go_at_call 63; (with_reducible refine HC.out.mono ?_); intro e w2 hE; rcases R with _ | ⟨cc, ll⟩ | ⟨st2⟩; (· exact hE.elim); (· obtain ⟨b0, T', rfl, hb1, hb2, hb3⟩ := hE; exact ⟨rfl, BadS.after ⟨b0, T', rfl, hb1, hb2, hb3⟩ HT.out⟩); obtain ⟨v2, T2, G2, vn2, rfl, rfl, hW2, ht2, hS2⟩ := hE; have HW2 := Lib.hid hW2; have Ht2 := Lib.hid ht2; have HS2 := Lib.hid hS2; clear hW2 ht2 hS2))
  refine bodyPost_end (results_none rfl _ _ _) rfl ?_
  exact ends_ok rfl HW2.out (HT.out.trans Ht2.out) HS2.out

set_option maxHeartbeats 4000000 in
theorem stmt_local {n : Nat} (S : ScSpec n) {N : Nat} {w : World} {T : Own} {lo p : Nat} {G : Nat → Gh} {vn : Value} {st : StS} {l0 : Int} {s : List UInt8} {a b c x y : Tree} (v : Value) (l : Int) (h : WAt w T lo p G vn st) (hN : N ≤ st.fns.length) (hs : st.stack ≠ []) (hat : AtO w lo (.st 1 l0 s a b c x y) v) (hw : wfT (.st 1 l0 s a b c x y)) (hz : szT (.st 1 l0 s a b c x y) ≤ n + 1) (hD : goS (.st 1 l0 s a b c x y) st ≠ .out) :
    Calls Try.prog 41 #[pV p, v, iV l] w (EndsS N T lo p G (goS (.st 1 l0 s a b c x y) st) w) := by
  simp only [szT] at hz
  obtain ⟨hw0, _, hwb, _, hwx, _, hsx, _⟩ := hw
  obtain ⟨g, va, vb, vc, Ax, cx, Ay, cy, rfl, hg, hc, _, hb, _, hx, _⟩ := hat
  have bs := h.base
  have c0 := hc.c0
  have c1 := hc.c1
  obtain ⟨R, hR⟩ : ∃ R, goS (.st 1 l0 s a b c x y) st = R := ⟨_, rfl⟩
  rw [hR] at hD ⊢
  have hR1 : (beginS l0 st).bind (fun st => (valueS b st).bind (declareS s l0)) = R := by
    rw [← hR]
    unfold goS; congr 1; funext st; cases b <;> rfl
  have C := Lib.hid (begin_any (N := N) h l0)
  have HK : ∀ st1, beginS l0 st = .ok st1 → PresS st st1 := beginS_keeps l0 st
  generalize beginS l0 st = r0 at hR1 C HK
  have HR1 := Lib.hid hR1
  have HKK := Lib.hid HK
  have HD := Lib.hid hD
  have Ht : Hid (Turn (fun _ => True) T w T w) := Lib.hid (Turn.refl _ _ _)
  have H := Lib.hid h
  have HX := Lib.hid hc
  have Hb := Lib.hid hb
  have Hx := Lib.hid hx
  have Hs := Lib.hid hs
  have SS := Lib.hid S
  clear hR hR1 HK hD h hc hb hx hs S
  go_enter Try.func41, Try.ntmps41
  go_wp2_with (first
    | (go_at_call 49; (with_reducible refine C.out.mono ?_); intro e w2 hE; rcases r0 with _ | ⟨cc, ll⟩ | ⟨st1⟩; (· exact hE.elim); (· obtain ⟨b0, T', rfl, hb1, hb2, hb3⟩ := hE; exact ⟨rfl, ends_bad HR1.out (BadS.after ⟨b0, T', rfl, hb1, hb2, hb3⟩ Ht.out)⟩); obtain ⟨v2, T2, G2, vn2, rfl, rfl, hW2, ht2, hS2⟩ := hE; have HP1 := Lib.hid (HKK.out st1 rfl); have hg2 : g < w2.heap.size := Nat.lt_of_lt_of_le hg hW2.base; have HX1 := Lib.hid (HX.out.keep (ht2.free (Nat.lt_of_lt_of_le hg bs) (H.out.old g hg))); have Hb1 := Lib.hid ((tree_turn H.out ht2).1 _ Hb.out); have Hx1 := Lib.hid ((tree_turn H.out ht2).2 _ _ Hx.out); have HW1 := Lib.hid hW2; have Ht1 := Lib.hid ht2; have HS1 := Lib.hid hS2; have x0 := HX1.out.c0; have x1 := HX1.out.c1; have x2 := HX1.out.c2; have x4 := HX1.out.c4; have x6 := HX1.out.c6; clear hW2 ht2 hS2 C c0 c1))
  have hR2 : ((valueS b st1).bind (declareS s l0)) = R := HR1.out
  have hs1 : st1.stack ≠ [] := by rw [HP1.out.stack]; exact Hs.out
  clear Ht
  have Ht := Ht1
  have D2 : valueS b st1 ≠ .out := fun e => out_elim hR2 HD.out e
  have C2 := Lib.hid (fun (w' : World) (hW : WAt w' T2 lo p G2 vn2 st1) (hb : AtO w' lo b vb) => value_any SS.out (N := N) b vb l0 hW (Nat.le_trans hN HP1.out.len) hs1 hb hwb (by omega) D2)
  have HK2 := Lib.hid (valueS_keeps b st1)
  generalize valueS b st1 = r2 at hR2 C2 HK2
  have HR2 := Lib.hid hR2
  have Hs1 := Lib.hid hs1
  clear hR2 D2 hs1
  go_still_tail 9, (by kernel_rfl)
  change wpList _ _ _ _ _ (World.drew _)
  go_wp2_with (first
    | (go_at_call 50; (with_reducible refine (C2.out _ HW1.out.drew (at_drew Hb1.out)).mono ?_); intro e w3 hE; rcases r2 with _ | ⟨cc, ll⟩ | ⟨st2⟩; (· exact hE.elim); (· obtain ⟨b0, T', rfl, hb1, hb2, hb3⟩ := hE; exact ⟨rfl, ends_bad HR2.out (BadS.after ⟨b0, T', rfl, hb1, hb2, hb3⟩ Ht.out.drew)⟩); obtain ⟨v3, T3, G3, vn3, rfl, rfl, hW3, ht3, hS3⟩ := hE; have HP2 := Lib.hid (HP1.out.trans (HK2.out st2 rfl)); have HX2 := Lib.hid (HX1.out.keep (ht3.free (Nat.lt_of_lt_of_le hg HW1.out.base) (HW1.out.old g hg))); have HW2 := Lib.hid hW3; have Ht2 := Lib.hid (Ht1.out.drew.trans ht3); have HS2 := Lib.hid (HS1.out.trans hS3 (Nat.le_refl _)); have y1 := HX2.out.c1; have y2 := HX2.out.c2; clear hW3 ht3 hS3 x0 x1 x2 x4 x6 C2))
  obtain ⟨m, rest, hst⟩ : ∃ m rest, st2.stack = m :: rest := by
    cases h : st2.stack with
    | nil => exact absurd (HP2.out.stack.symm.trans h) Hs.out
    | cons a b => exact ⟨a, b, rfl⟩
  have hm := HW2.out.stack_lt m (by rw [hst]; simp)
  have hf : st2.fns[m]? = some st2.fns[m] := List.getElem?_eq_getElem hm
  generalize st2.fns[m] = f at hf
  have z0 := HW2.out.c0
  rw [hst] at z0
  simp only [curV] at z0
  have hR3 : declareS s l0 st2 = R := HR2.out
  have C3 := declare_any (N := N) HW2.out.drew hst hf s hw0 l0 (by rw [hR3]; exact HD.out)
  rw [hR3] at C3
  replace C3 := Lib.hid C3
  clear hst hf hR3
  go_still_tail 14, (by kernel_rfl)
  change wpList _ _ _ _ _ (World.drew _)
  go_wp2_with (first
    | (go_at_call 51; (with_reducible refine C3.out.mono ?_); intro e w4 hE; rcases R with _ | ⟨cc, ll⟩ | ⟨st3⟩; (· exact hE.elim); (· obtain ⟨b0, T', rfl, hb1, hb2, hb3⟩ := hE; exact ⟨rfl, BadS.after ⟨b0, T', rfl, hb1, hb2, hb3⟩ Ht2.out.drew⟩); obtain ⟨v4, T4, G4, vn4, rfl, rfl, hW4, ht4, hS4⟩ := hE; have HW4 := Lib.hid hW4; have Ht4 := Lib.hid (Ht2.out.drew.trans ht4); have HS4 := Lib.hid (HS2.out.trans hS4 (Nat.le_refl _)); clear hW4 ht4 hS4))
  refine bodyPost_end (results_none rfl _ _ _) rfl ?_
  exact ends_ok rfl HW4.out Ht4.out HS4.out

set_option maxHeartbeats 4000000 in
theorem stmt_return {n : Nat} (S : ScSpec n) {N : Nat} {w : World} {T : Own} {lo p : Nat} {G : Nat → Gh} {vn : Value} {st : StS} {l0 : Int} {s : List UInt8} {a b c x y : Tree} (v : Value) (l : Int) (h : WAt w T lo p G vn st) (hN : N ≤ st.fns.length) (hs : st.stack ≠ []) (hat : AtO w lo (.st 8 l0 s a b c x y) v) (hw : wfT (.st 8 l0 s a b c x y)) (hz : szT (.st 8 l0 s a b c x y) ≤ n + 1) (hD : goS (.st 8 l0 s a b c x y) st ≠ .out) :
    Calls Try.prog 41 #[pV p, v, iV l] w (EndsS N T lo p G (goS (.st 8 l0 s a b c x y) st) w) := by
  simp only [szT] at hz
  obtain ⟨hw0, _, hwb, _, hwx, _, hsx, _⟩ := hw
  obtain ⟨g, va, vb, vc, Ax, cx, Ay, cy, rfl, hg, hc, _, hb, _, hx, _⟩ := hat
  have bs := h.base
  have c0 := hc.c0
  have c1 := hc.c1
  obtain ⟨R, hR⟩ : ∃ R, goS (.st 8 l0 s a b c x y) st = R := ⟨_, rfl⟩
  rw [hR] at hD ⊢
  have hR1 : (beginS l0 st).bind (fun st => valueS b st) = R := by
    rw [← hR]
    unfold goS; congr 1; funext st; cases b <;> rfl
  have C := Lib.hid (begin_any (N := N) h l0)
  have HK : ∀ st1, beginS l0 st = .ok st1 → PresS st st1 := beginS_keeps l0 st
  generalize beginS l0 st = r0 at hR1 C HK
  have HR1 := Lib.hid hR1
  have HKK := Lib.hid HK
  have HD := Lib.hid hD
  have Ht : Hid (Turn (fun _ => True) T w T w) := Lib.hid (Turn.refl _ _ _)
  have H := Lib.hid h
  have HX := Lib.hid hc
  have Hb := Lib.hid hb
  have Hx := Lib.hid hx
  have Hs := Lib.hid hs
  have SS := Lib.hid S
  clear hR hR1 HK hD h hc hb hx hs S
  go_enter Try.func41, Try.ntmps41
  go_wp2_with (first
    | (go_at_call 49; (with_reducible refine C.out.mono ?_); intro e w2 hE; rcases r0 with _ | ⟨cc, ll⟩ | ⟨st1⟩; (· exact hE.elim); (· obtain ⟨b0, T', rfl, hb1, hb2, hb3⟩ := hE; exact ⟨rfl, ends_bad HR1.out (BadS.after ⟨b0, T', rfl, hb1, hb2, hb3⟩ Ht.out)⟩); obtain ⟨v2, T2, G2, vn2, rfl, rfl, hW2, ht2, hS2⟩ := hE; have HP1 := Lib.hid (HKK.out st1 rfl); have hg2 : g < w2.heap.size := Nat.lt_of_lt_of_le hg hW2.base; have HX1 := Lib.hid (HX.out.keep (ht2.free (Nat.lt_of_lt_of_le hg bs) (H.out.old g hg))); have Hb1 := Lib.hid ((tree_turn H.out ht2).1 _ Hb.out); have Hx1 := Lib.hid ((tree_turn H.out ht2).2 _ _ Hx.out); have HW1 := Lib.hid hW2; have Ht1 := Lib.hid ht2; have HS1 := Lib.hid hS2; have x0 := HX1.out.c0; have x1 := HX1.out.c1; have x2 := HX1.out.c2; have x4 := HX1.out.c4; have x6 := HX1.out.c6; clear hW2 ht2 hS2 C c0 c1))
  have hR2 : (valueS b st1) = R := HR1.out
  have hs1 : st1.stack ≠ [] := by rw [HP1.out.stack]; exact Hs.out
  clear Ht
  have Ht := Ht1
  have C2 := value_any SS.out (N := N) b vb l0 HW1.out.drew (Nat.le_trans hN HP1.out.len) hs1 (at_drew Hb1.out) hwb (by omega) (by rw [hR2]; exact HD.out)
  rw [hR2] at C2
  replace C2 := Lib.hid C2
  clear hR2 hs1 HR1
  go_still_tail 9, (by kernel_rfl)
  change wpList _ _ _ _ _ (World.drew _)
  go_wp2_with (first
    | (go_at_call 50; (with_reducible refine C2.out.mono ?_); intro e w4 hE; rcases R with _ | ⟨cc, ll⟩ | ⟨st3⟩; (· exact hE.elim); (· obtain ⟨b0, T', rfl, hb1, hb2, hb3⟩ := hE; exact ⟨rfl, BadS.after ⟨b0, T', rfl, hb1, hb2, hb3⟩ Ht1.out.drew⟩); obtain ⟨v4, T4, G4, vn4, rfl, rfl, hW4, ht4, hS4⟩ := hE; have HW4 := Lib.hid hW4; have Ht4 := Lib.hid ((Ht1.out.drew).trans ht4); have HS4 := Lib.hid (HS1.out.trans hS4 (Nat.le_refl _)); clear hW4 ht4 hS4))
  refine bodyPost_end (results_none rfl _ _ _) rfl ?_
  exact ends_ok rfl HW4.out Ht4.out HS4.out

set_option maxHeartbeats 4000000 in
theorem stmt_do {n : Nat} (S : ScSpec n) {N : Nat} {w : World} {T : Own} {lo p : Nat} {G : Nat → Gh} {vn : Value} {st : StS} {l0 : Int} {s : List UInt8} {a b c x y : Tree} (v : Value) (l : Int) (h : WAt w T lo p G vn st) (hN : N ≤ st.fns.length) (hs : st.stack ≠ []) (hat : AtO w lo (.st 4 l0 s a b c x y) v) (hw : wfT (.st 4 l0 s a b c x y)) (hz : szT (.st 4 l0 s a b c x y) ≤ n + 1) (hD : goS (.st 4 l0 s a b c x y) st ≠ .out) :
    Calls Try.prog 41 #[pV p, v, iV l] w (EndsS N T lo p G (goS (.st 4 l0 s a b c x y) st) w) := by
  simp only [szT] at hz
  obtain ⟨hw0, _, hwb, _, hwx, _, hsx, _⟩ := hw
  obtain ⟨g, va, vb, vc, Ax, cx, Ay, cy, rfl, hg, hc, _, hb, _, hx, _⟩ := hat
  have bs := h.base
  have c0 := hc.c0
  have c1 := hc.c1
  obtain ⟨R, hR⟩ : ∃ R, goS (.st 4 l0 s a b c x y) st = R := ⟨_, rfl⟩
  rw [hR] at hD ⊢
  have hR1 : (beginS l0 st).bind (fun st => (goS x st).bind (backS st.fn.full.length)) = R := by
    rw [← hR]
    rfl
  have C := Lib.hid (begin_any (N := N) h l0)
  have HK : ∀ st1, beginS l0 st = .ok st1 → PresS st st1 := beginS_keeps l0 st
  generalize beginS l0 st = r0 at hR1 C HK
  have HR1 := Lib.hid hR1
  have HKK := Lib.hid HK
  have HD := Lib.hid hD
  have Ht : Hid (Turn (fun _ => True) T w T w) := Lib.hid (Turn.refl _ _ _)
  have H := Lib.hid h
  have HX := Lib.hid hc
  have Hb := Lib.hid hb
  have Hx := Lib.hid hx
  have Hs := Lib.hid hs
  have SS := Lib.hid S
  clear hR hR1 HK hD h hc hb hx hs S
  go_enter Try.func41, Try.ntmps41
  go_wp2_with (first
    | (go_at_call 49; (with_reducible refine C.out.mono ?_); intro e w2 hE; rcases r0 with _ | ⟨cc, ll⟩ | ⟨st1⟩; (· exact hE.elim); (· obtain ⟨b0, T', rfl, hb1, hb2, hb3⟩ := hE; exact ⟨rfl, ends_bad HR1.out (BadS.after ⟨b0, T', rfl, hb1, hb2, hb3⟩ Ht.out)⟩); obtain ⟨v2, T2, G2, vn2, rfl, rfl, hW2, ht2, hS2⟩ := hE; have HP1 := Lib.hid (HKK.out st1 rfl); have hg2 : g < w2.heap.size := Nat.lt_of_lt_of_le hg hW2.base; have HX1 := Lib.hid (HX.out.keep (ht2.free (Nat.lt_of_lt_of_le hg bs) (H.out.old g hg))); have Hb1 := Lib.hid ((tree_turn H.out ht2).1 _ Hb.out); have Hx1 := Lib.hid ((tree_turn H.out ht2).2 _ _ Hx.out); have HW1 := Lib.hid hW2; have Ht1 := Lib.hid ht2; have HS1 := Lib.hid hS2; have x0 := HX1.out.c0; have x1 := HX1.out.c1; have x2 := HX1.out.c2; have x4 := HX1.out.c4; have x6 := HX1.out.c6; clear hW2 ht2 hS2 C c0 c1))
  have hR2 : ((goS x st1).bind (backS st1.fn.full.length)) = R := HR1.out
  have hs1 : st1.stack ≠ [] := by rw [HP1.out.stack]; exact Hs.out
  clear Ht
  have Ht := Ht1
  have D2 : goS x st1 ≠ .out := fun e => out_elim hR2 HD.out e
  have C2 := compound_do SS.out (N := N) HW1.out (Nat.le_trans hN HP1.out.len) hs1 HX1.out Hx1.out hwx hsx (by omega) D2
  rw [hR2] at C2
  replace C2 := Lib.hid C2
  clear hR2 hs1 HR1 D2
  go_wp2_with (first
    | (go_at_call 53; (with_reducible refine C2.out.mono ?_); intro e w4 hE; rcases R with _ | ⟨cc, ll⟩ | ⟨st3⟩; (· exact hE.elim); (· obtain ⟨b0, T', rfl, hb1, hb2, hb3⟩ := hE; exact ⟨rfl, BadS.after ⟨b0, T', rfl, hb1, hb2, hb3⟩ Ht1.out⟩); obtain ⟨v4, T4, G4, vn4, rfl, rfl, hW4, ht4, hS4⟩ := hE; have HW4 := Lib.hid hW4; have Ht4 := Lib.hid ((Ht1.out).trans ht4); have HS4 := Lib.hid (HS1.out.trans hS4 (Nat.le_refl _)); clear hW4 ht4 hS4))
  refine bodyPost_end (results_none rfl _ _ _) rfl ?_
  exact ends_ok rfl HW4.out Ht4.out HS4.out

set_option maxHeartbeats 4000000 in
theorem stmt_call {n : Nat} (S : ScSpec n) {N : Nat} {w : World} {T : Own} {lo p : Nat} {G : Nat → Gh} {vn : Value} {st : StS} {l0 : Int} {s : List UInt8} {a b c x y : Tree} (v : Value) (l : Int) (h : WAt w T lo p G vn st) (hN : N ≤ st.fns.length) (hs : st.stack ≠ []) (hat : AtO w lo (.st 3 l0 s a b c x y) v) (hw : wfT (.st 3 l0 s a b c x y)) (hz : szT (.st 3 l0 s a b c x y) ≤ n + 1) (hD : goS (.st 3 l0 s a b c x y) st ≠ .out) :
    Calls Try.prog 41 #[pV p, v, iV l] w (EndsS N T lo p G (goS (.st 3 l0 s a b c x y) st) w) := by
  simp only [szT] at hz
  obtain ⟨hw0, _, hwb, _, hwx, _, hsx, _⟩ := hw
  obtain ⟨g, va, vb, vc, Ax, cx, Ay, cy, rfl, hg, hc, _, hb, _, hx, _⟩ := hat
  have bs := h.base
  have c0 := hc.c0
  have c1 := hc.c1
  obtain ⟨R, hR⟩ : ∃ R, goS (.st 3 l0 s a b c x y) st = R := ⟨_, rfl⟩
  rw [hR] at hD ⊢
  have hR1 : (beginS l0 st).bind (fun st => callS b st) = R := by
    rw [← hR]
    unfold goS; congr 1; funext st; unfold callS; cases b <;> first | rfl | (rename_i k9 _ _ _ _ _ _ _ _ _; by_cases hk9 : k9 = 8 <;> simp [isExT, kindS, hk9])
  have C := Lib.hid (begin_any (N := N) h l0)
  have HK : ∀ st1, beginS l0 st = .ok st1 → PresS st st1 := beginS_keeps l0 st
  generalize beginS l0 st = r0 at hR1 C HK
  have HR1 := Lib.hid hR1
  have HKK := Lib.hid HK
  have HD := Lib.hid hD
  have Ht : Hid (Turn (fun _ => True) T w T w) := Lib.hid (Turn.refl _ _ _)
  have H := Lib.hid h
  have HX := Lib.hid hc
  have Hb := Lib.hid hb
  have Hx := Lib.hid hx
  have Hs := Lib.hid hs
  have SS := Lib.hid S
  clear hR hR1 HK hD h hc hb hx hs S
  go_enter Try.func41, Try.ntmps41
  go_wp2_with (first
    | (go_at_call 49; (with_reducible refine C.out.mono ?_); intro e w2 hE; rcases r0 with _ | ⟨cc, ll⟩ | ⟨st1⟩; (· exact hE.elim); (· obtain ⟨b0, T', rfl, hb1, hb2, hb3⟩ := hE; exact ⟨rfl, ends_bad HR1.out (BadS.after ⟨b0, T', rfl, hb1, hb2, hb3⟩ Ht.out)⟩); obtain ⟨v2, T2, G2, vn2, rfl, rfl, hW2, ht2, hS2⟩ := hE; have HP1 := Lib.hid (HKK.out st1 rfl); have hg2 : g < w2.heap.size := Nat.lt_of_lt_of_le hg hW2.base; have HX1 := Lib.hid (HX.out.keep (ht2.free (Nat.lt_of_lt_of_le hg bs) (H.out.old g hg))); have Hb1 := Lib.hid ((tree_turn H.out ht2).1 _ Hb.out); have Hx1 := Lib.hid ((tree_turn H.out ht2).2 _ _ Hx.out); have HW1 := Lib.hid hW2; have Ht1 := Lib.hid ht2; have HS1 := Lib.hid hS2; have x0 := HX1.out.c0; have x1 := HX1.out.c1; have x2 := HX1.out.c2; have x4 := HX1.out.c4; have x6 := HX1.out.c6; clear hW2 ht2 hS2 C c0 c1))
  have hR2 : (callS b st1) = R := HR1.out
  have hs1 : st1.stack ≠ [] := by rw [HP1.out.stack]; exact Hs.out
  clear Ht
  have Ht := Ht1
  have hb8 : isExT b = true ∧ kindS b = 8 := by
    unfold callS at hR2
    split at hR2
    · assumption
    · exact (HD.out hR2.symm).elim
  have hR3 : goS b st1 = R := by rw [← hR2]; unfold callS; rw [if_pos hb8]
  have C2 := Lib.hid (fun (w' : World) (q : Nat) (hW : WAt w' T2 lo p G2 vn2 st1) (hb : AtO w' lo b vb) (h8 : w'.cell? ⟨q, 0, none⟩ = some (iV 8)) (hq8 : T2 q = none) => by
    have := SS.out.expr (N := N) b vb l0 (.slice (some ⟨q, 0, none⟩) 1 1) hW (Nat.le_trans hN HP1.out.len) hs1 hb hwb hb8.1 (by omega) (.inr ⟨q, rfl, h8, hq8, hb8.2⟩) (by rw [hR3]; exact HD.out)
    rw [hR3] at this
    exact this)
  clear hR2 hs1 HR1 hb8 hR3
  go_region_law (first
    | (go_simp; go_at_call 52; (with_reducible refine (C2.out _ _ ?_ ?_ ?_ ?_).mono ?_); (· (repeat' (first | exact HW1.out | with_reducible refine WAt.drew ?_ | with_reducible refine WAt.alloc ?_ _))); (· (repeat' (first | exact Hb1.out | with_reducible refine at_drew ?_ | with_reducible refine at_alloc ?_ (by first | exact HW1.out.base | (simp; exact HW1.out.base)) _))); (· simp [go_sem]); (· exact HW1.out.fresh _ (Nat.le_refl _)); intro e w4 hE; rcases R with _ | ⟨cc, ll⟩ | ⟨st3⟩; (· exact hE.elim); (· obtain ⟨b0, T', rfl, hb1, hb2, hb3⟩ := hE; exact ⟨rfl, BadS.after ⟨b0, T', rfl, hb1, hb2, hb3⟩ ((Ht1.out.alloc _ fun _ _ => rfl).drew)⟩); obtain ⟨v4, T4, G4, vn4, rfl, rfl, hW4, ht4, hS4⟩ := hE; have HW4 := Lib.hid hW4; have Ht4 := Lib.hid ((((Ht1.out.alloc _ fun _ _ => rfl).drew)).trans ht4); have HS4 := Lib.hid (HS1.out.trans hS4 (Nat.le_refl _)); clear hW4 ht4 hS4))
  all_goals
    show bodyPost _ _ _ Exit.normal _ _
    refine bodyPost_end (results_none rfl _ _ _) rfl ?_
    exact ends_ok rfl HW4.out Ht4.out HS4.out

end Go.Proofs.Ytlbbbfmnghcdnaa
