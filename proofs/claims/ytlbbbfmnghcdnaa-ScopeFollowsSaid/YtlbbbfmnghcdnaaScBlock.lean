/- block, value. -/
import Derived.Test.YtlbbbfmnghcdnaaScSpec
import Derived.Shelf.Abstract
namespace Go.Proofs.Ytlbbbfmnghcdnaa
set_option maxRecDepth 20000
open Go.RowKit Go.Maps

theorem EndsV.from {N M : Nat} {T : Own} {lo p : Nat} {G : Nat → Gh} {r : ResS} {w w1 w' : World} {V : Own → (Nat → Gh) → World → Value → Prop} {e : Ending} (h : EndsV M T lo p G r w1 V e w') (ht : Turn (fun _ => True) T w T w1) (hN : N ≤ M) : EndsV N T lo p G r w V e w' := by
  cases r with
  | out => exact h.elim
  | bad c l => exact BadS.after h ht
  | ok st =>
    obtain ⟨v, T', G', vn, h1, h2, h3, h4, h5⟩ := h
    exact ⟨v, T', G', vn, h1, h2, h3, ht.trans h4, fun n hn => h5 n (Nat.lt_of_lt_of_le hn hN)⟩
theorem block1_any {n : Nat} (S : ScSpec n) {N : Nat} {w : World} {T : Own} {lo p q : Nat} {G : Nat → Gh} {vn : Value} {st : StS} (t : Tree) (v : Value) (l : Int) (h : WAt w T lo p G vn st) (hN : N ≤ st.fns.length) (hs : st.stack ≠ []) (ht : SlO w lo t v) (hw : wfT t) (hb : stsB t = true) (hz : szT t ≤ n) (hD : goS t st ≠ .out)
    (h0 : w.cell? ⟨q, 0, none⟩ = some (pV p)) (h1 : w.cell? ⟨q + 1, 0, none⟩ = some v) (h2 : w.cell? ⟨q + 2, 0, none⟩ = some (iV l)) :
    Calls Try.prog 74 #[pV q, pV (q + 1), pV (q + 2)] w (EndsS N T lo p G (goS t st) w) := by
  have C := Lib.hid (S.stmts (N := N) t v l h hN hs ht hw hb hz hD)
  obtain ⟨A, c, rfl, _⟩ := ht
  generalize goS t st = r1 at C hD ⊢
  clear h hs hw hb S hD
  go_enter Try.func74, Try.ntmps74
  go_wp2_with (first
    | (go_at_call 34; (with_reducible refine C.out.mono ?_); intro e w2 hE; rcases r1 with _ | ⟨cc, ll⟩ | ⟨st2⟩; (· exact hE.elim); (· obtain ⟨b0, T', rfl, hb1, hb2, hb3⟩ := hE; exact ⟨rfl, ⟨b0, T', rfl, hb1, hb2, hb3⟩⟩); obtain ⟨v2, T2, G2, vn2, rfl, rfl, hW2, ht2, hS2⟩ := hE; have HW2 := Lib.hid hW2; have Ht2 := Lib.hid ht2; have HS2 := Lib.hid hS2; clear hW2 ht2 hS2))
  refine bodyPost_end (results_none rfl _ _ _) rfl ?_
  exact ends_ok rfl HW2.out Ht2.out HS2.out
theorem enter_block1 (args : Array Value) (w : World) : (callFunc 74 args).run Try.prog w = .ok (.enter 74 args) w := enters_of Try.func74 (by kernel_rfl) rfl args w
set_option maxHeartbeats 2000000 in
theorem block_any {n : Nat} (S : ScSpec n) {N : Nat} {w : World} {T : Own} {lo p : Nat} {G : Nat → Gh} {vn : Value} {st : StS} (t : Tree) (v : Value) (l : Int) (h : WAt w T lo p G vn st) (hN : N ≤ st.fns.length) (hs : st.stack ≠ []) (ht : SlO w lo t v) (hw : wfT t) (hb : stsB t = true) (hz : szT t ≤ n) (hD : goS t st ≠ .out) :
    Calls Try.prog 63 #[pV p, v, iV l] w (EndsS N T lo p G ((goS t st).bind (backS st.fn.full.length)) w) := by
  obtain ⟨m, rest, hst⟩ : ∃ m rest, st.stack = m :: rest := by
    cases h : st.stack with
    | nil => exact absurd h hs
    | cons a b => exact ⟨a, b, rfl⟩
  have hm := h.stack_lt m (by rw [hst]; simp)
  have hf : st.fns[m]? = some st.fns[m] := List.getElem?_eq_getElem hm
  generalize st.fns[m] = f at hf
  have e1 := (fn_cur hst hf).1
  rw [e1]
  obtain ⟨A, c, hv, hrow⟩ := ht
  have hz3 : (((w.alloc (.cells #[pV p] 90)).alloc (.cells #[v] 23)).alloc (.cells #[iV l] 3)).heap.size = w.heap.size + 3 := by simp
  have T3 : Turn (fun _ => True) T w T (((w.alloc (.cells #[pV p] 90)).alloc (.cells #[v] 23)).alloc (.cells #[iV l] 3)) := (((Turn.refl _ T w).alloc _ fun _ _ => rfl).alloc _ fun _ _ => rfl).alloc _ fun _ _ => rfl
  have h3 := ((h.alloc (.cells #[pV p] 90)).alloc (.cells #[v] 23)).alloc (.cells #[iV l] 3)
  have ht3 := sl_turn h T3 ⟨A, c, hv, hrow⟩
  have C1 := block1_any (q := w.heap.size) S (N := st.fns.length) t v l h3 (Nat.le_refl _) hs ht3 hw hb hz hD (by simp [go_sem]) (by simp [go_sem]) (by simp [go_sem])
  have C := during_any h3 hst hf hm C1 (fun w => enter_block1 _ w) (fun st1 e => goS_keeps t st st1 e) hD
  have x0 := h3.c0
  rw [hst] at x0
  simp only [curV] at x0
  have hmf : ∀ (fn : Fn) (first cap : Array Value) (w : World), (Instr.makeFunc fn first cap).run Try.prog w = .ok (.func fn first cap) w := fun _ _ _ _ => rfl
  have x0' := h.c0
  rw [hst] at x0'
  simp only [curV] at x0'
  have hpl := h.p_lt
  have hpl1 : p < w.heap.size + 1 := by omega
  have hpl2 : p < w.heap.size + 1 + 1 := by omega
  have HC := Lib.hid C
  have HT := Lib.hid T3
  generalize (goS t st).bind (backS f.full.length) = R at HC ⊢
  clear h h3 ht3 C1 C T3 S hrow hD x0 hz3
  subst hv
  go_enter Try.func63, Try.ntmps63
  go_wp2_with (first
    | (go_at_call 65; (with_reducible refine HC.out.mono ?_); intro e w2 hE; rcases R with _ | ⟨cc, ll⟩ | ⟨st2⟩; (· exact hE.elim); (· obtain ⟨b0, T', rfl, hb1, hb2, hb3⟩ := hE; exact ⟨rfl, BadS.after ⟨b0, T', rfl, hb1, hb2, hb3⟩ HT.out⟩); obtain ⟨v2, T2, G2, vn2, rfl, rfl, hW2, ht2, hS2⟩ := hE; have HW2 := Lib.hid hW2; have Ht2 := Lib.hid ht2; have HS2 := Lib.hid hS2; clear hW2 ht2 hS2))
  refine bodyPost_end (results_none rfl _ _ _) rfl ?_
  exact ends_ok rfl HW2.out (HT.out.trans Ht2.out) (fun q hq => HS2.out q (Nat.lt_of_lt_of_le hq hN))
/-- value: an expression, or nothing. -/
def valueS (t : Tree) (st : StS) : ResS := match t with
  | .nil => .ok st
  | .ex k l n s a b ks xs ps bd => goS (.ex k l n s a b ks xs ps bd) st
  | _ => .out
theorem valueS_keeps (t : Tree) : KeepsS (valueS t) := fun st st' h => by
  cases t with
  | nil => simp only [valueS, ResS.ok.injEq] at h; subst h; exact .refl _
  | ex => exact goS_keeps _ _ _ h
  | _ => cases h
theorem value_any {n : Nat} (S : ScSpec n) {N : Nat} {w : World} {T : Own} {lo p : Nat} {G : Nat → Gh} {vn : Value} {st : StS} (t : Tree) (v : Value) (l : Int) (h : WAt w T lo p G vn st) (hN : N ≤ st.fns.length) (hs : st.stack ≠ []) (ht : AtO w lo t v) (hw : wfT t) (hz : szT t ≤ n) (hD : valueS t st ≠ .out) :
    Calls Try.prog 50 #[pV p, v, iV l] w (EndsS N T lo p G (valueS t st) w) := by
  cases t with
  | tx _ => exact absurd rfl hD
  | cons => exact absurd rfl hD
  | st => exact absurd rfl hD
  | nil =>
    obtain rfl : v = .pointer none := ht
    have HW := Lib.hid h
    clear h hs hw hz hD S
    go_enter Try.func50, Try.ntmps50
    go_wp2_with fail
    refine bodyPost_end (results_none rfl _ _ _) rfl ?_
    exact ends_ok rfl HW.out (Turn.refl _ _ _) (Same.refl _ _)
  | ex k l' n' s a b ks xs ps bd =>
    have C := S.expr (N := N) _ v l (.slice none 0 0) h hN hs ht hw rfl hz (.inl rfl) hD
    obtain ⟨gx, hzx⟩ : ∃ gx, v = pV gx := by
      obtain ⟨gx, _, _, _, _, _, _, _, _, _, _, rfl, _⟩ := ht
      exact ⟨gx, rfl⟩
    subst hzx
    have HC := Lib.hid C
    show Calls _ _ _ w (EndsS N T lo p G (goS (.ex k l' n' s a b ks xs ps bd) st) w)
    generalize goS (.ex k l' n' s a b ks xs ps bd) st = r1 at HC ⊢
    clear h hs hw hz hD S ht C
    go_enter Try.func50, Try.ntmps50
    go_wp2_with (first
      | (go_at_call 52; (with_reducible refine HC.out.mono ?_); intro e w2 hE; rcases r1 with _ | ⟨cc, ll⟩ | ⟨st2⟩; (· exact hE.elim); (· obtain ⟨b0, T', rfl, hb1, hb2, hb3⟩ := hE; exact ⟨rfl, ⟨b0, T', rfl, hb1, hb2, hb3⟩⟩); obtain ⟨v2, T2, G2, vn2, rfl, rfl, hW2, ht2, hS2⟩ := hE; have HW2 := Lib.hid hW2; have Ht2 := Lib.hid ht2; have HS2 := Lib.hid hS2; clear hW2 ht2 hS2))
    refine bodyPost_end (results_none rfl _ _ _) rfl ?_
    exact ends_ok rfl HW2.out Ht2.out HS2.out
end Go.Proofs.Ytlbbbfmnghcdnaa
