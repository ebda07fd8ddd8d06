/- Orders of a region: an operation may be taken first where what it reads stands until another, that waits for it, has come up. | Two rows of a call's own that grow side by side. -/
import Derived.OrdersHeld
import Derived.Deep.RegionLaw
import Derived.Test.YtoggkigfijgbfaaGreatDoorZParAll
namespace Go.Proofs.YtoggkigfijgbfaaGreatDoor.P5
set_option maxRecDepth 20000
section
variable {P : Program} {ops : Array Oper} {Q : Exit → Act → World → Prop} {md : Region.Mode} {S : Array Bool → World → Prop}

/-- Whatever order is picked; S, which looks at what has come up, holds behind each. -/
def anyG (P : Program) (md : Region.Mode) (ops : Array Oper) (Q : Exit → Act → World → Prop) (S : Array Bool → World → Prop) : Nat → Array Bool → Act → World → Prop
  | 0, l, a, w => Region.ready md ops l = [] ∧ Q .normal a w
  | n + 1, l, a, w => (Region.ready md ops l = [] → Q .normal a w) ∧ ∀ i ∈ Region.ready md ops l, wpOp P ops Q i (fun a' w' => S (l.setIfInBounds i true) w' ∧ anyG P md ops Q S n (l.setIfInBounds i true) a' w') a w
theorem anyG_any : ∀ (n : Nat) (l : Array Bool) (a : Act) (w : World), anyG P md ops Q S n l a w → wpAny P md ops Q n l a w
  | 0, _, _, _, h => h
  | n + 1, _, _, _, h => ⟨h.1, fun i hi => wpOp_mono (fun a' w' h' => anyG_any n _ a' w' h'.2) (h.2 i hi)⟩
theorem anyG_first {i : Nat} {oi : Oper} {v : Value} (hi : ops[i]? = some oi) (hsel : ∀ (j : Nat) (o : Oper) cs b, ops[j]? = some o → o.op ≠ .select cs b)
    (hQ : ∀ c a w, Q (.panic c) (a.put oi.dst v) w → Q (.panic c) a w) (G : Array Bool → Prop) (Si : World → Prop)
    (hSS : ∀ l w, S (l.setIfInBounds i true) w ↔ S l w) (hSi : ∀ l w, G l → S l w → Si w)
    (hG : ∀ l j oj, ops[j]? = some oj → (∀ e ∈ oj.after, Region.binds md e = true → e.on ≠ i) → G l → G (l.setIfInBounds j true)) :
    ∀ (n : Nat) (l : Array Bool) (a : Act) (w : World), G l →
      (∀ j oj, ops[j]? = some oj → j ≠ i → l.getD j true = false → (∀ e ∈ oj.after, Region.binds md e = true → e.on ≠ i) → oi.apart ops oj = true) →
      i ∈ Region.ready md ops l → YieldsIf P ops Si oi v a → S l w →
      anyG P md ops Q S n (l.setIfInBounds i true) (a.put oi.dst v) w → anyG P md ops Q S (n + 1) l a w := by
  intro n
  induction n with
  | zero =>
    intro l a w hg _ hr hy hS H
    refine ⟨fun h => (by rw [h] at hr; cases hr), fun j hj => ?_⟩
    by_cases hji : j = i
    · subst hji; exact hy.wpOp hi (hSi _ _ hg hS) ⟨(hSS _ _).2 hS, H⟩
    · have := ready_mono hj hji
      rw [H.1] at this
      cases this
  | succ n ih =>
    intro l a w hg hfree hr hy hS H
    refine ⟨fun h => (by rw [h] at hr; cases hr), fun j hj => ?_⟩
    by_cases hji : j = i
    · subst hji; exact hy.wpOp hi (hSi _ _ hg hS) ⟨(hSS _ _).2 hS, H⟩
    · have h1 := H.2 j (ready_mono hj hji)
      obtain ⟨hjun, oj, hoj, hall⟩ := mem_ready.1 hj
      have hnot : ∀ e ∈ oj.after, Region.binds md e = true → e.on ≠ i := fun e he hb heq => by
        have h1 := hall e he hb
        have h0 := (mem_ready.1 hr).1
        rw [heq] at h1
        rcases Nat.lt_or_ge i l.size with h' | h'
        · simp [h'] at h0 h1; rw [h0] at h1; cases h1
        · simp [Array.getElem?_eq_none h'] at h1
      have h2 := wpOp_putIf hoj (hfree j oj hoj hji hjun hnot) (fun cs b => hsel i oi cs b hi) (fun cs b => hsel j oj cs b hoj) hQ hy h1
      have hfree' : ∀ k ok, ops[k]? = some ok → k ≠ i → (l.setIfInBounds j true).getD k true = false →
          (∀ e ∈ ok.after, Region.binds md e = true → e.on ≠ i) → oi.apart ops ok = true := fun k ok hk hki hun hno => by
        refine hfree k ok hk hki ?_ hno
        by_cases hjk : j = k
        · subst hjk; exact hjun
        · rw [getD_set_ne true hjk] at hun; exact hun
      have hcm : (l.setIfInBounds i true).setIfInBounds j true = (l.setIfInBounds j true).setIfInBounds i true := (Array.setIfInBounds_comm _ _ hji).symm
      refine wpOp_mono (fun a' w' h3 => ?_) h2
      rw [hcm] at h3
      have h4 := (hSS _ _).1 h3.2.1
      exact ⟨h4, ih (l.setIfInBounds j true) a' w' (hG l j oj hoj hnot hg) hfree' (ready_mono hr (Ne.symm hji)) h3.1 h4 h3.2.2⟩
theorem anyG_take {i : Nat} {oi : Oper} {v : Value} {n : Nat} {l : Array Bool} {a : Act} {w : World} (Si : World → Prop) (hSi : ∀ l w, S l w → Si w) (hi : ops[i]? = some oi)
    (hs : Region.noSelect ops = true) (hf : Region.free md ops l i = true) (hr : (Region.ready md ops l).contains i = true)
    (hQ : ∀ c a w, Q (.panic c) (a.put oi.dst v) w → Q (.panic c) a w) (hSS : ∀ l w, S (l.setIfInBounds i true) w ↔ S l w) (hy : YieldsIf P ops Si oi v a) (hS : S l w)
    (h : anyG P md ops Q S n (l.setIfInBounds i true) (a.put oi.dst v) w) : anyG P md ops Q S (n + 1) l a w :=
  anyG_first hi (Region.noSelect_spec hs) hQ (fun _ => True) Si hSS (fun l w _ h => hSi l w h) (fun _ _ _ _ _ _ => trivial) n l a w trivial (Region.free_spec hi hf) (by simpa using hr) hy hS h
/-- .. where what it reads is told of while g, which waits for it, has not come up. -/
theorem anyG_takeG {i : Nat} {oi : Oper} {v : Value} {n : Nat} {l : Array Bool} {a : Act} {w : World} (g : Nat) (Si : World → Prop) (hSi : ∀ l w, l.getD g true = false → S l w → Si w) (hi : ops[i]? = some oi)
    (hw : ∀ og, ops[g]? = some og → ∃ e ∈ og.after, Region.binds md e = true ∧ e.on = i) (hl : l.getD g true = false)
    (hs : Region.noSelect ops = true) (hf : Region.free md ops l i = true) (hr : (Region.ready md ops l).contains i = true)
    (hQ : ∀ c a w, Q (.panic c) (a.put oi.dst v) w → Q (.panic c) a w) (hSS : ∀ l w, S (l.setIfInBounds i true) w ↔ S l w) (hy : YieldsIf P ops Si oi v a) (hS : S l w)
    (h : anyG P md ops Q S n (l.setIfInBounds i true) (a.put oi.dst v) w) : anyG P md ops Q S (n + 1) l a w :=
  anyG_first hi (Region.noSelect_spec hs) hQ (fun l => l.getD g true = false) Si hSS hSi (fun l j oj hj hno hg => by
    by_cases hjg : j = g
    · subst hjg
      obtain ⟨e, he, hb, hon⟩ := hw oj hj
      exact absurd hon (hno e he hb)
    · show (l.setIfInBounds j true).getD g true = false
      rw [getD_set_ne true hjg]; exact hg) n l a w hl (Region.free_spec hi hf) (by simpa using hr) hy hS h
theorem anyG_all {rs : List Nat} {n : Nat} {l : Array Bool} {a : Act} {w : World} (hr : Region.ready md ops l = rs) (hne : rs ≠ [])
    (h : ∀ i ∈ rs, wpOp P ops Q i (fun a' w' => S (l.setIfInBounds i true) w' ∧ anyG P md ops Q S n (l.setIfInBounds i true) a' w') a w) : anyG P md ops Q S (n + 1) l a w :=
  ⟨fun h0 => absurd (hr ▸ h0) hne, hr ▸ h⟩
theorem anyG_done {l : Array Bool} {a : Act} {w : World} (hr : Region.ready md ops l = []) (h : Q .normal a w) : ∀ n, anyG P md ops Q S n l a w
  | 0 => ⟨hr, h⟩
  | _ + 1 => ⟨fun _ => h, by rw [hr]; simp⟩
theorem region_G {id : Nat} {a : Act} {w : World} (hm : P.follows .mixedOrders = true) (h : anyG P .any ops Q S ops.size (Array.replicate ops.size false) a w.drew) : (Code.region id ops true).wp P Q a w :=
  wp_region_any hm (anyG_any _ _ _ _ h)
/-- One that comes up. -/
theorem anyG_op {i : Nat} {o : Oper} {a : Act} {w : World} {K : Act → World → Prop} (ho : ops[i]? = some o) (h : if Region.wanted o (yielded ops a.tmps) = true then Oper.wp P o a w K Q else K (a.put o.dst undef) w) : wpOp P ops Q i K a w := by
  unfold wpOp
  simp only [ho]
  split
  · rename_i hw; rw [if_pos hw] at h; exact .inl h
  · rename_i hw; rw [if_neg hw] at h; exact h
end
end Go.Proofs.YtoggkigfijgbfaaGreatDoor.P5
namespace Go.Proofs.YtoggkigfijgbfaaGreatDoor.P5
set_option maxRecDepth 20000
open Go.RowKit Go.Maps

theorem at_ne {p s : Nat} {w : World} {t : Tree} {o : Option Addr} (h : AtS s w t (.pointer o)) (hp : p < s) : (.pointer o : Value) ≠ pV p := by
  intro e
  rw [e] at h
  cases t with
  | nil => cases h
  | tx => cases h
  | cons => exact h
  | ex => obtain ⟨g, _, _, _, _, _, _, _, _, _, _, e, hg, _⟩ := h; injection e with e; injection e with e; injection e with e; have := hg.1; omega
  | st => obtain ⟨g, _, _, _, _, _, _, _, e, hg, _⟩ := h; injection e with e; injection e with e; injection e with e; have := hg.1; omega
/-- Two rows in a node's cells, and what stands beside them. -/
structure Rows2 (T : TypeId) (w0 : World) (tb lo l : Nat) (vk va RA RB ck ca : Value) (nA nB : Nat) (XA XB : List Value) (w : World) : Prop where
  size : w0.heap.size ≤ w.heap.size
  frame : ∀ k, k < w0.heap.size → k ≠ tb → vk.ownBlock ≠ some k → va.ownBlock ≠ some k → w.heap[k]? = w0.heap[k]?
  ex : ExC w tb 12 l 0 [] (.pointer none) (.pointer none) ck ca (.slice none 0 0) (.slice none 0 0)
  rowA : w.ownsRow lo T 1 RA nA XA
  rowB : w.ownsRow lo T 1 RB nB XB
  ap : ∀ k, RA.ownBlock = some k → RB.ownBlock ≠ some k
  oldA : ∀ k, RA.ownBlock = some k → vk.ownBlock = some k ∨ w0.heap.size ≤ k
  oldB : ∀ k, RB.ownBlock = some k → va.ownBlock = some k ∨ w0.heap.size ≤ k
  tb_lo : tb < lo
  lo_le : lo ≤ w0.heap.size
  os : w.os = w0.os
  tape : w.tape = w0.tape
  output : w.output = w0.output
/-- An element laid into a block of its own. -/
structure Elem (w0 : World) (RA RB : Value) (b : Nat) (x : Value) (w : World) : Prop where
  cell : w.cell? ⟨b, 0, none⟩ = some x
  ge : w0.heap.size ≤ b
  lt : b < w.heap.size
  nA : RA.ownBlock ≠ some b
  nB : RB.ownBlock ≠ some b
theorem Elem.news {w0 : World} {RA RB : Value} {b : Nat} {x : Value} {w : World} (h : Elem w0 RA RB b x w) : ∀ j u, [x][j]? = some u → w.cell? ((⟨b, 0, none⟩ : Addr).add j) = some u := by
  intro j u hj
  match j, hj with
  | 0, hj => simp at hj; subst hj; simpa [Addr.add] using h.cell
section
variable {T : TypeId} {w0 : World} {tb lo l : Nat} {vk va RA RB ck ca : Value} {nA nB : Nat} {XA XB : List Value} {w : World}
theorem Rows2.alloc (h : Rows2 T w0 tb lo l vk va RA RB ck ca nA nB XA XB w) (o : Obj) : Rows2 T w0 tb lo l vk va RA RB ck ca nA nB XA XB (w.alloc o) := by
  have P : Past [] w (w.alloc o) := (Past.refl _ _).alloc _
  refine ⟨Nat.le_trans h.size P.size, fun k hk h1 h2 h3 => (P.block k (Nat.lt_of_lt_of_le hk h.size) (by simp)).trans (h.frame k hk h1 h2 h3), h.ex.keep (P.block _ h.ex.lt (by simp)), own_past h.rowA P (by simp), own_past h.rowB P (by simp), h.ap, h.oldA, h.oldB, h.tb_lo, h.lo_le, P.os.trans h.os, P.tape.trans h.tape, P.output.trans h.output⟩
theorem Rows2.elem (h : Rows2 T w0 tb lo l vk va RA RB ck ca nA nB XA XB w) (x : Value) (E : TypeId) : Elem w0 RA RB w.heap.size x (w.alloc (.cells #[x] E)) :=
  ⟨by simp [go_sem], h.size, by simp, fun e => by have := (h.rowA.lt _ e).2; omega, fun e => by have := (h.rowB.lt _ e).2; omega⟩
theorem Elem.alloc {b : Nat} {x : Value} (h : Elem w0 RA RB b x w) (o : Obj) : Elem w0 RA RB b x (w.alloc o) :=
  ⟨(World.cell?_alloc_lt _ _ ⟨b, 0, none⟩ h.lt).trans h.cell, h.ge, by have := h.lt; simp; omega, h.nA, h.nB⟩
theorem Elem.appA {b : Nat} {x : Value} {w4 : World} {g n c : Nat} (h : Elem w0 RA RB b x w) (hg : w.grownBy w4 RA.ownBlock) (hat : RA.ownBlock = some g ∨ g = w.heap.size) : Elem w0 (.slice (some ⟨g, 0, none⟩) n c) RB b x w4 :=
  ⟨(hg.cell_far ⟨b, 0, none⟩ h.lt (fun e => h.nA e.symm)).trans h.cell, h.ge, Nat.lt_of_lt_of_le h.lt hg.size, fun e => by
    have e : g = b := by simpa [Value.ownBlock] using e
    subst e
    rcases hat with e | e
    · exact h.nA e
    · have := h.lt; omega, h.nB⟩
theorem Rows2.appA {w4 : World} {g n c : Nat} {Y : List Value} (h : Rows2 T w0 tb lo l vk va RA RB ck ca nA nB XA XB w) (ho : w4.ownsRow lo T 1 (.slice (some ⟨g, 0, none⟩) n c) n Y) (hg : w.grownBy w4 RA.ownBlock) (hat : RA.ownBlock = some g ∨ g = w.heap.size) :
    Rows2 T w0 tb lo l vk va (.slice (some ⟨g, 0, none⟩) n c) RB ck ca n nB Y XB w4 := by
  have ht := h.ex.lt
  have hlo := h.lo_le
  have htl := h.tb_lo
  refine ⟨Nat.le_trans h.size hg.size, fun k hk h1 h2 h3 => (hg.block k (Nat.lt_of_lt_of_le hk h.size) (fun e => ?_)).trans (h.frame k hk h1 h2 h3), h.ex.keep (hg.block _ ht (fun e => by have := (h.rowA.lt tb e.symm).1; omega)), ho, ?_, ?_, ?_, h.oldB, htl, hlo, hg.os.trans h.os, hg.tape.trans h.tape, hg.output.trans h.output⟩
  · rcases h.oldA k e.symm with e | e
    · exact h2 e
    · omega
  · have hB := h.rowB
    refine ⟨hB.1, ?_⟩
    rcases hB.2 with hn | ⟨g', cap, cur, rfl, h1, h2, h3⟩
    · exact .inl hn
    · refine .inr ⟨g', cap, cur, rfl, h1, (hg.block g' ?_ (fun e => h.ap g' e.symm rfl)).trans h2, h3⟩
      exact (hB.lt g' rfl).2
  · intro k hk hk'
    have e : g = k := by simpa [Value.ownBlock] using hk
    subst e
    rcases hat with e | e
    · exact h.ap _ e hk'
    · have := (h.rowB.lt _ hk').2; omega
  · intro k hk
    have e : g = k := by simpa [Value.ownBlock] using hk
    subst e
    rcases hat with e | e
    · exact h.oldA _ e
    · right; have := h.size; omega
theorem Rows2.swap_appB {w4 : World} {g n c : Nat} {Y : List Value} (h : Rows2 T w0 tb lo l vk va RA RB ck ca nA nB XA XB w) (ho : w4.ownsRow lo T 1 (.slice (some ⟨g, 0, none⟩) n c) n Y) (hg : w.grownBy w4 RB.ownBlock) (hat : RB.ownBlock = some g ∨ g = w.heap.size) :
    Rows2 T w0 tb lo l vk va RA (.slice (some ⟨g, 0, none⟩) n c) ck ca nA n XA Y w4 := by
  have ht := h.ex.lt
  have hlo := h.lo_le
  have htl := h.tb_lo
  refine ⟨Nat.le_trans h.size hg.size, fun k hk h1 h2 h3 => (hg.block k (Nat.lt_of_lt_of_le hk h.size) (fun e => ?_)).trans (h.frame k hk h1 h2 h3), h.ex.keep (hg.block _ ht (fun e => by have := (h.rowB.lt tb e.symm).1; omega)), ?_, ho, ?_, h.oldA, ?_, htl, hlo, hg.os.trans h.os, hg.tape.trans h.tape, hg.output.trans h.output⟩
  · rcases h.oldB k e.symm with e | e
    · exact h3 e
    · omega
  · have hA := h.rowA
    refine ⟨hA.1, ?_⟩
    rcases hA.2 with hn | ⟨g', cap, cur, rfl, h1, h2, h3⟩
    · exact .inl hn
    · refine .inr ⟨g', cap, cur, rfl, h1, (hg.block g' ?_ (fun e => h.ap g' rfl e.symm)).trans h2, h3⟩
      exact (hA.lt g' rfl).2
  · intro k hk hk'
    have e : g = k := by simpa [Value.ownBlock] using hk'
    subst e
    rcases hat with e | e
    · exact h.ap _ hk e
    · have := (h.rowA.lt _ hk).2; omega
  · intro k hk
    have e : g = k := by simpa [Value.ownBlock] using hk
    subst e
    rcases hat with e | e
    · exact h.oldB _ e
    · right; have := h.size; omega
theorem Rows2.set6 (h : Rows2 T w0 tb lo l vk va RA RB ck ca nA nB XA XB w) (v : Value) : Rows2 T w0 tb lo l vk va RA RB v ca nA nB XA XB (w.setCell ⟨tb, 6, none⟩ v) := by
  have P : Past [tb] w (w.setCell ⟨tb, 6, none⟩ v) := (Past.refl _ _).setCell (.inl (by simp)) _
  have htl := h.tb_lo
  refine ⟨Nat.le_trans h.size P.size, fun k hk h1 h2 h3 => (P.block k (Nat.lt_of_lt_of_le hk h.size) (by simpa using h1)).trans (h.frame k hk h1 h2 h3), h.ex.set6 v, own_past h.rowA P (by simp; omega), own_past h.rowB P (by simp; omega), h.ap, h.oldA, h.oldB, h.tb_lo, h.lo_le, P.os.trans h.os, P.tape.trans h.tape, P.output.trans h.output⟩
theorem Rows2.set7 (h : Rows2 T w0 tb lo l vk va RA RB ck ca nA nB XA XB w) (v : Value) : Rows2 T w0 tb lo l vk va RA RB ck v nA nB XA XB (w.setCell ⟨tb, 7, none⟩ v) := by
  have P : Past [tb] w (w.setCell ⟨tb, 7, none⟩ v) := (Past.refl _ _).setCell (.inl (by simp)) _
  have htl := h.tb_lo
  refine ⟨Nat.le_trans h.size P.size, fun k hk h1 h2 h3 => (P.block k (Nat.lt_of_lt_of_le hk h.size) (by simpa using h1)).trans (h.frame k hk h1 h2 h3), h.ex.set7 v, own_past h.rowA P (by simp; omega), own_past h.rowB P (by simp; omega), h.ap, h.oldA, h.oldB, h.tb_lo, h.lo_le, P.os.trans h.os, P.tape.trans h.tape, P.output.trans h.output⟩
end
/-- A table's two rows, and what their elements read as. -/
structure Pair (p lo : Nat) (T : TypeId) (w : World) (vk va : Value) (acc : List Tree) (xs ys : List Value) : Prop where
  rowA : w.ownsRow lo T 1 vk acc.length xs
  rowB : w.ownsRow lo T 1 va acc.length ys
  ap : ∀ k, vk.ownBlock = some k → va.ownBlock ≠ some k
  dA : ∀ x ∈ xs, x ≠ pV p
  dB : ∀ y ∈ ys, y ≠ pV p
  eA : ∀ k, vk.ownBlock = some k → xs ≠ []
  eB : ∀ k, va.ownBlock = some k → ys ≠ []
  trees : ∀ (j : Nat) (t : Tree), acc[j]? = some t → (∀ x, xs[j]? = some x → At w (fun k => Since lo w k ∧ vk.ownBlock ≠ some k ∧ va.ownBlock ≠ some k) t.fst x) ∧ (∀ y, ys[j]? = some y → At w (fun k => Since lo w k ∧ vk.ownBlock ≠ some k ∧ va.ownBlock ≠ some k) t.snd y)
theorem Pair.past {E : List Nat} {p lo : Nat} {T : TypeId} {w w' : World} {vk va : Value} {acc : List Tree} {xs ys : List Value} (h : Pair p lo T w vk va acc xs ys) (hw : Past E w w') (hE : ∀ i, i ∈ E → i < lo) : Pair p lo T w' vk va acc xs ys := by
  have K : ∀ k, (Since lo w k ∧ vk.ownBlock ≠ some k ∧ va.ownBlock ≠ some k) → (Since lo w' k ∧ vk.ownBlock ≠ some k ∧ va.ownBlock ≠ some k) ∧ w'.heap[k]? = w.heap[k]? := fun k hk =>
    ⟨⟨⟨hk.1.1, Nat.lt_of_lt_of_le hk.1.2 hw.size⟩, hk.2⟩, hw.block k hk.1.2 (fun hi => by have := hE k hi; have := hk.1.1; omega)⟩
  exact ⟨own_past h.rowA hw hE, own_past h.rowB hw hE, h.ap, h.dA, h.dB, h.eA, h.eB, fun j t hj => ⟨fun x hx => (at_keep K _).1 _ ((h.trees j t hj).1 x hx), fun y hy => (at_keep K _).1 _ ((h.trees j t hj).2 y hy)⟩⟩
theorem Pair.nil (p lo : Nat) (T : TypeId) (w : World) : Pair p lo T w (.slice none 0 0) (.slice none 0 0) [] [] [] :=
  ⟨World.ownsRow_nil _ _ _ _, World.ownsRow_nil _ _ _ _, fun k hk => by simp [Value.ownBlock] at hk, by simp, by simp, fun k hk => by simp [Value.ownBlock] at hk, fun k hk => by simp [Value.ownBlock] at hk, fun j t h => by simp at h⟩
theorem firsts_treeL : ∀ (acc : List Tree), firstsT (treeL acc) = treeL (acc.map Tree.fst)
  | [] => rfl
  | x :: r => by show Tree.cons x.fst (firstsT (treeL r)) = _; rw [firsts_treeL r]; rfl
theorem seconds_treeL : ∀ (acc : List Tree), secondsT (treeL acc) = treeL (acc.map Tree.snd)
  | [] => rfl
  | x :: r => by show Tree.cons x.snd (secondsT (treeL r)) = _; rw [seconds_treeL r]; rfl
theorem sl_own {lo : Nat} {T : TypeId} {w : World} {v : Value} {ts : List Tree} {xs : List Value} (ho : w.ownsRow lo T 1 v ts.length xs) (ht : ∀ (j : Nat) (t : Tree) (x : Value), ts[j]? = some t → xs[j]? = some x → AtS lo w t x) : VL lo (treeL ts) w v := by
  have hxl : xs.length = ts.length := by have := ho.1; omega
  rcases ho.2 with ⟨rfl, h0⟩ | ⟨g, cap, cur, rfl, hb, hg, _⟩
  · have : ts = [] := List.eq_nil_of_length_eq_zero h0
    subst this
    exact sl_nil _ _
  · have hlt : g < w.heap.size := (ho.lt g rfl).2
    refine ⟨some ⟨g, 0, none⟩, cap, by rw [lenT_treeL], ?_⟩
    refine row_of ⟨hb, hlt⟩ ts 0 xs hxl (fun j u hu => ?_) ht
    have := ho.cells (g := g) rfl j u hu
    rw [Nat.zero_add]
    have e : (⟨g, 0, none⟩ : Addr).add j = ⟨g, j, none⟩ := by unfold Addr.add; split <;> simp_all
    rwa [e] at this
theorem Pair.sl {p lo : Nat} {T : TypeId} {w : World} {vk va : Value} {acc : List Tree} {xs ys : List Value} (h : Pair p lo T w vk va acc xs ys) : VL lo (firstsT (treeL acc)) w vk ∧ VL lo (secondsT (treeL acc)) w va := by
  have key : ∀ k, (Since lo w k ∧ vk.ownBlock ≠ some k ∧ va.ownBlock ≠ some k) → Since lo w k ∧ w.heap[k]? = w.heap[k]? := fun k hk => ⟨hk.1, rfl⟩
  rw [firsts_treeL, seconds_treeL]
  refine ⟨sl_own (xs := xs) (by simpa using h.rowA) fun j t x h1 h2 => ?_, sl_own (xs := ys) (by simpa using h.rowB) fun j t x h1 h2 => ?_⟩
  · rw [List.getElem?_map] at h1
    obtain ⟨u, hu, rfl⟩ := Option.map_eq_some_iff.1 h1
    exact (at_keep key _).1 _ ((h.trees j u hu).1 x h2)
  · rw [List.getElem?_map] at h1
    obtain ⟨u, hu, rfl⟩ := Option.map_eq_some_iff.1 h1
    exact (at_keep key _).1 _ ((h.trees j u hu).2 x h2)
end Go.Proofs.YtoggkigfijgbfaaGreatDoor.P5
