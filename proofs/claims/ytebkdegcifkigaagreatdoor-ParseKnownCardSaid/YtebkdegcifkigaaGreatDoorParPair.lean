/- Two rows of a call's own that grow side by side. -/
import Derived.Test.YtebkdegcifkigaaGreatDoorParOrders
namespace Go.Proofs.YtebkdegcifkigaaGreatDoor.P5
set_option maxRecDepth 20000
open Go.RowKit Go.Maps

theorem at_ne {p s : Nat} {w : World} {t : Tree} {o : Option Addr} (h : AtS s w t (.pointer o)) (hp : p < s) : (.pointer o : Value) ≠ pV p := by
  intro e
  rw [e] at h
  cases t with
  | nil => cases h
  | tx => cases h
  | cons => exact h
  | ex => obtain ⟨g, _, _, _, _, _, _, _, _, _, _, e, hg, _⟩ := h; injection e with e; injection e with e; injection e with e; have := hg.1; omega
  | st => obtain ⟨g, _, _, _, _, _, _, _, e, hg, _⟩ := h; injection e with e; injection e with e; injection e with e; have := hg.1; omega
/-- Two rows in a node's cells, and what stands beside them. -/
structure Rows2 (T : TypeId) (w0 : World) (tb lo l : Nat) (vk va RA RB ck ca : Value) (nA nB : Nat) (XA XB : List Value) (w : World) : Prop where
  size : w0.heap.size ≤ w.heap.size
  frame : ∀ k, k < w0.heap.size → k ≠ tb → vk.ownBlock ≠ some k → va.ownBlock ≠ some k → w.heap[k]? = w0.heap[k]?
  ex : ExC w tb 12 l 0 [] (.pointer none) (.pointer none) ck ca (.slice none 0 0) (.slice none 0 0)
  rowA : w.ownsRow lo T 1 RA nA XA
  rowB : w.ownsRow lo T 1 RB nB XB
  ap : ∀ k, RA.ownBlock = some k → RB.ownBlock ≠ some k
  oldA : ∀ k, RA.ownBlock = some k → vk.ownBlock = some k ∨ w0.heap.size ≤ k
  oldB : ∀ k, RB.ownBlock = some k → va.ownBlock = some k ∨ w0.heap.size ≤ k
  tb_lo : tb < lo
  lo_le : lo ≤ w0.heap.size
  os : w.os = w0.os
  tape : w.tape = w0.tape
  output : w.output = w0.output
/-- An element laid into a block of its own. -/
structure Elem (w0 : World) (RA RB : Value) (b : Nat) (x : Value) (w : World) : Prop where
  cell : w.cell? ⟨b, 0, none⟩ = some x
  ge : w0.heap.size ≤ b
  lt : b < w.heap.size
  nA : RA.ownBlock ≠ some b
  nB : RB.ownBlock ≠ some b
theorem Elem.news {w0 : World} {RA RB : Value} {b : Nat} {x : Value} {w : World} (h : Elem w0 RA RB b x w) : ∀ j u, [x][j]? = some u → w.cell? ((⟨b, 0, none⟩ : Addr).add j) = some u := by
  intro j u hj
  match j, hj with
  | 0, hj => simp at hj; subst hj; simpa [Addr.add] using h.cell
section
variable {T : TypeId} {w0 : World} {tb lo l : Nat} {vk va RA RB ck ca : Value} {nA nB : Nat} {XA XB : List Value} {w : World}
theorem Rows2.alloc (h : Rows2 T w0 tb lo l vk va RA RB ck ca nA nB XA XB w) (o : Obj) : Rows2 T w0 tb lo l vk va RA RB ck ca nA nB XA XB (w.alloc o) := by
  have P : Past [] w (w.alloc o) := (Past.refl _ _).alloc _
  refine ⟨Nat.le_trans h.size P.size, fun k hk h1 h2 h3 => (P.block k (Nat.lt_of_lt_of_le hk h.size) (by simp)).trans (h.frame k hk h1 h2 h3), h.ex.keep (P.block _ h.ex.lt (by simp)), own_past h.rowA P (by simp), own_past h.rowB P (by simp), h.ap, h.oldA, h.oldB, h.tb_lo, h.lo_le, P.os.trans h.os, P.tape.trans h.tape, P.output.trans h.output⟩
theorem Rows2.elem (h : Rows2 T w0 tb lo l vk va RA RB ck ca nA nB XA XB w) (x : Value) (E : TypeId) : Elem w0 RA RB w.heap.size x (w.alloc (.cells #[x] E)) :=
  ⟨by simp [go_sem], h.size, by simp, fun e => by have := (h.rowA.lt _ e).2; omega, fun e => by have := (h.rowB.lt _ e).2; omega⟩
theorem Elem.alloc {b : Nat} {x : Value} (h : Elem w0 RA RB b x w) (o : Obj) : Elem w0 RA RB b x (w.alloc o) :=
  ⟨(World.cell?_alloc_lt _ _ ⟨b, 0, none⟩ h.lt).trans h.cell, h.ge, by have := h.lt; simp; omega, h.nA, h.nB⟩
theorem Elem.appA {b : Nat} {x : Value} {w4 : World} {g n c : Nat} (h : Elem w0 RA RB b x w) (hg : w.grownBy w4 RA.ownBlock) (hat : RA.ownBlock = some g ∨ g = w.heap.size) : Elem w0 (.slice (some ⟨g, 0, none⟩) n c) RB b x w4 :=
  ⟨(hg.cell_far ⟨b, 0, none⟩ h.lt (fun e => h.nA e.symm)).trans h.cell, h.ge, Nat.lt_of_lt_of_le h.lt hg.size, fun e => by
    have e : g = b := by simpa [Value.ownBlock] using e
    subst e
    rcases hat with e | e
    · exact h.nA e
    · have := h.lt; omega, h.nB⟩
theorem Rows2.appA {w4 : World} {g n c : Nat} {Y : List Value} (h : Rows2 T w0 tb lo l vk va RA RB ck ca nA nB XA XB w) (ho : w4.ownsRow lo T 1 (.slice (some ⟨g, 0, none⟩) n c) n Y) (hg : w.grownBy w4 RA.ownBlock) (hat : RA.ownBlock = some g ∨ g = w.heap.size) :
    Rows2 T w0 tb lo l vk va (.slice (some ⟨g, 0, none⟩) n c) RB ck ca n nB Y XB w4 := by
  have ht := h.ex.lt
  have hlo := h.lo_le
  have htl := h.tb_lo
  refine ⟨Nat.le_trans h.size hg.size, fun k hk h1 h2 h3 => (hg.block k (Nat.lt_of_lt_of_le hk h.size) (fun e => ?_)).trans (h.frame k hk h1 h2 h3), h.ex.keep (hg.block _ ht (fun e => by have := (h.rowA.lt tb e.symm).1; omega)), ho, ?_, ?_, ?_, h.oldB, htl, hlo, hg.os.trans h.os, hg.tape.trans h.tape, hg.output.trans h.output⟩
  · rcases h.oldA k e.symm with e | e
    · exact h2 e
    · omega
  · have hB := h.rowB
    refine ⟨hB.1, ?_⟩
    rcases hB.2 with hn | ⟨g', cap, cur, rfl, h1, h2, h3⟩
    · exact .inl hn
    · refine .inr ⟨g', cap, cur, rfl, h1, (hg.block g' ?_ (fun e => h.ap g' e.symm rfl)).trans h2, h3⟩
      exact (hB.lt g' rfl).2
  · intro k hk hk'
    have e : g = k := by simpa [Value.ownBlock] using hk
    subst e
    rcases hat with e | e
    · exact h.ap _ e hk'
    · have := (h.rowB.lt _ hk').2; omega
  · intro k hk
    have e : g = k := by simpa [Value.ownBlock] using hk
    subst e
    rcases hat with e | e
    · exact h.oldA _ e
    · right; have := h.size; omega
theorem Rows2.swap_appB {w4 : World} {g n c : Nat} {Y : List Value} (h : Rows2 T w0 tb lo l vk va RA RB ck ca nA nB XA XB w) (ho : w4.ownsRow lo T 1 (.slice (some ⟨g, 0, none⟩) n c) n Y) (hg : w.grownBy w4 RB.ownBlock) (hat : RB.ownBlock = some g ∨ g = w.heap.size) :
    Rows2 T w0 tb lo l vk va RA (.slice (some ⟨g, 0, none⟩) n c) ck ca nA n XA Y w4 := by
  have ht := h.ex.lt
  have hlo := h.lo_le
  have htl := h.tb_lo
  refine ⟨Nat.le_trans h.size hg.size, fun k hk h1 h2 h3 => (hg.block k (Nat.lt_of_lt_of_le hk h.size) (fun e => ?_)).trans (h.frame k hk h1 h2 h3), h.ex.keep (hg.block _ ht (fun e => by have := (h.rowB.lt tb e.symm).1; omega)), ?_, ho, ?_, h.oldA, ?_, htl, hlo, hg.os.trans h.os, hg.tape.trans h.tape, hg.output.trans h.output⟩
  · rcases h.oldB k e.symm with e | e
    · exact h3 e
    · omega
  · have hA := h.rowA
    refine ⟨hA.1, ?_⟩
    rcases hA.2 with hn | ⟨g', cap, cur, rfl, h1, h2, h3⟩
    · exact .inl hn
    · refine .inr ⟨g', cap, cur, rfl, h1, (hg.block g' ?_ (fun e => h.ap g' rfl e.symm)).trans h2, h3⟩
      exact (hA.lt g' rfl).2
  · intro k hk hk'
    have e : g = k := by simpa [Value.ownBlock] using hk'
    subst e
    rcases hat with e | e
    · exact h.ap _ hk e
    · have := (h.rowA.lt _ hk).2; omega
  · intro k hk
    have e : g = k := by simpa [Value.ownBlock] using hk
    subst e
    rcases hat with e | e
    · exact h.oldB _ e
    · right; have := h.size; omega
theorem Rows2.set6 (h : Rows2 T w0 tb lo l vk va RA RB ck ca nA nB XA XB w) (v : Value) : Rows2 T w0 tb lo l vk va RA RB v ca nA nB XA XB (w.setCell ⟨tb, 6, none⟩ v) := by
  have P : Past [tb] w (w.setCell ⟨tb, 6, none⟩ v) := (Past.refl _ _).setCell (.inl (by simp)) _
  have htl := h.tb_lo
  refine ⟨Nat.le_trans h.size P.size, fun k hk h1 h2 h3 => (P.block k (Nat.lt_of_lt_of_le hk h.size) (by simpa using h1)).trans (h.frame k hk h1 h2 h3), h.ex.set6 v, own_past h.rowA P (by simp; omega), own_past h.rowB P (by simp; omega), h.ap, h.oldA, h.oldB, h.tb_lo, h.lo_le, P.os.trans h.os, P.tape.trans h.tape, P.output.trans h.output⟩
theorem Rows2.set7 (h : Rows2 T w0 tb lo l vk va RA RB ck ca nA nB XA XB w) (v : Value) : Rows2 T w0 tb lo l vk va RA RB ck v nA nB XA XB (w.setCell ⟨tb, 7, none⟩ v) := by
  have P : Past [tb] w (w.setCell ⟨tb, 7, none⟩ v) := (Past.refl _ _).setCell (.inl (by simp)) _
  have htl := h.tb_lo
  refine ⟨Nat.le_trans h.size P.size, fun k hk h1 h2 h3 => (P.block k (Nat.lt_of_lt_of_le hk h.size) (by simpa using h1)).trans (h.frame k hk h1 h2 h3), h.ex.set7 v, own_past h.rowA P (by simp; omega), own_past h.rowB P (by simp; omega), h.ap, h.oldA, h.oldB, h.tb_lo, h.lo_le, P.os.trans h.os, P.tape.trans h.tape, P.output.trans h.output⟩
end
/-- A table's two rows, and what their elements read as. -/
structure Pair (p lo : Nat) (T : TypeId) (w : World) (vk va : Value) (acc : List Tree) (xs ys : List Value) : Prop where
  rowA : w.ownsRow lo T 1 vk acc.length xs
  rowB : w.ownsRow lo T 1 va acc.length ys
  ap : ∀ k, vk.ownBlock = some k → va.ownBlock ≠ some k
  dA : ∀ x ∈ xs, x ≠ pV p
  dB : ∀ y ∈ ys, y ≠ pV p
  eA : ∀ k, vk.ownBlock = some k → xs ≠ []
  eB : ∀ k, va.ownBlock = some k → ys ≠ []
  trees : ∀ (j : Nat) (t : Tree), acc[j]? = some t → (∀ x, xs[j]? = some x → At w (fun k => Since lo w k ∧ vk.ownBlock ≠ some k ∧ va.ownBlock ≠ some k) t.fst x) ∧ (∀ y, ys[j]? = some y → At w (fun k => Since lo w k ∧ vk.ownBlock ≠ some k ∧ va.ownBlock ≠ some k) t.snd y)
theorem Pair.past {E : List Nat} {p lo : Nat} {T : TypeId} {w w' : World} {vk va : Value} {acc : List Tree} {xs ys : List Value} (h : Pair p lo T w vk va acc xs ys) (hw : Past E w w') (hE : ∀ i, i ∈ E → i < lo) : Pair p lo T w' vk va acc xs ys := by
  have K : ∀ k, (Since lo w k ∧ vk.ownBlock ≠ some k ∧ va.ownBlock ≠ some k) → (Since lo w' k ∧ vk.ownBlock ≠ some k ∧ va.ownBlock ≠ some k) ∧ w'.heap[k]? = w.heap[k]? := fun k hk =>
    ⟨⟨⟨hk.1.1, Nat.lt_of_lt_of_le hk.1.2 hw.size⟩, hk.2⟩, hw.block k hk.1.2 (fun hi => by have := hE k hi; have := hk.1.1; omega)⟩
  exact ⟨own_past h.rowA hw hE, own_past h.rowB hw hE, h.ap, h.dA, h.dB, h.eA, h.eB, fun j t hj => ⟨fun x hx => (at_keep K _).1 _ ((h.trees j t hj).1 x hx), fun y hy => (at_keep K _).1 _ ((h.trees j t hj).2 y hy)⟩⟩
theorem Pair.nil (p lo : Nat) (T : TypeId) (w : World) : Pair p lo T w (.slice none 0 0) (.slice none 0 0) [] [] [] :=
  ⟨World.ownsRow_nil _ _ _ _, World.ownsRow_nil _ _ _ _, fun k hk => by simp [Value.ownBlock] at hk, by simp, by simp, fun k hk => by simp [Value.ownBlock] at hk, fun k hk => by simp [Value.ownBlock] at hk, fun j t h => by simp at h⟩
theorem firsts_treeL : ∀ (acc : List Tree), firstsT (treeL acc) = treeL (acc.map Tree.fst)
  | [] => rfl
  | x :: r => by show Tree.cons x.fst (firstsT (treeL r)) = _; rw [firsts_treeL r]; rfl
theorem seconds_treeL : ∀ (acc : List Tree), secondsT (treeL acc) = treeL (acc.map Tree.snd)
  | [] => rfl
  | x :: r => by show Tree.cons x.snd (secondsT (treeL r)) = _; rw [seconds_treeL r]; rfl
theorem sl_own {lo : Nat} {T : TypeId} {w : World} {v : Value} {ts : List Tree} {xs : List Value} (ho : w.ownsRow lo T 1 v ts.length xs) (ht : ∀ (j : Nat) (t : Tree) (x : Value), ts[j]? = some t → xs[j]? = some x → AtS lo w t x) : VL lo (treeL ts) w v := by
  have hxl : xs.length = ts.length := by have := ho.1; omega
  rcases ho.2 with ⟨rfl, h0⟩ | ⟨g, cap, cur, rfl, hb, hg, _⟩
  · have : ts = [] := List.eq_nil_of_length_eq_zero h0
    subst this
    exact sl_nil _ _
  · have hlt : g < w.heap.size := (ho.lt g rfl).2
    refine ⟨some ⟨g, 0, none⟩, cap, by rw [lenT_treeL], ?_⟩
    refine row_of ⟨hb, hlt⟩ ts 0 xs hxl (fun j u hu => ?_) ht
    have := ho.cells (g := g) rfl j u hu
    rw [Nat.zero_add]
    have e : (⟨g, 0, none⟩ : Addr).add j = ⟨g, j, none⟩ := by unfold Addr.add; split <;> simp_all
    rwa [e] at this
theorem Pair.sl {p lo : Nat} {T : TypeId} {w : World} {vk va : Value} {acc : List Tree} {xs ys : List Value} (h : Pair p lo T w vk va acc xs ys) : VL lo (firstsT (treeL acc)) w vk ∧ VL lo (secondsT (treeL acc)) w va := by
  have key : ∀ k, (Since lo w k ∧ vk.ownBlock ≠ some k ∧ va.ownBlock ≠ some k) → Since lo w k ∧ w.heap[k]? = w.heap[k]? := fun k hk => ⟨hk.1, rfl⟩
  rw [firsts_treeL, seconds_treeL]
  refine ⟨sl_own (xs := xs) (by simpa using h.rowA) fun j t x h1 h2 => ?_, sl_own (xs := ys) (by simpa using h.rowB) fun j t x h1 h2 => ?_⟩
  · rw [List.getElem?_map] at h1
    obtain ⟨u, hu, rfl⟩ := Option.map_eq_some_iff.1 h1
    exact (at_keep key _).1 _ ((h.trees j u hu).1 x h2)
  · rw [List.getElem?_map] at h1
    obtain ⟨u, hu, rfl⟩ := Option.map_eq_some_iff.1 h1
    exact (at_keep key _).1 _ ((h.trees j u hu).2 x h2)
end Go.Proofs.YtebkdegcifkigaaGreatDoor.P5
