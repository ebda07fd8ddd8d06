/- A row of rows of numbers in memory, each row the call's own; what holders' rows say. No walk. -/
import Derived.Test.YtghnjmodnhnmfaaRcFrom
import Derived.Maps.AppendAt
namespace Go.Proofs.Ytghnjmodnhnmfaa
set_option maxRecDepth 20000
open Go.RowKit Go.Maps

abbrev cellsI (l : List Nat) : List Value := (intsOf l).map (Value.int .i64)
/-- Block b: n rows, the k-th of them holds F k; each in a block of its own, of which P speaks. -/
def HoldR (w : World) (lo b n : Nat) (P : Nat → Prop) (F : Nat → List Nat) (vs : Nat → Value) : Prop :=
  w.rowIs b 25 n vs ∧ (∀ k, k < n → w.ownsRow lo 3 1 (vs k) (intsOf (F k)).length (cellsI (F k))) ∧
    (∀ j k, j < n → k < n → j ≠ k → (vs j).ownBlock = none ∨ (vs j).ownBlock ≠ (vs k).ownBlock) ∧ (∀ k x, k < n → (vs k).ownBlock = some x → P x)
def updF (F : Nat → List Nat) (m x : Nat) : Nat → List Nat := fun k => if k = m then F k ++ [x] else F k
theorem HoldR.below {w w' : World} {lo b n : Nat} {P : Nat → Prop} {F : Nat → List Nat} {vs : Nat → Value} (h : HoldR w lo b n P F vs) (hb : Below w.heap.size w w') : HoldR w' lo b n P F vs :=
  ⟨h.1.of_block (hb.block _ h.1.lt), fun k hk => own_below (h.2.1 k hk) hb, h.2.2.1, h.2.2.2⟩
theorem HoldR.weak {w : World} {lo b n : Nat} {P P' : Nat → Prop} {F : Nat → List Nat} {vs : Nat → Value} (h : HoldR w lo b n P F vs) (hp : ∀ x, x < w.heap.size → P x → P' x) : HoldR w lo b n P' F vs :=
  ⟨h.1, h.2.1, h.2.2.1, fun k x hk hx => hp x ((h.2.1 k hk).lt x hx).2 (h.2.2.2 k x hk hx)⟩
theorem HoldR.congr {w : World} {lo b n : Nat} {P : Nat → Prop} {F F' : Nat → List Nat} {vs : Nat → Value} (h : HoldR w lo b n P F vs) (e : F = F') : HoldR w lo b n P F' vs := e ▸ h
/-- A row has got one more. -/
theorem HoldR.push {w w1 w2 : World} {lo b n m x : Nat} {P : Nat → Prop} {F : Nat → List Nat} {vs : Nat → Value} {v' : Value} (h : HoldR w lo b n P F vs) (hlo : b < lo) (hm : m < n) (h1 : Below w.heap.size w w1)
    (ho : w2.ownsRow lo 3 1 v' ((intsOf (F m)).length + 1) (cellsI (F m) ++ [.int .i64 x])) (hg : w1.grownBy w2 (vs m).ownBlock) (hat : v'.ownBlock = (vs m).ownBlock ∨ v'.ownBlock = some w1.heap.size) (hP : P w1.heap.size)
    (S : Nat → Prop) (hSb : S b) (hSP : ∀ x, lo ≤ x → P x → S x) :
    HoldR (w2.setCell ⟨b, m, none⟩ v') lo b n P (updF F m x) (fun j => if j = m then v' else vs j) ∧ Frm S w (w2.setCell ⟨b, m, none⟩ v') := by
  obtain ⟨hr, hown, hap, hp⟩ := h
  have hb1 : b < w1.heap.size := Nat.lt_of_lt_of_le hr.lt h1.size
  have hmb : ∀ y, (vs m).ownBlock = some y → lo ≤ y ∧ y < w.heap.size := fun y hy => (hown m hm).lt y hy
  have hnb : some b ≠ (vs m).ownBlock := fun e => by have := (hmb b e.symm).1; omega
  have r2 : w2.rowIs b 25 n vs := (hr.of_block (h1.block _ hr.lt)).of_block (hg.block _ hb1 hnb)
  have hl2 := ho.lt
  refine ⟨⟨r2.set m v', fun k hk => ?_, fun j k hj hk hjk => ?_, fun k y hk hy => ?_⟩, ?_⟩
  · by_cases e : k = m
    · subst e
      simp only [if_true, updF]
      have ho' : w2.ownsRow lo 3 1 v' (intsOf (F k ++ [x])).length (cellsI (F k ++ [x])) := by
        have e1 : cellsI (F k ++ [x]) = cellsI (F k) ++ [.int .i64 x] := by simp [cellsI, intsOf]
        have e2 : (intsOf (F k ++ [x])).length = (intsOf (F k)).length + 1 := by simp [intsOf]
        rw [e1, e2]; exact ho
      refine ho'.kept (w' := w2.setCell ⟨b, k, none⟩ v') (row := some b) ⟨rfl, rfl, rfl, by simp [World.setCell], fun i hi hne => Below.heap_setCell _ _ _ _ (by rintro rfl; exact hne rfl)⟩ ?_
      refine Or.inr fun e => ?_
      have := (hl2 b e).1
      omega
    · simp only [if_neg e, updF]
      have o1 := own_below (hown k hk) h1
      have hne : (vs k).ownBlock = none ∨ (vs k).ownBlock ≠ (vs m).ownBlock := hap k m hk hm e
      have o2 := o1.kept hg hne
      refine o2.kept (w' := w2.setCell ⟨b, m, none⟩ v') (row := some b) ⟨rfl, rfl, rfl, by simp [World.setCell], fun i hi hne => Below.heap_setCell _ _ _ _ (by rintro rfl; exact hne rfl)⟩ ?_
      refine Or.inr fun e => ?_
      have := ((hown k hk).lt b e).1
      omega
  · by_cases e1 : j = m
    · by_cases e2 : k = m
      · omega
      · simp only [if_pos e1, if_neg e2]
        rcases hat with e | e
        · rw [e]
          exact hap m k hm hk (by omega)
        · right
          rw [e]
          intro e3
          have := ((hown k hk).lt _ e3.symm).2
          have := h1.size
          omega
    · by_cases e2 : k = m
      · simp only [if_neg e1, if_pos e2]
        rcases hat with e | e
        · rw [e]
          exact hap j m hj hm e1
        · right
          rw [e]
          intro e3
          have := ((hown j hj).lt _ e3).2
          have := h1.size
          omega
      · simp only [if_neg e1, if_neg e2]
        exact hap j k hj hk hjk
  · by_cases e : k = m
    · simp only [if_pos e] at hy
      rcases hat with e2 | e2
      · rw [e2] at hy; exact hp m y hm hy
      · rw [e2] at hy; injection hy with hy; subst hy; exact hP
    · simp only [if_neg e] at hy
      exact hp k y hk hy
  · have f1 : Frm S w w2 := by
      refine ⟨hg.os.trans h1.os, hg.tape.trans h1.tape, hg.output.trans h1.output, Nat.le_trans h1.size hg.size, fun k hk hn => ?_⟩
      refine (hg.block k (Nat.lt_of_lt_of_le hk h1.size) fun e => hn ?_).trans (h1.block k hk)
      exact hSP k (hmb k e.symm).1 (hp m k hm e.symm)
    exact f1.set (p := ⟨b, m, none⟩) hSb _
/-- The rows as they are read. -/
def HoldS (w : World) (b n hi : Nat) (F : Nat → List Nat) : Prop :=
  b < hi ∧ hi ≤ w.heap.size ∧ ∀ m, m < n → ∃ A c, w.cell? ⟨b, m, none⟩ = some (.slice A (intsOf (F m)).length c) ∧ IntsAt w A (intsOf (F m)) ∧ ∀ a, A = some a → b ≤ a.block ∧ a.block < hi
theorem HoldS.frm {w w' : World} {b n hi : Nat} {F : Nat → List Nat} (h : HoldS w b n hi F) {S : Nat → Prop} (hf : Frm S w w') (hn : ∀ k, b ≤ k → k < hi → ¬ S k) : HoldS w' b n hi F := by
  refine ⟨h.1, Nat.le_trans h.2.1 hf.size, fun m hm => ?_⟩
  obtain ⟨A, c, h1, h2, h3⟩ := h.2.2 m hm
  exact ⟨A, c, (hf.cell (p := ⟨b, m, none⟩) (Nat.lt_of_lt_of_le h.1 h.2.1) (hn b (Nat.le_refl _) h.1)).trans h1, ints_frm hf h2 (fun a ha => hn _ (h3 a ha).1 (h3 a ha).2), h3⟩
theorem HoldR.read {w : World} {lo b n : Nat} {P : Nat → Prop} {F : Nat → List Nat} {vs : Nat → Value} (h : HoldR w lo b n P F vs) (hlo : b < lo) : HoldS w b n w.heap.size F := by
  refine ⟨h.1.lt, Nat.le_refl _, fun m hm => ?_⟩
  obtain ⟨A, c, e, hi, ha⟩ := ints_of_own2 (h.2.1 m hm)
  refine ⟨A, c, by rw [← e]; exact h.1.cell hm, hi, fun a hA => ⟨by have := ha a hA; omega, ?_⟩⟩
  subst hA
  exact ((h.2.1 m hm).lt a.block (by rw [e]; rfl)).2

/-! Which objects hold which: plain -/
/-- While the objects up to k, and of the next one j that it holds, are gone through. -/
structure HoldJ (g : List OB) (k j B : Nat) (F : Nat → List Nat) : Prop where
  mem : ∀ m x, x ∈ F m ↔ (x ≤ k ∧ m ∈ heldN g x) ∨ (x = k + 1 ∧ ∃ i, i < j ∧ (heldN g (k + 1))[i]? = some m)
  len : ∀ m, (F m).length ≤ k * B + j
theorem HoldJ.start {g : List OB} {B : Nat} : HoldJ g 0 0 B fun _ => [] := by
  refine ⟨fun m x => ?_, fun m => by simp⟩
  constructor
  · intro h; cases h
  · rintro (⟨h1, h2⟩ | ⟨_, i, h1, _⟩)
    · obtain rfl : x = 0 := by omega
      cases h2
    · omega
theorem HoldJ.step {g : List OB} {k j B m : Nat} {F : Nat → List Nat} (h : HoldJ g k j B F) (hm : (heldN g (k + 1))[j]? = some m) : HoldJ g k (j + 1) B (updF F m (k + 1)) := by
  refine ⟨fun y x => ?_, fun y => ?_⟩
  · unfold updF
    by_cases e : y = m
    · subst e
      rw [if_pos rfl, List.mem_append, h.mem y x]
      constructor
      · rintro ((h1 | ⟨h1, i, h2, h3⟩) | h1)
        · exact Or.inl h1
        · exact Or.inr ⟨h1, i, by omega, h3⟩
        · simp at h1; exact Or.inr ⟨h1, j, by omega, hm⟩
      · rintro (h1 | ⟨h1, i, h2, h3⟩)
        · exact Or.inl (Or.inl h1)
        · exact Or.inr (by simp [h1])
    · rw [if_neg e, h.mem y x]
      constructor
      · rintro (h1 | ⟨h1, i, h2, h3⟩)
        · exact Or.inl h1
        · exact Or.inr ⟨h1, i, by omega, h3⟩
      · rintro (h1 | ⟨h1, i, h2, h3⟩)
        · exact Or.inl h1
        · refine Or.inr ⟨h1, i, ?_, h3⟩
          by_cases e2 : i = j
          · subst e2
            rw [hm] at h3; injection h3 with h3
            exact absurd h3.symm e
          · omega
  · have := h.len y
    unfold updF
    split
    · rw [List.length_append]; simp; omega
    · omega
theorem HoldJ.next {g : List OB} {k j B : Nat} {F : Nat → List Nat} (h : HoldJ g k j B F) (hj : j = (heldN g (k + 1)).length) (hB : j ≤ B) : HoldJ g (k + 1) 0 B F := by
  refine ⟨fun m x => ?_, fun m => by have := h.len m; rw [Nat.succ_mul]; omega⟩
  rw [h.mem m x]
  constructor
  · rintro (⟨h1, h2⟩ | ⟨rfl, i, h2, h3⟩)
    · exact Or.inl ⟨by omega, h2⟩
    · exact Or.inl ⟨Nat.le_refl _, List.mem_of_getElem? h3⟩
  · rintro (⟨h1, h2⟩ | ⟨_, i, h2, _⟩)
    · by_cases e : x = k + 1
      · subst e
        obtain ⟨i, hi⟩ := List.getElem?_of_mem h2
        exact Or.inr ⟨rfl, i, by rw [hj]; exact (List.getElem?_eq_some_iff.1 hi).1, hi⟩
      · exact Or.inl ⟨by omega, h2⟩
    · omega
theorem HoldJ.fin {g : List OB} {B : Nat} {F : Nat → List Nat} (h : HoldJ g g.length 0 B F) : ∀ m x, x ∈ F m ↔ m ∈ heldN g x := fun m x => by
  rw [h.mem m x]
  constructor
  · rintro (⟨_, h⟩ | ⟨_, i, h, _⟩)
    · exact h
    · omega
  · intro hx
    refine Or.inl ⟨?_, hx⟩
    cases x with
    | zero => cases hx
    | succ k =>
      rw [held_succ] at hx
      cases ho : g[k]? with
      | none => rw [ho] at hx; cases hx
      | some o => have := (List.getElem?_eq_some_iff.1 ho).1; omega
end Go.Proofs.Ytghnjmodnhnmfaa
