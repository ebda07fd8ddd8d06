/- takeOut: a pair goes, the last one takes its place. -/
import Derived.Test.YtkkdgacdajojiaaBase
import Derived.Test.YtkkdgacdajojiaaDiTrim
import Derived.Deep.RegionLaw
namespace Go.Proofs.Ytkkdgacdajojiaa
set_option maxRecDepth 20000
set_option maxRecDepth 20000
open Go.RowKit Go.Maps Go.Sort Go.BigFrame

/-! Plain -/
theorem idxQ_iff {q : List (VV × VV)} (hn : (q.map (·.1)).Nodup) {v : VV} {j : Nat} : idxQ q v = some j ↔ ∃ x, q[j]? = some (v, x) := by
  constructor
  · exact idxQ_some
  · rintro ⟨x, hx⟩; exact idxQ_of hn hx
theorem outQ_get {q : List (VV × VV)} {i : Nat} (hi : i < q.length) {p : VV × VV} (hp : q[q.length - 1]? = some p) (j : Nat) : (outQ q i)[j]? = if j < q.length - 1 then (if j = i then some p else q[j]?) else none := by
  unfold outQ
  have e : q.getD (q.length - 1) (nilP, nilP) = p := by simp [List.getD_eq_getElem?_getD, hp]
  rw [e, List.getElem?_dropLast]
  simp only [List.length_set]
  split
  · rw [List.getElem?_set]
    by_cases h : i = j
    · subst h; simp [hi]
    · rw [if_neg h, if_neg (Ne.symm h)]
  · rfl
theorem idx_out {q : List (VV × VV)} (hn : (q.map (·.1)).Nodup) {i : Nat} {k x : VV} (hk : q[i]? = some (k, x)) {p : VV × VV} (hp : q[q.length - 1]? = some p) (v : VV) :
    idxQ (outQ q i) v = if i = q.length - 1 then (if v = k then none else idxQ q v) else (if v = p.1 then some i else if v = k then none else idxQ q v) := by
  have hi : i < q.length := (List.getElem?_eq_some_iff.1 hk).1
  have hn2 := (out_nodup hk hn).1
  have get := outQ_get hi hp
  have same : ∀ {j j' : Nat} {v x y : VV}, q[j]? = some (v, x) → q[j']? = some (v, y) → j = j' := fun {j j' v x y} h1 h2 => by
    have e1 := (idxQ_iff hn).2 ⟨x, h1⟩
    have e2 := (idxQ_iff hn).2 ⟨y, h2⟩
    rw [e1] at e2; injection e2
  apply Option.ext
  intro j
  have R : idxQ (outQ q i) v = some j ↔ ∃ y, (outQ q i)[j]? = some (v, y) := idxQ_iff hn2
  rw [R]
  simp only [get]
  by_cases hl : i = q.length - 1
  · rw [if_pos hl]
    by_cases hv : v = k
    · subst hv
      rw [if_pos rfl]
      constructor
      · rintro ⟨y, hy⟩
        split at hy
        · rename_i h1
          rw [if_neg (by omega)] at hy
          have := same hk hy; omega
        · cases hy
      · intro h; cases h
    · rw [if_neg hv, idxQ_iff hn]
      constructor
      · rintro ⟨y, hy⟩
        split at hy
        · rw [if_neg (by omega)] at hy; exact ⟨y, hy⟩
        · cases hy
      · rintro ⟨y, hy⟩
        have hj : j < q.length := (List.getElem?_eq_some_iff.1 hy).1
        have hne : j ≠ i := by rintro rfl; rw [hk] at hy; injection hy with hy; injection hy with hy _; exact hv hy.symm
        refine ⟨y, ?_⟩
        rw [if_pos (by omega), if_neg hne]; exact hy
  · rw [if_neg hl]
    obtain ⟨p1, p2⟩ := p
    by_cases hv : v = p1
    · subst hv
      rw [if_pos rfl]
      constructor
      · rintro ⟨y, hy⟩
        split at hy
        · rename_i h1
          by_cases hji : j = i
          · rw [hji]
          · rw [if_neg hji] at hy
            have := same hp hy; omega
        · cases hy
      · intro h
        injection h with h
        subst h
        exact ⟨p2, by rw [if_pos (by omega), if_pos rfl]⟩
    · rw [if_neg hv]
      by_cases hvk : v = k
      · subst hvk
        rw [if_pos rfl]
        constructor
        · rintro ⟨y, hy⟩
          split at hy
          · by_cases hji : j = i
            · rw [if_pos hji] at hy; injection hy with hy; injection hy with hy _; exact absurd hy.symm hv
            · rw [if_neg hji] at hy
              exact absurd (same hk hy) (Ne.symm hji)
          · cases hy
        · intro h; cases h
      · rw [if_neg hvk, idxQ_iff hn]
        constructor
        · rintro ⟨y, hy⟩
          split at hy
          · by_cases hji : j = i
            · rw [if_pos hji] at hy; injection hy with hy; injection hy with hy _; exact absurd hy.symm hv
            · rw [if_neg hji] at hy; exact ⟨y, hy⟩
          · cases hy
        · rintro ⟨y, hy⟩
          have hj : j < q.length := (List.getElem?_eq_some_iff.1 hy).1
          have hne : j ≠ i := by rintro rfl; rw [hk] at hy; injection hy with hy; injection hy with hy _; exact hvk hy.symm
          have hne2 : j ≠ q.length - 1 := by rintro rfl; rw [hp] at hy; injection hy with hy; injection hy with hy _; exact hv hy.symm
          exact ⟨y, by rw [if_pos (by omega), if_neg hne]; exact hy⟩
theorem flatQ_set : ∀ (q : List (VV × VV)) (i : Nat) (p : VV × VV), flatQ (q.set i p) = ((flatQ q).set (2 * i) p.1).set (2 * i + 1) p.2
  | [], i, p => by simp [flatQ]
  | x :: r, 0, p => rfl
  | x :: r, i + 1, p => by
    rw [show 2 * (i + 1) = 2 * i + 1 + 1 by omega]
    simp [flatQ, flatQ_set r i p]
theorem outQ_snoc {q : List (VV × VV)} {i : Nat} (hi : i < q.length) {p : VV × VV} (hp : q[q.length - 1]? = some p) : q.set i p = outQ q i ++ [p] := by
  have e : q.getD (q.length - 1) (nilP, nilP) = p := by simp [List.getD_eq_getElem?_getD, hp]
  unfold outQ
  rw [e]
  have hne : q.set i p ≠ [] := by intro h; have := congrArg List.length h; simp at this; subst this; simp at hi
  have := List.dropLast_concat_getLast hne
  conv => lhs; rw [← this]
  congr 2
  rw [List.getLast_eq_getElem]
  simp only [List.length_set, List.getElem_set]
  split
  · rfl
  · exact (List.getElem?_eq_some_iff.1 hp).2
theorem last_out {q : List (VV × VV)} {i : Nat} (hl : i = q.length - 1) {p : VV × VV} (hp : q[q.length - 1]? = some p) : q = outQ q i ++ [p] := by
  have hi : i < q.length := by have := (List.getElem?_eq_some_iff.1 hp).1; omega
  rw [← outQ_snoc hi hp]
  subst hl
  apply List.ext_getElem?
  intro j
  rw [List.getElem?_set]
  split
  · rename_i h; subst h; rw [hp]
  · rfl

/-! In memory -/
/-- A value of a row is written anew. -/
theorem RowV.set {w : World} {g off c : Nat} {l : List VV} (h : RowV w g off c l) {j : Nat} (hj : j < l.length) {v : VV} (hv : wfP v) : RowV ((w.setCell ⟨g, off + j * 2, none⟩ (iV v.1)).setCell ⟨g, off + j * 2 + 1, none⟩ (iV v.2)) g off c (l.set j v) := by
  obtain ⟨⟨cur, h1, h2, h6⟩, h3, h4, h5⟩ := h
  have hl : off + j * 2 + 1 < cur.length := by omega
  refine ⟨⟨(cur.set (off + j * 2) (iV v.1)).set (off + j * 2 + 1) (iV v.2), ?_, by simpa using h2, ?_⟩, by simpa using h3, h4, fun u hu => ?_⟩
  · have e1 : (w.setCell ⟨g, off + j * 2, none⟩ (iV v.1)).heap[g]? = some (.cells (cur.set (off + j * 2) (iV v.1)).toArray 24 (0, 0)) := by
      rw [setCell_eq_setRow w g _ _ _ _ _ h1, setRow_heap w g _ _ _ _ h1]
      simp [Array.setIfInBounds, show off + j * 2 < cur.length by omega]
    rw [setCell_eq_setRow _ g _ _ _ _ _ e1, setRow_heap _ g _ _ _ _ e1]
    simp [Array.setIfInBounds, hl]
  · rw [cellsV_set l j v hj, ← h6]
    apply List.ext_getElem?
    intro i
    simp only [List.length_set, List.getElem?_take, List.getElem?_drop, List.getElem?_set, List.length_drop, List.length_take]
    by_cases hi : i < 2 * l.length
    · simp only [hi, if_true]
      by_cases e1 : i = 2 * j + 1
      · subst e1
        rw [if_pos (by omega), if_pos hl, if_pos rfl, if_pos (by omega)]
      · rw [if_neg (by omega), if_neg (show ¬ 2 * j + 1 = i by omega)]
        by_cases e2 : i = 2 * j
        · subst e2
          rw [if_pos (by omega), if_pos (by omega), if_pos rfl, if_pos (by omega)]
        · rw [if_neg (by omega), if_neg (show ¬ 2 * j = i by omega)]
    · simp only [hi, if_false]
      rw [if_neg (show ¬ 2 * j + 1 = i by omega), if_neg (show ¬ 2 * j = i by omega)]
  · rcases List.mem_or_eq_of_mem_set hu with hu | rfl
    · exact h5 u hu
    · exact hv
theorem heap_set2 (w : World) {g a b k : Nat} (x y : Value) (hk : k ≠ g) : ((w.setCell ⟨g, a, none⟩ x).setCell ⟨g, b, none⟩ y).heap[k]? = w.heap[k]? := (Below.heap_setCell _ _ _ _ hk).trans (Below.heap_setCell _ _ _ _ hk)
theorem below_set2 {base : Nat} {w0 w : World} {g a b : Nat} (h : Below base w0 w) (hg : base ≤ g) (x y : Value) : Below base w0 ((w.setCell ⟨g, a, none⟩ x).setCell ⟨g, b, none⟩ y) := (h.setCell hg _).setCell hg _
/-- .. and another row of the same block stays. -/
theorem RowV.setApart {w : World} {g off c op cp : Nat} {l P : List VV} (h : RowV w g off c l) (hP : RowV w g op cp P) {j : Nat} (hj : j < P.length) (ha : off + 2 * c ≤ op ∨ op + 2 * cp ≤ off) (x y : Value) : RowV ((w.setCell ⟨g, op + j * 2, none⟩ x).setCell ⟨g, op + j * 2 + 1, none⟩ y) g off c l := by
  obtain ⟨⟨cur, h1, h2, h6⟩, h3, h4, h5⟩ := h
  obtain ⟨⟨cur2, k1, k2, k6⟩, k3, k4, k5⟩ := hP
  rw [h1] at k1; injection k1 with k1; injection k1 with k1 _ _
  have k1 : cur = cur2 := by simpa using congrArg Array.toList k1
  subst k1
  have hl : op + j * 2 + 1 < cur.length := by omega
  refine ⟨⟨(cur.set (op + j * 2) x).set (op + j * 2 + 1) y, ?_, by simpa using h2, ?_⟩, h3, h4, h5⟩
  · have e1 : (w.setCell ⟨g, op + j * 2, none⟩ x).heap[g]? = some (.cells (cur.set (op + j * 2) x).toArray 24 (0, 0)) := by
      rw [setCell_eq_setRow w g _ _ _ _ _ h1, setRow_heap w g _ _ _ _ h1]
      simp [Array.setIfInBounds, show op + j * 2 < cur.length by omega]
    rw [setCell_eq_setRow _ g _ _ _ _ _ e1, setRow_heap _ g _ _ _ _ e1]
    simp [Array.setIfInBounds, hl]
  · rw [← h6]
    apply List.ext_getElem?
    intro i
    simp only [List.getElem?_take, List.getElem?_drop, List.getElem?_set, List.length_set]
    split
    · rw [if_neg (by omega), if_neg (by omega)]
    · rfl
structure TabIn (w : World) (base tp : Nat) (t : Tab) (N : Nat) : Prop where
  mk ::
  ex : ∃ ga oa ca gp op cp mb, TabAt w tp ga oa ca gp op cp mb t N ∧ base ≤ ga ∧ base ≤ gp ∧ base ≤ mb
  le : base ≤ tp
  sz : base ≤ w.heap.size
end Go.Proofs.Ytkkdgacdajojiaa
