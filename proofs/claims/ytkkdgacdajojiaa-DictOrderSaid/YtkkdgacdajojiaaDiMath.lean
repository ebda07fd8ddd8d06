/- A table's slots as plain lists: what may be, what is found, put, told. No walk, no program. -/
import Derived.Test.YtkkdgacdajojiaaBase
import Derived.Test.YtkkdgacdajojiaaValMath
namespace Go.Proofs.Ytkkdgacdajojiaa
set_option maxRecDepth 20000
open Go.RowKit

abbrev VV := Int × Int
def mayP (v : VV) : Bool := mayB v.1 v.2
def keyP (v : VV) : Bool := keyB v.1 v.2
def refP (v : VV) : Bool := refB v.1 v.2
def nilP : VV := (1, 0)
def intP (n : Int) : VV := (3, n)
structure Tab where
  meta_ : VV
  arr : List VV
  prs : List (VV × VV)
def flatQ : List (VV × VV) → List VV
  | [] => []
  | p :: r => p.1 :: p.2 :: flatQ r
def layT (t : Tab) : List VV := t.meta_ :: (3, (t.arr.length : Int)) :: (t.arr ++ flatQ t.prs)
def listedB (n : Nat) (k : VV) : Bool := decide (k.1 = 3 ∧ 1 ≤ k.2 ∧ k.2 ≤ (n : Int))
theorem listedB_iff {n : Nat} {k : VV} : listedB n k = true ↔ k.1 = 3 ∧ 1 ≤ k.2 ∧ k.2 ≤ (n : Int) := by simp [listedB]
def metaOk (m : VV) : Bool := decide (m = nilP ∨ m.1 = 6 ∧ mayP m = true)
theorem metaOk_iff {m : VV} : metaOk m = true ↔ m = nilP ∨ m.1 = 6 ∧ mayP m = true := by simp [metaOk]
def elemOk (v : VV) : Bool := mayP v && decide (v.1 ≠ 0)
theorem elemOk_iff {v : VV} : elemOk v = true ↔ mayP v = true ∧ v.1 ≠ 0 := by simp [elemOk]
def pairOk (n : Nat) (p : VV × VV) : Bool := keyP p.1 && keyP p.2 && !listedB (n + 1) p.1
theorem pairOk_iff {n : Nat} {p : VV × VV} : pairOk n p = true ↔ keyP p.1 = true ∧ keyP p.2 = true ∧ listedB (n + 1) p.1 = false := by simp [pairOk, and_assoc]
structure Good (t : Tab) : Prop where
  head : metaOk t.meta_ = true
  arr : ∀ v ∈ t.arr, elemOk v = true
  last : t.arr.getLast? ≠ some nilP
  prs : ∀ p ∈ t.prs, pairOk t.arr.length p = true
  nodup : (t.prs.map (·.1)).Nodup
instance (t : Tab) : Decidable (Good t) :=
  decidable_of_iff ((metaOk t.meta_ = true ∧ ∀ v ∈ t.arr, elemOk v = true) ∧ t.arr.getLast? ≠ some nilP ∧ (∀ p ∈ t.prs, pairOk t.arr.length p = true) ∧ (t.prs.map (·.1)).Nodup)
    ⟨fun ⟨⟨a, b⟩, c, d, e⟩ => ⟨a, b, c, d, e⟩, fun ⟨a, b, c, d, e⟩ => ⟨⟨a, b⟩, c, d, e⟩⟩
def unflat : List VV → Option (List (VV × VV))
  | [] => some []
  | [_] => none
  | k :: v :: r => (unflat r).map fun q => (k, v) :: q
theorem unflat_flat : ∀ q, unflat (flatQ q) = some q
  | [] => rfl
  | p :: r => by simp [flatQ, unflat, unflat_flat r]
theorem flat_unflat : ∀ (l : List VV) (q : List (VV × VV)), unflat l = some q → l = flatQ q
  | [], q, h => by simp [unflat] at h; subst h; rfl
  | [_], q, h => by simp [unflat] at h
  | k :: v :: r, q, h => by
    simp [unflat] at h
    obtain ⟨q', h1, rfl⟩ := h
    simp [flatQ, flat_unflat r q' h1]
theorem unflat_none : ∀ (l : List VV), unflat l = none ↔ l.length % 2 ≠ 0
  | [] => by simp [unflat]
  | [_] => by simp [unflat]
  | k :: v :: r => by
    simp [unflat, unflat_none r]
    omega
theorem flatQ_len : ∀ q, (flatQ q).length = 2 * q.length
  | [] => rfl
  | p :: r => by simp [flatQ, flatQ_len r]; omega
theorem flatQ_append : ∀ a b, flatQ (a ++ b) = flatQ a ++ flatQ b
  | [], b => rfl
  | p :: r, b => by simp [flatQ, flatQ_append r b]
theorem flatQ_at : ∀ (q : List (VV × VV)) (i : Nat) (p : VV × VV), q[i]? = some p → (flatQ q)[2 * i]? = some p.1 ∧ (flatQ q)[2 * i + 1]? = some p.2
  | [], i, p, h => by simp at h
  | x :: r, 0, p, h => by simp at h; subst h; exact ⟨rfl, rfl⟩
  | x :: r, i + 1, p, h => by
    have := flatQ_at r i p (by simpa using h)
    rw [show 2 * (i + 1) = 2 * i + 2 by omega]
    exact this
def headOk : List VV → Bool
  | m :: c :: r => metaOk m && decide (c.1 = 3 ∧ 0 ≤ c.2 ∧ c.2 ≤ (r.length : Int))
  | _ => false
def cutL (l : List VV) : Option Tab :=
  match l with
  | m :: c :: r =>
    if headOk l = true then
      match unflat (r.drop c.2.toNat) with
      | some q => if Good ⟨m, r.take c.2.toNat, q⟩ then some ⟨m, r.take c.2.toNat, q⟩ else none
      | none => none
    else none
  | _ => none
theorem headOk_iff {l : List VV} : headOk l = true ↔ ∃ (m : VV) (n : Nat) (A R : List VV), l = m :: (3, (n : Int)) :: (A ++ R) ∧ A.length = n ∧ metaOk m = true := by
  constructor
  · intro h
    match l, h with
    | m :: c :: r, h =>
      obtain ⟨c1, c2⟩ := c
      simp [headOk] at h
      obtain ⟨h1, rfl, h3, h4⟩ := h
      refine ⟨m, c2.toNat, r.take c2.toNat, r.drop c2.toNat, ?_, by simp; omega, h1⟩
      rw [List.take_append_drop, Int.toNat_of_nonneg h3]
  · rintro ⟨m, n, A, R, rfl, hn, hm⟩
    simp [headOk, hm]; omega
theorem cutL_lay {t : Tab} (h : Good t) : cutL (layT t) = some t := by
  have e1 : headOk (layT t) = true := headOk_iff.2 ⟨_, _, _, _, rfl, rfl, h.head⟩
  obtain ⟨m, A, q⟩ := t
  unfold layT at *
  unfold cutL
  simp only [Int.toNat_natCast, List.drop_left, List.take_left, unflat_flat]
  rw [if_pos e1, if_pos h]
theorem cutL_some {l : List VV} {t : Tab} (h : cutL l = some t) : Good t ∧ layT t = l := by
  unfold cutL at h
  match l, h with
  | m :: c :: r, h =>
    simp only at h
    by_cases hh : headOk (m :: c :: r) = true
    · rw [if_pos hh] at h
      cases hu : unflat (r.drop c.2.toNat) with
      | none => rw [hu] at h; cases h
      | some q =>
        rw [hu] at h
        simp only at h
        by_cases hg : Good ⟨m, r.take c.2.toNat, q⟩
        · rw [if_pos hg] at h
          injection h with h
          subst h
          refine ⟨hg, ?_⟩
          obtain ⟨c1, c2⟩ := c
          simp [headOk] at hh
          obtain ⟨_, rfl, h3, h4⟩ := hh
          unfold layT
          simp only
          rw [← flat_unflat _ _ hu, List.take_append_drop, List.length_take, Nat.min_eq_left (by omega), Int.toNat_of_nonneg h3]
        · rw [if_neg hg] at h; cases h
    · rw [if_neg hh] at h; cases h
theorem cutL_none {l : List VV} (h : ∀ t, Good t → layT t ≠ l) : cutL l = none := by
  cases e : cutL l with
  | none => rfl
  | some t => exact absurd (cutL_some e).2 (h t (cutL_some e).1)

/-! What is found -/
def idxQ (q : List (VV × VV)) (k : VV) : Option Nat := q.findIdx? fun p => p.1 == k
theorem idxQ_some {q : List (VV × VV)} {k : VV} {i : Nat} (h : idxQ q k = some i) : ∃ v, q[i]? = some (k, v) := by
  unfold idxQ at h
  obtain ⟨h1, h2, _⟩ := List.findIdx?_eq_some_iff_getElem.1 h
  refine ⟨(q[i]).2, ?_⟩
  rw [List.getElem?_eq_getElem h1]
  have : (q[i]).1 = k := by simpa using h2
  rw [← this]
theorem idxQ_none {q : List (VV × VV)} {k : VV} : idxQ q k = none ↔ ∀ p ∈ q, p.1 ≠ k := by
  unfold idxQ
  rw [List.findIdx?_eq_none_iff]
  simp
theorem idxQ_of {q : List (VV × VV)} (hn : (q.map (·.1)).Nodup) {i : Nat} {p : VV × VV} (h : q[i]? = some p) : idxQ q p.1 = some i := by
  cases e : idxQ q p.1 with
  | none => exact absurd rfl (idxQ_none.1 e p (List.mem_of_getElem? h))
  | some j =>
    obtain ⟨v, hv⟩ := idxQ_some e
    have h1 : (q.map (·.1))[i]? = some p.1 := by simp [h]
    have h2 : (q.map (·.1))[j]? = some p.1 := by simp [hv]
    obtain ⟨l1, e1⟩ := List.getElem?_eq_some_iff.1 h1
    obtain ⟨l2, e2⟩ := List.getElem?_eq_some_iff.1 h2
    rw [(List.getElem_inj hn).1 (e2.trans e1.symm)]
def getT (t : Tab) (k : VV) : VV :=
  if listedB t.arr.length k = true then t.arr.getD (k.2 - 1).toNat nilP
  else match idxQ t.prs k with
    | some i => ((t.prs.getD i (nilP, nilP))).2
    | none => nilP
/-- The last pair takes the place of the i-th one. -/
def outQ (q : List (VV × VV)) (i : Nat) : List (VV × VV) := (q.set i (q.getD (q.length - 1) (nilP, nilP))).dropLast
theorem outQ_len (q : List (VV × VV)) (i : Nat) : (outQ q i).length = q.length - 1 := by simp [outQ]
def trimA : List VV → List VV
  | [] => []
  | v :: r => match trimA r with
    | [] => if v = nilP then [] else [v]
    | x :: y => v :: x :: y
def longT : Nat → List VV → List (VV × VV) → List VV × List (VV × VV)
  | 0, A, q => (A, q)
  | f + 1, A, q => match idxQ q (intP (A.length + 1)) with
    | none => (A, q)
    | some i => longT f (A ++ [(q.getD i (nilP, nilP)).2]) (outQ q i)
def objsL (l : List VV) : List VV := l.filter refP
def putT (t : Tab) (k v : VV) : Tab × List VV :=
  if listedB t.arr.length k = true then ({ t with arr := trimA (t.arr.set (k.2 - 1).toNat v) }, objsL [t.arr.getD (k.2 - 1).toNat nilP])
  else match idxQ t.prs k with
    | some i =>
      if v = nilP then ({ t with prs := outQ t.prs i }, objsL [(t.prs.getD i (nilP, nilP)).2, k, k])
      else ({ t with prs := t.prs.set i (k, v) }, objsL [(t.prs.getD i (nilP, nilP)).2, k])
    | none =>
      if v = nilP then (t, objsL [k])
      else if k = intP (t.arr.length + 1) then
        let x := longT t.prs.length (t.arr ++ [v]) t.prs
        ({ t with arr := x.1, prs := x.2 }, [])
      else ({ t with prs := t.prs ++ [(k, v)] }, [])
def firstA : List VV → Nat → Option Nat
  | [], _ => none
  | v :: r, i => if v = nilP then firstA r (i + 1) else some i
def fromT (t : Tab) (place : Nat) : VV :=
  match firstA (t.arr.drop place) place with
  | some i => intP (i + 1)
  | none => (flatQ t.prs).getD (place - t.arr.length) nilP
def behindT (t : Tab) (k : VV) : Option Nat :=
  if k = nilP then some 0
  else if listedB t.arr.length k = true then some k.2.toNat
  else (idxQ t.prs k).map fun i => t.arr.length + 2 * i + 2

/-! What Put answers: the slots behind it, what leaves, the number. -/
def putL (l : List VV) (k v : VV) : Option (List VV × List VV) × Int :=
  match cutL l with
  | none => (none, 2)
  | some t =>
    if mayP k = true ∧ mayP v = true ∧ v.1 ≠ 0 then
      if keyP k = true then (some (layT (putT t k v).1, (putT t k v).2), 0) else (none, 9)
    else (none, 2)
def nextL (l : List VV) (k : VV) : VV × Int :=
  match cutL l with
  | none => ((0, 0), 2)
  | some t =>
    if mayP k = true ∧ k.1 ≠ 0 then
      match behindT t k with
      | none => ((0, 0), 5)
      | some p => (fromT t p, 0)
    else ((0, 0), 2)
end Go.Proofs.Ytkkdgacdajojiaa
