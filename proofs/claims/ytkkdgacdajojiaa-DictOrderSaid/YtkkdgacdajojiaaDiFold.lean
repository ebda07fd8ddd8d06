/- What becomes of a table when changes are made, one by one: plain. No walk. -/
import Derived.Test.YtkkdgacdajojiaaBase
import Derived.Test.YtkkdgacdajojiaaDiLaw
namespace Go.Proofs.Ytkkdgacdajojiaa
set_option maxRecDepth 20000
open Go.RowKit

abbrev Chg := VV × VV
def okC (p : Chg) : Bool := keyP p.1 && elemOk p.2
theorem okC_iff {p : Chg} : okC p = true ↔ keyP p.1 = true ∧ elemOk p.2 = true := by simp [okC]
def stepL (s : List VV × List VV) (p : Chg) : List VV × List VV := match putL s.1 p.1 p.2 with
  | (some (nx, gn), _) => (nx, s.2 ++ gn)
  | (none, _) => s
def tabL (l : List Chg) : List VV × List VV := l.foldl stepL ([nilP, (3, 0)], [])
theorem key_may {v : VV} (h : keyP v = true) : mayP v = true := (elemOk_iff.1 (key_elem h)).1
theorem putL_ok {t : Tab} (h : Good t) {k v : VV} (hk : okC (k, v) = true) : putL (layT t) k v = (some (layT (putT t k v).1, (putT t k v).2), 0) := by
  obtain ⟨h1, h2⟩ := okC_iff.1 hk
  obtain ⟨h3, h4⟩ := elemOk_iff.1 h2
  unfold putL
  rw [cutL_lay h]
  simp only
  rw [if_pos ⟨key_may h1, h3, h4⟩, if_pos h1]
theorem putL_not {t : Tab} (h : Good t) {k v : VV} (hk : okC (k, v) = false) : ∃ n : Int, putL (layT t) k v = (none, n) ∧ (n = 2 ∨ n = 9) := by
  unfold putL
  rw [cutL_lay h]
  simp only
  by_cases h1 : mayP k = true ∧ mayP v = true ∧ v.1 ≠ 0
  · rw [if_pos h1]
    have h2 : keyP k ≠ true := fun h2 => by
      have : okC (k, v) = true := okC_iff.2 ⟨h2, elemOk_iff.2 ⟨h1.2.1, h1.2.2⟩⟩
      rw [hk] at this; cases this
    rw [if_neg h2]
    exact ⟨9, rfl, .inr rfl⟩
  · rw [if_neg h1]
    exact ⟨2, rfl, .inl rfl⟩
theorem put_gone (t : Tab) (k v : VV) : (putT t k v).2.length ≤ 3 := by
  have h : ∀ l : List VV, l.length ≤ 3 → (objsL l).length ≤ 3 := fun l hl => Nat.le_trans (objsL_len l) hl
  unfold putT
  split
  · exact h _ (by simp)
  · cases idxQ t.prs k with
    | some i => simp only; split <;> exact h _ (by simp)
    | none =>
      simp only
      split
      · exact h _ (by simp)
      · split <;> simp
def wantL (l : List Chg) (k : VV) : VV := l.foldl (fun x p => if okC p = true ∧ p.1 = k then p.2 else x) nilP
def allL (l : List Chg) : List VV := l.foldl (fun x p => if okC p = true then x ++ [p.1, p.2] else x) []
structure TabOf (l : List Chg) (s : List VV × List VV) (t : Tab) : Prop where
  good : Good t
  lay : s.1 = layT t
  small : t.arr.length + 2 * t.prs.length ≤ 2 * l.length
  out : s.2.length ≤ 3 * l.length
  get : ∀ k, getT t k = wantL l k
  held : ∀ a, refP a = true → (layT t).count a + s.2.count a = (allL l).count a
theorem TabOf.next {l : List Chg} {s : List VV × List VV} {t : Tab} (h : TabOf l s t) (p : Chg) : ∃ t', TabOf (l ++ [p]) (stepL s p) t' := by
  obtain ⟨k, v⟩ := p
  cases hp : okC (k, v) with
  | true =>
    obtain ⟨h1, h2⟩ := okC_iff.1 hp
    obtain ⟨p1, p2, p3⟩ := put_all (k := k) (v := v) h.good h1 h2
    have e : stepL s (k, v) = (layT (putT t k v).1, s.2 ++ (putT t k v).2) := by
      unfold stepL; simp only; rw [h.lay, putL_ok h.good hp]
    refine ⟨(putT t k v).1, ?_⟩
    rw [e]
    refine ⟨p1, rfl, ?_, ?_, ?_, ?_⟩
    · have := put_len t k v
      have := h.small
      simp; omega
    · have := put_gone t k v
      have := h.out
      simp; omega
    · intro k'
      rw [p2 k']
      unfold wantL
      rw [List.foldl_append]
      simp only [List.foldl_cons, List.foldl_nil, hp, true_and]
      by_cases hk : k' = k
      · rw [if_pos hk, if_pos hk.symm]
      · rw [if_neg hk, if_neg (Ne.symm hk), h.get k']; rfl
    · intro a ha
      have q1 := p3 a ha
      have q2 := h.held a ha
      have e2 : allL (l ++ [(k, v)]) = allL l ++ [k, v] := by
        unfold allL; rw [List.foldl_append]; simp only [List.foldl_cons, List.foldl_nil]; rw [if_pos hp]
      rw [e2, List.count_append, List.count_append]
      omega
  | false =>
    obtain ⟨n, e1, -⟩ := putL_not h.good hp
    have e : stepL s (k, v) = s := by
      unfold stepL; simp only; rw [h.lay, e1]
    refine ⟨t, ?_⟩
    rw [e]
    refine ⟨h.good, h.lay, ?_, ?_, ?_, ?_⟩
    · have := h.small
      simp; omega
    · have := h.out
      simp; omega
    · intro k'
      rw [h.get k']
      unfold wantL
      rw [List.foldl_append]
      simp only [List.foldl_cons, List.foldl_nil, hp]
      rw [if_neg (by simp)]
    · intro a ha
      rw [h.held a ha]
      unfold allL
      rw [List.foldl_append]
      simp only [List.foldl_cons, List.foldl_nil, hp]
      rw [if_neg (by simp)]
theorem TabOf.start : TabOf [] ([nilP, (3, 0)], []) ⟨nilP, [], []⟩ :=
  ⟨⟨by decide, by simp, by simp, by simp, by simp⟩, rfl, by simp, by simp, fun k => by
    unfold wantL getT
    simp [listedB, idxQ], fun a ha => by
    have e1 : a ≠ nilP := fun e => by subst e; exact absurd ha (by decide)
    have e2 : a ≠ (3, 0) := fun e => by subst e; exact absurd ha (by decide)
    simp [allL, layT, flatQ, Ne.symm e1, Ne.symm e2]⟩
theorem tab_of : ∀ (r l : List Chg) (s : List VV × List VV), (∃ t, TabOf l s t) → ∃ t, TabOf (l ++ r) (r.foldl stepL s) t
  | [], l, s, h => by simpa using h
  | p :: r, l, s, ⟨t, h⟩ => by
    have := tab_of r (l ++ [p]) (stepL s p) (h.next p)
    simpa using this
theorem tab_any (l : List Chg) : ∃ t, TabOf l (tabL l) t := by
  exact tab_of l [] _ ⟨_, TabOf.start⟩
theorem tabL_snoc {l : List Chg} {j : Nat} {p : Chg} (h : l[j]? = some p) : tabL (l.take (j + 1)) = stepL (tabL (l.take j)) p := by
  unfold tabL; rw [List.take_add_one, h, Option.toList_some, List.foldl_append]; rfl
theorem allL_snoc {l : List Chg} {j : Nat} {p : Chg} (h : l[j]? = some p) : allL (l.take (j + 1)) = if okC p = true then allL (l.take j) ++ [p.1, p.2] else allL (l.take j) := by
  unfold allL; rw [List.take_add_one, h, Option.toList_some, List.foldl_append]; rfl
theorem wantL_snoc {l : List Chg} {j : Nat} {p : Chg} (h : l[j]? = some p) (k : VV) : wantL (l.take (j + 1)) k = if okC p = true ∧ p.1 = k then p.2 else wantL (l.take j) k := by
  unfold wantL; rw [List.take_add_one, h, Option.toList_some, List.foldl_append]; rfl
theorem allL_len (l : List Chg) : (allL l).length ≤ 2 * l.length := by
  have : ∀ (r : List Chg) (x : List VV), (r.foldl (fun x p => if okC p = true then x ++ [p.1, p.2] else x) x).length ≤ x.length + 2 * r.length := by
    intro r
    induction r with
    | nil => intro x; simp
    | cons p r ih =>
      intro x
      simp only [List.foldl_cons, List.length_cons]
      split
      · have := ih (x ++ [p.1, p.2]); simp at this; omega
      · have := ih x; omega
  have := this l []
  simpa [allL] using this
/-- Object by object: what is held and what left. -/
theorem TabOf.perm {l : List Chg} {s : List VV × List VV} {t : Tab} (h : TabOf l s t) : (refsL (allL l)).Perm (refsL s.1 ++ refsL s.2) := by
  have e : ((allL l).filter fun p => refB p.1 p.2).Perm ((s.1.filter fun p => refB p.1 p.2) ++ (s.2.filter fun p => refB p.1 p.2)) := by
    rw [List.perm_iff_count]
    intro a
    rw [List.count_append]
    cases ha : refP a with
    | true =>
      have f : ∀ x : List VV, (x.filter fun p => refB p.1 p.2).count a = x.count a := fun x => List.count_filter (by exact ha)
      rw [f, f, f, h.lay]
      exact (h.held a ha).symm
    | false =>
      have f : ∀ x : List VV, (x.filter fun p => refB p.1 p.2).count a = 0 := fun x => List.count_eq_zero.2 fun hm => by
        have := (List.mem_filter.1 hm).2
        unfold refP at ha
        rw [ha] at this; cases this
      rw [f, f, f]
  have := e.map (·.2)
  rw [List.map_append] at this
  exact this
end Go.Proofs.Ytkkdgacdajojiaa
