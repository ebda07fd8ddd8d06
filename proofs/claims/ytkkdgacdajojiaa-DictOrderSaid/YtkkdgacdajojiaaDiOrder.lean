/- Ints put in whatever order; plain. No walk. -/
import Derived.Test.YtkkdgacdajojiaaBase
import Derived.Test.YtkkdgacdajojiaaDiFold
namespace Go.Proofs.Ytkkdgacdajojiaa
set_option maxRecDepth 20000
open Go.RowKit

theorem getT_idx {t : Tab} {k : VV} (hl : listedB t.arr.length k = false) (hg : getT t k ≠ nilP) : ∃ i, idxQ t.prs k = some i ∧ (k, getT t k) ∈ t.prs := by
  unfold getT at hg ⊢
  rw [if_neg (by rw [hl]; decide)] at hg ⊢
  cases hq : idxQ t.prs k with
  | none => rw [hq] at hg; exact absurd rfl hg
  | some i =>
    obtain ⟨v, hv⟩ := idxQ_some hq
    refine ⟨i, rfl, ?_⟩
    simp only [List.getD_eq_getElem?_getD, hv, Option.getD_some]
    exact List.mem_of_getElem? hv
/-- All ints from 1 to m and nothing else: they lie in the array. -/
theorem tab_full {t : Tab} (h : Good t) {m : Nat} (hm : ∀ x : Nat, 1 ≤ x → x ≤ m → getT t (intP x) ≠ nilP) (ho : ∀ k, getT t k ≠ nilP → ∃ x : Nat, 1 ≤ x ∧ x ≤ m ∧ k = intP x) : t.arr.length = m ∧ t.prs = [] := by
  have h1 : m ≤ t.arr.length := Classical.byContradiction fun hc => by
    have e := hm (t.arr.length + 1) (by omega) (by omega)
    rw [show intP ((t.arr.length + 1 : Nat) : Int) = intP ((t.arr.length : Int) + 1) by simp] at e
    obtain ⟨i, -, hp⟩ := getT_idx (not_listed_after _) e
    exact h.after _ hp rfl
  have h2 : t.arr.length ≤ m := Classical.byContradiction fun hc => by
    have hne : t.arr ≠ [] := fun e => by rw [e] at hc; simp at hc
    have hlt : t.arr.length - 1 < t.arr.length := by omega
    have e1 : getT t (intP ((t.arr.length - 1 : Nat) + 1)) = t.arr.getD (t.arr.length - 1) nilP := getT_listed hlt
    have e2 : t.arr.getD (t.arr.length - 1) nilP ≠ nilP := fun e => h.last (by
      rw [List.getLast?_eq_getElem?, List.getElem?_eq_getElem hlt]
      rw [List.getD_eq_getElem?_getD, List.getElem?_eq_getElem hlt, Option.getD_some] at e
      rw [e])
    obtain ⟨x, _, hx, e3⟩ := ho _ (by rw [e1]; exact e2)
    unfold intP at e3
    injection e3 with _ e3
    omega
  refine ⟨by omega, ?_⟩
  cases hq : t.prs with
  | nil => rfl
  | cons p r =>
    have hp : p ∈ t.prs := by rw [hq]; simp
    obtain ⟨k1, k2, k3⟩ := pairOk_iff.1 (h.prs p hp)
    have k4 := listed_mono (Nat.le_succ _) k3
    have e1 := getT_pair (x := p.2) k4 h.nodup (by exact hp)
    obtain ⟨x, hx1, hx2, e2⟩ := ho p.1 (by rw [e1]; exact key_nil k2)
    have := listed_mk (n := t.arr.length) (i := x - 1) (by omega)
    rw [show intP (((x - 1 : Nat) : Int) + 1) = intP (x : Int) by congr 1; omega, ← e2, k4] at this
    cases this
/-- No pairs: the array is as long as the greatest. -/
theorem tab_top {t : Tab} (h : Good t) (hp : t.prs = []) {R : List Int} (h1 : ∀ x ∈ R, 1 ≤ x ∧ getT t (intP x) ≠ nilP) (ho : ∀ k, getT t k ≠ nilP → ∃ x ∈ R, k = intP x) {a : Int} (ha : ∀ x ∈ R, x ≤ a) (hm : a = 0 ∨ a ∈ R) : a = t.arr.length := by
  have h2 : ∀ x ∈ R, x ≤ (t.arr.length : Int) := fun x hx => by
    obtain ⟨hx1, hx2⟩ := h1 x hx
    cases hl : listedB t.arr.length (intP x) with
    | true => exact (listedB_iff.1 hl).2.2
    | false =>
      obtain ⟨i, -, hm⟩ := getT_idx hl hx2
      rw [hp] at hm; cases hm
  have h3 : (t.arr.length : Int) ≤ a := by
    by_cases h0 : t.arr.length = 0
    · rcases hm with h | h
      · omega
      · have := (h1 a h).1; omega
    · have hlt : t.arr.length - 1 < t.arr.length := by omega
      have e1 : getT t (intP ((t.arr.length - 1 : Nat) + 1)) = t.arr.getD (t.arr.length - 1) nilP := getT_listed hlt
      have e2 : t.arr.getD (t.arr.length - 1) nilP ≠ nilP := fun e => h.last (by
        rw [List.getLast?_eq_getElem?, List.getElem?_eq_getElem hlt]
        rw [List.getD_eq_getElem?_getD, List.getElem?_eq_getElem hlt, Option.getD_some] at e
        rw [e])
      obtain ⟨x, hx, e3⟩ := ho _ (by rw [e1]; exact e2)
      unfold intP at e3
      injection e3 with _ e3
      have := ha x hx
      omega
  rcases hm with h | h
  · omega
  · have := h2 a h; omega
theorem put_gone_nil {t : Tab} (h : Good t) {k v : VV} (hg : getT t k = nilP) (hv : v ≠ nilP) : (putT t k v).2 = [] := by
  unfold putT
  cases hl : listedB t.arr.length k with
  | true =>
    rw [if_pos rfl]
    unfold getT at hg
    rw [if_pos hl] at hg
    simp only
    rw [hg]; decide
  | false =>
    rw [if_neg (by decide)]
    cases hq : idxQ t.prs k with
    | some i =>
      obtain ⟨x, hx⟩ := idxQ_some hq
      have := getT_pair hl h.nodup (List.mem_of_getElem? hx)
      rw [hg] at this
      exact absurd this.symm (key_nil (pairOk_iff.1 (h.prs _ (List.mem_of_getElem? hx))).2.1)
    | none =>
      simp only
      rw [if_neg hv]
      split <;> rfl
theorem put_out {t : Tab} (hp : t.prs = []) {k v : VV} (hg : getT t k = v) (hv : v ≠ nilP) (hr : refP v = true) : (putT t k nilP).2 = [v] ∧ (putT t k nilP).1.prs = [] := by
  cases hl : listedB t.arr.length k with
  | true =>
    unfold getT at hg
    rw [if_pos hl] at hg
    unfold putT
    rw [if_pos hl]
    exact ⟨by simp only; rw [hg]; unfold objsL; simp [hr], hp⟩
  | false =>
    unfold getT at hg
    rw [if_neg (by rw [hl]; decide), hp] at hg
    exact absurd hg.symm hv
theorem swap_perm {l : List Int} {i j : Nat} (hi : i < l.length) (hj : j < l.length) : ((l.set i l[j]).set j l[i]).Perm l := List.set_set_perm hi hj
/-- What is kept while they are put. -/
structure Ordered (t : Tab) (R : List Int) : Prop where
  good : Good t
  head : t.meta_ = nilP
  get : ∀ k, getT t k = if k.1 = 3 ∧ k.2 ∈ R then (5, k.2) else nilP
theorem Ordered.ne {t : Tab} {R : List Int} (h : Ordered t R) (k : VV) : getT t k ≠ nilP ↔ ∃ x ∈ R, k = intP x := by
  rw [h.get k]
  constructor
  · intro h1
    by_cases h2 : k.1 = 3 ∧ k.2 ∈ R
    · exact ⟨k.2, h2.2, Prod.ext h2.1 rfl⟩
    · rw [if_neg h2] at h1; exact absurd rfl h1
  · rintro ⟨x, hx, rfl⟩
    rw [if_pos ⟨rfl, hx⟩]
    unfold intP nilP
    intro e
    injection e with e
    exact absurd e (by decide)
theorem Ordered.start : Ordered ⟨nilP, [], []⟩ [] := ⟨TabOf.start.good, rfl, fun k => by rw [TabOf.start.get]; simp [wantL]⟩
theorem key_int {x : Int} : keyP (intP x) = true := by
  rw [keyP_iff, elemOk_iff]
  refine ⟨⟨?_, by simp [intP]⟩, ?_⟩
  · unfold mayP intP; exact mayB_iff.2 (by simp)
  · unfold intP nilP; intro e; injection e with e; exact absurd e (by decide)
theorem Ordered.put {t : Tab} {R : List Int} (h : Ordered t R) {x : Int} (hx : 1 ≤ x ∧ x ≤ 20) (hn : x ∉ R) : putL (layT t) (intP x) (5, x) = (some (layT (putT t (intP x) (5, x)).1, []), 0) ∧ Ordered (putT t (intP x) (5, x)).1 (R ++ [x]) := by
  have he : elemOk (5, x) = true := elemOk_iff.2 ⟨by unfold mayP; exact mayB_iff.2 (by simp; omega), by simp⟩
  obtain ⟨p1, p2, _⟩ := put_all h.good (key_int (x := x)) he
  have hg : getT t (intP x) = nilP := by rw [h.get]; rw [if_neg]; rintro ⟨_, h2⟩; exact hn h2
  have e0 := put_gone_nil h.good hg (v := (5, x)) (by unfold nilP; intro e; injection e with e; exact absurd e (by decide))
  refine ⟨by rw [putL_ok h.good (k := intP x) (v := (5, x)) (okC_iff.2 ⟨key_int, he⟩), e0], p1, by rw [put_meta]; exact h.head, fun k => ?_⟩
  rw [p2 k, h.get k]
  by_cases hk : k = intP x
  · rw [if_pos hk, hk, if_pos ⟨rfl, by simp [intP]⟩]; rfl
  · rw [if_neg hk]
    have e : (k.1 = 3 ∧ k.2 ∈ R ++ [x]) ↔ (k.1 = 3 ∧ k.2 ∈ R) := by
      constructor
      · rintro ⟨h1, h2⟩
        rcases List.mem_append.1 h2 with h2 | h2
        · exact ⟨h1, h2⟩
        · simp at h2; exact absurd (Prod.ext h1 h2 : k = intP x) hk
      · rintro ⟨h1, h2⟩; exact ⟨h1, by simp [h2]⟩
    simp only [e]
theorem Ordered.out {t : Tab} {R : List Int} {x : Int} (h : Ordered t (x :: R)) (hp : t.prs = []) (hx : 1 ≤ x ∧ x ≤ 20) (hn : x ∉ R) : putL (layT t) (intP x) nilP = (some (layT (putT t (intP x) nilP).1, [(5, x)]), 0) ∧ Ordered (putT t (intP x) nilP).1 R ∧ (putT t (intP x) nilP).1.prs = [] := by
  have he : elemOk nilP = true := by decide
  obtain ⟨p1, p2, _⟩ := put_all h.good (key_int (x := x)) he
  have hg : getT t (intP x) = (5, x) := by rw [h.get]; rw [if_pos ⟨rfl, by simp [intP]⟩]; rfl
  obtain ⟨e0, e1⟩ := put_out hp hg (by unfold nilP; intro e; injection e with e; exact absurd e (by decide)) (by unfold refP; exact refB_iff.2 ⟨mayB_iff.2 (by simp; omega), by simp⟩)
  refine ⟨by rw [putL_ok h.good (k := intP x) (v := nilP) (okC_iff.2 ⟨key_int, he⟩), e0], ⟨p1, by rw [put_meta]; exact h.head, fun k => ?_⟩, e1⟩
  rw [p2 k, h.get k]
  by_cases hk : k = intP x
  · rw [if_pos hk, if_neg]; rintro ⟨_, h2⟩; rw [hk] at h2; exact hn h2
  · rw [if_neg hk]
    have e : (k.1 = 3 ∧ k.2 ∈ x :: R) ↔ (k.1 = 3 ∧ k.2 ∈ R) := by
      constructor
      · rintro ⟨h1, h2⟩
        rcases List.mem_cons.1 h2 with h2 | h2
        · exact absurd (Prod.ext h1 h2 : k = intP x) hk
        · exact ⟨h1, h2⟩
      · rintro ⟨h1, h2⟩; exact ⟨h1, by simp [h2]⟩
    simp only [e]
end Go.Proofs.Ytkkdgacdajojiaa
