/- The keys that a table tells, one behind the other: plain. No walk. -/
import Derived.Test.YtjlakolgaableaaRDiFold
namespace Go.Proofs.YtjlakolgaableaaR
open Go.RowKit

def arrKeys : List VV → Nat → List VV
  | [], _ => []
  | v :: r, i => if v = nilP then arrKeys r (i + 1) else intP (i + 1) :: arrKeys r (i + 1)
def restT (t : Tab) (p : Nat) : List VV := arrKeys (t.arr.drop p) p ++ (t.prs.drop ((p - t.arr.length) / 2)).map (·.1)
theorem arrKeys_first : ∀ (l : List VV) (p : Nat), (firstA l p = none ∧ arrKeys l p = []) ∨ (∃ i, p ≤ i ∧ i < p + l.length ∧ firstA l p = some i ∧ arrKeys l p = intP (i + 1) :: arrKeys (l.drop (i + 1 - p)) (i + 1))
  | [], p => .inl ⟨rfl, rfl⟩
  | v :: r, p => by
    by_cases hv : v = nilP
    · rcases arrKeys_first r (p + 1) with ⟨h1, h2⟩ | ⟨i, h0, h3, h1, h2⟩
      · exact .inl ⟨by simp [firstA, hv, h1], by simp [arrKeys, hv, h2]⟩
      · refine .inr ⟨i, by omega, by simp; omega, by simp [firstA, hv, h1], ?_⟩
        rw [show i + 1 - p = (i + 1 - (p + 1)) + 1 by omega, List.drop_succ_cons]
        simp [arrKeys, hv, h2]
    · refine .inr ⟨p, Nat.le_refl _, by simp, by simp [firstA, hv], ?_⟩
      rw [show p + 1 - p = 1 by omega]
      simp [arrKeys, hv]
theorem arrKeys_mem : ∀ (l : List VV) (p : Nat) (x : VV), x ∈ arrKeys l p ↔ ∃ (i : Nat) (v : VV), l[i]? = some v ∧ v ≠ nilP ∧ x = intP ((p : Int) + (i : Int) + 1)
  | [], p, x => by simp [arrKeys]
  | v :: r, p, x => by
    have ih := arrKeys_mem r (p + 1) x
    have e : x ∈ arrKeys (v :: r) p ↔ (v ≠ nilP ∧ x = intP (p + 1)) ∨ x ∈ arrKeys r (p + 1) := by
      by_cases hv : v = nilP <;> simp [arrKeys, hv]
    rw [e, ih]
    constructor
    · rintro (⟨h1, h2⟩ | ⟨i, u, h1, h2, h3⟩)
      · exact ⟨0, v, rfl, h1, by rw [h2]; congr 1⟩
      · exact ⟨i + 1, u, by simpa using h1, h2, by rw [h3]; congr 1; push_cast; omega⟩
    · rintro ⟨i, u, h1, h2, h3⟩
      match i, h1, h3 with
      | 0, h1, h3 => simp at h1; subst h1; exact .inl ⟨h2, by rw [h3]; congr 1⟩
      | i + 1, h1, h3 => exact .inr ⟨i, u, by simpa using h1, h2, by rw [h3]; congr 1; push_cast; omega⟩
theorem arrKeys_nodup : ∀ (l : List VV) (p : Nat), (arrKeys l p).Nodup
  | [], p => by simp [arrKeys]
  | v :: r, p => by
    have ih := arrKeys_nodup r (p + 1)
    by_cases hv : v = nilP
    · simpa [arrKeys, hv] using ih
    · simp only [arrKeys, hv, if_false, List.nodup_cons]
      refine ⟨fun h => ?_, ih⟩
      obtain ⟨i, u, _, _, h3⟩ := (arrKeys_mem r (p + 1) _).1 h
      unfold intP at h3
      injection h3 with _ h3
      push_cast at h3; omega
theorem arrKeys_len : ∀ (l : List VV) (p : Nat), (arrKeys l p).length ≤ l.length
  | [], p => by simp [arrKeys]
  | v :: r, p => by
    have ih := arrKeys_len r (p + 1)
    by_cases hv : v = nilP
    · simp [arrKeys, hv]; omega
    · simp [arrKeys, hv]; omega
/-- A place that a walk stands at. -/
def PlaceT (t : Tab) (p : Nat) : Prop := p ≤ t.arr.length ∨ ∃ i, p = t.arr.length + 2 * i
theorem from_rest {t : Tab} {p : Nat} (hp : PlaceT t p) : fromT t p = (restT t p).headD nilP := by
  unfold fromT restT
  rcases arrKeys_first (t.arr.drop p) p with ⟨h1, h2⟩ | ⟨i, _, _, h1, h2⟩
  · rw [h1, h2]
    simp only [List.nil_append]
    obtain ⟨i, hi⟩ : ∃ i, p - t.arr.length = 2 * i := by
      rcases hp with h | ⟨i, h⟩
      · exact ⟨0, by omega⟩
      · exact ⟨i, by omega⟩
    rw [hi, show 2 * i / 2 = i by omega, List.getD_eq_getElem?_getD]
    cases hq : t.prs[i]? with
    | none =>
      have hl := List.getElem?_eq_none_iff.1 hq
      rw [List.getElem?_eq_none (by rw [flatQ_len]; omega), List.drop_of_length_le hl]
      rfl
    | some x =>
      rw [(flatQ_at _ _ _ hq).1]
      obtain ⟨hl, e⟩ := List.getElem?_eq_some_iff.1 hq
      rw [List.drop_eq_getElem_cons hl, e]
      rfl
  · rw [h1, h2]; rfl
theorem rest_next {t : Tab} (h : Good t) {p : Nat} (hp : PlaceT t p) {x : VV} {r : List VV} (hr : restT t p = x :: r) : ∃ p', behindT t x = some p' ∧ PlaceT t p' ∧ restT t p' = r ∧ elemOk x = true := by
  unfold restT at hr
  rcases arrKeys_first (t.arr.drop p) p with ⟨h1, h2⟩ | ⟨i, hi, hl, h1, h2⟩
  · rw [h2, List.nil_append] at hr
    obtain ⟨i, hi⟩ : ∃ i, p - t.arr.length = 2 * i := by
      rcases hp with h | ⟨i, h⟩
      · exact ⟨0, by omega⟩
      · exact ⟨i, by omega⟩
    rw [hi, show 2 * i / 2 = i by omega] at hr
    cases hq : t.prs[i]? with
    | none =>
      have hl := List.getElem?_eq_none_iff.1 hq
      rw [List.drop_of_length_le hl] at hr
      cases hr
    | some y =>
      obtain ⟨hl, e⟩ := List.getElem?_eq_some_iff.1 hq
      rw [List.drop_eq_getElem_cons hl, e, List.map_cons] at hr
      injection hr with e1 e2
      have hm := h.prs y (List.mem_of_getElem? hq)
      obtain ⟨k1, k2, k3⟩ := pairOk_iff.1 hm
      subst e1
      refine ⟨t.arr.length + 2 * i + 2, ?_, .inr ⟨i + 1, by omega⟩, ?_, key_elem k1⟩
      · unfold behindT
        rw [if_neg (key_nil k1), if_neg (by rw [listed_mono (Nat.le_succ _) k3]; decide), idxQ_of h.nodup hq]
        rfl
      · unfold restT
        rw [List.drop_of_length_le (by omega), show (t.arr.length + 2 * i + 2 - t.arr.length) / 2 = i + 1 by omega]
        exact e2
  · rw [h2, List.cons_append] at hr
    injection hr with e1 e2
    rw [List.length_drop] at hl
    have hin : i < t.arr.length := by omega
    subst e1
    refine ⟨i + 1, ?_, .inl (by omega), ?_, ?_⟩
    · unfold behindT
      rw [if_neg (by unfold intP nilP; intro e; injection e with e; exact absurd e (by decide)), if_pos (listed_mk hin)]
      simp only [intP]; congr 1
    · unfold restT
      rw [List.drop_drop, show p + (i + 1 - p) = i + 1 by omega] at e2
      rw [← e2, show (i + 1 - t.arr.length) / 2 = 0 by omega, show (p - t.arr.length) / 2 = 0 by omega]
    · rw [elemOk_iff]
      refine ⟨?_, by unfold intP; simp⟩
      unfold mayP intP
      exact mayB_iff.2 (by simp)
theorem keys_mem {t : Tab} (h : Good t) (x : VV) : x ∈ restT t 0 ↔ getT t x ≠ nilP := by
  unfold restT getT
  rw [List.mem_append, Nat.zero_sub, Nat.zero_div, List.drop_zero, List.drop_zero, arrKeys_mem]
  cases hl : listedB t.arr.length x with
  | true =>
    obtain ⟨i, hx, hi, hx2⟩ := listed_int hl
    rw [if_pos rfl, hx2]
    rw [List.getD_eq_getElem?_getD, List.getElem?_eq_getElem hi, Option.getD_some]
    constructor
    · rintro (⟨j, v, h1, h2, h3⟩ | h1)
      · rw [hx] at h3
        unfold intP at h3
        injection h3 with _ h3
        have : i = j := by push_cast at h3; omega
        subst this
        rw [List.getElem?_eq_getElem hi] at h1
        injection h1 with h1
        rw [h1]; exact h2
      · obtain ⟨y, hy, e⟩ := List.mem_map.1 h1
        have := (pairOk_iff.1 (h.prs y hy)).2.2
        rw [e] at this
        rw [listed_mono (Nat.le_succ _) this] at hl
        cases hl
    · intro h1
      exact .inl ⟨i, _, List.getElem?_eq_getElem hi, h1, by rw [hx]; congr 1; push_cast; omega⟩
  | false =>
    rw [if_neg (by decide)]
    constructor
    · rintro (⟨j, v, h1, h2, h3⟩ | h1)
      · have hj := (List.getElem?_eq_some_iff.1 h1).1
        have := listed_mk hj
        rw [h3, show intP (((0 : Nat) : Int) + (j : Int) + 1) = intP ((j : Int) + 1) by simp] at hl
        rw [this] at hl
        cases hl
      · obtain ⟨y, hy, e⟩ := List.mem_map.1 h1
        obtain ⟨i, hi⟩ := List.mem_iff_getElem?.1 hy
        have hid := idxQ_of h.nodup hi
        rw [e] at hid
        rw [hid]
        simp only [List.getD_eq_getElem?_getD, hi, Option.getD_some]
        exact key_nil (pairOk_iff.1 (h.prs y hy)).2.1
    · intro h1
      cases hq : idxQ t.prs x with
      | none => rw [hq] at h1; exact absurd rfl h1
      | some i =>
        obtain ⟨v, hv⟩ := idxQ_some hq
        exact .inr (List.mem_map.2 ⟨(x, v), List.mem_of_getElem? hv, rfl⟩)
theorem keys_nodup {t : Tab} (h : Good t) : (restT t 0).Nodup := by
  unfold restT
  rw [Nat.zero_sub, Nat.zero_div, List.drop_zero, List.drop_zero]
  refine List.nodup_append.2 ⟨arrKeys_nodup _ _, h.nodup, ?_⟩
  rintro a ha b hb rfl
  obtain ⟨j, v, h1, _, h3⟩ := (arrKeys_mem _ _ _).1 ha
  obtain ⟨y, hy, e⟩ := List.mem_map.1 hb
  have hj := (List.getElem?_eq_some_iff.1 h1).1
  have k := listed_mono (Nat.le_succ _) (pairOk_iff.1 (h.prs y hy)).2.2
  rw [e, h3, show intP (((0 : Nat) : Int) + (j : Int) + 1) = intP ((j : Int) + 1) by simp, listed_mk hj] at k
  cases k
theorem keys_len (t : Tab) : (restT t 0).length ≤ t.arr.length + t.prs.length := by
  unfold restT
  rw [Nat.zero_sub, Nat.zero_div, List.drop_zero, List.drop_zero, List.length_append, List.length_map]
  have := arrKeys_len t.arr 0
  omega
theorem behind_nilT (t : Tab) : behindT t nilP = some 0 := by unfold behindT; rw [if_pos rfl]
theorem next_of {t : Tab} (h : Good t) {k : VV} (hk : elemOk k = true) {p : Nat} (hb : behindT t k = some p) : nextL (layT t) k = (fromT t p, 0) := by
  obtain ⟨h1, h2⟩ := elemOk_iff.1 hk
  unfold nextL
  rw [cutL_lay h]
  simp only
  rw [if_pos ⟨h1, h2⟩, hb]
end Go.Proofs.YtjlakolgaableaaR
