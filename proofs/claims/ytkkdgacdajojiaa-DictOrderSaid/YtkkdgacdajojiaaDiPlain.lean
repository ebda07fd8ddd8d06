/- Plain facts on a table's slots: what is put may be, is found, and loses no object. No walk, no program. -/
import Derived.Test.YtkkdgacdajojiaaBase
import Derived.Test.YtkkdgacdajojiaaDiMath
namespace Go.Proofs.Ytkkdgacdajojiaa
set_option maxRecDepth 20000
open Go.RowKit

theorem may_nil {v : VV} (h : mayP v = true) (h1 : v.1 = 1) : v = nilP := by
  obtain ⟨a, b⟩ := v
  have := mayB_iff.1 h
  simp only at h1
  subst h1
  have : b = 0 := by omega
  subst this; rfl
theorem keyP_iff {v : VV} : keyP v = true ↔ elemOk v = true ∧ v ≠ nilP := by
  rw [elemOk_iff]
  constructor
  · intro h
    have h1 := keyB_iff.1 h
    exact ⟨⟨h1.1, by omega⟩, fun e => by rw [e] at h1; exact absurd h1.2 (by decide)⟩
  · rintro ⟨⟨h1, h2⟩, h3⟩
    refine keyB_iff.2 ⟨h1, ?_⟩
    have h4 := mayB_iff.1 h1
    have h5 : v.1 ≠ 1 := fun e => h3 (may_nil h1 e)
    omega
theorem key_elem {v : VV} (h : keyP v = true) : elemOk v = true := (keyP_iff.1 h).1
theorem key_nil {v : VV} (h : keyP v = true) : v ≠ nilP := (keyP_iff.1 h).2
theorem listed_mono {n n' : Nat} (h : n' ≤ n) {k : VV} (hk : listedB n k = false) : listedB n' k = false := by
  cases e : listedB n' k with
  | false => rfl
  | true =>
    have := listedB_iff.1 e
    have h2 : listedB n k = true := listedB_iff.2 ⟨this.1, this.2.1, by omega⟩
    rw [h2] at hk; cases hk
theorem listed_int {n : Nat} {k : VV} (h : listedB n k = true) : ∃ i : Nat, k = intP (i + 1) ∧ i < n ∧ (k.2 - 1).toNat = i := by
  obtain ⟨h1, h2, h3⟩ := listedB_iff.1 h
  obtain ⟨a, b⟩ := k
  simp only at h1 h2 h3
  subst h1
  refine ⟨(b - 1).toNat, ?_, by omega, rfl⟩
  unfold intP
  congr 1; omega
theorem listed_mk {n i : Nat} (h : i < n) : listedB n (intP (i + 1)) = true := listedB_iff.2 ⟨rfl, by simp only [intP]; omega, by simp only [intP]; omega⟩
theorem not_listed_after (n : Nat) : listedB n (intP (n + 1)) = false := by
  cases e : listedB n (intP (n + 1)) with
  | false => rfl
  | true => have := (listedB_iff.1 e).2.2; simp [intP] at this; omega
theorem listed_succ {n : Nat} {k : VV} : listedB (n + 1) k = (listedB n k || decide (k = intP (n + 1))) := by
  cases e : listedB n k with
  | true =>
    have := listedB_iff.1 e
    simp
    exact listedB_iff.2 ⟨this.1, this.2.1, by omega⟩
  | false =>
    simp only [Bool.false_or]
    by_cases h : k = intP (n + 1)
    · subst h
      rw [decide_eq_true rfl]
      exact listed_mk (Nat.lt_succ_self n)
    · rw [decide_eq_false h]
      cases e2 : listedB (n + 1) k with
      | false => rfl
      | true =>
        obtain ⟨i, rfl, h2, _⟩ := listed_int e2
        by_cases h3 : i < n
        · rw [listed_mk h3] at e; cases e
        · exact absurd (by rw [show i = n by omega]) h

/-! trimA -/
theorem trim_pre : ∀ A : List VV, ∃ z, A = trimA A ++ List.replicate z nilP
  | [] => ⟨0, rfl⟩
  | v :: r => by
    obtain ⟨z, hz⟩ := trim_pre r
    unfold trimA
    split
    · rename_i h
      rw [h] at hz
      split
      · rename_i hv
        exact ⟨z + 1, by rw [hz, hv]; rfl⟩
      · exact ⟨z, by rw [hz]; rfl⟩
    · rename_i x y h
      exact ⟨z, by conv => lhs; rw [hz, h]
                   rfl⟩
theorem trim_last : ∀ A : List VV, (trimA A).getLast? ≠ some nilP
  | [] => by simp [trimA]
  | v :: r => by
    have ih := trim_last r
    unfold trimA
    split
    · split
      · simp
      · rename_i hv; simpa using hv
    · rename_i x y h
      rw [h] at ih
      simpa [List.getLast?_cons] using ih
theorem trim_id : ∀ A : List VV, A.getLast? ≠ some nilP → trimA A = A
  | [], _ => rfl
  | [v], h => by
    simp at h
    simp [trimA, h]
  | v :: x :: y, h => by
    have ih := trim_id (x :: y) (by simpa [List.getLast?_cons] using h)
    unfold trimA
    rw [ih]
theorem trim_len (A : List VV) : (trimA A).length ≤ A.length := by
  obtain ⟨z, hz⟩ := trim_pre A
  conv => rhs; rw [hz]
  simp
theorem trim_mem {A : List VV} {v : VV} (h : v ∈ trimA A) : v ∈ A := by
  obtain ⟨z, hz⟩ := trim_pre A
  rw [hz]; simp [h]
theorem trim_get (A : List VV) (i : Nat) : (trimA A).getD i nilP = A.getD i nilP := by
  obtain ⟨z, hz⟩ := trim_pre A
  conv => rhs; rw [hz]
  simp only [List.getD_eq_getElem?_getD, List.getElem?_append]
  split
  · rfl
  · rename_i h
    rw [List.getElem?_eq_none (by omega), List.getElem?_replicate]
    split <;> rfl
theorem trim_count (A : List VV) {a : VV} (ha : a ≠ nilP) : (trimA A).count a = A.count a := by
  obtain ⟨z, hz⟩ := trim_pre A
  conv => rhs; rw [hz]
  rw [List.count_append, List.count_replicate]
  have : (nilP == a) = false := beq_eq_false_iff_ne.2 (Ne.symm ha)
  simp [this]

/-! outQ -/
theorem erase_perm {α : Type} {q : List α} {i : Nat} {p : α} (h : q[i]? = some p) : q.Perm (p :: q.eraseIdx i) := by
  obtain ⟨hi, hp⟩ := List.getElem?_eq_some_iff.1 h
  rw [List.eraseIdx_eq_take_drop_succ]
  have h2 : q = q.take i ++ p :: q.drop (i + 1) := by
    rw [← hp, List.getElem_cons_drop, List.take_append_drop]
  conv => lhs; rw [h2]
  exact List.perm_middle
theorem outQ_perm {q : List (VV × VV)} {i : Nat} {p : VV × VV} (h : q[i]? = some p) : q.Perm (p :: outQ q i) := by
  obtain ⟨hi, hp⟩ := List.getElem?_eq_some_iff.1 h
  have hl : q.length - 1 < q.length := by omega
  obtain ⟨r, x, rfl⟩ : ∃ r x, q = r ++ [x] := ⟨q.dropLast, q.getLast (by rintro rfl; simp at hi), (List.dropLast_concat_getLast _).symm⟩
  have e1 : (r ++ [x]).getD ((r ++ [x]).length - 1) (nilP, nilP) = x := by simp
  unfold outQ
  rw [e1]
  by_cases hr : i < r.length
  · rw [List.set_append_left _ _ hr, List.dropLast_concat]
    rw [List.getElem_append_left hr] at hp
    subst hp
    have h2 : (r.set i x).Perm (x :: r.eraseIdx i) := by
      have := List.set_eq_take_append_cons_drop (l := r) (i := i) (a := x)
      rw [if_pos hr] at this
      rw [this, List.eraseIdx_eq_take_drop_succ]
      exact List.perm_middle
    have h3 : r.Perm (r[i] :: r.eraseIdx i) := erase_perm (List.getElem?_eq_getElem hr)
    refine (List.perm_append_comm.trans ?_)
    simp only [List.singleton_append]
    refine (h3.cons x).trans ((List.Perm.swap _ _ _).trans (h2.symm.cons _))
  · have : i = r.length := by simp at hi; omega
    subst this
    rw [List.set_append_right _ _ (Nat.le_refl _)]
    simp only [Nat.sub_self, List.set_cons_zero, List.dropLast_concat]
    simp at hp
    subst hp
    exact List.perm_append_comm
theorem out_mem {q : List (VV × VV)} {i : Nat} {p p' : VV × VV} (h : q[i]? = some p) (hm : p' ∈ outQ q i) : p' ∈ q := (outQ_perm h).mem_iff.2 (by simp [hm])
theorem out_nodup {q : List (VV × VV)} {i : Nat} {p : VV × VV} (h : q[i]? = some p) (hn : (q.map (·.1)).Nodup) : ((outQ q i).map (·.1)).Nodup ∧ p.1 ∉ (outQ q i).map (·.1) := by
  have h1 := ((outQ_perm h).map (·.1)).nodup_iff.1 hn
  simp only [List.map_cons, List.nodup_cons] at h1
  exact ⟨h1.2, h1.1⟩
theorem flat_perm {q q' : List (VV × VV)} (h : q.Perm q') : (flatQ q).Perm (flatQ q') := by
  have e : ∀ q, flatQ q = q.flatMap fun p => [p.1, p.2] := fun q => by
    induction q with
    | nil => rfl
    | cons p r ih => simp [flatQ, ih]
  rw [e, e]
  exact h.flatMap_right _
theorem flat_out_count {q : List (VV × VV)} {i : Nat} {p : VV × VV} (h : q[i]? = some p) (a : VV) : (flatQ q).count a = [p.1, p.2].count a + (flatQ (outQ q i)).count a := by
  rw [(flat_perm (outQ_perm h)).count_eq]
  simp [flatQ, List.count_cons]; omega

/-! getT -/
theorem getT_listed {t : Tab} {i : Nat} (h : i < t.arr.length) : getT t (intP (i + 1)) = t.arr.getD i nilP := by
  unfold getT
  rw [if_pos (listed_mk h)]
  congr 1
  simp [intP]
theorem getT_pair {t : Tab} {k x : VV} (hl : listedB t.arr.length k = false) (hn : (t.prs.map (·.1)).Nodup) (h : (k, x) ∈ t.prs) : getT t k = x := by
  obtain ⟨i, hi⟩ := List.getElem?_of_mem h
  unfold getT
  rw [if_neg (by simp [hl]), idxQ_of hn hi]
  simp [List.getD_eq_getElem?_getD, hi]
theorem getT_none {t : Tab} {k : VV} (hl : listedB t.arr.length k = false) (h : ∀ p ∈ t.prs, p.1 ≠ k) : getT t k = nilP := by
  unfold getT
  rw [if_neg (by simp [hl]), idxQ_none.2 h]
/-- What may be but for a pair's key that is the one behind the array. -/
structure Semi (A : List VV) (q : List (VV × VV)) : Prop where
  arr : ∀ v ∈ A, elemOk v = true
  last : A.getLast? ≠ some nilP
  prs : ∀ p ∈ q, keyP p.1 = true ∧ keyP p.2 = true ∧ listedB A.length p.1 = false
  nodup : (q.map (·.1)).Nodup
theorem Good.semi {t : Tab} (h : Good t) : Semi t.arr t.prs :=
  ⟨h.arr, h.last, fun p hp => by
    have := pairOk_iff.1 (h.prs p hp)
    exact ⟨this.1, this.2.1, listed_mono (Nat.le_succ _) this.2.2⟩, h.nodup⟩
theorem Semi.good {A : List VV} {q : List (VV × VV)} (h : Semi A q) {m : VV} (hm : metaOk m = true) (hq : ∀ p ∈ q, p.1 ≠ intP (A.length + 1)) : Good ⟨m, A, q⟩ :=
  ⟨hm, h.arr, h.last, fun p hp => pairOk_iff.2 ⟨(h.prs p hp).1, (h.prs p hp).2.1, by rw [listed_succ, (h.prs p hp).2.2, decide_eq_false (hq p hp)]; rfl⟩, h.nodup⟩
theorem Good.after {t : Tab} (h : Good t) : ∀ p ∈ t.prs, p.1 ≠ intP (t.arr.length + 1) := fun p hp e => by
  have := (pairOk_iff.1 (h.prs p hp)).2.2
  rw [listed_succ, e] at this
  simp at this
theorem Semi.step {A : List VV} {q : List (VV × VV)} (h : Semi A q) {i : Nat} (hi : idxQ q (intP (A.length + 1)) = some i) : Semi (A ++ [(q.getD i (nilP, nilP)).2]) (outQ q i) := by
  obtain ⟨v, hv⟩ := idxQ_some hi
  have hp := h.prs _ (List.mem_of_getElem? hv)
  have e1 : (q.getD i (nilP, nilP)).2 = v := by simp [List.getD_eq_getElem?_getD, hv]
  rw [e1]
  refine ⟨fun x hx => ?_, ?_, fun p hm => ?_, (out_nodup hv h.nodup).1⟩
  · rcases List.mem_append.1 hx with hx | hx
    · exact h.arr x hx
    · simp at hx; subst hx; exact key_elem hp.2.1
  · simp; exact key_nil hp.2.1
  · have h1 := h.prs p (out_mem hv hm)
    refine ⟨h1.1, h1.2.1, ?_⟩
    have h2 : p.1 ≠ intP (A.length + 1) := fun e => (out_nodup hv h.nodup).2 (List.mem_map.2 ⟨p, hm, e⟩)
    rw [List.length_append, List.length_singleton, listed_succ, h1.2.2, decide_eq_false h2]
    rfl
theorem Semi.step_get {A : List VV} {q : List (VV × VV)} (h : Semi A q) {i : Nat} (hi : idxQ q (intP (A.length + 1)) = some i) (m : VV) (k : VV) : getT ⟨m, A ++ [(q.getD i (nilP, nilP)).2], outQ q i⟩ k = getT ⟨m, A, q⟩ k := by
  obtain ⟨v, hv⟩ := idxQ_some hi
  have h2 := h.step hi
  have e1 : (q.getD i (nilP, nilP)).2 = v := by simp [List.getD_eq_getElem?_getD, hv]
  rw [e1] at h2 ⊢
  cases hl : listedB A.length k with
  | true =>
    obtain ⟨j, rfl, hj, _⟩ := listed_int hl
    rw [getT_listed (t := ⟨m, A, q⟩) hj, getT_listed (t := ⟨m, A ++ [v], outQ q i⟩) (by simp; omega)]
    simp [List.getD_eq_getElem?_getD, List.getElem?_append_left hj]
  | false =>
    by_cases hk : k = intP (A.length + 1)
    · subst hk
      rw [getT_pair (t := ⟨m, A, q⟩) hl h.nodup (List.mem_of_getElem? hv), getT_listed (t := ⟨m, A ++ [v], outQ q i⟩) (by simp)]
      simp
    · have hl2 : listedB (A ++ [v]).length k = false := by
        rw [List.length_append, List.length_singleton, listed_succ, hl, decide_eq_false hk]; rfl
      by_cases hm : ∃ x, (k, x) ∈ q
      · obtain ⟨x, hx⟩ := hm
        have hx2 : (k, x) ∈ outQ q i := by
          rcases List.mem_cons.1 ((outQ_perm hv).mem_iff.1 hx) with e | e
          · injection e with e _; exact absurd e hk
          · exact e
        rw [getT_pair (t := ⟨m, A, q⟩) hl h.nodup hx, getT_pair (t := ⟨m, A ++ [v], outQ q i⟩) hl2 h2.nodup hx2]
      · have h3 : ∀ p ∈ q, p.1 ≠ k := fun p hp e => hm ⟨p.2, by rw [← e]; exact hp⟩
        rw [getT_none (t := ⟨m, A, q⟩) hl h3, getT_none (t := ⟨m, A ++ [v], outQ q i⟩) hl2 (fun p hp => h3 p (out_mem hv hp))]
theorem long_all (m : VV) : ∀ (f : Nat) (A : List VV) (q : List (VV × VV)), Semi A q → q.length ≤ f →
    Semi (longT f A q).1 (longT f A q).2 ∧ (∀ p ∈ (longT f A q).2, p.1 ≠ intP ((longT f A q).1.length + 1)) ∧ (∀ k, getT ⟨m, (longT f A q).1, (longT f A q).2⟩ k = getT ⟨m, A, q⟩ k) ∧
    (∀ a, refP a = true → (longT f A q).1.count a + (flatQ (longT f A q).2).count a = A.count a + (flatQ q).count a) ∧ (longT f A q).1.length + (longT f A q).2.length = A.length + q.length
  | 0, A, q, h, hf => by
    have : q = [] := List.length_eq_zero_iff.1 (by omega)
    subst this
    exact ⟨h, by simp [longT], fun _ => rfl, fun _ _ => rfl, rfl⟩
  | f + 1, A, q, h, hf => by
    unfold longT
    cases hi : idxQ q (intP (A.length + 1)) with
    | none => exact ⟨h, idxQ_none.1 hi, fun _ => rfl, fun _ _ => rfl, rfl⟩
    | some i =>
      obtain ⟨v, hv⟩ := idxQ_some hi
      have hlt : i < q.length := (List.getElem?_eq_some_iff.1 hv).1
      obtain ⟨h1, h2, h3, h4, h5⟩ := long_all m f _ _ (h.step hi) (by rw [outQ_len]; omega)
      refine ⟨h1, h2, fun k => (h3 k).trans (h.step_get hi m k), fun a ha => ?_, ?_⟩
      · simp only
        rw [h4 a ha, flat_out_count hv]
        have e1 : (q.getD i (nilP, nilP)).2 = v := by simp [List.getD_eq_getElem?_getD, hv]
        have e2 : (intP (A.length + 1) == a) = false := by
          apply beq_eq_false_iff_ne.2
          rintro rfl
          have := (refB_iff.1 ha).2
          simp [intP] at this
        rw [e1]
        simp [List.count_append, List.count_cons, e2]; omega
      · simp only
        rw [h5, outQ_len, List.length_append, List.length_singleton]; omega
theorem set_getD (A : List VV) {i : Nat} (hi : i < A.length) (v : VV) (j : Nat) : (A.set i v).getD j nilP = if j = i then v else A.getD j nilP := by
  simp only [List.getD_eq_getElem?_getD, List.getElem?_set]
  by_cases h : j = i
  · subst h; simp [hi]
  · rw [if_neg (Ne.symm h), if_neg h]
theorem Good.append {t : Tab} (h : Good t) {v : VV} (hv : keyP v = true) : Semi (t.arr ++ [v]) t.prs :=
  ⟨fun x hx => by
    rcases List.mem_append.1 hx with hx | hx
    · exact h.arr x hx
    · simp at hx; subst hx; exact key_elem hv, by simp; exact key_nil hv, fun p hp => by
    have := pairOk_iff.1 (h.prs p hp)
    exact ⟨this.1, this.2.1, by rw [List.length_append, List.length_singleton]; exact this.2.2⟩, h.nodup⟩
theorem set_keys {q : List (VV × VV)} {i : Nat} {k x v : VV} (h : q[i]? = some (k, x)) : (q.set i (k, v)).map (·.1) = q.map (·.1) := by
  apply List.ext_getElem?
  intro j
  simp only [List.getElem?_map, List.getElem?_set]
  by_cases hj : i = j
  · subst hj
    have hl : i < q.length := (List.getElem?_eq_some_iff.1 h).1
    rw [if_pos rfl, if_pos hl, h]; rfl
  · rw [if_neg hj]
/-- What is put may be; it is found; all other keys have what they had; no object is lost. -/
theorem put_all {t : Tab} (h : Good t) {k v : VV} (hk : keyP k = true) (hv : elemOk v = true) :
    Good (putT t k v).1 ∧ (∀ k', getT (putT t k v).1 k' = if k' = k then v else getT t k') ∧
    (∀ a, refP a = true → (layT (putT t k v).1).count a + (putT t k v).2.count a = (layT t).count a + [k, v].count a) := by
  have cobj : ∀ (l : List VV) (a : VV), refP a = true → (objsL l).count a = l.count a := fun l a ha => by
    unfold objsL; rw [List.count_filter ha]
  have cint : ∀ (n : Int) (a : VV), refP a = true → (intP n == a) = false := fun n a ha => by
    apply beq_eq_false_iff_ne.2
    rintro rfl
    have := (refB_iff.1 ha).2
    simp [intP] at this
  have cnil : ∀ (a : VV), refP a = true → a ≠ nilP := fun a ha e => by
    subst e
    exact absurd ha (by decide)
  have clay : ∀ (t : Tab) (a : VV), refP a = true → (layT t).count a = [t.meta_].count a + (t.arr.count a + (flatQ t.prs).count a) := fun t a ha => by
    unfold layT
    have := cint t.arr.length a ha
    unfold intP at this
    simp only [List.count_cons, List.count_append, this, List.count_nil]
    simp
    omega
  unfold putT
  cases hl : listedB t.arr.length k with
  | true =>
    obtain ⟨i, rfl, hi, ei⟩ := listed_int hl
    simp only [if_true, ei]
    have hs := h.semi
    have hok : ∀ x ∈ t.arr.set i v, elemOk x = true := fun x hx => by
      rcases List.mem_or_eq_of_mem_set hx with hx | rfl
      · exact h.arr x hx
      · exact hv
    have hle : (trimA (t.arr.set i v)).length ≤ t.arr.length := by have := trim_len (t.arr.set i v); simpa using this
    refine ⟨⟨h.head, fun x hx => hok x (trim_mem hx), trim_last _, fun p hp => ?_, h.nodup⟩, fun k' => ?_, fun a ha => ?_⟩
    · have := pairOk_iff.1 (h.prs p hp)
      exact pairOk_iff.2 ⟨this.1, this.2.1, listed_mono (by simp only; omega) this.2.2⟩
    · cases hl2 : listedB t.arr.length k' with
      | true =>
        obtain ⟨j, rfl, hj, ej⟩ := listed_int hl2
        rw [getT_listed hj]
        have e0 : (intP (j + 1) = intP (i + 1)) ↔ j = i := by simp [intP]; omega
        have e1 := set_getD t.arr hi v j
        by_cases hj2 : j < (trimA (t.arr.set i v)).length
        · rw [getT_listed (t := ⟨_, trimA (t.arr.set i v), _⟩) hj2, trim_get, e1]
          simp only [e0]
        · have e2 := trim_get (t.arr.set i v) j
          rw [List.getD_eq_getElem?_getD, List.getElem?_eq_none (by omega), e1] at e2
          rw [getT_none (t := ⟨_, trimA (t.arr.set i v), _⟩)]
          · simp only [e0]; exact e2
          · cases e3 : listedB (trimA (t.arr.set i v)).length (intP (j + 1)) with
            | false => rfl
            | true =>
              obtain ⟨j', e4, hj', _⟩ := listed_int e3
              have : j = j' := by simp [intP] at e4; omega
              omega
          · intro p hp e
            have := (hs.prs p hp).2.2
            rw [e, hl2] at this; cases this
      | false =>
        have hne : k' ≠ intP (i + 1) := fun e => by rw [e, hl] at hl2; cases hl2
        rw [if_neg hne]
        have hl3 := listed_mono hle hl2
        by_cases hm : ∃ x, (k', x) ∈ t.prs
        · obtain ⟨x, hx⟩ := hm
          rw [getT_pair hl2 h.nodup hx, getT_pair (t := ⟨_, trimA (t.arr.set i v), _⟩) hl3 h.nodup hx]
        · have h3 : ∀ p ∈ t.prs, p.1 ≠ k' := fun p hp e => hm ⟨p.2, by rw [← e]; exact hp⟩
          rw [getT_none hl2 h3, getT_none (t := ⟨_, trimA (t.arr.set i v), _⟩) hl3 h3]
    · rw [clay _ a ha, clay _ a ha, cobj _ a ha, trim_count _ (cnil a ha)]
      have e1 : (t.arr.set i v).count a + [t.arr.getD i nilP].count a = t.arr.count a + [v].count a := by
        have h1 := List.set_eq_take_append_cons_drop (l := t.arr) (i := i) (a := v)
        rw [if_pos hi] at h1
        have h2 : t.arr = t.arr.take i ++ t.arr.getD i nilP :: t.arr.drop (i + 1) := by
          rw [List.getD_eq_getElem?_getD, List.getElem?_eq_getElem hi, Option.getD_some, List.getElem_cons_drop, List.take_append_drop]
        rw [h1]
        conv => rhs; lhs; rw [h2]
        simp only [List.count_append, List.count_cons, List.count_nil]
        omega
      have e2 := cint (i + 1) a ha
      simp only [List.count_cons, e2, List.count_nil, Bool.false_eq_true, if_false] at e1 ⊢
      omega
  | false =>
    simp only [Bool.false_eq_true, if_false]
    cases hi : idxQ t.prs k with
    | some i =>
      obtain ⟨x, hx⟩ := idxQ_some hi
      have hlt : i < t.prs.length := (List.getElem?_eq_some_iff.1 hx).1
      have e1 : (t.prs.getD i (nilP, nilP)).2 = x := by simp [List.getD_eq_getElem?_getD, hx]
      simp only [e1]
      by_cases hvn : v = nilP
      · rw [if_pos hvn]
        simp only
        have hn := out_nodup hx h.nodup
        refine ⟨⟨h.head, h.arr, h.last, fun p hp => h.prs p (out_mem hx hp), hn.1⟩, fun k' => ?_, fun a ha => ?_⟩
        · by_cases hkk : k' = k
          · subst hkk
            rw [if_pos rfl, hvn]
            exact getT_none (t := ⟨_, t.arr, outQ t.prs i⟩) hl (fun p hp e => hn.2 (List.mem_map.2 ⟨p, hp, e⟩))
          · rw [if_neg hkk]
            cases hl2 : listedB t.arr.length k' with
            | true =>
              obtain ⟨j, rfl, hj, _⟩ := listed_int hl2
              rw [getT_listed hj, getT_listed (t := ⟨_, t.arr, outQ t.prs i⟩) hj]
            | false =>
              by_cases hm : ∃ y, (k', y) ∈ t.prs
              · obtain ⟨y, hy⟩ := hm
                have hy2 : (k', y) ∈ outQ t.prs i := by
                  rcases List.mem_cons.1 ((outQ_perm hx).mem_iff.1 hy) with e | e
                  · injection e with e _; exact absurd e hkk
                  · exact e
                rw [getT_pair hl2 h.nodup hy, getT_pair (t := ⟨_, t.arr, outQ t.prs i⟩) hl2 hn.1 hy2]
              · have h3 : ∀ p ∈ t.prs, p.1 ≠ k' := fun p hp e => hm ⟨p.2, by rw [← e]; exact hp⟩
                rw [getT_none hl2 h3, getT_none (t := ⟨_, t.arr, outQ t.prs i⟩) hl2 (fun p hp => h3 p (out_mem hx hp))]
        · rw [clay _ a ha, clay _ a ha, cobj _ a ha, flat_out_count hx]
          have e3 : (v == a) = false := beq_eq_false_iff_ne.2 (fun e => cnil a ha (by rw [← e, hvn]))
          simp only [List.count_cons, List.count_nil, e3]
          simp
          omega
      · rw [if_neg hvn]
        simp only
        have hkey := set_keys (v := v) hx
        refine ⟨⟨h.head, h.arr, h.last, fun p hp => ?_, by simp only; rw [hkey]; exact h.nodup⟩, fun k' => ?_, fun a ha => ?_⟩
        · rcases List.mem_or_eq_of_mem_set hp with hp | rfl
          · exact h.prs p hp
          · have := pairOk_iff.1 (h.prs _ (List.mem_of_getElem? hx))
            exact pairOk_iff.2 ⟨this.1, keyP_iff.2 ⟨hv, hvn⟩, this.2.2⟩
        · have hn2 : ((t.prs.set i (k, v)).map (·.1)).Nodup := by rw [hkey]; exact h.nodup
          by_cases hkk : k' = k
          · subst hkk
            rw [if_pos rfl]
            exact getT_pair (t := ⟨_, t.arr, t.prs.set i (k', v)⟩) hl hn2 (List.mem_set hlt _)
          · rw [if_neg hkk]
            cases hl2 : listedB t.arr.length k' with
            | true =>
              obtain ⟨j, rfl, hj, _⟩ := listed_int hl2
              rw [getT_listed hj, getT_listed (t := ⟨_, t.arr, t.prs.set i (k, v)⟩) hj]
            | false =>
              by_cases hm : ∃ y, (k', y) ∈ t.prs
              · obtain ⟨y, hy⟩ := hm
                have hy2 : (k', y) ∈ t.prs.set i (k, v) := by
                  obtain ⟨j, hj⟩ := List.getElem?_of_mem hy
                  refine List.mem_of_getElem? (i := j) ?_
                  rw [List.getElem?_set_ne, hj]
                  rintro rfl
                  rw [hx] at hj; injection hj with hj; injection hj with hj _; exact hkk hj.symm
                rw [getT_pair hl2 h.nodup hy, getT_pair (t := ⟨_, t.arr, t.prs.set i (k, v)⟩) hl2 hn2 hy2]
              · have h3 : ∀ p ∈ t.prs, p.1 ≠ k' := fun p hp e => hm ⟨p.2, by rw [← e]; exact hp⟩
                rw [getT_none hl2 h3, getT_none (t := ⟨_, t.arr, t.prs.set i (k, v)⟩) hl2 (fun p hp => by
                  rcases List.mem_or_eq_of_mem_set hp with hp | rfl
                  · exact h3 p hp
                  · exact Ne.symm hkk)]
        · rw [clay _ a ha, clay _ a ha, cobj _ a ha]
          have h1 : (t.prs.set i (k, v)).Perm ((k, v) :: t.prs.eraseIdx i) := by
            have h1 := List.set_eq_take_append_cons_drop (l := t.prs) (i := i) (a := (k, v))
            rw [if_pos hlt] at h1
            rw [h1, List.eraseIdx_eq_take_drop_succ]
            exact List.perm_middle
          have h2 : t.prs.Perm ((k, x) :: t.prs.eraseIdx i) := erase_perm hx
          rw [(flat_perm h1).count_eq, (flat_perm h2).count_eq]
          simp only [flatQ, List.count_cons, List.count_nil]
          omega
    | none =>
      have hno := idxQ_none.1 hi
      simp only
      have g0 := getT_none hl hno
      by_cases hvn : v = nilP
      · rw [if_pos hvn]
        refine ⟨h, fun k' => ?_, fun a ha => ?_⟩
        · by_cases hkk : k' = k
          · subst hkk; rw [if_pos rfl, g0, hvn]
          · rw [if_neg hkk]
        · rw [cobj _ a ha]
          have e3 : (v == a) = false := beq_eq_false_iff_ne.2 (fun e => cnil a ha (by rw [← e, hvn]))
          simp only [List.count_cons, List.count_nil, e3]
          simp
      · rw [if_neg hvn]
        have hvk : keyP v = true := keyP_iff.2 ⟨hv, hvn⟩
        by_cases hka : k = intP (t.arr.length + 1)
        · rw [if_pos hka]
          simp only
          have hs := h.append hvk
          obtain ⟨l1, l2, l3, l4, _⟩ := long_all t.meta_ t.prs.length (t.arr ++ [v]) t.prs hs (Nat.le_refl _)
          refine ⟨l1.good h.head l2, fun k' => ?_, fun a ha => ?_⟩
          · rw [l3]
            by_cases hkk : k' = k
            · subst hkk
              rw [if_pos rfl, hka, getT_listed (t := ⟨_, t.arr ++ [v], _⟩) (by simp)]
              simp
            · rw [if_neg hkk]
              cases hl2 : listedB t.arr.length k' with
              | true =>
                obtain ⟨j, rfl, hj, _⟩ := listed_int hl2
                rw [getT_listed hj, getT_listed (t := ⟨_, t.arr ++ [v], _⟩) (by simp; omega)]
                simp [List.getD_eq_getElem?_getD, List.getElem?_append_left hj]
              | false =>
                have hl3 : listedB (t.arr ++ [v]).length k' = false := by
                  rw [List.length_append, List.length_singleton, listed_succ, hl2, decide_eq_false (by rw [← hka]; exact hkk)]; rfl
                by_cases hm : ∃ y, (k', y) ∈ t.prs
                · obtain ⟨y, hy⟩ := hm
                  rw [getT_pair hl2 h.nodup hy, getT_pair (t := ⟨_, t.arr ++ [v], _⟩) hl3 h.nodup hy]
                · have h3 : ∀ p ∈ t.prs, p.1 ≠ k' := fun p hp e => hm ⟨p.2, by rw [← e]; exact hp⟩
                  rw [getT_none hl2 h3, getT_none (t := ⟨_, t.arr ++ [v], _⟩) hl3 h3]
          · rw [clay _ a ha, clay _ a ha]
            simp only
            rw [l4 a ha, hka]
            have e2 := cint (t.arr.length + 1) a ha
            simp only [List.count_append, List.count_cons, List.count_nil, e2]
            simp
            omega
        · rw [if_neg hka]
          simp only
          refine ⟨⟨h.head, h.arr, h.last, fun p hp => ?_, ?_⟩, fun k' => ?_, fun a ha => ?_⟩
          · rcases List.mem_append.1 hp with hp | hp
            · exact h.prs p hp
            · simp at hp; subst hp
              exact pairOk_iff.2 ⟨hk, hvk, by rw [listed_succ, hl, decide_eq_false hka]; rfl⟩
          · simp only [List.map_append, List.map_cons, List.map_nil]
            rw [List.nodup_append]
            refine ⟨h.nodup, by simp, fun a ha b hb => ?_⟩
            simp at hb; subst hb
            obtain ⟨p, hp, rfl⟩ := List.mem_map.1 ha
            exact hno p hp
          · have hn2 : ((t.prs ++ [(k, v)]).map (·.1)).Nodup := by
              simp only [List.map_append, List.map_cons, List.map_nil]
              rw [List.nodup_append]
              refine ⟨h.nodup, by simp, fun a ha b hb => ?_⟩
              simp at hb; subst hb
              obtain ⟨p, hp, rfl⟩ := List.mem_map.1 ha
              exact hno p hp
            by_cases hkk : k' = k
            · subst hkk
              rw [if_pos rfl]
              exact getT_pair (t := ⟨_, t.arr, t.prs ++ [(k', v)]⟩) hl hn2 (by simp)
            · rw [if_neg hkk]
              cases hl2 : listedB t.arr.length k' with
              | true =>
                obtain ⟨j, rfl, hj, _⟩ := listed_int hl2
                rw [getT_listed hj, getT_listed (t := ⟨_, t.arr, t.prs ++ [(k, v)]⟩) hj]
              | false =>
                by_cases hm : ∃ y, (k', y) ∈ t.prs
                · obtain ⟨y, hy⟩ := hm
                  rw [getT_pair hl2 h.nodup hy, getT_pair (t := ⟨_, t.arr, t.prs ++ [(k, v)]⟩) hl2 hn2 (List.mem_append_left _ hy)]
                · have h3 : ∀ p ∈ t.prs, p.1 ≠ k' := fun p hp e => hm ⟨p.2, by rw [← e]; exact hp⟩
                  rw [getT_none hl2 h3, getT_none (t := ⟨_, t.arr, t.prs ++ [(k, v)]⟩) hl2 (fun p hp => by
                    rcases List.mem_append.1 hp with hp | hp
                    · exact h3 p hp
                    · simp at hp; subst hp; exact Ne.symm hkk)]
          · rw [clay _ a ha, clay _ a ha]
            simp only [flatQ_append, List.count_append, flatQ, List.count_cons, List.count_nil]
            omega
end Go.Proofs.Ytkkdgacdajojiaa
