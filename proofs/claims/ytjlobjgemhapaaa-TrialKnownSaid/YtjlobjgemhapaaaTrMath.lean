/- Plain words on trial: what is looked at, what is followed and in which order, what is white. No walk, no program. -/
import Derived.Test.YtjlobjgemhapaaaOldG
namespace Go.Proofs.Ytjlobjgemhapaaa
set_option maxRecDepth 20000

/-- Is n the number of an object that is no string? -/
def looksB (g : List OB) (n : Int) : Bool := decide (1 ≤ n) && match g[(n - 1).toNat]? with
  | some o => decide (5 < o.kind)
  | none => false
/-- What slots hold but strings. -/
def heldS (l : List (Int × Int)) : List Int := (l.filter fun p => decide (5 < p.1)).map (·.2)
def heldG (g : List OB) (n : Int) : List Int := match g[(n - 1).toNat]? with
  | some o => heldS o.slots
  | none => []
theorem looks_at {g : List OB} {k : Nat} {o : OB} (h : g[k]? = some o) : looksB g ((k : Int) + 1) = decide (5 < o.kind) := by
  unfold looksB
  rw [show ((k : Int) + 1 - 1).toNat = k by omega, h, decide_eq_true (show 1 ≤ (k : Int) + 1 by omega)]
  rfl
theorem heldG_at {g : List OB} {k : Nat} {o : OB} (h : g[k]? = some o) : heldG g ((k : Int) + 1) = heldS o.slots := by
  unfold heldG
  rw [show ((k : Int) + 1 - 1).toNat = k by omega, h]
theorem looks_iff {g : List OB} {n : Int} : looksB g n = true ↔ ∃ (k : Nat) (o : OB), n = (k : Int) + 1 ∧ g[k]? = some o ∧ 5 < o.kind := by
  constructor
  · intro h
    unfold looksB at h
    rw [Bool.and_eq_true, decide_eq_true_iff] at h
    obtain ⟨h1, h2⟩ := h
    cases ho : g[(n - 1).toNat]? with
    | none => rw [ho] at h2; cases h2
    | some o => rw [ho] at h2; exact ⟨(n - 1).toNat, o, by omega, ho, by simpa using h2⟩
  · rintro ⟨k, o, rfl, ho, hk⟩
    rw [looks_at ho]
    exact decide_eq_true hk
theorem looks_range {g : List OB} {n : Int} (h : looksB g n = true) : 1 ≤ n ∧ n ≤ g.length := by
  obtain ⟨k, o, rfl, ho, _⟩ := looks_iff.1 h
  have := (List.getElem?_eq_some_iff.1 ho).1
  omega
/-- What is there, of a graph that may be. -/
def OkP (g : List OB) (n : Int) : Prop := checkB g = true ∧ looksB g n = true
theorem slot_may {g : List OB} (hg : checkB g = true) {o : OB} (ho : o ∈ g) {p : Int × Int} (hp : p ∈ o.slots) : slotB g p = true := by
  unfold checkB at hg
  have h := List.all_eq_true.1 hg o ho
  simp only [objOk, Bool.and_eq_true] at h
  obtain ⟨_, hs⟩ := h
  unfold slotsOk at hs
  split at hs
  · have : o.slots = [] := List.length_eq_zero_iff.1 (by simpa using hs)
    rw [this] at hp; cases hp
  · exact List.all_eq_true.1 hs p hp
theorem slot_range {g : List OB} (hg : checkB g = true) {o : OB} (ho : o ∈ g) {p : Int × Int} (hp : p ∈ o.slots) (h5 : 5 < p.1) : 1 ≤ p.2 ∧ p.2 ≤ 2147483647 := by
  have h := slot_may hg ho hp
  simp only [slotB, Bool.and_eq_true] at h
  have := mayB_iff.1 h.1.1
  omega
theorem slot_looks {g : List OB} (hg : checkB g = true) {o : OB} (ho : o ∈ g) {p : Int × Int} (hp : p ∈ o.slots) (h5 : 5 < p.1) : looksB g p.2 = true := by
  have h := slot_may hg ho hp
  simp only [slotB, Bool.and_eq_true, Bool.or_eq_true] at h
  obtain ⟨⟨hm, _⟩, h3⟩ := h
  have hm' := mayB_iff.1 hm
  rcases h3 with h3 | h3
  · have : refB p.1 p.2 = true := refB_iff.2 ⟨hm, by omega⟩
    rw [this] at h3; cases h3
  · unfold thereB at h3
    cases hy : g[(p.2 - 1).toNat]? with
    | none => rw [hy] at h3; cases h3
    | some y =>
      rw [hy] at h3
      have e : y.kind = p.1 := by simpa using h3
      exact looks_iff.2 ⟨(p.2 - 1).toNat, y, by omega, hy, by omega⟩
theorem heldG_ok {g : List OB} (hg : checkB g = true) {n x : Int} (h : x ∈ heldG g n) : OkP g x := by
  unfold heldG at h
  cases ho : g[(n - 1).toNat]? with
  | none => rw [ho] at h; cases h
  | some o =>
    rw [ho] at h
    obtain ⟨p, hp, rfl⟩ := List.mem_map.1 h
    obtain ⟨h1, h2⟩ := List.mem_filter.1 hp
    exact ⟨hg, slot_looks hg (List.mem_of_getElem? ho) h1 (by simpa using h2)⟩
/-- What slots hold, but strings, as objects' references. -/
theorem heldS_refs {g : List OB} (hg : checkB g = true) {o : OB} (ho : o ∈ g) : heldS o.slots = (refsL o.slots).filter (looksB g) := by
  unfold heldS refsL
  rw [List.filter_map, List.filter_filter]
  congr 1
  refine List.filter_congr fun p hp => ?_
  have hs := slot_may hg ho hp
  rw [Bool.eq_iff_iff]
  simp only [decide_eq_true_eq, Bool.and_eq_true, Function.comp]
  constructor
  · intro h5
    refine ⟨slot_looks hg ho hp h5, refB_iff.2 ⟨?_, by omega⟩⟩
    simp only [slotB, Bool.and_eq_true] at hs
    exact hs.1.1
  · rintro ⟨h1, h2⟩
    simp only [slotB, Bool.and_eq_true, Bool.or_eq_true] at hs
    obtain ⟨_, h3⟩ := hs
    rcases h3 with h3 | h3
    · rw [h2] at h3; cases h3
    · unfold thereB at h3
      obtain ⟨k, y, e, hy, h5⟩ := looks_iff.1 h1
      rw [e, show ((k : Int) + 1 - 1).toNat = k by omega, hy] at h3
      have : y.kind = p.1 := by simpa using h3
      omega
theorem heldS_take {l : List (Int × Int)} {k : Nat} {p : Int × Int} (h : l[k]? = some p) : heldS (l.take (k + 1)) = heldS (l.take k) ++ if 5 < p.1 then [p.2] else [] := by
  unfold heldS
  rw [List.take_add_one, h, List.filter_append, List.map_append]
  congr 1
  by_cases e : 5 < p.1 <;> simp [e]
theorem heldS_len (l : List (Int × Int)) : (heldS l).length ≤ l.length := by unfold heldS; rw [List.length_map]; exact List.length_filter_le _ _

/-! Following -/
def meetL (whom : Int → Bool) (met l : List Int) : List Int := l.foldl (fun m n => if n ∈ m ∨ whom n = false then m else m ++ [n]) met
theorem meet_take {whom : Int → Bool} {met l : List Int} {k : Nat} {n : Int} (h : l[k]? = some n) : meetL whom met (l.take (k + 1)) = if n ∈ meetL whom met (l.take k) ∨ whom n = false then meetL whom met (l.take k) else meetL whom met (l.take k) ++ [n] := by
  unfold meetL
  rw [List.take_add_one, h, List.foldl_append]
  rfl
theorem meet_cons (whom : Int → Bool) (met : List Int) (n : Int) (l : List Int) : meetL whom met (n :: l) = meetL whom (if n ∈ met ∨ whom n = false then met else met ++ [n]) l := rfl
theorem meet_mem {whom : Int → Bool} : ∀ {l met : List Int} {m : Int}, m ∈ meetL whom met l ↔ m ∈ met ∨ (m ∈ l ∧ whom m = true)
  | [], met, m => by simp [meetL]
  | n :: l, met, m => by
    rw [meet_cons, meet_mem]
    by_cases e : n ∈ met ∨ whom n = false
    · rw [if_pos e]
      constructor
      · rintro (h | ⟨h, h2⟩)
        · exact .inl h
        · exact .inr ⟨by simp [h], h2⟩
      · rintro (h | ⟨h, h2⟩)
        · exact .inl h
        · rcases List.mem_cons.1 h with rfl | h
          · rcases e with e | e
            · exact .inl e
            · rw [e] at h2; cases h2
          · exact .inr ⟨h, h2⟩
    · rw [if_neg e]
      have e1 : ¬ n ∈ met := fun h => e (.inl h)
      have e2 : whom n = true := by
        cases h : whom n
        · exact absurd (.inr h) e
        · rfl
      rw [List.mem_append]
      constructor
      · rintro ((h | h) | ⟨h, h2⟩)
        · exact .inl h
        · simp at h; subst h; exact .inr ⟨by simp, e2⟩
        · exact .inr ⟨by simp [h], h2⟩
      · rintro (h | ⟨h, h2⟩)
        · exact .inl (.inl h)
        · rcases List.mem_cons.1 h with rfl | h
          · exact .inl (.inr (by simp))
          · exact .inr ⟨h, h2⟩
theorem meet_nodup {whom : Int → Bool} : ∀ {l met : List Int}, met.Nodup → (meetL whom met l).Nodup
  | [], _, h => h
  | n :: l, met, h => by
    rw [meet_cons]
    refine meet_nodup ?_
    by_cases e : n ∈ met ∨ whom n = false
    · rw [if_pos e]; exact h
    · rw [if_neg e]
      have e1 : ¬ n ∈ met := fun h => e (.inl h)
      rw [List.nodup_append]
      refine ⟨h, by simp, fun a ha b hb => ?_⟩
      simp at hb
      subst hb
      rintro rfl
      exact e1 ha
theorem meet_prefix {whom : Int → Bool} : ∀ {l met : List Int}, met <+: meetL whom met l
  | [], _ => List.prefix_rfl
  | n :: l, met => by
    rw [meet_cons]
    refine List.IsPrefix.trans ?_ meet_prefix
    split
    · exact List.prefix_rfl
    · exact List.prefix_append _ _
def followF (g : List OB) (whom : Int → Bool) : Nat → Nat → List Int → List Int
  | 0, _, met => met
  | f + 1, i, met => match met[i]? with
    | none => met
    | some n => followF g whom f (i + 1) (meetL whom met (heldG g n))
def followL (g : List OB) (whom : Int → Bool) (first : List Int) : List Int := followF g whom (g.length + 1) 0 (meetL whom [] first)
theorem followF_end {g : List OB} {whom : Int → Bool} {f i : Nat} {met : List Int} (h : met.length ≤ i) : followF g whom f i met = met := by
  cases f with
  | zero => rfl
  | succ f => unfold followF; rw [List.getElem?_eq_none h]
theorem followF_step {g : List OB} {whom : Int → Bool} {f i : Nat} {met : List Int} {n : Int} (h : met[i]? = some n) : followF g whom (f + 1) i met = followF g whom f (i + 1) (meetL whom met (heldG g n)) := by
  rw [followF, h]
/-- Numbers of objects, each once: no more than there are objects. -/
theorem nums_short {N : Nat} {l : List Int} (hd : l.Nodup) (h : ∀ x ∈ l, 1 ≤ x ∧ x ≤ N) : l.length ≤ N := by
  have := nodup_short N (l.map fun x => (x - 1).toNat) (by
    rw [List.pairwise_map]
    refine (List.Pairwise.imp_of_mem (fun {a b} ha hb hne => ?_) hd)
    have := h a ha
    have := h b hb
    omega) (fun x hx => by
    obtain ⟨a, ha, rfl⟩ := List.mem_map.1 hx
    have := h a ha
    omega)
  rwa [List.length_map] at this
inductive Fol (g : List OB) (whom : Int → Bool) (first : List Int) : Int → Prop
  | root {n : Int} : n ∈ first → whom n = true → Fol g whom first n
  | step {n x : Int} : Fol g whom first n → x ∈ heldG g n → whom x = true → Fol g whom first x
theorem Fol.whom {g : List OB} {whom : Int → Bool} {first : List Int} {n : Int} (h : Fol g whom first n) : whom n = true := by cases h <;> assumption
theorem followF_spec {g : List OB} {whom : Int → Bool} {first : List Int} (hw : ∀ n, Fol g whom first n → 1 ≤ n ∧ n ≤ g.length) :
    ∀ (f i : Nat) (met : List Int), g.length + 1 ≤ f + i → i ≤ met.length → met.Nodup → (∀ n ∈ met, Fol g whom first n) → (∀ n ∈ first, whom n = true → n ∈ met) → (∀ (j : Nat) n x, j < i → met[j]? = some n → x ∈ heldG g n → whom x = true → x ∈ met) →
      (followF g whom f i met).Nodup ∧ (∀ n, n ∈ followF g whom f i met ↔ Fol g whom first n)
  | 0, i, met, hf, hi, hd, hm, h1, h2 => by
    have := nums_short hd (fun x hx => hw x (hm x hx))
    omega
  | f + 1, i, met, hf, hi, hd, hm, h1, h2 => by
    rcases Nat.lt_or_ge i met.length with hlt | hge
    · obtain ⟨n, hn⟩ : ∃ n, met[i]? = some n := ⟨_, List.getElem?_eq_getElem hlt⟩
      rw [followF_step hn]
      have hnm := hm n (List.mem_of_getElem? hn)
      have hp : met <+: meetL whom met (heldG g n) := meet_prefix
      refine followF_spec hw f (i + 1) _ (by omega) ?_ (meet_nodup hd) ?_ ?_ ?_
      · have := hp.length_le; omega
      · intro m hm2
        rcases meet_mem.1 hm2 with h | ⟨h, h3⟩
        · exact hm m h
        · exact .step hnm h h3
      · intro m h h3; exact hp.subset (h1 m h h3)
      · intro j m x hj hjm hx h3
        have hjl : j < met.length := by omega
        have hjm' : met[j]? = some m := by
          obtain ⟨t, ht⟩ := hp
          rw [← ht, List.getElem?_append_left hjl] at hjm
          exact hjm
        by_cases e : j = i
        · subst e
          rw [hn] at hjm'
          injection hjm' with hjm'
          subst hjm'
          exact meet_mem.2 (.inr ⟨hx, h3⟩)
        · exact hp.subset (h2 j m x (by omega) hjm' hx h3)
    · rw [followF_end hge]
      refine ⟨hd, fun n => ⟨hm n, fun h => ?_⟩⟩
      induction h with
      | root h h3 => exact h1 _ h h3
      | step _ hx h3 ih =>
        obtain ⟨j, hj⟩ := List.getElem?_of_mem ih
        exact h2 j _ _ (by have := (List.getElem?_eq_some_iff.1 hj).1; omega) hj hx h3
theorem follow_spec {g : List OB} {whom : Int → Bool} {first : List Int} (hw : ∀ n, Fol g whom first n → 1 ≤ n ∧ n ≤ g.length) : (followL g whom first).Nodup ∧ ∀ n, n ∈ followL g whom first ↔ Fol g whom first n := by
  refine followF_spec hw _ _ _ (by omega) (Nat.zero_le _) (meet_nodup List.nodup_nil) (fun n hn => ?_) (fun n hn h => meet_mem.2 (.inr ⟨hn, h⟩)) (fun j n x hj => absurd hj (Nat.not_lt_zero _))
  rcases meet_mem.1 hn with h | ⟨h, h3⟩
  · cases h
  · exact .root h h3
theorem follow_len {g : List OB} {whom : Int → Bool} {first : List Int} (hw : ∀ n, Fol g whom first n → 1 ≤ n ∧ n ≤ g.length) : (followL g whom first).length ≤ g.length :=
  nums_short (follow_spec hw).1 (fun x hx => hw x (((follow_spec hw).2 x).1 hx))

/-! Seen, white, gone -/
def seenL (g : List OB) (cands : List Int) : List Int := if checkB g then followL g (looksB g) cands else []
theorem seen_fol {g : List OB} (hg : checkB g = true) (cands : List Int) : (seenL g cands).Nodup ∧ ∀ n, n ∈ seenL g cands ↔ Fol g (looksB g) cands n := by
  unfold seenL; rw [if_pos hg]
  exact follow_spec fun n h => looks_range h.whom
theorem seen_ok {g : List OB} {cands : List Int} {n : Int} (h : n ∈ seenL g cands) : OkP g n := by
  by_cases hg : checkB g = true
  · exact ⟨hg, (((seen_fol hg cands).2 n).1 h).whom⟩
  · unfold seenL at h; rw [if_neg hg] at h; cases h
theorem seen_nodup (g : List OB) (cands : List Int) : (seenL g cands).Nodup := by
  by_cases hg : checkB g = true
  · exact (seen_fol hg cands).1
  · unfold seenL; rw [if_neg hg]; exact List.nodup_nil
theorem seen_len (g : List OB) (cands : List Int) : (seenL g cands).length ≤ g.length :=
  nums_short (seen_nodup g cands) fun _ hx => looks_range (seen_ok hx).2
def countG (g : List OB) (n : Int) : Int := match g[(n - 1).toNat]? with
  | some o => o.count
  | none => 0
def markG (g : List OB) (n : Int) : Int := match g[(n - 1).toNat]? with
  | some o => o.mark
  | none => 0
def outL (g : List OB) (S : List Int) : List Int := S.filter fun n => decide (countG g n > cntF (S.flatMap (heldG g)) n)
def blackL (g : List OB) (cands : List Int) : List Int := followL g (looksB g) (outL g (seenL g cands))
def whiteU (g : List OB) (cands : List Int) : List Int := (seenL g cands).filter fun n => cntF (blackL g cands) n == 0
def sortI (l : List Int) : List Int := l.mergeSort fun x y => decide (x ≤ y)
def whiteL (g : List OB) (cands : List Int) : List Int := sortI (whiteU g cands)
theorem cnt_zero {l : List Int} (hl : l.length ≤ 4194304) (n : Int) : (cntF l n == 0) = decide (n ∉ l) := by
  have h1 : l.count n ≤ l.length := List.count_le_length
  have : cntF l n = l.count n := by unfold cntF; exact w64_id ⟨by omega, by omega⟩
  rw [this, Bool.eq_iff_iff, beq_iff_eq, decide_eq_true_iff, ← List.count_eq_zero]
  omega
theorem cnt_pos {l : List Int} (hl : l.length ≤ 4194304) (n : Int) : decide (cntF l n > 0) = decide (n ∈ l) := by
  have h1 : l.count n ≤ l.length := List.count_le_length
  have : cntF l n = l.count n := by unfold cntF; exact w64_id ⟨by omega, by omega⟩
  rw [this, decide_eq_decide, ← List.count_pos_iff]
  omega
end Go.Proofs.Ytjlobjgemhapaaa
