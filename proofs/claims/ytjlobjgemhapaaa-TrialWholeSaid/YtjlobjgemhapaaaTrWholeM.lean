/- TrialWhole, plain: where counts are what slots hold, all that is no string is white; where nothing is marked, all that is white is gone. -/
import Derived.Test.YtjlobjgemhapaaaTrRightN
namespace Go.Proofs.Ytjlobjgemhapaaa
set_option maxRecDepth 20000

theorem refsAt_nil {g : List OB} (hg : checkB g = true) {i : Nat} (h : looksB g ((i : Int) + 1) = false) : refsAt g i = [] := by
  unfold refsAt
  cases ho : g[i]? with
  | none => rfl
  | some o =>
    rw [looks_at ho, decide_eq_false_iff_not] at h
    have hob := List.all_eq_true.1 hg _ (List.mem_of_getElem? ho)
    simp only [objOk, Bool.and_eq_true] at hob
    have hko := hob.1.1.1
    simp only [kindOk, Bool.or_eq_true, Bool.and_eq_true, decide_eq_true_iff, beq_iff_eq] at hko
    have hs := hob.2
    unfold slotsOk at hs
    rw [if_pos (show o.kind = 0 ∨ o.kind = 5 by omega)] at hs
    show refsL o.slots = []
    rw [show o.slots = [] from List.length_eq_zero_iff.1 (by simpa using hs)]
    rfl
theorem out_none {g : List OB} (hg : checkB g = true) (hc : ∀ (i : Nat) p, g[i]? = some p → p.kind ≠ 0 → p.count = ((allRefs g).count ((i : Int) + 1) : Int)) {S : List Int} (hd : S.Nodup) (hS : ∀ m, m ∈ S ↔ looksB g m = true)
    (hT : (S.flatMap (heldG g)).length ≤ 4194304) : outL g S = [] := by
  unfold outL
  rw [List.filter_eq_nil_iff]
  intro n hn
  rw [decide_eq_true_iff, out_iff hg (R := []) (fun i p hp hk => by rw [hc i p hp hk]; simp) hd (fun m h => (hS m).1 h) hT ((hS n).1 hn)]
  rintro (h | ⟨i, hi, hni, hr⟩)
  · cases h
  · rw [refsAt_nil hg (i := i) (by
      cases hl : looksB g ((i : Int) + 1) with
      | false => rfl
      | true => exact absurd ((hS _).2 hl) hni)] at hr
    cases hr
theorem fol_none {g : List OB} {p : Int → Bool} {n : Int} (h : Fol g p [] n) : False := by
  induction h with
  | root h _ => cases h
  | step _ _ _ ih => exact ih
/-- All that is no string is white. -/
theorem white_all {g : List OB} (hg : checkB g = true) (hn : g.length ≤ 900) (hc : ∀ (i : Nat) p, g[i]? = some p → p.kind ≠ 0 → p.count = ((allRefs g).count ((i : Int) + 1) : Int)) {l : List Int} (hl : ∀ k : Nat, k < g.length → (k : Int) + 1 ∈ l)
    (hT : ((seenL g l).flatMap (heldG g)).length ≤ 4194304) (x : Int) : x ∈ whiteL g l ↔ looksB g x = true := by
  have hS : ∀ m, m ∈ seenL g l ↔ looksB g m = true := fun m => by
    rw [(seen_fol hg l).2 m]
    refine ⟨fun h => h.whom, fun h => .root ?_ h⟩
    obtain ⟨k, o, rfl, ho, _⟩ := looks_iff.1 h
    exact hl k (List.getElem?_eq_some_iff.1 ho).1
  rw [white_mem hn, out_none hg hc (seen_nodup g l) hS hT, hS]
  exact ⟨fun h => h.1, fun h => ⟨h, fol_none⟩⟩
theorem rise_eq {a b : List Int} (ha : a.Pairwise (· < ·)) (hb : b.Pairwise (· < ·)) (h : ∀ x, x ∈ a ↔ x ∈ b) : a = b := by
  have nd : ∀ {l : List Int}, l.Pairwise (· < ·) → l.Nodup := fun h => h.imp fun h e => by omega
  have hp : a.Perm b := by
    rw [List.perm_iff_count]
    intro x
    rw [(nd ha).count, (nd hb).count]
    simp [h x]
  refine List.Perm.eq_of_pairwise (le := fun x y => x < y) ?_ ha hb hp
  intro x y _ _ h1 h2
  omega
theorem marks_none {g : List OB} {l : List Int} (hm : ∀ o ∈ g, o.mark ≤ 0) : marksL g l = [] := by
  unfold marksL
  rw [List.filter_eq_nil_iff]
  intro n hn
  obtain ⟨k, o, rfl, ho, _⟩ := looks_iff.1 (((whites_spec g l).2 n).1 hn).2
  rw [markG_at ho, decide_eq_true_iff]
  have := hm o (List.mem_of_getElem? ho)
  omega
theorem gone_all {g : List OB} (hn : g.length ≤ 900) {W : List Int} (hr : W.Pairwise (· < ·)) (hW : ∀ x, x ∈ W ↔ looksB g x = true) (hm : ∀ o ∈ g, o.mark ≤ 0) : goneL g W = W := by
  have h1 : keptL g W = [] := by
    rw [List.eq_nil_iff_forall_not_mem]
    intro x hx
    have := ((kept_fol g hn W).2 x).1 hx
    rw [marks_none hm] at this
    exact fol_none this
  have h2 : whitesL g W = W := rise_eq (whites_spec g W).1 hr fun x => by
    rw [(whites_spec g W).2 x, ← hW x]
    simp
  unfold goneL
  rw [h1, h2]
  exact List.filter_eq_self.2 fun x _ => by rw [cnt_zero (by simp)]; simp
/-- Marks at most 0, of the first q objects. -/
def clipO (o : OB) : OB := { o with mark := min o.mark 0 }
structure Clip (h : List OB) (q : Nat) (k : List OB) : Prop where
  len : k.length = h.length
  at_ : ∀ (i : Nat) o, h[i]? = some o → k[i]? = some (if i < q then clipO o else o)
theorem Clip.start (h : List OB) : Clip h 0 h := ⟨rfl, fun i o ho => by rw [if_neg (Nat.not_lt_zero i)]; exact ho⟩
theorem Clip.now {h k : List OB} {q : Nat} (H : Clip h q k) {o : OB} (ho : h[q]? = some o) : k[q]? = some o := by
  have := H.at_ q o ho
  rwa [if_neg (Nat.lt_irrefl q)] at this
theorem Clip.set {h k : List OB} {q : Nat} (H : Clip h q k) {o : OB} (ho : h[q]? = some o) : Clip h (q + 1) (k.set q { o with mark := min o.mark 0 }) := by
  refine ⟨by rw [List.length_set]; exact H.len, fun i p hp => ?_⟩
  have hq : q < k.length := (List.getElem?_eq_some_iff.1 (H.now ho)).1
  by_cases e : i = q
  · subst e
    rw [ho] at hp
    injection hp with hp
    subst hp
    rw [List.getElem?_set_self hq, if_pos (Nat.lt_succ_self i)]
    rfl
  · rw [List.getElem?_set_ne (Ne.symm e), H.at_ i p hp]
    by_cases h1 : i < q
    · rw [if_pos h1, if_pos (by omega)]
    · rw [if_neg h1, if_neg (by omega)]
theorem Clip.done {h k : List OB} (H : Clip h h.length k) : k = h.map clipO := by
  apply List.ext_getElem?
  intro i
  rw [List.getElem?_map]
  cases ho : h[i]? with
  | none =>
    have := List.getElem?_eq_none_iff.1 ho
    exact List.getElem?_eq_none (by rw [H.len]; exact this)
  | some o =>
    rw [H.at_ i o ho, if_pos (List.getElem?_eq_some_iff.1 ho).1]
    rfl
theorem clip_there (h : List OB) (v : Int × Int) : thereB (h.map clipO) v = thereB h v := by
  unfold thereB
  rw [List.getElem?_map]
  cases h[(v.2 - 1).toNat]? <;> rfl
theorem clip_looks (h : List OB) (x : Int) : looksB (h.map clipO) x = looksB h x := by
  unfold looksB
  rw [List.getElem?_map]
  cases h[(x - 1).toNat]? <;> rfl
theorem clip_check {h : List OB} (hc : checkB h = true) : checkB (h.map clipO) = true := by
  unfold checkB at hc ⊢
  rw [List.all_eq_true] at hc ⊢
  intro p hp
  obtain ⟨o, ho, rfl⟩ := List.mem_map.1 hp
  have h1 := hc o ho
  have es : slotB (h.map clipO) = slotB h := by
    funext v
    unfold slotB
    rw [clip_there]
  simp only [objOk, Bool.and_eq_true] at h1 ⊢
  obtain ⟨⟨⟨a1, a2⟩, a3⟩, a4⟩ := h1
  refine ⟨⟨⟨a1, ?_⟩, a3⟩, ?_⟩
  · unfold numOk at a2 ⊢
    by_cases hk : o.kind = 0
    · rw [if_pos hk, Bool.and_eq_true, beq_iff_eq, beq_iff_eq] at a2
      rw [if_pos (show (clipO o).kind = 0 from hk), Bool.and_eq_true, beq_iff_eq, beq_iff_eq]
      exact ⟨a2.1, by show min o.mark 0 = 0; rw [a2.2]; rfl⟩
    · rw [if_neg hk, Bool.and_eq_true, decide_eq_true_iff, decide_eq_true_iff] at a2
      rw [if_neg (show ¬ (clipO o).kind = 0 from hk), Bool.and_eq_true, decide_eq_true_iff, decide_eq_true_iff]
      exact ⟨a2.1, by show -1 ≤ min o.mark 0; omega⟩
  · unfold slotsOk at a4 ⊢
    rw [es]
    exact a4
theorem clip_marks (h : List OB) : ∀ o ∈ h.map clipO, o.mark ≤ 0 := by
  intro p hp
  obtain ⟨o, _, rfl⟩ := List.mem_map.1 hp
  show min o.mark 0 ≤ 0
  omega
/-- All numbers, downwards. -/
def downL (n q : Nat) : List Int := (List.range q).map fun (i : Nat) => (n : Int) - (i : Int)
theorem downL_snoc (n q : Nat) : downL n (q + 1) = downL n q ++ [(n : Int) - q] := by unfold downL; rw [List.range_succ, List.map_append]; rfl
theorem downL_len (n q : Nat) : (downL n q).length = q := by simp [downL]
theorem downL_has {n k : Nat} (h : k < n) : (k : Int) + 1 ∈ downL n n := List.mem_map.2 ⟨n - 1 - k, List.mem_range.2 (by omega), by omega⟩
theorem downL_wf (n q : Nat) (hn : n ≤ 900) (hq : q ≤ n) : ∀ x ∈ downL n q, wf64 x := by
  intro x hx
  obtain ⟨i, hi, rfl⟩ := List.mem_map.1 hx
  have := List.mem_range.1 hi
  unfold wf64
  omega
end Go.Proofs.Ytjlobjgemhapaaa
