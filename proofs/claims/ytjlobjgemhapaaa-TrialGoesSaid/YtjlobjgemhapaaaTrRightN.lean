/- TrialRight, plain: who is white; the law's two loops. -/
import Derived.Test.YtjlobjgemhapaaaTrB
import Derived.Test.YtjlobjgemhapaaaTrGone
namespace Go.Proofs.Ytjlobjgemhapaaa
set_option maxRecDepth 20000

theorem white_mem {g : List OB} (hn : g.length ≤ 900) {l : List Int} {n : Int} : n ∈ whiteL g l ↔ n ∈ seenL g l ∧ ¬ Fol g (looksB g) (outL g (seenL g l)) n := by
  have hf := follow_spec (g := g) (whom := looksB g) (first := outL g (seenL g l)) fun n h => looks_range h.whom
  have hl := follow_len (g := g) (whom := looksB g) (first := outL g (seenL g l)) fun n h => looks_range h.whom
  unfold whiteL whiteU blackL
  rw [(sortI_perm _).mem_iff, List.mem_filter, cnt_zero (by omega), decide_eq_true_iff, hf.2 n]
theorem white_rise (g : List OB) (l : List Int) : (whiteL g l).Pairwise (· < ·) := by
  have h1 := sortI_rise (whiteU g l)
  have h2 : (whiteL g l).Nodup := by
    unfold whiteL whiteU
    exact (sortI_perm _).nodup_iff.2 (List.Nodup.sublist List.filter_sublist (seen_nodup g l))
  refine (h1.and h2).imp fun h => ?_
  have := h.1
  have := h.2
  omega
/-- White, where counts are right: seen, and not to be reached. -/
theorem white_right {g : List OB} (hg : checkB g = true) (hn : g.length ≤ 900) {R : List Int} (hc : ∀ (i : Nat) p, g[i]? = some p → p.kind ≠ 0 → p.count = ((allRefs g).count ((i : Int) + 1) : Int) + (R.count ((i : Int) + 1) : Int)) {l : List Int}
    (hT : ((seenL g l).flatMap (heldG g)).length ≤ 4194304) {T : List Nat} (hroots : ∀ m : Nat, m ∈ T ↔ thereN g m = true ∧ ((m : Int) ∉ seenL g l ∨ (m : Int) ∈ R)) {k : Nat} :
    (k : Int) + 1 ∈ whiteL g l ↔ (k : Int) + 1 ∈ seenL g l ∧ reachB g T (k + 1) = false := by
  rw [white_mem hn]
  refine and_congr_right fun h => ?_
  rw [black_iff hg hc (seen_nodup g l) (fun m hm => (seen_ok hm).2) hT hroots h, show ((k : Int) + 1).toNat = k + 1 by omega, ← reachB_iff]
  cases reachB g T (k + 1) <;> simp
/-- The first a of W are less than n, the others are not. -/
structure AtW (W : List Int) (n : Int) (a : Nat) : Prop where
  le : a ≤ W.length
  lo : ∀ (i : Nat) x, i < a → W[i]? = some x → x < n
  hi : ∀ (i : Nat) x, a ≤ i → W[i]? = some x → n ≤ x
theorem AtW.start {W : List Int} (h : ∀ x ∈ W, 1 ≤ x) : AtW W 1 0 := ⟨Nat.zero_le _, fun i _ hi => absurd hi (Nat.not_lt_zero i), fun _ x _ hx => h x (List.mem_of_getElem? hx)⟩
theorem AtW.now {W : List Int} (hr : W.Pairwise (· < ·)) {n : Int} {a : Nat} (H : AtW W n a) (hn : n ∈ W) : W[a]? = some n := by
  obtain ⟨j, hj⟩ := List.getElem?_of_mem hn
  have haj : a ≤ j := by
    rcases Nat.lt_or_ge j a with h | h
    · exact absurd (H.lo j n h hj) (by omega)
    · exact h
  rcases Nat.lt_or_ge a j with h | h
  · obtain ⟨hj1, hj2⟩ := List.getElem?_eq_some_iff.1 hj
    have ha : W[a]? = some (W[a]'(by omega)) := List.getElem?_eq_getElem (by omega)
    have h1 := H.hi a _ (Nat.le_refl a) ha
    have h2 := List.pairwise_iff_getElem.1 hr a j (by omega) hj1 h
    omega
  · rw [show a = j by omega]; exact hj
theorem AtW.yes {W : List Int} (hr : W.Pairwise (· < ·)) {n : Int} {a : Nat} (H : AtW W n a) (hn : n ∈ W) : AtW W (n + 1) (a + 1) := by
  have h := H.now hr hn
  obtain ⟨ha, hx⟩ := List.getElem?_eq_some_iff.1 h
  refine ⟨by omega, fun i x hi hix => ?_, fun i x hi hix => ?_⟩
  · rcases Nat.lt_or_ge i a with h2 | h2
    · have := H.lo i x h2 hix; omega
    · rw [show i = a by omega, h] at hix; injection hix with hix; omega
  · obtain ⟨h3, h4⟩ := List.getElem?_eq_some_iff.1 hix
    have := List.pairwise_iff_getElem.1 hr a i ha h3 (by omega)
    omega
theorem AtW.no {W : List Int} {n : Int} {a : Nat} (H : AtW W n a) (hn : n ∉ W) : AtW W (n + 1) a := by
  refine ⟨H.le, fun i x hi hix => ?_, fun i x hi hix => ?_⟩
  · have := H.lo i x hi hix; omega
  · have h1 := H.hi i x hi hix
    have h2 : x ≠ n := fun e => hn (e ▸ List.mem_of_getElem? hix)
    omega
theorem AtW.done {W : List Int} {n : Int} {a : Nat} (H : AtW W n a) (hn : ∀ x ∈ W, x < n) : a = W.length := by
  have := H.le
  rcases Nat.lt_or_ge a W.length with h | h
  · have ha := List.getElem?_eq_getElem h
    have h1 := H.hi a _ (Nat.le_refl a) ha
    have h2 := hn _ (List.mem_of_getElem? ha)
    omega
  · omega
/-- The law's roots: of the first q numbers. -/
def kindN (g : List OB) (k : Nat) : Int := match g[k]? with
  | some o => o.kind
  | none => 0
def rootB (g : List OB) (S R : List Int) (k : Nat) : Bool := kindN g k != 0 && (!decide ((k : Int) + 1 ∈ S) || decide ((k : Int) + 1 ∈ R))
def rootsV (g : List OB) (S R : List Int) (q : Nat) : List (Int × Int) := ((List.range q).filter (rootB g S R)).map fun k => (kindN g k, (k : Int) + 1)
theorem rootsV_yes {g : List OB} {S R : List Int} {q : Nat} (h : rootB g S R q = true) : rootsV g S R (q + 1) = rootsV g S R q ++ [(kindN g q, (q : Int) + 1)] := by
  unfold rootsV; rw [List.range_succ, List.filter_append, List.map_append]; simp [h]
theorem rootsV_no {g : List OB} {S R : List Int} {q : Nat} (h : rootB g S R q = false) : rootsV g S R (q + 1) = rootsV g S R q := by
  unfold rootsV; rw [List.range_succ, List.filter_append, List.map_append]; simp [h]
theorem kindN_there (g : List OB) (k : Nat) : thereN g (k + 1) = (kindN g k != 0) := by
  unfold kindN
  simp only [thereN]
  cases g[k]? <;> rfl
theorem rootsV_objs {g : List OB} (hg : checkB g = true) (hn : g.length ≤ 900) {S R : List Int} (m : Nat) : m ∈ objsN g (rootsV g S R g.length) ↔ thereN g m = true ∧ ((m : Int) ∉ S ∨ (m : Int) ∈ R) := by
  unfold objsN
  rw [List.mem_filter]
  refine ⟨fun ⟨h1, h2⟩ => ⟨h2, ?_⟩, fun ⟨h1, h2⟩ => ⟨?_, h1⟩⟩
  · obtain ⟨x, hx, rfl⟩ := List.mem_map.1 h1
    unfold refsL rootsV at hx
    obtain ⟨p, hp, rfl⟩ := List.mem_map.1 hx
    obtain ⟨k, hk, rfl⟩ := List.mem_map.1 (List.mem_filter.1 hp).1
    have hb := (List.mem_filter.1 hk).2
    rw [show (((k : Int) + 1).toNat : Int) = (k : Int) + 1 by omega]
    simp only [rootB, Bool.and_eq_true, Bool.or_eq_true, Bool.not_eq_true', decide_eq_true_iff, decide_eq_false_iff_not] at hb
    exact hb.2
  · have hr := there_le h1
    obtain ⟨k, rfl⟩ : ∃ k, m = k + 1 := ⟨m - 1, by omega⟩
    rw [kindN_there] at h1
    have hkn : k < g.length := by omega
    have ho := List.getElem?_eq_getElem hkn
    have hk5 : 5 ≤ kindN g k ∧ kindN g k ≤ 9 := by
      have hob := List.all_eq_true.1 hg _ (List.mem_of_getElem? ho)
      simp only [objOk, Bool.and_eq_true] at hob
      have hko := hob.1.1.1
      have e : kindN g k = (g[k]).kind := by unfold kindN; rw [ho]
      rw [e] at h1 ⊢
      simp only [kindOk, Bool.or_eq_true, Bool.and_eq_true, decide_eq_true_iff, beq_iff_eq, bne_iff_ne] at hko h1
      omega
    refine List.mem_map.2 ⟨(k : Int) + 1, ?_, by omega⟩
    unfold refsL rootsV
    refine List.mem_map.2 ⟨(kindN g k, (k : Int) + 1), List.mem_filter.2 ⟨List.mem_map.2 ⟨k, List.mem_filter.2 ⟨List.mem_range.2 hkn, ?_⟩, rfl⟩, ?_⟩, rfl⟩
    · simp only [rootB, Bool.and_eq_true, Bool.or_eq_true, Bool.not_eq_true', decide_eq_true_iff, decide_eq_false_iff_not]
      exact ⟨h1, by simpa using h2⟩
    · rw [refB_iff, mayB_iff]
      omega
end Go.Proofs.Ytjlobjgemhapaaa
