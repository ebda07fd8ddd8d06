/- A graph whose counts alone are made otherwise: what may be and what is held stay; where counts are right Exact is silent, where one is not it is told alone. Plain. -/
import Derived.Test.YtghnjmodnhnmfaaGrExact
namespace Go.Proofs.Ytghnjmodnhnmfaa
set_option maxRecDepth 20000

/-- h is g but for counts (those of free numbers stay). -/
def Like (g h : List OB) : Prop := g.length = h.length ∧ ∀ (i : Nat) o p, g[i]? = some o → h[i]? = some p → p.kind = o.kind ∧ p.slots = o.slots ∧ p.text = o.text ∧ p.mark = o.mark ∧ (o.kind = 0 → p.count = o.count)
theorem Like.refl (g : List OB) : Like g g := ⟨rfl, fun i o p h1 h2 => by rw [h1] at h2; injection h2 with h2; subst h2; exact ⟨rfl, rfl, rfl, rfl, fun _ => rfl⟩⟩
theorem Like.set {g h : List OB} (hl : Like g h) {i : Nat} {o : OB} (ho : h[i]? = some o) (hk : o.kind ≠ 0) (x : Int) : Like g (h.set i { o with count := x }) := by
  refine ⟨by rw [List.length_set]; exact hl.1, fun j a p h1 h2 => ?_⟩
  by_cases hj : j = i
  · subst hj
    obtain ⟨k1, k2, k3, k4, k5⟩ := hl.2 j a o h1 ho
    have hlt := (List.getElem?_eq_some_iff.1 ho).1
    rw [List.getElem?_set_self hlt] at h2
    injection h2 with h2
    subst h2
    exact ⟨k1, k2, k3, k4, fun e => absurd (k1.trans e) hk⟩
  · rw [List.getElem?_set_ne (Ne.symm hj)] at h2
    exact hl.2 j a p h1 h2
theorem Like.slots {g h : List OB} (hl : Like g h) : h.map OB.slots = g.map OB.slots := by
  refine List.ext_getElem? fun i => ?_
  rw [List.getElem?_map, List.getElem?_map]
  cases hg : g[i]? with
  | none =>
    have := List.getElem?_eq_none_iff.1 hg
    rw [List.getElem?_eq_none (by rw [← hl.1]; exact this)]
  | some o =>
    have hi : i < h.length := by rw [← hl.1]; exact (List.getElem?_eq_some_iff.1 hg).1
    have hp := List.getElem?_eq_getElem hi
    rw [hp]
    simp [(hl.2 i o _ hg hp).2.1]
theorem allRefs_map (g : List OB) : allRefs g = (g.map OB.slots).flatMap refsL := by
  unfold allRefs; rw [List.flatMap_map]
theorem Like.refs {g h : List OB} (hl : Like g h) : allRefs h = allRefs g := by rw [allRefs_map, allRefs_map, hl.slots]
theorem Like.at {g h : List OB} (hl : Like g h) {i : Nat} {p : OB} (hp : h[i]? = some p) : ∃ o, g[i]? = some o ∧ p.kind = o.kind ∧ p.slots = o.slots ∧ p.text = o.text ∧ p.mark = o.mark ∧ (o.kind = 0 → p.count = o.count) := by
  have hi : i < g.length := by rw [hl.1]; exact (List.getElem?_eq_some_iff.1 hp).1
  exact ⟨_, List.getElem?_eq_getElem hi, hl.2 i _ p (List.getElem?_eq_getElem hi) hp⟩
theorem Like.there {g h : List OB} (hl : Like g h) (v : Int × Int) : thereB h v = thereB g v := by
  unfold thereB
  cases hg : g[(v.2 - 1).toNat]? with
  | none =>
    have := List.getElem?_eq_none_iff.1 hg
    rw [List.getElem?_eq_none (by rw [← hl.1]; exact this)]
  | some o =>
    have hi : (v.2 - 1).toNat < h.length := by rw [← hl.1]; exact (List.getElem?_eq_some_iff.1 hg).1
    have hp := List.getElem?_eq_getElem hi
    rw [hp]
    simp only [(hl.2 _ o _ hg hp).1]
theorem Like.slotB {g h : List OB} (hl : Like g h) : Go.Proofs.Ytghnjmodnhnmfaa.slotB h = Go.Proofs.Ytghnjmodnhnmfaa.slotB g := by
  funext v; unfold Go.Proofs.Ytghnjmodnhnmfaa.slotB; rw [hl.there]
theorem Like.check {g h : List OB} (hl : Like g h) (hg : checkB g = true) (hc : ∀ (i : Nat) p, h[i]? = some p → p.kind ≠ 0 → 0 ≤ p.count) : checkB h = true := by
  unfold checkB at hg ⊢
  rw [List.all_eq_true] at hg ⊢
  intro p hp
  obtain ⟨i, hi⟩ := List.getElem?_of_mem hp
  obtain ⟨o, ho, k1, k2, k3, k4, k5⟩ := hl.at hi
  have h0 := hg o (List.mem_of_getElem? ho)
  simp only [objOk, Bool.and_eq_true] at h0 ⊢
  obtain ⟨⟨⟨h1, h2⟩, h3⟩, h4⟩ := h0
  refine ⟨⟨⟨?_, ?_⟩, ?_⟩, ?_⟩
  · unfold kindOk at h1 ⊢; rw [k1]; exact h1
  · unfold numOk at h2 ⊢
    rw [k1, k4]
    by_cases hz : o.kind = 0
    · rw [k5 hz]; exact h2
    · rw [if_neg hz] at h2 ⊢
      have hn := hc i p hi (by rw [k1]; exact hz)
      simp only [Bool.and_eq_true, decide_eq_true_eq] at h2 ⊢
      exact ⟨hn, h2.2⟩
  · unfold textOk at h3 ⊢; rw [k1, k3]; exact h3
  · unfold slotsOk at h4 ⊢; rw [k1, k2, hl.slotB]; exact h4
theorem which_none {p : Nat → OB → Bool} {g : List OB} (h : ∀ (k : Nat) o, g[k]? = some o → p (k + 1) o = false) : whichL p g = [] := by
  have : ∀ k, k ≤ g.length → whichL p (g.take k) = [] := by
    intro k
    induction k with
    | zero => intro _; simp [whichL]
    | succ k ih =>
      intro hk
      obtain ⟨o, ho⟩ : ∃ o, g[k]? = some o := ⟨_, List.getElem?_eq_getElem (by omega)⟩
      rw [which_snoc_no ho (h k o ho)]
      exact ih (by omega)
  have := this g.length (Nat.le_refl _)
  rwa [List.take_length] at this
theorem which_one {p : Nat → OB → Bool} {g : List OB} {i : Nat} {o : OB} (hi : g[i]? = some o) (hp : p (i + 1) o = true) (h : ∀ (k : Nat) o, k ≠ i → g[k]? = some o → p (k + 1) o = false) : whichL p g = [i + 1] := by
  have hlt := (List.getElem?_eq_some_iff.1 hi).1
  have : ∀ k, k ≤ g.length → whichL p (g.take k) = if i < k then [i + 1] else [] := by
    intro k
    induction k with
    | zero => intro _; simp [whichL]
    | succ k ih =>
      intro hk
      obtain ⟨q, hq⟩ : ∃ q, g[k]? = some q := ⟨_, List.getElem?_eq_getElem (by omega)⟩
      by_cases e : k = i
      · subst e
        rw [hi] at hq; injection hq with hq; subst hq
        rw [which_snoc_yes hi hp, ih (by omega), if_neg (Nat.lt_irrefl _), if_pos (Nat.lt_succ_self _)]
        rfl
      · rw [which_snoc_no hq (h k q e hq), ih (by omega)]
        by_cases hik : i < k
        · rw [if_pos hik, if_pos (by omega)]
        · rw [if_neg hik, if_neg (by omega)]
  have := this g.length (Nat.le_refl _)
  rwa [List.take_length, if_pos hlt] at this
/-- How often number i + 1 is held, beside too. -/
def cntA (g : List OB) (more : List (Int × Int)) (n : Int) : Int := cntF (allRefs g ++ refsL more) n
theorem exact_nil {g h : List OB} {more : List (Int × Int)} (hl : Like g h) (hc : ∀ (i : Nat) p, h[i]? = some p → p.kind ≠ 0 → p.count = cntA g more ((i : Int) + 1)) : exactL h more = [] := by
  unfold exactL
  split
  · rw [which_none fun k o ho => ?_]
    · rfl
    · by_cases hk : o.kind = 0
      · simp [hk]
      · have := hc k o ho hk
        rw [hl.refs]
        unfold cntA at this
        simp [this]
  · rfl
theorem exact_one {g h : List OB} {more : List (Int × Int)} (hl : Like g h) (hch : checkB h = true) {i : Nat} {o : OB} (hi : h[i]? = some o) (hk : o.kind ≠ 0) (hx : o.count ≠ cntA g more ((i : Int) + 1))
    (hc : ∀ (j : Nat) p, j ≠ i → h[j]? = some p → p.kind ≠ 0 → p.count = cntA g more ((j : Int) + 1)) : exactL h more = [(i : Int) + 1] := by
  unfold exactL
  rw [if_pos hch, which_one hi ?_ fun k o e ho => ?_]
  · simp [intsOf]
  · rw [hl.refs]
    unfold cntA at hx
    have := hx
    simp [hk, this]
  · by_cases hk : o.kind = 0
    · simp [hk]
    · have := hc k o e ho hk
      rw [hl.refs]
      unfold cntA at this
      simp [this]
theorem refs_total {g : List OB} {m : Nat} (h : (g.map fun o => o.slots.length).sum ≤ m) : (allRefs g).length ≤ m := by
  refine Nat.le_trans ?_ h
  unfold allRefs
  rw [List.length_flatMap]
  clear h
  induction g with
  | nil => simp
  | cons o r ih =>
    simp only [List.map_cons, List.sum_cons]
    have := refsL_len o.slots
    omega
theorem cnt_small {L : List Int} {m : Nat} (h : L.length ≤ m) (hm : m ≤ 4194304) (n : Int) : cntF L n = L.count n ∧ 0 ≤ cntF L n ∧ cntF L n ≤ 4194304 := by
  have h1 : L.count n ≤ L.length := List.count_le_length
  have : cntF L n = L.count n := by
    unfold cntF; exact w64_id ⟨by omega, by omega⟩
  rw [this]
  exact ⟨rfl, by omega, by omega⟩
end Go.Proofs.Ytghnjmodnhnmfaa
