/- What a mark says of what was marked before and behind it: plain. No walk. -/
import Derived.Test.YtghnjmodnhnmfaaRcMath
namespace Go.Proofs.Ytghnjmodnhnmfaa
set_option maxRecDepth 20000

def unm (n : Nat) (M : Nat → Bool) : Nat := (List.range n).countP fun i => !M i
def setM (M : Nat → Bool) (m : Nat) : Nat → Bool := fun x => x == m || M x
theorem unm_mono {n : Nat} {M M' : Nat → Bool} (h : ∀ x, M x = true → M' x = true) : unm n M' ≤ unm n M := by
  unfold unm
  refine List.countP_mono_left fun x _ hx => ?_
  cases hM : M x with
  | false => rfl
  | true => rw [h x hM] at hx; cases hx
theorem unm_set {n m : Nat} {M : Nat → Bool} (hm : m < n) (h : M m = false) : unm n (setM M m) + 1 ≤ unm n M := by
  have key : ∀ L : List Nat, m ∈ L → L.countP (fun i => !setM M m i) + 1 ≤ L.countP fun i => !M i := by
    intro L
    have le : ∀ L : List Nat, L.countP (fun i => !setM M m i) ≤ L.countP fun i => !M i := fun L => by
      refine List.countP_mono_left fun x _ hx => ?_
      cases hM : M x with
      | false => rfl
      | true => unfold setM at hx; rw [hM] at hx; simp at hx
    induction L with
    | nil => intro h; cases h
    | cons y r ih =>
      intro hy
      simp only [List.countP_cons]
      by_cases e : y = m
      · subst e
        have e1 : (!setM M y y) = false := by simp [setM]
        have e2 : (!M y) = true := by rw [h]; rfl
        rw [e1, e2]
        have := le r
        simp only [if_true, Bool.false_eq_true, if_false]
        omega
      · have hr : m ∈ r := by
          rcases List.mem_cons.1 hy with h | h
          · exact absurd h.symm e
          · exact h
        have e1 : (!setM M m y) = !M y := by
          have : (y == m) = false := by simpa using e
          simp [setM, this]
        rw [e1]
        have := ih hr
        omega
  exact key _ (List.mem_range.2 hm)
theorem unm_le (n : Nat) (M : Nat → Bool) : unm n M ≤ n := Nat.le_trans List.countP_le_length (by simp)
theorem unm_pos {n m : Nat} {M : Nat → Bool} (hm : m < n) (h : M m = false) : 1 ≤ unm n M := by
  have := unm_set hm h
  omega
/-- Behind a mark of m. -/
structure Marks (g : List OB) (m : Nat) (M M' : Nat → Bool) : Prop where
  le : ∀ x, M x = true → M' x = true
  has : M' m = true
  new : ∀ x, M' x = true → M x = true ∨ (Rch g [m] x ∧ ∀ y ∈ heldN g x, M' y = true)
theorem Marks.done {g : List OB} {m : Nat} {M : Nat → Bool} (h : M m = true) : Marks g m M M := ⟨fun _ h => h, h, fun _ h => Or.inl h⟩
/-- While the objects that m holds are gone through: those up to j. -/
structure MarkJ (g : List OB) (m : Nat) (M M' : Nat → Bool) (j : Nat) : Prop where
  le : ∀ x, setM M m x = true → M' x = true
  new : ∀ x, M' x = true → setM M m x = true ∨ (Rch g [m] x ∧ ∀ y ∈ heldN g x, M' y = true)
  got : ∀ i x, i < j → (heldN g m)[i]? = some x → M' x = true
theorem MarkJ.start {g : List OB} {m : Nat} {M : Nat → Bool} : MarkJ g m M (setM M m) 0 := ⟨fun _ h => h, fun _ h => Or.inl h, fun _ _ h => absurd h (Nat.not_lt_zero _)⟩
theorem MarkJ.step {g : List OB} {m x j : Nat} {M M1 M2 : Nat → Bool} (h : MarkJ g m M M1 j) (hx : (heldN g m)[j]? = some x) (k : Marks g x M1 M2) : MarkJ g m M M2 (j + 1) := by
  have hm : x ∈ heldN g m := List.mem_of_getElem? hx
  refine ⟨fun y hy => k.le _ (h.le y hy), fun y hy => ?_, fun i y hi hy => ?_⟩
  · rcases k.new y hy with h1 | ⟨h1, h2⟩
    · rcases h.new y h1 with h3 | ⟨h3, h4⟩
      · exact Or.inl h3
      · exact Or.inr ⟨h3, fun z hz => k.le _ (h4 z hz)⟩
    · refine Or.inr ⟨h1.mono fun z hz => ?_, h2⟩
      simp at hz; subst hz
      exact .step (.root (by simp)) hm
  · by_cases e : i = j
    · subst e
      rw [hx] at hy; injection hy with hy; subst hy
      exact k.has
    · exact k.le _ (h.got i y (by omega) hy)
theorem MarkJ.fin {g : List OB} {m j : Nat} {M M1 : Nat → Bool} (h : MarkJ g m M M1 j) (hj : (heldN g m).length ≤ j) : Marks g m M M1 := by
  refine ⟨fun x hx => h.le x (by simp [setM, hx]), h.le m (by simp [setM]), fun x hx => ?_⟩
  rcases h.new x hx with h1 | h1
  · simp only [setM, Bool.or_eq_true, beq_iff_eq] at h1
    rcases h1 with rfl | h1
    · refine Or.inr ⟨.root (by simp), fun y hy => ?_⟩
      obtain ⟨i, hi⟩ := List.getElem?_of_mem hy
      exact h.got i y (Nat.lt_of_lt_of_le (List.getElem?_eq_some_iff.1 hi).1 hj) hi
    · exact Or.inl h1
  · exact Or.inr h1
/-- While the roots are gone through: what is left of them. -/
structure MarkR (g : List OB) (from_ : List Nat) (todo : List Nat) (M : Nat → Bool) : Prop where
  all : ∀ x ∈ from_, M x = true ∨ x ∈ todo
  fine : ∀ x, M x = true → Rch g from_ x ∧ ∀ y ∈ heldN g x, M y = true
theorem MarkR.step {g : List OB} {f todo : List Nat} {m : Nat} {M M' : Nat → Bool} (h : MarkR g f (m :: todo) M) (hm : m ∈ f) (k : Marks g m M M') : MarkR g f todo M' := by
  refine ⟨fun x hx => ?_, fun x hx => ?_⟩
  · rcases h.all x hx with h1 | h1
    · exact Or.inl (k.le x h1)
    · rcases List.mem_cons.1 h1 with rfl | h1
      · exact Or.inl k.has
      · exact Or.inr h1
  · rcases k.new x hx with h1 | ⟨h1, h2⟩
    · obtain ⟨h3, h4⟩ := h.fine x h1
      exact ⟨h3, fun y hy => k.le _ (h4 y hy)⟩
    · exact ⟨h1.mono fun z hz => by simp at hz; subst hz; exact .root hm, h2⟩
theorem MarkR.fin {g : List OB} {f : List Nat} {M : Nat → Bool} (h : MarkR g f [] M) : M = reachB g f := by
  refine reach_eq (fun m hm => ?_) (fun m x hm hx => (h.fine m hm).2 x hx) (fun m hm => (h.fine m hm).1)
  rcases h.all m hm with h1 | h1
  · exact h1
  · cases h1
end Go.Proofs.Ytghnjmodnhnmfaa
