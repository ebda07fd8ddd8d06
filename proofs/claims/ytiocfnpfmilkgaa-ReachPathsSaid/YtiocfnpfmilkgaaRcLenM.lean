/- reach.lengths' rounds, plain: what the table holds and what is next. -/
import Derived.Test.YtiocfnpfmilkgaaRcMath
namespace Go.Proofs.Ytiocfnpfmilkgaa
set_option maxRecDepth 20000

/-- Ahead of round r. -/
structure LenH (d : Nat → Nat) (r : Nat) (L : Nat → Nat) (T : List Nat) : Prop where
  tab : ∀ a, L a = if 1 ≤ d a ∧ d a < r then d a else 0
  nxt : ∀ a, a ∈ T ↔ d a = r
  pos : 1 ≤ r
/-- In round r, K still to come. -/
structure LenI (g : List OB) (d : Nat → Nat) (r : Nat) (K : List Nat) (L : Nat → Nat) (T : List Nat) : Prop where
  tab : ∀ a, L a = if (1 ≤ d a ∧ d a < r) ∨ (d a = r ∧ a ∉ K) then d a else 0
  todo : ∀ a ∈ K, d a = r
  nxt : ∀ a, a ∈ T ↔ a ∈ K ∨ (d a = r + 1 ∧ ∃ x ∈ heldN g a, d x = r ∧ x ∉ K)
  nd : K.Nodup
  pos : 1 ≤ r
theorem LenH.open {g : List OB} {d : Nat → Nat} {r : Nat} {L : Nat → Nat} {T K : List Nat} (h : LenH d r L T) (hp : K.Perm T) (hd : T.Nodup) : LenI g d r K L T := by
  have hm : ∀ a, a ∈ K ↔ d a = r := fun a => hp.mem_iff.trans (h.nxt a)
  refine ⟨fun a => ?_, fun a ha => (hm a).1 ha, fun a => ?_, hp.nodup_iff.2 hd, h.pos⟩
  · rw [h.tab a]
    by_cases e : 1 ≤ d a ∧ d a < r
    · rw [if_pos e, if_pos (Or.inl e)]
    · rw [if_neg e, if_neg]
      rintro (h1 | ⟨h1, h2⟩)
      · exact e h1
      · exact h2 ((hm a).2 h1)
  · rw [h.nxt a]
    constructor
    · intro e; exact Or.inl ((hm a).2 e)
    · rintro (e | ⟨_, x, _, h1, h2⟩)
      · exact (hm a).1 e
      · exact absurd ((hm x).2 h1) h2
theorem LenI.close {g : List OB} {b : Nat} {d : Nat → Nat} (hd : Dist g b d) {r : Nat} {L : Nat → Nat} {T : List Nat} (h : LenI g d r [] L T) : LenH d (r + 1) L T := by
  have hp := h.pos
  refine ⟨fun a => ?_, fun a => ?_, by omega⟩
  · rw [h.tab a]
    by_cases e : 1 ≤ d a ∧ d a < r + 1
    · rw [if_pos e, if_pos]
      by_cases e2 : d a = r
      · exact Or.inr ⟨e2, by simp⟩
      · exact Or.inl (by omega)
    · rw [if_neg e, if_neg]
      rintro (h1 | ⟨h1, _⟩) <;> omega
  · rw [h.nxt a]
    constructor
    · rintro (h1 | ⟨h1, _⟩)
      · cases h1
      · exact h1
    · intro e
      obtain ⟨x, hx, e2⟩ := hd.down (a := a) (k := r - 1) (by omega)
      exact Or.inr ⟨e, x, hx, by omega, by simp⟩
def updL (L : Nat → Nat) (k r : Nat) : Nat → Nat := fun a => if a = k then r else L a
theorem LenI.step {g : List OB} {b : Nat} {d : Nat → Nat} (hd : Dist g b d) {r k : Nat} {K : List Nat} {L : Nat → Nat} {T T' : List Nat} (h : LenI g d r (k :: K) L T) (hT : T.Nodup) (hT' : ∀ a, a ∈ T' ↔ a ∈ T.erase k ∨ (k ∈ heldN g a ∧ updL L k r a = 0)) : LenI g d r K (updL L k r) T' := by
  have hk : d k = r := h.todo k (by simp)
  have hnk : k ∉ K := (List.nodup_cons.1 h.nd).1
  have hp := h.pos
  refine ⟨fun a => ?_, fun a ha => h.todo a (by simp [ha]), fun a => ?_, (List.nodup_cons.1 h.nd).2, hp⟩
  · unfold updL
    by_cases e : a = k
    · subst e
      rw [if_pos rfl, if_pos (Or.inr ⟨hk, hnk⟩), hk]
    · rw [if_neg e, h.tab a]
      have : (a ∉ k :: K) ↔ a ∉ K := by simp [e]
      simp only [this]
  · rw [hT' a, hT.mem_erase_iff, h.nxt a]
    constructor
    · rintro (⟨h1, h2 | ⟨h2, x, hx, h3, h4⟩⟩ | ⟨h1, h2⟩)
      · rcases List.mem_cons.1 h2 with h3 | h3
        · exact absurd h3 h1
        · exact Or.inl h3
      · exact Or.inr ⟨h2, x, hx, h3, fun e => h4 (by simp [e])⟩
      · have h3 := hd.held h1 (by omega)
        by_cases e : a = k
        · subst e
          simp [updL] at h2
          omega
        · simp only [updL, if_neg e] at h2
          rw [h.tab a] at h2
          by_cases e3 : (1 ≤ d a ∧ d a < r) ∨ (d a = r ∧ a ∉ k :: K)
          · rw [if_pos e3] at h2; omega
          · by_cases e4 : d a = r
            · have : a ∈ k :: K := Classical.byContradiction fun h5 => e3 (Or.inr ⟨e4, h5⟩)
              rcases List.mem_cons.1 this with h5 | h5
              · exact absurd h5 e
              · exact Or.inl h5
            · have : ¬ (1 ≤ d a ∧ d a < r) := fun h5 => e3 (Or.inl h5)
              exact Or.inr ⟨by omega, k, h1, hk, hnk⟩
    · rintro (h1 | ⟨h1, x, hx, h2, h3⟩)
      · exact Or.inl ⟨fun e => hnk (e ▸ h1), Or.inl (by simp [h1])⟩
      · by_cases e : x = k
        · subst e
          refine Or.inr ⟨hx, ?_⟩
          have e2 : a ≠ x := fun e2 => by subst e2; omega
          simp only [updL, if_neg e2]
          rw [h.tab a, if_neg]
          rintro (h4 | ⟨h4, _⟩) <;> omega
        · refine Or.inl ⟨fun e2 => by subst e2; omega, Or.inr ⟨h1, x, hx, h2, ?_⟩⟩
          simp [e, h3]
theorem LenH.fin {g : List OB} {b : Nat} {d : Nat → Nat} (hd : Dist g b d) {r : Nat} {L : Nat → Nat} (h : LenH d r L []) : L = d := by
  have hno : ∀ a, d a ≠ r := fun a e => by have := (h.nxt a).2 e; cases this
  have hp := h.pos
  have key : ∀ j a, d a ≠ r + j := by
    intro j
    induction j with
    | zero => exact hno
    | succ j ih =>
      intro a e
      obtain ⟨x, _, e2⟩ := hd.down (a := a) (k := r + j - 1) (by omega)
      exact ih x (by omega)
  funext a
  rw [h.tab a]
  by_cases e : 1 ≤ d a ∧ d a < r
  · rw [if_pos e]
  · rw [if_neg e]
    have := key (d a - r) a
    omega
theorem LenH.start {g : List OB} {b : Nat} {d : Nat → Nat} (hd : Dist g b d) : LenH d 1 (fun _ => 0) [b] := by
  refine ⟨fun a => ?_, fun a => ?_, Nat.le_refl _⟩
  · rw [if_neg]; omega
  · constructor
    · intro h; simp at h; subst h; exact hd.self
    · intro h; simp [hd.one h]
end Go.Proofs.Ytiocfnpfmilkgaa
