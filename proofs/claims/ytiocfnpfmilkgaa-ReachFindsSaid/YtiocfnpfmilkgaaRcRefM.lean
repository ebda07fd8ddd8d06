/- Plain words on the document's own rounds: what objects adds to what was seen. No walk. -/
import Derived.Test.YtiocfnpfmilkgaaRcLawM
import Derived.Test.YtiocfnpfmilkgaaRcMarkM
namespace Go.Proofs.Ytiocfnpfmilkgaa
set_option maxRecDepth 20000

/-- M1 is M and the objects S (by their indices); more: one was new. -/
structure Adds (n : Nat) (M : Nat → Bool) (S : List Nat) (M1 : Nat → Bool) (more : Bool) : Prop where
  sub : ∀ i, M i = true → M1 i = true
  fine : ∀ i, M1 i = true → M i = true ∨ i + 1 ∈ S
  all : ∀ x ∈ S, M1 (x - 1) = true
  no : more = false → M1 = M
  yes : more = true → ∃ i, i < n ∧ M i = false ∧ M1 i = true
theorem Adds.nil (n : Nat) (M : Nat → Bool) : Adds n M [] M false := ⟨fun _ h => h, fun _ h => Or.inl h, (fun _ h => by cases h), fun _ => rfl, (fun h => by cases h)⟩
theorem Adds.old {n : Nat} {M : Nat → Bool} {S : List Nat} {M1 : Nat → Bool} {more : Bool} (h : Adds n M S M1 more) {x : Nat} (hx : M1 (x - 1) = true) : Adds n M (S ++ [x]) M1 more :=
  ⟨h.sub, fun i hi => (h.fine i hi).imp id fun e => List.mem_append_left _ e, (fun y hy => by
    rcases List.mem_append.1 hy with hy | hy
    · exact h.all y hy
    · simp at hy; subst hy; exact hx), h.no, h.yes⟩
theorem Adds.new {n : Nat} {M : Nat → Bool} {S : List Nat} {M1 : Nat → Bool} {more : Bool} (h : Adds n M S M1 more) {x : Nat} (h1 : 1 ≤ x) (hn : x ≤ n) (hx : M1 (x - 1) = false) : Adds n M (S ++ [x]) (setM M1 (x - 1)) true := by
  have hs : ∀ i, setM M1 (x - 1) i = (i == x - 1 || M1 i) := fun i => rfl
  refine ⟨fun i hi => by rw [hs, h.sub i hi]; simp, fun i hi => ?_, fun y hy => ?_, (fun e => by cases e), fun _ => ⟨x - 1, by omega, ?_, by rw [hs]; simp⟩⟩
  · rw [hs, Bool.or_eq_true, beq_iff_eq] at hi
    rcases hi with rfl | hi
    · exact Or.inr (by simp; omega)
    · exact (h.fine i hi).imp id fun e => List.mem_append_left _ e
  · rw [hs]
    rcases List.mem_append.1 hy with hy | hy
    · rw [h.all y hy]; simp
    · simp at hy; subst hy; simp
  · cases e : M (x - 1) with
    | false => rfl
    | true => rw [h.sub _ e] at hx; cases hx
theorem objP_more {g : List OB} {L : List Int} {k : Nat} {x : Int} (h : L[k]? = some x) (hr : thereN g x.toNat = true) : objP g L (k + 1) = objP g L k ++ [x.toNat] := by
  unfold objP; rw [List.take_add_one, h]; simp [hr]
/-- What reached knows: what was seen can be reached, the roots were seen. -/
structure Seen (g : List OB) (S : List Nat) (M : Nat → Bool) : Prop where
  root : ∀ x ∈ S, M (x - 1) = true
  fine : ∀ i, M i = true → Rch g S (i + 1)
/-- Of the objects up to i: what was seen holds nothing that was not. -/
def ClosedTo (g : List OB) (M : Nat → Bool) (i : Nat) : Prop := ∀ j, j < i → M j = true → ∀ x ∈ heldN g (j + 1), M (x - 1) = true
theorem Seen.start {g : List OB} {S : List Nat} {n : Nat} {M1 : Nat → Bool} {more : Bool} (h : Adds n (fun _ => false) S M1 more) : Seen g S M1 := ⟨h.all, fun i hi => by
  rcases h.fine i hi with e | e
  · cases e
  · exact .root e⟩
theorem Seen.more {g : List OB} {S : List Nat} {M : Nat → Bool} (h : Seen g S M) {n i : Nat} {M1 : Nat → Bool} {b : Bool} (ha : Adds n M (heldN g (i + 1)) M1 b) (hi : M i = true) : Seen g S M1 :=
  ⟨fun x hx => ha.sub _ (h.root x hx), fun j hj => by
    rcases ha.fine j hj with e | e
    · exact h.fine j e
    · exact .step (h.fine i hi) e⟩
theorem ClosedTo.same {g : List OB} {M : Nat → Bool} {i n : Nat} (h : ClosedTo g M i) {b : Bool} (ha : Adds n M (heldN g (i + 1)) M b) : ClosedTo g M (i + 1) := fun j hj hm x hx => by
  by_cases e : j = i
  · subst e; exact ha.all x hx
  · exact h j (by omega) hm x hx
theorem ClosedTo.skip {g : List OB} {M : Nat → Bool} {i : Nat} (h : ClosedTo g M i) (hi : M i = false) : ClosedTo g M (i + 1) := fun j hj hm x hx => by
  by_cases e : j = i
  · subst e; rw [hi] at hm; cases hm
  · exact h j (by omega) hm x hx
theorem Seen.fin {g : List OB} (hc : checkB g = true) {S : List Nat} {M : Nat → Bool} (h : Seen g S M) (hcl : ClosedTo g M g.length) : ∀ i, i < g.length → M i = reachB g S (i + 1) := by
  have key : ∀ m, Rch g S m → M (m - 1) = true := by
    intro m hm
    induction hm with
    | root hx => exact h.root _ hx
    | step hr hx ih =>
      rename_i m x
      have ht := there_le (held_from hc hx)
      exact hcl (m - 1) (by omega) ih x (by rw [show m - 1 + 1 = m by omega]; exact hx)
  intro i hi
  rw [Bool.eq_iff_iff, reachB_iff]
  exact ⟨h.fine i, fun hr => by have := key _ hr; rwa [Nat.add_sub_cancel] at this⟩
/-- How many of the first n were not seen. -/
def unN (n : Nat) (M : Nat → Bool) : Nat := (List.range n).countP fun i => !M i
theorem unN_le (n : Nat) (M : Nat → Bool) : unN n M ≤ n := Nat.le_trans List.countP_le_length (by simp)
theorem unN_sub {n : Nat} {M M1 : Nat → Bool} (h : ∀ i, M i = true → M1 i = true) : unN n M1 ≤ unN n M := by
  unfold unN
  refine List.countP_mono_left fun i _ hi => ?_
  cases e : M i with
  | false => rfl
  | true => rw [h i e] at hi; cases hi
theorem unN_less {n : Nat} {M M1 : Nat → Bool} (h : ∀ i, M i = true → M1 i = true) (hn : ∃ i, i < n ∧ M i = false ∧ M1 i = true) : unN n M1 < unN n M := by
  obtain ⟨i, hi, h0, h1⟩ := hn
  unfold unN
  have hm : i ∈ List.range n := List.mem_range.2 hi
  generalize List.range n = L at hm
  induction L with
  | nil => cases hm
  | cons a r ih =>
    rw [List.countP_cons, List.countP_cons]
    have hle : r.countP (fun i => !M1 i) ≤ r.countP fun i => !M i := List.countP_mono_left fun j _ hj => by
      cases e : M j with
      | false => rfl
      | true => rw [h j e] at hj; cases hj
    rcases List.mem_cons.1 hm with e | hm
    · subst e
      rw [h0, h1]; simp; omega
    · have := ih hm
      cases e : M a with
      | false => cases M1 a <;> simp <;> omega
      | true => rw [h a e]; simp; omega
end Go.Proofs.Ytiocfnpfmilkgaa
