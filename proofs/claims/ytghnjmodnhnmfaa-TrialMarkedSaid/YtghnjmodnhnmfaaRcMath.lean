/- Plain words on what can be reached: objects that are there, what they hold, reaching, ways and how short they are. No walk, no program. -/
import Derived.Test.YtghnjmodnhnmfaaGrMath
namespace Go.Proofs.Ytghnjmodnhnmfaa
set_option maxRecDepth 20000

/-- Is an object of this number there? -/
def thereN (g : List OB) : Nat → Bool
  | 0 => false
  | k + 1 => match g[k]? with
    | some o => o.kind != 0
    | none => false
/-- What it holds. -/
def heldN (g : List OB) : Nat → List Nat
  | 0 => []
  | k + 1 => match g[k]? with
    | some o => (refsL o.slots).map Int.toNat
    | none => []
theorem there_succ (g : List OB) (k : Nat) : thereN g (k + 1) = match g[k]? with
    | some o => o.kind != 0
    | none => false := rfl
theorem held_succ (g : List OB) (k : Nat) : heldN g (k + 1) = match g[k]? with
    | some o => (refsL o.slots).map Int.toNat
    | none => [] := rfl
/-- Values' objects. -/
def objsN (g : List OB) (l : List (Int × Int)) : List Nat := ((refsL l).map Int.toNat).filter (thereN g)
theorem there_le {g : List OB} {m : Nat} (h : thereN g m = true) : 1 ≤ m ∧ m ≤ g.length := by
  cases m with
  | zero => cases h
  | succ k =>
    rw [there_succ] at h
    cases hg : g[k]? with
    | none => rw [hg] at h; cases h
    | some o => have := (List.getElem?_eq_some_iff.1 hg).1; omega
theorem held_there {g : List OB} (hg : checkB g = true) {m x : Nat} (h : x ∈ heldN g m) : thereN g x = true := by
  cases m with
  | zero => cases h
  | succ k =>
    rw [held_succ] at h
    cases ho : g[k]? with
    | none => rw [ho] at h; cases h
    | some o =>
      rw [ho] at h
      obtain ⟨y, hy, rfl⟩ := List.mem_map.1 h
      obtain ⟨z, hz, h5⟩ := refs_there hg (List.mem_of_getElem? ho) hy
      have hr := refs_range hy
      obtain ⟨j, hj⟩ : ∃ j : Nat, y.toNat = j + 1 := ⟨y.toNat - 1, by omega⟩
      rw [hj]
      rw [there_succ]
      have e : (y - 1).toNat = j := by omega
      rw [e] at hz
      rw [hz]
      simp; omega
theorem held_from {g : List OB} (hg : checkB g = true) {m x : Nat} (h : x ∈ heldN g m) : thereN g m = true := by
  cases m with
  | zero => cases h
  | succ k =>
    rw [held_succ] at h
    cases ho : g[k]? with
    | none => rw [ho] at h; cases h
    | some o =>
      rw [ho] at h
      rw [there_succ]
      rw [ho]
      cases hk : (o.kind != 0) with
      | true => exact hk
      | false =>
        exfalso
        have hk : o.kind = 0 := by simpa using hk
        unfold checkB at hg
        have h2 := List.all_eq_true.1 hg o (List.mem_of_getElem? ho)
        simp only [objOk, Bool.and_eq_true] at h2
        obtain ⟨_, hs⟩ := h2
        unfold slotsOk at hs
        rw [if_pos (Or.inl hk)] at hs
        have : o.slots = [] := List.length_eq_zero_iff.1 (by simpa using hs)
        replace h : x ∈ (refsL o.slots).map Int.toNat := h
        rw [this] at h
        simp [refsL] at h
theorem objs_there {g : List OB} {l : List (Int × Int)} {x : Nat} (h : x ∈ objsN g l) : thereN g x = true := (List.mem_filter.1 h).2

/-! Reaching -/
inductive Rch (g : List OB) (S : List Nat) : Nat → Prop
  | root {m : Nat} : m ∈ S → Rch g S m
  | step {m x : Nat} : Rch g S m → x ∈ heldN g m → Rch g S x
theorem Rch.there {g : List OB} (hg : checkB g = true) {S : List Nat} (hS : ∀ m ∈ S, thereN g m = true) {m : Nat} (h : Rch g S m) : thereN g m = true := by
  cases h with
  | root h => exact hS _ h
  | step _ h => exact held_there hg h
theorem Rch.mono {g : List OB} {S T : List Nat} (hs : ∀ m ∈ S, Rch g T m) {m : Nat} (h : Rch g S m) : Rch g T m := by
  induction h with
  | root h => exact hs _ h
  | step _ h ih => exact .step ih h
noncomputable def reachB (g : List OB) (S : List Nat) : Nat → Bool := fun m => @decide (Rch g S m) (Classical.propDecidable _)
theorem reachB_iff {g : List OB} {S : List Nat} {m : Nat} : reachB g S m = true ↔ Rch g S m := by unfold reachB; exact @decide_eq_true_iff _ (Classical.propDecidable _)
/-- What has the roots, and with each all that it holds, and is reached, is what can be reached. -/
theorem reach_eq {g : List OB} {S : List Nat} {M : Nat → Bool} (h1 : ∀ m ∈ S, M m = true) (h2 : ∀ m x, M m = true → x ∈ heldN g m → M x = true) (h3 : ∀ m, M m = true → Rch g S m) : M = reachB g S := by
  funext m
  rw [Bool.eq_iff_iff, reachB_iff]
  refine ⟨h3 m, fun h => ?_⟩
  induction h with
  | root h => exact h1 _ h
  | step _ h ih => exact h2 _ _ ih h
/-- A list in which each is a root or held by an elder one, and that has all that its own hold. -/
def chainB (g : List OB) (S : List Nat) : List Nat → List Nat → Bool
  | _, [] => true
  | old, x :: r => (S.contains x || old.any fun y => (heldN g y).contains x) && chainB g S (x :: old) r
theorem chain_reach {g : List OB} {S : List Nat} : ∀ {l old : List Nat}, (∀ x ∈ old, Rch g S x) → chainB g S old l = true → ∀ x ∈ l, Rch g S x
  | [], _, _, _, _, h => by cases h
  | y :: r, old, ho, hc, x, hx => by
    simp only [chainB, Bool.and_eq_true, Bool.or_eq_true, List.contains_iff_mem, List.any_eq_true] at hc
    obtain ⟨h1, h2⟩ := hc
    have hy : Rch g S y := by
      rcases h1 with h | ⟨z, hz, h⟩
      · exact .root h
      · exact .step (ho z hz) h
    rcases List.mem_cons.1 hx with rfl | hx
    · exact hy
    · exact chain_reach (fun z hz => by
        rcases List.mem_cons.1 hz with rfl | hz
        · exact hy
        · exact ho z hz) h2 x hx
theorem reach_of {g : List OB} {S l : List Nat} (h1 : chainB g S [] l = true) (h2 : (S.all fun x => l.contains x) = true) (h3 : (l.all fun m => (heldN g m).all fun x => l.contains x) = true) : reachB g S = fun m => l.contains m := by
  refine (reach_eq (fun m hm => List.all_eq_true.1 h2 m hm) (fun m x hm hx => ?_) (fun m hm => ?_)).symm
  · exact List.all_eq_true.1 (List.all_eq_true.1 h3 m (by simpa using hm)) x hx
  · exact chain_reach (fun _ h => by cases h) h1 m (by simpa using hm)

/-- From and Lost: rising, those that are there and can, or can't, be reached. -/
noncomputable def fromL (g : List OB) (l : List (Int × Int)) (can : Bool) : List Nat := if checkB g then whichL (fun m o => o.kind != 0 && (reachB g (objsN g l) m == can)) g else []

/-! Ways -/
/-- From a to b there is a way of k objects. -/
inductive Way (g : List OB) (b : Nat) : Nat → Nat → Prop
  | here : Way g b b 1
  | step {a x k : Nat} : x ∈ heldN g a → Way g b x k → Way g b a (k + 1)
theorem Way.pos {g : List OB} {a b k : Nat} (h : Way g b a k) : 1 ≤ k := by cases h <;> omega
/-- f tells of each object how many the shortest way from it to b has; 0: there is none. -/
structure Dist (g : List OB) (b : Nat) (f : Nat → Nat) : Prop where
  way : ∀ a, f a ≠ 0 → Way g b a (f a)
  least : ∀ a k, Way g b a k → f a ≠ 0 ∧ f a ≤ k
theorem Dist.unique {g : List OB} {b : Nat} {f h : Nat → Nat} (hf : Dist g b f) (hh : Dist g b h) : f = h := by
  funext a
  by_cases e : f a = 0
  · by_cases e2 : h a = 0
    · omega
    · exact absurd e (hf.least a _ (hh.way a e2)).1
  · have h1 := hh.least a _ (hf.way a e)
    have h2 := hf.least a _ (hh.way a h1.1)
    omega
theorem least_of {p : Nat → Prop} : ∀ n, p n → ∃ k, p k ∧ ∀ j, p j → k ≤ j := by
  intro n
  induction n using Nat.strongRecOn with
  | _ n ih =>
    intro h
    by_cases hc : ∃ j, j < n ∧ p j
    · obtain ⟨j, hj, hp⟩ := hc
      exact ih j hj hp
    · exact ⟨n, h, fun j hj => Nat.le_of_not_lt fun hl => hc ⟨j, hl, hj⟩⟩
theorem dist_ex (g : List OB) (b : Nat) : ∃ f, Dist g b f := by
  have : ∀ a, ∃ d : Nat, (d ≠ 0 → Way g b a d) ∧ ∀ k, Way g b a k → d ≠ 0 ∧ d ≤ k := by
    intro a
    by_cases h : ∃ k, Way g b a k
    · obtain ⟨k, hk⟩ := h
      obtain ⟨d, hd, hl⟩ := least_of k hk
      exact ⟨d, fun _ => hd, fun j hj => ⟨by have := hd.pos; omega, hl j hj⟩⟩
    · exact ⟨0, fun h => absurd rfl h, fun k hk => absurd ⟨k, hk⟩ h⟩
  exact ⟨fun a => Classical.choose (this a), ⟨fun a => (Classical.choose_spec (this a)).1, fun a => (Classical.choose_spec (this a)).2⟩⟩
noncomputable def distF (g : List OB) (b : Nat) : Nat → Nat := Classical.choose (dist_ex g b)
theorem dist_is (g : List OB) (b : Nat) : Dist g b (distF g b) := Classical.choose_spec (dist_ex g b)
theorem Dist.self {g : List OB} {b : Nat} {f : Nat → Nat} (h : Dist g b f) : f b = 1 := by
  have := h.least b 1 .here
  omega
theorem Dist.one {g : List OB} {b : Nat} {f : Nat → Nat} (h : Dist g b f) {a : Nat} (e : f a = 1) : a = b := by
  have := h.way a (by omega)
  rw [e] at this
  cases this with
  | here => rfl
  | step _ w => have := w.pos; omega
theorem Dist.held {g : List OB} {b : Nat} {f : Nat → Nat} (h : Dist g b f) {a x : Nat} (hx : x ∈ heldN g a) (e : f x ≠ 0) : f a ≠ 0 ∧ f a ≤ f x + 1 := h.least a _ (.step hx (h.way x e))
theorem Dist.down {g : List OB} {b : Nat} {f : Nat → Nat} (h : Dist g b f) {a k : Nat} (e : f a = k + 2) : ∃ x ∈ heldN g a, f x = k + 1 := by
  have hw := h.way a (by omega)
  rw [e] at hw
  cases hw with
  | step hx w =>
    rename_i x
    refine ⟨x, hx, ?_⟩
    have h1 := h.least x _ w
    have h2 := h.held hx h1.1
    omega
theorem Dist.there {g : List OB} (hg : checkB g = true) {b : Nat} (hb : thereN g b = true) {f : Nat → Nat} (h : Dist g b f) {a : Nat} (e : f a ≠ 0) : thereN g a = true := by
  have hw := h.way a e
  generalize f a = k at hw
  cases hw with
  | here => exact hb
  | step hx w => exact held_from hg hx
/-- No way is longer than there are objects. -/
theorem Dist.le {g : List OB} (hg : checkB g = true) {b : Nat} (hb : thereN g b = true) {f : Nat → Nat} (h : Dist g b f) (a : Nat) : f a ≤ g.length := by
  have key : ∀ k a, f a = k → k ≤ (List.range g.length).countP fun i => decide (1 ≤ f (i + 1) ∧ f (i + 1) ≤ k) := by
    intro k
    induction k with
    | zero => intro a _; exact Nat.zero_le _
    | succ k ih =>
      intro a ha
      have h1 : k ≤ (List.range g.length).countP fun i => decide (1 ≤ f (i + 1) ∧ f (i + 1) ≤ k) := by
        cases k with
        | zero => exact Nat.zero_le _
        | succ k => obtain ⟨x, _, hx⟩ := h.down ha; exact ih x hx
      have ht := there_le (h.there hg hb (a := a) (by omega))
      have h2 : (List.range g.length).countP (fun i => decide (1 ≤ f (i + 1) ∧ f (i + 1) ≤ k)) + (List.range g.length).countP (fun i => decide (i + 1 = a)) ≤ (List.range g.length).countP fun i => decide (1 ≤ f (i + 1) ∧ f (i + 1) ≤ k + 1) := by
        generalize List.range g.length = L
        induction L with
        | nil => simp
        | cons i r ihr =>
          simp only [List.countP_cons]
          by_cases e : i + 1 = a
          · have e1 : f (i + 1) = k + 1 := by rw [e]; exact ha
            simp only [e1]
            have a1 : decide (1 ≤ k + 1 ∧ k + 1 ≤ k) = false := by simp
            have a2 : decide (1 ≤ k + 1 ∧ k + 1 ≤ k + 1) = true := by simp
            simp only [a1, a2, e, decide_true, if_true, Bool.false_eq_true, if_false]
            omega
          · have a3 : decide (i + 1 = a) = false := by simp [e]
            simp only [a3]
            by_cases e2 : 1 ≤ f (i + 1) ∧ f (i + 1) ≤ k
            · have a1 : decide (1 ≤ f (i + 1) ∧ f (i + 1) ≤ k) = true := by simp only [decide_eq_true_eq]; exact e2
              have a2 : decide (1 ≤ f (i + 1) ∧ f (i + 1) ≤ k + 1) = true := by simp only [decide_eq_true_eq]; omega
              simp only [a1, a2, if_true, Bool.false_eq_true, if_false]; omega
            · have a1 : decide (1 ≤ f (i + 1) ∧ f (i + 1) ≤ k) = false := by simp only [decide_eq_false_iff_not]; exact e2
              simp only [a1, Bool.false_eq_true, if_false]; split <;> omega
      have h3 : 1 ≤ (List.range g.length).countP (fun i => decide (i + 1 = a)) := by
        have : 0 < (List.range g.length).countP (fun i => decide (i + 1 = a)) := List.countP_pos_iff.2 ⟨a - 1, List.mem_range.2 (by omega), by simp; omega⟩
        omega
      omega
  exact Nat.le_trans (key _ a rfl) (Nat.le_trans List.countP_le_length (by simp))
/-- Numbers that tell of each object how many come on a way are that. -/
theorem dist_of {g : List OB} {b : Nat} {f : Nat → Nat} (h0 : f b = 1) (h1 : ∀ a, f a ≠ 0 → a ≠ b → ∃ x ∈ heldN g a, f x + 1 = f a ∧ f x ≠ 0) (h2 : ∀ a x, x ∈ heldN g a → f x ≠ 0 → f a ≠ 0 ∧ f a ≤ f x + 1) : Dist g b f := by
  refine ⟨?_, ?_⟩
  · have : ∀ k a, f a = k → k ≠ 0 → Way g b a k := by
      intro k
      induction k with
      | zero => intro a _ h; exact absurd rfl h
      | succ k ih =>
        intro a ha _
        by_cases e : a = b
        · subst e
          rw [h0] at ha
          obtain rfl : k = 0 := by omega
          exact .here
        · obtain ⟨x, hx, e1, e2⟩ := h1 a (by omega) e
          exact .step hx (ih x (by omega) (by omega))
    exact fun a h => this _ a rfl h
  · intro a k hw
    induction hw with
    | here => omega
    | step hx _ ih =>
      have := h2 _ _ hx ih.1
      omega
theorem Way.reach {g : List OB} {b a k : Nat} (h : Way g b a k) : Rch g [a] b := by
  induction h with
  | here => exact .root (by simp)
  | step hx _ ih => exact ih.mono (fun m hm => by simp at hm; subst hm; exact .step (.root (by simp)) hx)
theorem Way.more {g : List OB} {b a k x : Nat} (h : Way g b a k) (hx : x ∈ heldN g b) : Way g x a (k + 1) := by
  induction h with
  | here => exact .step hx .here
  | step hy _ ih => exact .step hy ih
theorem way_of_reach {g : List OB} {b a : Nat} (h : Rch g [a] b) : ∃ k, Way g b a k := by
  induction h with
  | root h => simp at h; subst h; exact ⟨1, .here⟩
  | step _ hx ih => obtain ⟨k, hk⟩ := ih; exact ⟨_, hk.more hx⟩

/-! The way itself -/
def minN (l : List Nat) : Nat := l.foldl (fun acc x => if acc = 0 ∨ x < acc then x else acc) 0
def nearN (g : List OB) (f : Nat → Nat) (a : Nat) : List Nat := (heldN g a).filter fun x => f x == f a - 1
def wayL (g : List OB) (f : Nat → Nat) : Nat → Nat → List Nat
  | 0, a => [a]
  | k + 1, a => a :: wayL g f k (minN (nearN g f a))
theorem wayL_len (g : List OB) (f : Nat → Nat) : ∀ k a, (wayL g f k a).length = k + 1
  | 0, _ => rfl
  | k + 1, a => by simp [wayL, wayL_len g f k]
theorem minN_go : ∀ (l : List Nat) (acc : Nat), (∀ x ∈ l, 1 ≤ x) → (l ≠ [] ∨ acc ≠ 0) → (l.foldl (fun acc x => if acc = 0 ∨ x < acc then x else acc) acc ∈ l ∨ (l.foldl (fun acc x => if acc = 0 ∨ x < acc then x else acc) acc = acc ∧ acc ≠ 0)) ∧ (∀ x ∈ l, l.foldl (fun acc x => if acc = 0 ∨ x < acc then x else acc) acc ≤ x) ∧ (acc ≠ 0 → l.foldl (fun acc x => if acc = 0 ∨ x < acc then x else acc) acc ≤ acc)
  | [], acc, _, h => by
    refine ⟨Or.inr ⟨rfl, ?_⟩, fun x hx => (by cases hx), fun _ => Nat.le_refl _⟩
    rcases h with h | h
    · exact absurd rfl h
    · exact h
  | y :: r, acc, h1, _ => by
    have hy := h1 y (by simp)
    have ih := minN_go r (if acc = 0 ∨ y < acc then y else acc) (fun x hx => h1 x (by simp [hx])) (Or.inr (by split <;> omega))
    simp only [List.foldl_cons]
    generalize hq : r.foldl (fun acc x => if acc = 0 ∨ x < acc then x else acc) (if acc = 0 ∨ y < acc then y else acc) = q at ih
    obtain ⟨i1, i2, i3⟩ := ih
    have hle : (if acc = 0 ∨ y < acc then y else acc) ≤ y := by split <;> omega
    have hne : (if acc = 0 ∨ y < acc then y else acc) ≠ 0 := by split <;> omega
    have i3 := i3 hne
    refine ⟨?_, ?_, ?_⟩
    · rcases i1 with i1 | ⟨i1, _⟩
      · exact Or.inl (by simp [i1])
      · by_cases e : acc = 0 ∨ y < acc
        · rw [if_pos e] at i1; exact Or.inl (by simp [i1])
        · rw [if_neg e] at i1; exact Or.inr ⟨i1, by omega⟩
    · intro x hx
      rcases List.mem_cons.1 hx with rfl | hx
      · omega
      · exact i2 x hx
    · intro h0
      have : (if acc = 0 ∨ y < acc then y else acc) ≤ acc := by split <;> omega
      omega
theorem minN_spec {l : List Nat} (h1 : ∀ x ∈ l, 1 ≤ x) (h2 : l ≠ []) : minN l ∈ l ∧ ∀ x ∈ l, minN l ≤ x := by
  obtain ⟨a, b, _⟩ := minN_go l 0 h1 (Or.inl h2)
  refine ⟨?_, b⟩
  rcases a with a | ⟨_, a⟩
  · exact a
  · exact absurd rfl a
theorem minN_unique {l : List Nat} (h1 : ∀ x ∈ l, 1 ≤ x) {m : Nat} (hm : m ∈ l) (hl : ∀ x ∈ l, m ≤ x) : minN l = m := by
  obtain ⟨a, b⟩ := minN_spec h1 (by rintro rfl; cases hm)
  have := b m hm
  have := hl _ a
  omega
theorem minN_snoc (l : List Nat) (x : Nat) : minN (l ++ [x]) = if minN l = 0 ∨ x < minN l then x else minN l := by unfold minN; rw [List.foldl_append]; rfl
theorem held_pos {g : List OB} (hg : checkB g = true) {a x : Nat} (h : x ∈ heldN g a) : 1 ≤ x := (there_le (held_there hg h)).1
theorem near_next {g : List OB} (hg : checkB g = true) {b : Nat} {f : Nat → Nat} (h : Dist g b f) {a k : Nat} (e : f a = k + 2) : minN (nearN g f a) ∈ heldN g a ∧ f (minN (nearN g f a)) = k + 1 := by
  have hp : ∀ x ∈ nearN g f a, 1 ≤ x := fun x hx => held_pos hg (List.mem_filter.1 hx).1
  obtain ⟨x, hx, e1⟩ := h.down e
  have hne : nearN g f a ≠ [] := by
    intro h0
    have : x ∈ nearN g f a := List.mem_filter.2 ⟨hx, by simp [e, e1]⟩
    rw [h0] at this; cases this
  obtain ⟨a1, _⟩ := minN_spec hp hne
  obtain ⟨b1, b2⟩ := List.mem_filter.1 a1
  refine ⟨b1, ?_⟩
  have : f (minN (nearN g f a)) = f a - 1 := by simpa using b2
  omega
/-- Path: the shortest way that is least. -/
noncomputable def pathL (g : List OB) (root : Int × Int) (b : Nat) : List Nat :=
  if checkB g && thereN g b then (match objsN g [root] with
    | [] => []
    | a :: _ => if distF g b a = 0 then [] else wayL g (distF g b) (distF g b a - 1) a) else []
end Go.Proofs.Ytghnjmodnhnmfaa
