/- RcMath: Plain words on what can be reached: objects that are there, what they hold, reaching, ways and how short they are. No walk, no program. | RcSet: A set of numbers: a map to struct{}, as the list of its keys. No walk. | RcSmall: reach.there, held, objects. | RcLay: The library's slices.Sorted, maps.Keys, slices.Sort, slices.DeleteFunc, slices.Min, at ints: their laying at this program. | RcKeys: maps.Keys and slices.Sorted, at a set of numbers: its keys, each once. | RcRounds: reach.rounds, whatever is looked at: round by round all that is in the set. -/
import Derived.Test.YtjlobjgemhapaaaOldV
import Derived.Test.YtjlobjgemhapaaaOldG
import Derived.Test.YtjlobjgemhapaaaOldG
import Derived.Maps.OwnSet
import Derived.Lib.SlKeysI
import Derived.Test.YtjlobjgemhapaaaOldG
import Derived.Shelf.SlIterI.Nil
import Derived.Shelf.SortM.Plain
import Derived.Shelf.SortM.SortNone
import Derived.Shelf.SlicesE.DeleteFunc
import Derived.Shelf.SlicesG.Turned
import Derived.Deep.OwnRows
import Derived.Deep.LoopGhost
import Derived.Shelf.Abstract
namespace Go.Proofs.Ytjlobjgemhapaaa
set_option maxRecDepth 20000
set_option maxRecDepth 20000

/-- Is an object of this number there? -/
def thereN (g : List OB) : Nat → Bool
  | 0 => false
  | k + 1 => match g[k]? with
    | some o => o.kind != 0
    | none => false
/-- What it holds. -/
def heldN (g : List OB) : Nat → List Nat
  | 0 => []
  | k + 1 => match g[k]? with
    | some o => (refsL o.slots).map Int.toNat
    | none => []
theorem there_succ (g : List OB) (k : Nat) : thereN g (k + 1) = match g[k]? with
    | some o => o.kind != 0
    | none => false := rfl
theorem held_succ (g : List OB) (k : Nat) : heldN g (k + 1) = match g[k]? with
    | some o => (refsL o.slots).map Int.toNat
    | none => [] := rfl
/-- Values' objects. -/
def objsN (g : List OB) (l : List (Int × Int)) : List Nat := ((refsL l).map Int.toNat).filter (thereN g)
theorem there_le {g : List OB} {m : Nat} (h : thereN g m = true) : 1 ≤ m ∧ m ≤ g.length := by
  cases m with
  | zero => cases h
  | succ k =>
    rw [there_succ] at h
    cases hg : g[k]? with
    | none => rw [hg] at h; cases h
    | some o => have := (List.getElem?_eq_some_iff.1 hg).1; omega
theorem held_there {g : List OB} (hg : checkB g = true) {m x : Nat} (h : x ∈ heldN g m) : thereN g x = true := by
  cases m with
  | zero => cases h
  | succ k =>
    rw [held_succ] at h
    cases ho : g[k]? with
    | none => rw [ho] at h; cases h
    | some o =>
      rw [ho] at h
      obtain ⟨y, hy, rfl⟩ := List.mem_map.1 h
      obtain ⟨z, hz, h5⟩ := refs_there hg (List.mem_of_getElem? ho) hy
      have hr := refs_range hy
      obtain ⟨j, hj⟩ : ∃ j : Nat, y.toNat = j + 1 := ⟨y.toNat - 1, by omega⟩
      rw [hj]
      rw [there_succ]
      have e : (y - 1).toNat = j := by omega
      rw [e] at hz
      rw [hz]
      simp; omega
theorem held_from {g : List OB} (hg : checkB g = true) {m x : Nat} (h : x ∈ heldN g m) : thereN g m = true := by
  cases m with
  | zero => cases h
  | succ k =>
    rw [held_succ] at h
    cases ho : g[k]? with
    | none => rw [ho] at h; cases h
    | some o =>
      rw [ho] at h
      rw [there_succ]
      rw [ho]
      cases hk : (o.kind != 0) with
      | true => exact hk
      | false =>
        exfalso
        have hk : o.kind = 0 := by simpa using hk
        unfold checkB at hg
        have h2 := List.all_eq_true.1 hg o (List.mem_of_getElem? ho)
        simp only [objOk, Bool.and_eq_true] at h2
        obtain ⟨_, hs⟩ := h2
        unfold slotsOk at hs
        rw [if_pos (Or.inl hk)] at hs
        have : o.slots = [] := List.length_eq_zero_iff.1 (by simpa using hs)
        replace h : x ∈ (refsL o.slots).map Int.toNat := h
        rw [this] at h
        simp [refsL] at h
theorem objs_there {g : List OB} {l : List (Int × Int)} {x : Nat} (h : x ∈ objsN g l) : thereN g x = true := (List.mem_filter.1 h).2

/-! Reaching -/
inductive Rch (g : List OB) (S : List Nat) : Nat → Prop
  | root {m : Nat} : m ∈ S → Rch g S m
  | step {m x : Nat} : Rch g S m → x ∈ heldN g m → Rch g S x
theorem Rch.there {g : List OB} (hg : checkB g = true) {S : List Nat} (hS : ∀ m ∈ S, thereN g m = true) {m : Nat} (h : Rch g S m) : thereN g m = true := by
  cases h with
  | root h => exact hS _ h
  | step _ h => exact held_there hg h
theorem Rch.mono {g : List OB} {S T : List Nat} (hs : ∀ m ∈ S, Rch g T m) {m : Nat} (h : Rch g S m) : Rch g T m := by
  induction h with
  | root h => exact hs _ h
  | step _ h ih => exact .step ih h
noncomputable def reachB (g : List OB) (S : List Nat) : Nat → Bool := fun m => @decide (Rch g S m) (Classical.propDecidable _)
theorem reachB_iff {g : List OB} {S : List Nat} {m : Nat} : reachB g S m = true ↔ Rch g S m := by unfold reachB; exact @decide_eq_true_iff _ (Classical.propDecidable _)
/-- What has the roots, and with each all that it holds, and is reached, is what can be reached. -/
theorem reach_eq {g : List OB} {S : List Nat} {M : Nat → Bool} (h1 : ∀ m ∈ S, M m = true) (h2 : ∀ m x, M m = true → x ∈ heldN g m → M x = true) (h3 : ∀ m, M m = true → Rch g S m) : M = reachB g S := by
  funext m
  rw [Bool.eq_iff_iff, reachB_iff]
  refine ⟨h3 m, fun h => ?_⟩
  induction h with
  | root h => exact h1 _ h
  | step _ h ih => exact h2 _ _ ih h
/-- A list in which each is a root or held by an elder one, and that has all that its own hold. -/
def chainB (g : List OB) (S : List Nat) : List Nat → List Nat → Bool
  | _, [] => true
  | old, x :: r => (S.contains x || old.any fun y => (heldN g y).contains x) && chainB g S (x :: old) r
theorem chain_reach {g : List OB} {S : List Nat} : ∀ {l old : List Nat}, (∀ x ∈ old, Rch g S x) → chainB g S old l = true → ∀ x ∈ l, Rch g S x
  | [], _, _, _, _, h => by cases h
  | y :: r, old, ho, hc, x, hx => by
    simp only [chainB, Bool.and_eq_true, Bool.or_eq_true, List.contains_iff_mem, List.any_eq_true] at hc
    obtain ⟨h1, h2⟩ := hc
    have hy : Rch g S y := by
      rcases h1 with h | ⟨z, hz, h⟩
      · exact .root h
      · exact .step (ho z hz) h
    rcases List.mem_cons.1 hx with rfl | hx
    · exact hy
    · exact chain_reach (fun z hz => by
        rcases List.mem_cons.1 hz with rfl | hz
        · exact hy
        · exact ho z hz) h2 x hx
theorem reach_of {g : List OB} {S l : List Nat} (h1 : chainB g S [] l = true) (h2 : (S.all fun x => l.contains x) = true) (h3 : (l.all fun m => (heldN g m).all fun x => l.contains x) = true) : reachB g S = fun m => l.contains m := by
  refine (reach_eq (fun m hm => List.all_eq_true.1 h2 m hm) (fun m x hm hx => ?_) (fun m hm => ?_)).symm
  · exact List.all_eq_true.1 (List.all_eq_true.1 h3 m (by simpa using hm)) x hx
  · exact chain_reach (fun _ h => by cases h) h1 m (by simpa using hm)

/-- From and Lost: rising, those that are there and can, or can't, be reached. -/
noncomputable def fromL (g : List OB) (l : List (Int × Int)) (can : Bool) : List Nat := if checkB g then whichL (fun m o => o.kind != 0 && (reachB g (objsN g l) m == can)) g else []

/-! Ways -/
/-- From a to b there is a way of k objects. -/
inductive Way (g : List OB) (b : Nat) : Nat → Nat → Prop
  | here : Way g b b 1
  | step {a x k : Nat} : x ∈ heldN g a → Way g b x k → Way g b a (k + 1)
theorem Way.pos {g : List OB} {a b k : Nat} (h : Way g b a k) : 1 ≤ k := by cases h <;> omega
/-- f tells of each object how many the shortest way from it to b has; 0: there is none. -/
structure Dist (g : List OB) (b : Nat) (f : Nat → Nat) : Prop where
  way : ∀ a, f a ≠ 0 → Way g b a (f a)
  least : ∀ a k, Way g b a k → f a ≠ 0 ∧ f a ≤ k
theorem Dist.unique {g : List OB} {b : Nat} {f h : Nat → Nat} (hf : Dist g b f) (hh : Dist g b h) : f = h := by
  funext a
  by_cases e : f a = 0
  · by_cases e2 : h a = 0
    · omega
    · exact absurd e (hf.least a _ (hh.way a e2)).1
  · have h1 := hh.least a _ (hf.way a e)
    have h2 := hf.least a _ (hh.way a h1.1)
    omega
theorem least_of {p : Nat → Prop} : ∀ n, p n → ∃ k, p k ∧ ∀ j, p j → k ≤ j := by
  intro n
  induction n using Nat.strongRecOn with
  | _ n ih =>
    intro h
    by_cases hc : ∃ j, j < n ∧ p j
    · obtain ⟨j, hj, hp⟩ := hc
      exact ih j hj hp
    · exact ⟨n, h, fun j hj => Nat.le_of_not_lt fun hl => hc ⟨j, hl, hj⟩⟩
theorem dist_ex (g : List OB) (b : Nat) : ∃ f, Dist g b f := by
  have : ∀ a, ∃ d : Nat, (d ≠ 0 → Way g b a d) ∧ ∀ k, Way g b a k → d ≠ 0 ∧ d ≤ k := by
    intro a
    by_cases h : ∃ k, Way g b a k
    · obtain ⟨k, hk⟩ := h
      obtain ⟨d, hd, hl⟩ := least_of k hk
      exact ⟨d, fun _ => hd, fun j hj => ⟨by have := hd.pos; omega, hl j hj⟩⟩
    · exact ⟨0, fun h => absurd rfl h, fun k hk => absurd ⟨k, hk⟩ h⟩
  exact ⟨fun a => Classical.choose (this a), ⟨fun a => (Classical.choose_spec (this a)).1, fun a => (Classical.choose_spec (this a)).2⟩⟩
noncomputable def distF (g : List OB) (b : Nat) : Nat → Nat := Classical.choose (dist_ex g b)
theorem dist_is (g : List OB) (b : Nat) : Dist g b (distF g b) := Classical.choose_spec (dist_ex g b)
theorem Dist.self {g : List OB} {b : Nat} {f : Nat → Nat} (h : Dist g b f) : f b = 1 := by
  have := h.least b 1 .here
  omega
theorem Dist.one {g : List OB} {b : Nat} {f : Nat → Nat} (h : Dist g b f) {a : Nat} (e : f a = 1) : a = b := by
  have := h.way a (by omega)
  rw [e] at this
  cases this with
  | here => rfl
  | step _ w => have := w.pos; omega
theorem Dist.held {g : List OB} {b : Nat} {f : Nat → Nat} (h : Dist g b f) {a x : Nat} (hx : x ∈ heldN g a) (e : f x ≠ 0) : f a ≠ 0 ∧ f a ≤ f x + 1 := h.least a _ (.step hx (h.way x e))
theorem Dist.down {g : List OB} {b : Nat} {f : Nat → Nat} (h : Dist g b f) {a k : Nat} (e : f a = k + 2) : ∃ x ∈ heldN g a, f x = k + 1 := by
  have hw := h.way a (by omega)
  rw [e] at hw
  cases hw with
  | step hx w =>
    rename_i x
    refine ⟨x, hx, ?_⟩
    have h1 := h.least x _ w
    have h2 := h.held hx h1.1
    omega
theorem Dist.there {g : List OB} (hg : checkB g = true) {b : Nat} (hb : thereN g b = true) {f : Nat → Nat} (h : Dist g b f) {a : Nat} (e : f a ≠ 0) : thereN g a = true := by
  have hw := h.way a e
  generalize f a = k at hw
  cases hw with
  | here => exact hb
  | step hx w => exact held_from hg hx
/-- No way is longer than there are objects. -/
theorem Dist.le {g : List OB} (hg : checkB g = true) {b : Nat} (hb : thereN g b = true) {f : Nat → Nat} (h : Dist g b f) (a : Nat) : f a ≤ g.length := by
  have key : ∀ k a, f a = k → k ≤ (List.range g.length).countP fun i => decide (1 ≤ f (i + 1) ∧ f (i + 1) ≤ k) := by
    intro k
    induction k with
    | zero => intro a _; exact Nat.zero_le _
    | succ k ih =>
      intro a ha
      have h1 : k ≤ (List.range g.length).countP fun i => decide (1 ≤ f (i + 1) ∧ f (i + 1) ≤ k) := by
        cases k with
        | zero => exact Nat.zero_le _
        | succ k => obtain ⟨x, _, hx⟩ := h.down ha; exact ih x hx
      have ht := there_le (h.there hg hb (a := a) (by omega))
      have h2 : (List.range g.length).countP (fun i => decide (1 ≤ f (i + 1) ∧ f (i + 1) ≤ k)) + (List.range g.length).countP (fun i => decide (i + 1 = a)) ≤ (List.range g.length).countP fun i => decide (1 ≤ f (i + 1) ∧ f (i + 1) ≤ k + 1) := by
        generalize List.range g.length = L
        induction L with
        | nil => simp
        | cons i r ihr =>
          simp only [List.countP_cons]
          by_cases e : i + 1 = a
          · have e1 : f (i + 1) = k + 1 := by rw [e]; exact ha
            simp only [e1]
            have a1 : decide (1 ≤ k + 1 ∧ k + 1 ≤ k) = false := by simp
            have a2 : decide (1 ≤ k + 1 ∧ k + 1 ≤ k + 1) = true := by simp
            simp only [a1, a2, e, decide_true, if_true, Bool.false_eq_true, if_false]
            omega
          · have a3 : decide (i + 1 = a) = false := by simp [e]
            simp only [a3]
            by_cases e2 : 1 ≤ f (i + 1) ∧ f (i + 1) ≤ k
            · have a1 : decide (1 ≤ f (i + 1) ∧ f (i + 1) ≤ k) = true := by simp only [decide_eq_true_eq]; exact e2
              have a2 : decide (1 ≤ f (i + 1) ∧ f (i + 1) ≤ k + 1) = true := by simp only [decide_eq_true_eq]; omega
              simp only [a1, a2, if_true, Bool.false_eq_true, if_false]; omega
            · have a1 : decide (1 ≤ f (i + 1) ∧ f (i + 1) ≤ k) = false := by simp only [decide_eq_false_iff_not]; exact e2
              simp only [a1, Bool.false_eq_true, if_false]; split <;> omega
      have h3 : 1 ≤ (List.range g.length).countP (fun i => decide (i + 1 = a)) := by
        have : 0 < (List.range g.length).countP (fun i => decide (i + 1 = a)) := List.countP_pos_iff.2 ⟨a - 1, List.mem_range.2 (by omega), by simp; omega⟩
        omega
      omega
  exact Nat.le_trans (key _ a rfl) (Nat.le_trans List.countP_le_length (by simp))
/-- Numbers that tell of each object how many come on a way are that. -/
theorem dist_of {g : List OB} {b : Nat} {f : Nat → Nat} (h0 : f b = 1) (h1 : ∀ a, f a ≠ 0 → a ≠ b → ∃ x ∈ heldN g a, f x + 1 = f a ∧ f x ≠ 0) (h2 : ∀ a x, x ∈ heldN g a → f x ≠ 0 → f a ≠ 0 ∧ f a ≤ f x + 1) : Dist g b f := by
  refine ⟨?_, ?_⟩
  · have : ∀ k a, f a = k → k ≠ 0 → Way g b a k := by
      intro k
      induction k with
      | zero => intro a _ h; exact absurd rfl h
      | succ k ih =>
        intro a ha _
        by_cases e : a = b
        · subst e
          rw [h0] at ha
          obtain rfl : k = 0 := by omega
          exact .here
        · obtain ⟨x, hx, e1, e2⟩ := h1 a (by omega) e
          exact .step hx (ih x (by omega) (by omega))
    exact fun a h => this _ a rfl h
  · intro a k hw
    induction hw with
    | here => omega
    | step hx _ ih =>
      have := h2 _ _ hx ih.1
      omega
theorem Way.reach {g : List OB} {b a k : Nat} (h : Way g b a k) : Rch g [a] b := by
  induction h with
  | here => exact .root (by simp)
  | step hx _ ih => exact ih.mono (fun m hm => by simp at hm; subst hm; exact .step (.root (by simp)) hx)
theorem Way.more {g : List OB} {b a k x : Nat} (h : Way g b a k) (hx : x ∈ heldN g b) : Way g x a (k + 1) := by
  induction h with
  | here => exact .step hx .here
  | step hy _ ih => exact .step hy ih
theorem way_of_reach {g : List OB} {b a : Nat} (h : Rch g [a] b) : ∃ k, Way g b a k := by
  induction h with
  | root h => simp at h; subst h; exact ⟨1, .here⟩
  | step _ hx ih => obtain ⟨k, hk⟩ := ih; exact ⟨_, hk.more hx⟩

/-! The way itself -/
def minN (l : List Nat) : Nat := l.foldl (fun acc x => if acc = 0 ∨ x < acc then x else acc) 0
def nearN (g : List OB) (f : Nat → Nat) (a : Nat) : List Nat := (heldN g a).filter fun x => f x == f a - 1
def wayL (g : List OB) (f : Nat → Nat) : Nat → Nat → List Nat
  | 0, a => [a]
  | k + 1, a => a :: wayL g f k (minN (nearN g f a))
theorem wayL_len (g : List OB) (f : Nat → Nat) : ∀ k a, (wayL g f k a).length = k + 1
  | 0, _ => rfl
  | k + 1, a => by simp [wayL, wayL_len g f k]
theorem minN_go : ∀ (l : List Nat) (acc : Nat), (∀ x ∈ l, 1 ≤ x) → (l ≠ [] ∨ acc ≠ 0) → (l.foldl (fun acc x => if acc = 0 ∨ x < acc then x else acc) acc ∈ l ∨ (l.foldl (fun acc x => if acc = 0 ∨ x < acc then x else acc) acc = acc ∧ acc ≠ 0)) ∧ (∀ x ∈ l, l.foldl (fun acc x => if acc = 0 ∨ x < acc then x else acc) acc ≤ x) ∧ (acc ≠ 0 → l.foldl (fun acc x => if acc = 0 ∨ x < acc then x else acc) acc ≤ acc)
  | [], acc, _, h => by
    refine ⟨Or.inr ⟨rfl, ?_⟩, fun x hx => (by cases hx), fun _ => Nat.le_refl _⟩
    rcases h with h | h
    · exact absurd rfl h
    · exact h
  | y :: r, acc, h1, _ => by
    have hy := h1 y (by simp)
    have ih := minN_go r (if acc = 0 ∨ y < acc then y else acc) (fun x hx => h1 x (by simp [hx])) (Or.inr (by split <;> omega))
    simp only [List.foldl_cons]
    generalize hq : r.foldl (fun acc x => if acc = 0 ∨ x < acc then x else acc) (if acc = 0 ∨ y < acc then y else acc) = q at ih
    obtain ⟨i1, i2, i3⟩ := ih
    have hle : (if acc = 0 ∨ y < acc then y else acc) ≤ y := by split <;> omega
    have hne : (if acc = 0 ∨ y < acc then y else acc) ≠ 0 := by split <;> omega
    have i3 := i3 hne
    refine ⟨?_, ?_, ?_⟩
    · rcases i1 with i1 | ⟨i1, _⟩
      · exact Or.inl (by simp [i1])
      · by_cases e : acc = 0 ∨ y < acc
        · rw [if_pos e] at i1; exact Or.inl (by simp [i1])
        · rw [if_neg e] at i1; exact Or.inr ⟨i1, by omega⟩
    · intro x hx
      rcases List.mem_cons.1 hx with rfl | hx
      · omega
      · exact i2 x hx
    · intro h0
      have : (if acc = 0 ∨ y < acc then y else acc) ≤ acc := by split <;> omega
      omega
theorem minN_spec {l : List Nat} (h1 : ∀ x ∈ l, 1 ≤ x) (h2 : l ≠ []) : minN l ∈ l ∧ ∀ x ∈ l, minN l ≤ x := by
  obtain ⟨a, b, _⟩ := minN_go l 0 h1 (Or.inl h2)
  refine ⟨?_, b⟩
  rcases a with a | ⟨_, a⟩
  · exact a
  · exact absurd rfl a
theorem minN_unique {l : List Nat} (h1 : ∀ x ∈ l, 1 ≤ x) {m : Nat} (hm : m ∈ l) (hl : ∀ x ∈ l, m ≤ x) : minN l = m := by
  obtain ⟨a, b⟩ := minN_spec h1 (by rintro rfl; cases hm)
  have := b m hm
  have := hl _ a
  omega
theorem minN_snoc (l : List Nat) (x : Nat) : minN (l ++ [x]) = if minN l = 0 ∨ x < minN l then x else minN l := by unfold minN; rw [List.foldl_append]; rfl
theorem held_pos {g : List OB} (hg : checkB g = true) {a x : Nat} (h : x ∈ heldN g a) : 1 ≤ x := (there_le (held_there hg h)).1
theorem near_next {g : List OB} (hg : checkB g = true) {b : Nat} {f : Nat → Nat} (h : Dist g b f) {a k : Nat} (e : f a = k + 2) : minN (nearN g f a) ∈ heldN g a ∧ f (minN (nearN g f a)) = k + 1 := by
  have hp : ∀ x ∈ nearN g f a, 1 ≤ x := fun x hx => held_pos hg (List.mem_filter.1 hx).1
  obtain ⟨x, hx, e1⟩ := h.down e
  have hne : nearN g f a ≠ [] := by
    intro h0
    have : x ∈ nearN g f a := List.mem_filter.2 ⟨hx, by simp [e, e1]⟩
    rw [h0] at this; cases this
  obtain ⟨a1, _⟩ := minN_spec hp hne
  obtain ⟨b1, b2⟩ := List.mem_filter.1 a1
  refine ⟨b1, ?_⟩
  have : f (minN (nearN g f a)) = f a - 1 := by simpa using b2
  omega
/-- Path: the shortest way that is least. -/
noncomputable def pathL (g : List OB) (root : Int × Int) (b : Nat) : List Nat :=
  if checkB g && thereN g b then (match objsN g [root] with
    | [] => []
    | a :: _ => if distF g b a = 0 then [] else wayL g (distF g b) (distF g b a - 1) a) else []
end Go.Proofs.Ytjlobjgemhapaaa
namespace Go.Proofs.Ytjlobjgemhapaaa
set_option maxRecDepth 20000
set_option maxRecDepth 20000
open Go.RowKit Go.Maps

theorem zeroU (w : World) : (zeroValue 176).run Try.prog w = .ok (.agg #[]) w := by kernel_rfl
theorem keyL {n : Int} (h : wf64 n) : keyOf Try.prog 3 (.int .i64 n) = some (.int .i64 n) := keyI h
def MapT (w : World) (m : Nat) (T : List Nat) : Prop :=
  T.Nodup ∧ (∀ n ∈ T, n ≤ 1099511627776) ∧ ∃ D : DataW Unit, w.ownsMap Try.prog 3 unitElem m T.length D ∧ size D = T.length ∧ ∀ k : Int, has D (.int .i64 k) = decide (∃ n ∈ T, (n : Int) = k)
theorem MapT.keep {w w' : World} {m : Nat} {T : List Nat} (h : MapT w m T) (hb : w'.heap[m]? = w.heap[m]?) : MapT w' m T := by
  obtain ⟨h1, h3, D, ⟨es, clock, he, r⟩, h2⟩ := h
  exact ⟨h1, h3, D, ⟨es, clock, hb.trans he, r⟩, h2⟩
theorem MapT.form {w : World} {m : Nat} {T : List Nat} (h : MapT w m T) : ∃ es clock, w.heap[m]? = some (.map es clock) := by
  obtain ⟨_, _, D, ⟨es, clock, he, _⟩, _⟩ := h
  exact ⟨es, clock, he⟩
theorem MapT.lt {w : World} {m : Nat} {T : List Nat} (h : MapT w m T) : m < w.heap.size := by
  obtain ⟨es, clock, he⟩ := h.form
  exact (Array.getElem?_eq_some_iff.1 he).1
theorem MapT.below {w w' : World} {m : Nat} {T : List Nat} (h : MapT w m T) {B : Nat} (hb : Below B w w') (hm : m < B) : MapT w' m T := h.keep (hb.block _ hm)
theorem MapT.made (w : World) : MapT (w.alloc (.map #[] 0)) w.heap.size [] := ⟨List.nodup_nil, (fun _ h => by cases h), _, World.ownsMap_made _ _ _ _, rfl, fun k => by simp [has_eq]⟩
theorem owns_tight {H : Type} {P : Program} {k : TypeId} {R : Value → Option (DataW H × List MemPlace)} {w : World} {b n : Nat} {D : DataW H} (h : w.ownsMap P k R b n D) : w.ownsMap P k R b (size D) D := by
  obtain ⟨es, clock, hb, F, hs, rfl⟩ := h
  exact ⟨es, clock, hb, F, by simp [size, length_sorted], rfl⟩
theorem short_of {T : List Nat} (hd : T.Nodup) (hb : ∀ n ∈ T, n ≤ 1099511627776) : T.length ≤ 1099511627777 := nodup_short _ T hd (fun x hx => by have := hb x hx; omega)
theorem MapT.run_put {w : World} {m : Nat} {T : List Nat} (h : MapT w m T) (n : Nat) (hn : n ≤ 1099511627776) :
    ∃ w', (Instr.mapUpdate 174 (.map (some m)) (iV n) (.agg #[])).run Try.prog w = .ok () w' ∧ MapT w' m (if n ∈ T then T else n :: T) ∧ w.grownBy w' (some m) := by
  obtain ⟨hd, hb, D, ho, hs, hh⟩ := h
  have hl := short_of hd hb
  obtain ⟨w', hrun, r1, r2⟩ := ho.update keyedI Try.underlying174 (by unfold maxLen; omega) (keyL (n := (n : Int)) ⟨by omega, by omega⟩) unitElem_mk
  have hn0 : has D (.int .i64 n) = decide (n ∈ T) := by
    rw [hh, decide_eq_decide]
    constructor
    · rintro ⟨x, hx, he⟩
      have : x = n := by omega
      subst this
      exact hx
    · intro hx; exact ⟨n, hx, rfl⟩
  have hs1 : size (D.put (.int .i64 n) (.agg [])) = (if n ∈ T then T else n :: T).length := by
    rw [size_put (ho.tidy keyedI), hn0]
    by_cases e : n ∈ T <;> simp [e, hs]
  have r1' := owns_tight r1
  rw [hs1] at r1'
  refine ⟨w', hrun, ⟨?_, ?_, _, r1', hs1, fun k => ?_⟩, r2⟩
  · by_cases e : n ∈ T
    · rw [if_pos e]; exact hd
    · rw [if_neg e]; exact List.nodup_cons.2 ⟨e, hd⟩
  · intro x hx
    by_cases e : n ∈ T
    · rw [if_pos e] at hx; exact hb x hx
    · rw [if_neg e] at hx
      rcases List.mem_cons.1 hx with rfl | hx
      · exact hn
      · exact hb x hx
  · by_cases hk : k = (n : Int)
    · subst hk
      rw [has_put_same ho.isMap (show WideAt.IsKeyLit (.int .i64 n) from trivial)]
      symm
      rw [decide_eq_true_iff]
      refine ⟨n, ?_, rfl⟩
      by_cases e : n ∈ T <;> simp [e]
    · rw [has_put_other (by intro e; injection e with _ e; exact hk e), hh]
      have : (∃ m, m ∈ (if n ∈ T then T else n :: T) ∧ (m : Int) = k) ↔ ∃ m ∈ T, (m : Int) = k := by
        by_cases e : n ∈ T
        · rw [if_pos e]
        · rw [if_neg e]
          constructor
          · rintro ⟨x, hx, he⟩
            rcases List.mem_cons.1 hx with rfl | hx
            · exact absurd he.symm hk
            · exact ⟨x, hx, he⟩
          · rintro ⟨x, hx, he⟩; exact ⟨x, by simp [hx], he⟩
      simp only [this]
theorem MapT.run_del {w : World} {m : Nat} {T : List Nat} (h : MapT w m T) (n : Nat) (hn : n ≤ 1099511627776) (hT : n ∈ T) (ty : TypeId) :
    ∃ w', (Builtin.delete_ #[174, 3] ty #[.map (some m), iV n]).run Try.prog w = .ok (.tuple #[]) w' ∧ MapT w' m (T.erase n) ∧ w.grownBy w' (some m) := by
  obtain ⟨hnd, hb, D, ho, hs, hh⟩ := h
  obtain ⟨w', hrun, r1, r2⟩ := ho.drop keyedI Try.underlying174 (keyL (n := (n : Int)) ⟨by omega, by omega⟩) ty
  have hn0 : has D (.int .i64 n) = true := by
    rw [hh, decide_eq_true_iff]
    exact ⟨n, hT, rfl⟩
  have hs1 : size (D.del (.int .i64 n)) = (T.erase n).length := by
    have := size_del (k := .int .i64 n) (ho.tidy keyedI)
    rw [hn0] at this
    rw [List.length_erase_of_mem hT]
    simp at this; omega
  have r1' := owns_tight r1
  rw [hs1] at r1'
  refine ⟨w', hrun, ⟨hnd.erase _, fun x hx => hb x (List.mem_of_mem_erase hx), _, r1', hs1, fun k => ?_⟩, r2.grown⟩
  by_cases hk : k = (n : Int)
  · subst hk
    rw [has_del_same]
    symm
    rw [decide_eq_false_iff_not]
    rintro ⟨x, hx, he⟩
    have : x = n := by omega
    subst this
    rw [hnd.mem_erase_iff] at hx
    exact hx.1 rfl
  · rw [has_del_other (by intro e; injection e with _ e; exact hk e), hh]
    have : (∃ m, m ∈ T ∧ (m : Int) = k) ↔ ∃ m ∈ T.erase n, (m : Int) = k := by
      constructor
      · rintro ⟨x, hx, he⟩
        exact ⟨x, (List.mem_erase_of_ne (by rintro rfl; exact hk he.symm)).2 hx, he⟩
      · rintro ⟨x, hx, he⟩; exact ⟨x, List.mem_of_mem_erase hx, he⟩
    simp only [this]
/-- What the keys say. -/
theorem keys_of {w : World} {m : Nat} {T : List Nat} {D : DataW Unit} (ho : w.ownsMap Try.prog 3 unitElem m T.length D) (hh : ∀ k : Int, has D (.int .i64 k) = decide (∃ n ∈ T, (n : Int) = k)) (hd : T.Nodup) {ss : List Int} (hp : ss.Perm (intKeys D)) :
    ∃ K : List Nat, K.Perm T ∧ ss.mergeSort (fun x y => decide (x ≤ y)) = K.map fun (n : Nat) => (n : Int) := by
  have h1 : (T.map fun (n : Nat) => (n : Int)).Perm (intKeys D) := by
    obtain ⟨es, hD, hpw, _⟩ := ho.entries keyedI
    obtain ⟨es', hD', hko⟩ := ho.keysOf
    obtain rfl : es = es' := by rw [hD] at hD'; simpa using hD'
    subst hD
    refine perm_intKeys hpw (fun p hp' => by obtain ⟨v, hv⟩ := hko p hp'; obtain ⟨x, _, hx, _⟩ := Maps.keyOf_i64 Try.underlying3 hv; exact ⟨x, hx⟩) ?_ (fun x => ?_)
    · rw [List.nodup_iff_pairwise_ne, List.pairwise_map]
      exact hd.imp fun hne e => hne (by omega)
    · rw [hh, decide_eq_true_iff, List.mem_map]
  have h2 : (ss.mergeSort (fun x y => decide (x ≤ y))).Perm (T.map fun (n : Nat) => (n : Int)) := (List.mergeSort_perm _ _).trans (hp.trans h1.symm)
  refine ⟨(ss.mergeSort (fun x y => decide (x ≤ y))).map Int.toNat, ?_, ?_⟩
  · have := h2.map Int.toNat
    rw [List.map_map] at this
    have e : T.map (Int.toNat ∘ fun (n : Nat) => (n : Int)) = T := by
      conv => rhs; rw [← List.map_id T]
      exact List.map_congr_left fun x _ => by simp
    rw [e] at this
    exact this
  · rw [List.map_map]
    conv => lhs; rw [← List.map_id (ss.mergeSort _)]
    refine List.map_congr_left fun x hx => ?_
    have := h2.mem_iff.1 hx
    obtain ⟨n, _, rfl⟩ := List.mem_map.1 this
    simp
end Go.Proofs.Ytjlobjgemhapaaa
namespace Go.Proofs.Ytjlobjgemhapaaa
set_option maxRecDepth 20000
set_option maxRecDepth 20000
open Go.RowKit Go.Maps

theorem refs_nat (l : List (Int × Int)) : refsL l = intsOf ((refsL l).map Int.toNat) := by
  unfold intsOf
  rw [List.map_map]
  conv => lhs; rw [← List.map_id (refsL l)]
  refine List.map_congr_left fun x hx => ?_
  have := refs_range hx
  simp; omega
theorem intsOf_get {l : List Nat} {k : Nat} {x : Nat} (h : l[k]? = some x) : (intsOf l)[k]? = some (x : Int) := by simp [intsOf, h]
theorem there_past {g : List OB} {m : Nat} (h : g.length < m) : thereN g m = false := by
  cases m with
  | zero => rfl
  | succ k => rw [there_succ]; rw [List.getElem?_eq_none (by omega)]
theorem there_at {g : List OB} {k : Nat} {o : OB} (h : g[k]? = some o) : thereN g (k + 1) = (o.kind != 0) := by rw [there_succ, h]
theorem held_at {g : List OB} {k : Nat} {o : OB} (h : g[k]? = some o) : heldN g (k + 1) = (refsL o.slots).map Int.toNat := by rw [held_succ, h]
theorem isThere_any {w : World} {A : Option Addr} {c : Nat} {g : List OB} (hg : GAt w A g) (_hn : g.length * 64 ≤ 140737488355328) (m : Int) (h1 : -9223372036854775808 ≤ m) (h2 : m ≤ 9223372036854775807) :
    Calls Try.prog 105 #[gV A g.length c, iV m] w fun e w' => e = .returned (.bool (decide (1 ≤ m) && thereN g m.toNat)) ∧ Below w.heap.size w w' := by
  by_cases hm : 1 ≤ m
  · obtain ⟨k, rfl⟩ : ∃ k : Nat, m = (k : Int) + 1 := ⟨(m - 1).toNat, by omega⟩
    have e1 : ((k : Int) + 1).toNat = k + 1 := by omega
    have d1 : decide (1 ≤ (k : Int) + 1) = true := by simp; omega
    rw [e1, d1, Bool.true_and]
    by_cases hk : k < g.length
    · obtain ⟨o, ho⟩ : ∃ o, g[k]? = some o := ⟨_, List.getElem?_eq_getElem hk⟩
      obtain ⟨a, sA, sc, rfl, hal, ⟨c0, c1, c2, c3, c4⟩, hs⟩ := hg k o ho
      rw [there_at ho]
      have d2 : decide ((k : Int) + 1 ≤ (g.length : Int)) = true := by simp; omega
      clear hg ho hs c1 c2 c3 c4
      generalize g.length = n at *
      have hl2 : (a.add (k * 5)).block < w.heap.size := by rw [Go.ChangeShapes.block_add]; exact hal
      go_enter Try.func105, Try.ntmps105
      go_wp2
      go_ret
      exact ⟨rfl, (Below.refl _ _).alloc (Nat.le_refl _) _⟩
    · rw [there_past (by omega)]
      have d2 : decide ((k : Int) + 1 ≤ (g.length : Int)) = false := by simp; omega
      clear hg
      generalize g.length = n at *
      go_enter Try.func105, Try.ntmps105
      go_wp2
      go_ret
      exact ⟨rfl, (Below.refl _ _).alloc (Nat.le_refl _) _⟩
  · have d1 : decide (1 ≤ m) = false := by simpa using hm
    rw [d1, Bool.false_and]
    clear hg
    generalize g.length = n at *
    go_enter Try.func105, Try.ntmps105
    go_wp2
    go_ret
    exact ⟨rfl, (Below.refl _ _).alloc (Nat.le_refl _) _⟩
theorem isThere_nat {w : World} {A : Option Addr} {c : Nat} {g : List OB} (hg : GAt w A g) (hn : g.length * 64 ≤ 140737488355328) (m : Nat) (h2 : (m : Int) ≤ 9223372036854775807) :
    Calls Try.prog 105 #[gV A g.length c, iV m] w fun e w' => e = .returned (.bool (thereN g m)) ∧ Below w.heap.size w w' := by
  refine (isThere_any hg hn m (by omega) h2).mono ?_
  rintro e w' ⟨rfl, hb⟩
  refine ⟨?_, hb⟩
  congr 2
  cases m with
  | zero => rfl
  | succ k => simp; omega
theorem own_less {w1 : World} {v : Value} {n b b' : Nat} {xs : List Value} (h : w1.ownsRow b 3 1 v n xs) (hb : b' ≤ b) : w1.ownsRow b' 3 1 v n xs := by
  refine ⟨h.1, ?_⟩
  rcases h.2 with h2 | ⟨g, cap, cur, e, hb', r⟩
  · exact .inl h2
  · exact .inr ⟨g, cap, cur, e, by omega, r⟩
theorem own_box {w w1 : World} {o : Obj} {v : Value} {n : Nat} {xs : List Value} (h : w1.ownsRow (w.alloc o).heap.size 3 1 v n xs) : w1.ownsRow w.heap.size 3 1 v n xs := by
  refine ⟨h.1, ?_⟩
  rcases h.2 with h2 | ⟨g, cap, cur, e, hb, r⟩
  · exact .inl h2
  · exact .inr ⟨g, cap, cur, e, by simp at hb; omega, r⟩
theorem gives_box {l : List Int} {w w' : World} {o : Obj} {e : Ending} (h : GivesInts l (w.alloc o) e w') : GivesInts l w e w' := by
  obtain ⟨v, rfl, hw, hb⟩ := h
  exact ⟨v, rfl, own_box hw, below_box hb⟩
theorem held_any {w : World} {A : Option Addr} {c : Nat} {g : List OB} (hg : GAt w A g) (hn : g.length * 64 ≤ 140737488355328) {k : Nat} (hk : k < g.length) :
    Calls Try.prog 155 #[gV A g.length c, iV ((k : Int) + 1)] w (GivesInts (intsOf (heldN g (k + 1))) w) := by
  obtain ⟨o, ho⟩ : ∃ o, g[k]? = some o := ⟨_, List.getElem?_eq_getElem hk⟩
  obtain ⟨a, sA, sc, rfl, hal, ⟨c0, c1, c2, c3, c4⟩, hs⟩ := hg k o ho
  rw [held_at ho, ← refs_nat]
  have RF : Hid (∀ W, Below w.heap.size w W → Calls Try.prog 20 #[.slice sA o.slots.length sc] W (GivesInts (refsL o.slots) W)) := fun W hW => Refs_any sA sc o.slots W hs.2 (pairs_below hs.1 hW)
  clear hg ho hs c0 c1 c3 c4
  generalize g.length = n at *
  generalize refsL o.slots = L at *
  generalize o.slots.length = ns at *
  have hl2 : (a.add (k * 5)).block < w.heap.size := by rw [Go.ChangeShapes.block_add]; exact hal
  go_enter Try.func155, Try.ntmps155
  go_wp2_with (go_at_call 20; (with_reducible refine (RF.out _ ((Below.refl _ _).alloc (Nat.le_refl _) _)).mono ?_); rintro e w1 hG; obtain ⟨v, rfl, hw, hb⟩ := gives_box hG)
  go_ret
  exact ⟨v, rfl, hw, hb⟩
def objP (g : List OB) (L : List Int) (k : Nat) : List Nat := ((L.take k).map Int.toNat).filter (thereN g)
theorem objP_yes {g : List OB} {L : List Int} {k : Nat} {x : Int} (h : L[k]? = some x) (hr : thereN g x.toNat = true) (h1 : 1 ≤ x) : intsOf (objP g L (k + 1)) = intsOf (objP g L k) ++ [x] := by
  have : objP g L (k + 1) = objP g L k ++ [x.toNat] := by unfold objP; rw [List.take_add_one, h]; simp [hr]
  rw [this, intsOf_snoc]
  congr 2
  omega
theorem objP_no {g : List OB} {L : List Int} {k : Nat} {x : Int} (h : L[k]? = some x) (hr : thereN g x.toNat = false) : objP g L (k + 1) = objP g L k := by
  unfold objP; rw [List.take_add_one, h]; simp [hr]
theorem objP_len (g : List OB) (L : List Int) (k : Nat) : (intsOf (objP g L k)).length ≤ k := by
  rw [intsOf_len]
  exact Nat.le_trans (List.length_filter_le _ _) (by simp; omega)
theorem objP_full (g : List OB) (L : List Int) : objP g L L.length = (L.map Int.toNat).filter (thereN g) := by
  unfold objP; rw [List.take_of_length_le (Nat.le_refl _)]
set_option maxHeartbeats 2000000 in
theorem objects_any {w : World} {A : Option Addr} {c : Nat} {g : List OB} (hg : GAt w A g) (hn : g.length * 64 ≤ 140737488355328) {B : Option Addr} {d : Nat} {l : List (Int × Int)} (hl : l.length * 16 ≤ 140737488355328) (h : PairsAt w B l) :
    Calls Try.prog 104 #[gV A g.length c, .slice B l.length d] w (GivesInts (intsOf (objsN g l)) w) := by
  obtain ⟨i0, hi, hz0, hz1, hz2⟩ := info_parts int_info
  have TH : Hid (∀ W m, Below w.heap.size w W → (m : Int) ≤ 9223372036854775807 → 1 ≤ m → Calls Try.prog 105 #[gV A g.length c, iV m] W fun e w' => e = .returned (.bool (thereN g m.toNat)) ∧ Below W.heap.size W w') := fun W m hW h2 h1 => by
    have := isThere_any (c := c) (hg.below hW) hn m (by omega) h2
    rw [decide_eq_true h1, Bool.true_and] at this
    exact this
  have RF : Hid (∀ W, Below w.heap.size w W → Calls Try.prog 20 #[.slice B l.length d] W (GivesInts (refsL l) W)) := fun W hW => Refs_any B d l W hl (pairs_below h hW)
  have RG : Hid (∀ x ∈ refsL l, 1 ≤ x ∧ x ≤ 2147483647) := fun x hx => refs_range hx
  have LN : (refsL l).length ≤ 8796093022208 := Nat.le_trans (refsL_len l) (by omega)
  rw [show objsN g l = ((refsL l).map Int.toNat).filter (thereN g) from rfl]
  clear hg h hl
  generalize refsL l = L at *
  generalize l.length = nl at *
  generalize g.length = n at *
  have GET : Hid (∀ i, i < L.length → ∃ p, L[i]? = some p) := fun i hi => ⟨_, List.getElem?_eq_getElem hi⟩
  have PL : Hid (∀ k, (intsOf (objP g L k)).length ≤ k) := objP_len g L
  have PY : Hid (∀ k x, L[k]? = some x → thereN g x.toNat = true → 1 ≤ x → intsOf (objP g L (k + 1)) = intsOf (objP g L k) ++ [x]) := fun k x => objP_yes
  have PN : Hid (∀ k x, L[k]? = some x → thereN g x.toNat = false → objP g L (k + 1) = objP g L k) := fun k x => objP_no
  rw [← objP_full]
  have P0 : Hid (objP g L 0 = []) := (rfl : objP g L 0 = [])
  generalize objP g L = P at *
  go_enter Try.func104, Try.ntmps104
  go_wp2_with (go_at_call 20; (with_reducible refine (RF.out _ ((Below.refl _ _).alloc (Nat.le_refl _) _)).mono ?_); rintro e V hG; obtain ⟨v, rfl, hw, hb⟩ := hG; have c0 := boxed hb (j := 0) rfl; have BV := Lib.hid (below_box hb); have zV : w.heap.size < V.heap.size := (by have := hb.size; simp at this; omega); clear hb; obtain ⟨RA, rc, rfl, hri⟩ := ints_of_own hw; have RI := Lib.hid hri; clear hw hri)
  go_loopw [5, 11] (fun v i wr => ∃ k : Nat, k ≤ L.length ∧ i = .int .i64 k ∧ wr.ownsRow V.heap.size 3 1 v (intsOf (P k)).length ((intsOf (P k)).map (Value.int .i64)) ∧ Below V.heap.size V wr) (fun _ i _ => L.length - (RowKit.intOf i).toNat)
  case atStart => exact ⟨0, Nat.zero_le _, rfl, (show World.ownsRow _ _ _ _ _ _ _ by rw [P0.out]; exact World.ownsRow_nil _ _ _ _), Below.refl _ _⟩
  case round =>
    obtain ⟨k, hk, rfl, hown, hb⟩ := hrel
    by_cases hlt : k < L.length
    · obtain ⟨x, hx⟩ := GET.out k hlt
      obtain ⟨ad, e, hal, hc⟩ := (RI.out.below hb) k x hx
      subst e
      have hl2 : (ad.add k).block < wr.heap.size := by rw [Go.ChangeShapes.block_add]; exact hal
      have x0 : wr.cell? ⟨w.heap.size, 0, none⟩ = some (.slice A n c) := (hb.cell (p := ⟨w.heap.size, 0, none⟩) zV).trans c0
      have hr := RG.out x (List.mem_of_getElem? hx)
      have O := Lib.hid hown
      have BB := Lib.hid hb
      have HX := Lib.hid hx
      have L1 := PL.out k
      clear hown hb hx
      have CALL := Lib.hid (TH.out wr x (BV.out.trans (BB.out.mono BV.out.size)) (by omega) hr.1)
      have hr2 := hr.2
      clear hr
      cases hq : thereN g x.toNat with
      | true =>
        rw [hq] at CALL
        have E1 := Lib.hid (PY.out k x HX.out hq (by have := RG.out x (List.mem_of_getElem? HX.out); omega))
        clear hq
        go_wp2_with (first
          | (go_at_call 105; refine CALL.out.mono ?_; rintro e w1 ⟨rfl, hb1⟩; have B1 := Lib.hid hb1; clear hb1)
          | (at_builtin; refine wpList_append_own _ rfl (.tmp 18) (.tmp 20) _ rfl V.heap.size 3 i0 _ 1 8 Try.underlying25 hi hz0 hz1 hz2 rfl (by decide) _ _ _ rfl ((own_below O.out B1.out).alloc _) ⟨w1.heap.size, 0, none⟩ 1 1 [.int .i64 x] rfl rfl one_cell (by simp [Value.oneCell']) (by unfold maxLen; omega) (by omega) (by have := BB.out.size; have := B1.out.size; simp; omega) ?_; intro v' w2 hown2 hg2 _))
        have R := refs_step (own_below O.out B1.out) (BB.out.trans (B1.out.mono BB.out.size)) hown2 hg2 E1.out
        clear hown2 hg2
        go_roundw
        case rel => exact ⟨k + 1, by omega, by go_num, R.1, R.2⟩
        case measure => simp [RowKit.intOf]; omega
      | false =>
        rw [hq] at CALL
        have E1 := Lib.hid (PN.out k x HX.out hq)
        clear hq
        go_wp2_with (go_at_call 105; refine CALL.out.mono ?_; rintro e w1 ⟨rfl, hb1⟩; have B1 := Lib.hid hb1; clear hb1)
        go_roundw
        case rel => exact ⟨k + 1, by omega, by go_num, by rw [E1.out]; exact own_below O.out B1.out, BB.out.trans (B1.out.mono BB.out.size)⟩
        case measure => simp [RowKit.intOf]; omega
    · have O := Lib.hid hown
      have BB := Lib.hid hb
      have hkn : k = L.length := by omega
      clear hown hb
      go_wp2_with fail
      go_ret
      refine ⟨_, rfl, ?_, BV.out.trans (BB.out.mono BV.out.size)⟩
      have O2 := O.out
      rw [hkn] at O2
      exact own_less O2 (by have := BV.out.size; omega)
end Go.Proofs.Ytjlobjgemhapaaa
namespace Go.Proofs
set_option maxRecDepth 20000
set_option maxRecDepth 20000
open Go.RowKit Go.Maps Go.Sort Go.Shelf

def Try.laysSlZI7_ren : Go.Shelf.Ren := ⟨fun | 7 => 181 | 10 => 192 | n => n, fun | 0 => 0 | 4 => 4 | 23 => 174 | 26 => 3 | 27 => 193 | 28 => 194 | 33 => 55 | 3 => 176 | n => n, fun | n => n⟩
theorem Try.laysSlZI7 : Go.Proofs.SlLaysZI.n7 Try.prog Try.laysSlZI7_ren := {
  mixed := by kernel_rfl
  f7 := ⟨Try.f181.name, by kernel_rfl, Try.func181.trans (congrArg some (by kernel_rfl))⟩
  f10 := ⟨Try.f192.name, by kernel_rfl, Try.func192.trans (congrArg some (by kernel_rfl))⟩
  t0 := Try.underlying0
  a0 := Try.isAgg0
  z0 := Try.sizeOf0
  v0 := Try.zeroValue0
  t4 := Try.underlying4
  a4 := Try.isAgg4
  z4 := Try.sizeOf4
  v4 := Try.zeroValue4
  t23 := Try.underlying174
  a23 := Try.isAgg174
  z23 := Try.sizeOf174
  v23 := Try.zeroValue174
  t26 := Try.underlying3
  a26 := Try.isAgg3
  z26 := Try.sizeOf3
  v26 := Try.zeroValue3
  t27 := Try.underlying193
  a27 := Try.isAgg193
  z27 := Try.sizeOf193
  v27 := Try.zeroValue193
  t28 := Try.underlying194
  a28 := Try.isAgg194
  z28 := Try.sizeOf194
  v28 := Try.zeroValue194
  t33 := Try.underlying55
  a33 := Try.isAgg55
  z33 := Try.sizeOf55
  v33 := Try.zeroValue55 }

def Try.laysSlZI6_ren : Go.Shelf.Ren := ⟨fun | 6 => 180 | 8 => 191 | 11 => 197 | 9 => 45 | n => n, fun | 0 => 0 | 24 => 25 | 26 => 3 | 28 => 194 | 33 => 55 | n => n, fun | n => n⟩
theorem Try.laysSlZI6 : Go.Proofs.SlLaysZI.n6 Try.prog Try.laysSlZI6_ren := {
  mixed := by kernel_rfl
  f6 := ⟨Try.f180.name, by kernel_rfl, Try.func180.trans (congrArg some (by kernel_rfl))⟩
  f8 := ⟨Try.f191.name, by kernel_rfl, Try.func191.trans (congrArg some (by kernel_rfl))⟩
  f11 := ⟨Try.f197.name, by kernel_rfl, Try.func197.trans (congrArg some (by kernel_rfl))⟩
  t0 := Try.underlying0
  a0 := Try.isAgg0
  z0 := Try.sizeOf0
  v0 := Try.zeroValue0
  t24 := Try.underlying25
  a24 := Try.isAgg25
  z24 := Try.sizeOf25
  v24 := Try.zeroValue25
  t26 := Try.underlying3
  a26 := Try.isAgg3
  z26 := Try.sizeOf3
  v26 := Try.zeroValue3
  t28 := Try.underlying194
  a28 := Try.isAgg194
  z28 := Try.sizeOf194
  v28 := Try.zeroValue194
  i26 := by kernel_rfl }

def Try.laysSlM5_ren : Go.Shelf.Ren := ⟨fun | 5 => 45 | 7 => 90 | 8 => 91 | 10 => 137 | 11 => 138 | 12 => 139 | 13 => 140 | 14 => 141 | 15 => 142 | 16 => 143 | 17 => 144 | 18 => 145 | 19 => 146 | 20 => 147 | 30 => 171 | 31 => 172 | 32 => 173 | 33 => 174 | 34 => 175 | 35 => 94 | 40 => 188 | n => n, fun | 0 => 0 | 3 => 3 | 4 => 4 | 5 => 5 | 9 => 9 | 22 => 25 | 23 => 25 | 25 => 3 | 32 => 108 | 35 => 155 | 36 => 156 | 41 => 161 | 44 => 164 | 46 => 166 | 53 => 185 | 57 => 189 | 63 => 200 | 64 => 201 | n => n, fun | n => n⟩
theorem Try.laysSlM5 : Go.Proofs.SlLaysM.n5 Try.prog Try.laysSlM5_ren := {
  mixed := by kernel_rfl
  f5 := ⟨Try.f45.name, by kernel_rfl, Try.func45.trans (congrArg some (by kernel_rfl))⟩
  f7 := ⟨Try.f90.name, by kernel_rfl, Try.func90.trans (congrArg some (by kernel_rfl))⟩
  f8 := Try.func91.trans (congrArg some (by kernel_rfl))
  f10 := ⟨Try.f137.name, by kernel_rfl, Try.func137.trans (congrArg some (by kernel_rfl))⟩
  f11 := ⟨Try.f138.name, by kernel_rfl, Try.func138.trans (congrArg some (by kernel_rfl))⟩
  f12 := ⟨Try.f139.name, by kernel_rfl, Try.func139.trans (congrArg some (by kernel_rfl))⟩
  f13 := ⟨Try.f140.name, by kernel_rfl, Try.func140.trans (congrArg some (by kernel_rfl))⟩
  f14 := ⟨Try.f141.name, by kernel_rfl, Try.func141.trans (congrArg some (by kernel_rfl))⟩
  f15 := ⟨Try.f142.name, by kernel_rfl, Try.func142.trans (congrArg some (by kernel_rfl))⟩
  f16 := ⟨Try.f143.name, by kernel_rfl, Try.func143.trans (congrArg some (by kernel_rfl))⟩
  f17 := ⟨Try.f144.name, by kernel_rfl, Try.func144.trans (congrArg some (by kernel_rfl))⟩
  f18 := ⟨Try.f145.name, by kernel_rfl, Try.func145.trans (congrArg some (by kernel_rfl))⟩
  f19 := Try.func146.trans (congrArg some (by kernel_rfl))
  f20 := Try.func147.trans (congrArg some (by kernel_rfl))
  f30 := ⟨Try.f171.name, by kernel_rfl, Try.func171.trans (congrArg some (by kernel_rfl))⟩
  f31 := Try.func172.trans (congrArg some (by kernel_rfl))
  f32 := Try.func173.trans (congrArg some (by kernel_rfl))
  f33 := ⟨Try.f174.name, by kernel_rfl, Try.func174.trans (congrArg some (by kernel_rfl))⟩
  f34 := ⟨Try.f175.name, by kernel_rfl, Try.func175.trans (congrArg some (by kernel_rfl))⟩
  f35 := ⟨Try.f94.name, by kernel_rfl, Try.func94.trans (congrArg some (by kernel_rfl))⟩
  f40 := ⟨Try.f188.name, by kernel_rfl, Try.func188.trans (congrArg some (by kernel_rfl))⟩
  t0 := Try.underlying0
  a0 := Try.isAgg0
  z0 := Try.sizeOf0
  v0 := Try.zeroValue0
  t3 := Try.underlying3
  a3 := Try.isAgg3
  z3 := Try.sizeOf3
  v3 := Try.zeroValue3
  t4 := Try.underlying4
  a4 := Try.isAgg4
  z4 := Try.sizeOf4
  v4 := Try.zeroValue4
  t5 := Try.underlying5
  a5 := Try.isAgg5
  z5 := Try.sizeOf5
  v5 := Try.zeroValue5
  t9 := Try.underlying9
  a9 := Try.isAgg9
  z9 := Try.sizeOf9
  v9 := Try.zeroValue9
  t22 := Try.underlying25
  a22 := Try.isAgg25
  z22 := Try.sizeOf25
  v22 := Try.zeroValue25
  t23 := Try.underlying25
  a23 := Try.isAgg25
  z23 := Try.sizeOf25
  v23 := Try.zeroValue25
  t25 := Try.underlying3
  a25 := Try.isAgg3
  z25 := Try.sizeOf3
  v25 := Try.zeroValue3
  t32 := Try.underlying108
  a32 := Try.isAgg108
  z32 := Try.sizeOf108
  v32 := Try.zeroValue108
  t35 := Try.underlying155
  a35 := Try.isAgg155
  z35 := Try.sizeOf155
  v35 := Try.zeroValue155
  t36 := Try.underlying156
  a36 := Try.isAgg156
  z36 := Try.sizeOf156
  v36 := Try.zeroValue156
  t41 := Try.underlying161
  a41 := Try.isAgg161
  z41 := Try.sizeOf161
  v41 := Try.zeroValue161
  t44 := Try.underlying164
  a44 := Try.isAgg164
  z44 := Try.sizeOf164
  v44 := Try.zeroValue164
  t46 := Try.underlying166
  a46 := Try.isAgg166
  z46 := Try.sizeOf166
  v46 := Try.zeroValue166
  t53 := Try.underlying185
  a53 := Try.isAgg185
  z53 := Try.sizeOf185
  v53 := Try.zeroValue185
  t57 := Try.underlying189
  a57 := Try.isAgg189
  z57 := Try.sizeOf189
  v57 := Try.zeroValue189
  t63 := Try.underlying200
  a63 := Try.isAgg200
  z63 := Try.sizeOf200
  v63 := Try.zeroValue200
  t64 := Try.underlying201
  a64 := Try.isAgg201
  z64 := Try.sizeOf201
  v64 := Try.zeroValue201 }

def Try.laysSlH10_ren : Go.Shelf.Ren := ⟨fun | 6 => 187 | 10 => 167 | n => n, fun | 0 => 0 | 3 => 3 | 4 => 4 | 22 => 25 | 23 => 3 | 25 => 55 | n => n, fun | n => n⟩
theorem Try.laysSlH10 : Go.Proofs.SlLaysH.n10 Try.prog Try.laysSlH10_ren := {
  mixed := by kernel_rfl
  f6 := ⟨Try.f187.name, by kernel_rfl, Try.func187.trans (congrArg some (by kernel_rfl))⟩
  f10 := ⟨Try.f167.name, by kernel_rfl, Try.func167.trans (congrArg some (by kernel_rfl))⟩
  t0 := Try.underlying0
  a0 := Try.isAgg0
  z0 := Try.sizeOf0
  v0 := Try.zeroValue0
  t3 := Try.underlying3
  a3 := Try.isAgg3
  z3 := Try.sizeOf3
  v3 := Try.zeroValue3
  t4 := Try.underlying4
  a4 := Try.isAgg4
  z4 := Try.sizeOf4
  v4 := Try.zeroValue4
  t22 := Try.underlying25
  a22 := Try.isAgg25
  z22 := Try.sizeOf25
  v22 := Try.zeroValue25
  a23 := Try.isAgg3
  z23 := Try.sizeOf3
  t25 := Try.underlying55
  a25 := Try.isAgg55
  z25 := Try.sizeOf55
  v25 := Try.zeroValue55 }


end Go.Proofs
namespace Go.Proofs.Ytjlobjgemhapaaa
set_option maxRecDepth 20000
set_option maxRecDepth 20000
open Go.RowKit Go.Maps Go.Sort Go.Shelf

theorem sorts_A (m : Nat) : AnyZI.SortsIn Try.prog Try.laysSlZI6_ren Fence.wide m :=
  ⟨fun blk off cap ss W hH hblk hsz => callsIn_wide.2 (AnyM.slices_Sort_int Try.laysSlM5 blk off cap ss W hH hblk hsz),
   fun p cap W => callsIn_wide.2 (AnyM.slices_Sort_int_none Try.laysSlM5 p cap W)⟩
theorem Keys_any (mb : Option Nat) (w : World) :
    Calls Try.prog 181 #[.map mb] w fun e w' => e = .returned (.func (.func 192) #[] #[bV w.heap.size]) ∧ w' = w.alloc (.cells #[.map mb] 174 (0, 0)) :=
  (callsIn_wide (n := 5)).1 (AnyZI.keys_in Try.laysSlZI7 Fence.wide 5 trivial rfl mb w)
theorem Sorted_any {W : World} {bm mb : Nat} {T : List Nat} (hbm : W.cell? ⟨bm, 0, none⟩ = some (.map (some mb))) (hM : MapT W mb T) :
    Calls Try.prog 180 #[.func (.func 192) #[] #[bV bm]] W fun e w' => ∃ (v : Value) (K : List Nat), e = .returned v ∧ K.Perm T ∧
      w'.ownsRow W.heap.size 3 1 v (intsOf K).length ((intsOf K).map (Value.int .i64)) ∧ Below W.heap.size W w' := by
  refine (callsIn_wide (n := 5)).1 ?_
  have hl := short_of hM.1 hM.2.1
  obtain ⟨hd, hb, D, ho, hs, hh⟩ := hM
  have hseq : SeqGives Fence.wide 2 Try.prog 192 #[bV bm] encZ (fun ss => ss.Perm (intKeys D)) (Maps.size D) W :=
    AnyZI.keys_gives (ρ := Try.laysSlZI7_ren) { Try.laysSlZI7 with } Fence.wide _ trivial rfl (by omega) bm mb _ D W (World.block_lt_of_cell? W _ hbm) hbm ho
  have cS := AnyZI.sorted_in Try.laysSlZI6 Fence.wide 5 trivial trivial trivial trivial rfl (by omega) (sorts_A _) (enters_of Try.func45 (by kernel_rfl) rfl) 192 #[bV bm] trivial (enters_of Try.func192 (by kernel_rfl) rfl) _ _ (by unfold maxLen; omega) (by omega) _ hseq
  change CallsIn _ _ Try.prog 180 _ _ _ at cS
  refine cS.mono ?_
  rintro e w' ⟨v, ss, rfl, hS, hrow, -, hbl⟩
  obtain ⟨K, hK, hm⟩ := keys_of ho hh hd hS
  have hlen : ss.length = (intsOf K).length := by
    have := congrArg List.length hm
    rw [List.length_mergeSort] at this
    unfold intsOf
    exact this
  rw [hm, hlen] at hrow
  exact ⟨v, K, rfl, hK, hrow, hbl⟩
end Go.Proofs.Ytjlobjgemhapaaa
namespace Go.Proofs.Ytjlobjgemhapaaa
set_option maxRecDepth 20000
set_option maxRecDepth 20000
open Go.RowKit Go.Maps

/-- Of what was there only the blocks of S were written. -/
structure Frm (S : Nat → Prop) (w w' : World) : Prop where
  os : w'.os = w.os
  tape : w'.tape = w.tape
  output : w'.output = w.output
  size : w.heap.size ≤ w'.heap.size
  block : ∀ k, k < w.heap.size → ¬ S k → w'.heap[k]? = w.heap[k]?
theorem Frm.refl (S : Nat → Prop) (w : World) : Frm S w w := ⟨rfl, rfl, rfl, Nat.le_refl _, fun _ _ _ => rfl⟩
theorem Frm.trans {S : Nat → Prop} {w w1 w2 : World} (h : Frm S w w1) (k : Frm S w1 w2) : Frm S w w2 :=
  ⟨k.os.trans h.os, k.tape.trans h.tape, k.output.trans h.output, Nat.le_trans h.size k.size, fun i hi hn => (k.block i (Nat.lt_of_lt_of_le hi h.size) hn).trans (h.block i hi hn)⟩
theorem Frm.grown {S : Nat → Prop} {w w1 w2 : World} (h : Frm S w w1) {g : Nat} (hg : w1.grownBy w2 (some g)) (hs : S g) : Frm S w w2 :=
  ⟨hg.os.trans h.os, hg.tape.trans h.tape, hg.output.trans h.output, Nat.le_trans h.size hg.size, fun k hk hn => (hg.block k (Nat.lt_of_lt_of_le hk h.size) (by intro e; injection e with e; subst e; exact hn hs)).trans (h.block k hk hn)⟩
theorem Frm.set {S : Nat → Prop} {w w1 : World} (h : Frm S w w1) {p : Addr} (hs : S p.block) (v : Value) : Frm S w (w1.setCell p v) :=
  ⟨h.os, h.tape, h.output, by simpa [World.setCell] using h.size, fun k hk hn => (Below.heap_setCell _ _ _ _ (by rintro rfl; exact hn hs)).trans (h.block k hk hn)⟩
theorem Frm.drew {S : Nat → Prop} {w w1 : World} (h : Frm S w w1) : Frm S w w1.drew := ⟨h.os, h.tape, h.output, h.size, h.block⟩
theorem Frm.below {S : Nat → Prop} {w w1 : World} {base : Nat} (h : Frm S w w1) (hb : base ≤ w.heap.size) (hs : ∀ k, S k → base ≤ k) : Below base w w1 :=
  ⟨h.os, h.tape, h.output, h.size, fun k hk => h.block k (by omega) (fun e => by have := hs k e; omega)⟩
theorem Frm.of_below (S : Nat → Prop) {w w1 : World} (h : Below w.heap.size w w1) : Frm S w w1 := ⟨h.os, h.tape, h.output, h.size, fun k hk _ => h.block k hk⟩
theorem Frm.mono {S T : Nat → Prop} {w w1 : World} (h : Frm S w w1) (hs : ∀ k, S k → T k) : Frm T w w1 := ⟨h.os, h.tape, h.output, h.size, fun k hk hn => h.block k hk fun e => hn (hs k e)⟩
theorem Frm.cell {S : Nat → Prop} {w w1 : World} (h : Frm S w w1) {p : Addr} (hp : p.block < w.heap.size) (hn : ¬ S p.block) : w1.cell? p = w.cell? p := World.cell?_of_block (h.block _ hp hn)
theorem ints_frm {S : Nat → Prop} {w w1 : World} (h : Frm S w w1) {A : Option Addr} {xs : List Int} (hi : IntsAt w A xs) (hn : ∀ a, A = some a → ¬ S a.block) : IntsAt w1 A xs := by
  intro i x hx
  obtain ⟨ad, e, hl, hc⟩ := hi i x hx
  exact ⟨ad, e, Nat.lt_of_lt_of_le hl h.size, (h.cell (by rw [Go.ChangeShapes.block_add]; exact hl) (by rw [Go.ChangeShapes.block_add]; exact hn ad e)).trans hc⟩
theorem ints_of_own2 {w : World} {base : Nat} {v : Value} {xs : List Int} (h : w.ownsRow base 3 1 v xs.length (xs.map (Value.int .i64))) : ∃ A c, v = .slice A xs.length c ∧ IntsAt w A xs ∧ ∀ a, A = some a → base ≤ a.block := by
  obtain ⟨A, c, rfl, hi⟩ := ints_of_own h
  refine ⟨A, c, rfl, hi, ?_⟩
  rintro a rfl
  exact (h.lt a.block rfl).1
theorem MapT.run_len {w : World} {m : Nat} {T : List Nat} (h : MapT w m T) (ty : TypeId) : (Builtin.len_ #[174] ty #[.map (some m)]).run Try.prog w = .ok (.int .i64 T.length) w := by
  obtain ⟨_, _, D, ho, hs, _⟩ := h
  have := ho.len Try.underlying174 ty
  rw [hs] at this
  exact this
set_option maxHeartbeats 4000000 in
theorem rounds_any {w : World} {mb g : Nat} {lb : Array Value} (eg : ∀ args w, (callFunc g args).run Try.prog w = .ok (.enter g args) w) (S : Nat → Prop) (hmS : S mb) (hSw : ∀ k, S k → k < w.heap.size)
    (I : Nat → List Nat → World → Prop) (H : Nat → List Nat → World → Prop) (N : Nat) (hN : N ≤ 1099511627776)
    (hT : ∀ r T W, H r T W → MapT W mb T) (hB : ∀ r T W W', H r T W → Below W.heap.size W W' → H r T W')
    (hI : ∀ (r k : Nat) K W, I r (k :: K) W → r ≤ N ∧ ∃ T, MapT W mb T ∧ k ∈ T ∧ ∀ W', MapT W' mb (T.erase k) → W.grownBy W' (some mb) →
      Calls Try.prog g (#[iV k, iV r] ++ lb) W' fun e w' => e = .returned (.tuple #[]) ∧ I r K w' ∧ Frm S W' w')
    (h1 : ∀ r T W K, H r T W → K.Perm T → K ≠ [] → I r K W) (h2 : ∀ r W, I r [] W → ∃ T, H (r + 1) T W)
    {T0 : List Nat} (h0 : H 1 T0 w) :
    Calls Try.prog 156 #[.map (some mb), .func (.func g) #[] lb] w fun e w' => e = .returned (.tuple #[]) ∧ (∃ r, H r [] w') ∧ Frm S w w' := by
  have HB := Lib.hid hB
  have HT := Lib.hid hT
  have HI := Lib.hid hI
  have H1 := Lib.hid h1
  have H2 := Lib.hid h2
  have SW := Lib.hid hSw
  clear hB hI h1 h2 hSw hT
  have KA : Hid (∀ W, Calls Try.prog 181 #[.map (some mb)] W fun e w' => e = .returned (.func (.func 192) #[] #[bV W.heap.size]) ∧ w' = W.alloc (.cells #[.map (some mb)] 174 (0, 0))) := fun W => Keys_any (some mb) W
  go_enter Try.func156, Try.ntmps156
  go_wp2_with fail
  go_loopg [4] (N + 2) (fun gg s4 wr => ∃ r : Nat, 1 ≤ r ∧ r ≤ N + 1 ∧ N + 2 - r ≤ gg ∧ s4 = .int .i64 r ∧ Hid (∃ T, H r T wr) ∧ Hid (Frm S w wr))
  case atStart => exact ⟨1, Nat.le_refl _, by omega, by omega, rfl, ⟨T0, h0⟩, Frm.refl _ _⟩
  case round =>
    obtain ⟨r, hr1, hr2, hgg, rfl, HH, FF⟩ := hrel
    obtain ⟨T, hHT⟩ := HH.out
    have hM := HT.out r T wr hHT
    have HH := Lib.hid hHT
    clear hHT
    have hlen := fun ty => hM.run_len ty
    have MM := Lib.hid hM
    cases hTT : T with
    | nil =>
      subst hTT
      clear hM
      go_wp2_with fail
      refine bodyPost_end (results_none rfl _ _ _) rfl ?_
      exact ⟨rfl, ⟨r, HH.out⟩, FF.out⟩
    | cons x T' =>
      have hne : T ≠ [] := by rw [hTT]; simp
      have NE := Lib.hid hne
      have hpos : (0 : Int) < (T.length : Int) := by rw [hTT]; simp
      clear hM hTT hne
      generalize T.length = nT at *
      have hgt : ((nT : Int) > 0) = True := eq_true hpos
      go_wp2_with (first
        | (go_at_call 181; refine (KA.out _).mono ?_; rintro e w1 ⟨rfl, rfl⟩)
        | (go_at_call 180; refine (Sorted_any (T := T) (mb := mb) (by simp) (MM.out.keep (Below.heap_alloc _ _ _ MM.out.lt))).mono ?_; rintro e V ⟨v, K, rfl, hK, hown, hb⟩; have B1 := Lib.hid (below_box hb); have KK := Lib.hid hK; obtain ⟨RA, rc, rfl, hri, hra⟩ := ints_of_own2 hown; have RI := Lib.hid hri; have RB := Lib.hid hra; clear hown hb hK hri hra))
      have IV : Hid (I r K V) := H1.out r T V K (HB.out r T wr V HH.out B1.out) KK.out (fun e => NE.out (by have := KK.out; rw [e] at this; exact this.symm.eq_nil))
      have FV : Hid (Frm S w V) := FF.out.trans (Frm.of_below S B1.out)
      have NS : Hid (∀ a, RA = some a → ¬ S a.block) := fun a ha hs => by
        have := RB.out a ha
        have := SW.out _ hs
        have := FF.out.size
        simp at *
        omega
      have hr3 : r ≤ N := by
        cases hK : K with
        | nil => exact absurd (by have := KK.out; rw [hK] at this; exact this.symm.eq_nil) NE.out
        | cons k K' => have := IV.out; rw [hK] at this; exact (HI.out r k K' V this).1
      have LK : Hid ((intsOf K).length = K.length) := show _ = _ from intsOf_len K
      clear NE RB hgt
      rw [LK.out]
      obtain ⟨R, hR⟩ : ∃ R, R = gk := ⟨_, rfl⟩
      rw [← hR] at *
      clear hR
      have hbig : K.length ≤ 1099511627777 := by
        rw [KK.out.length_eq]; exact short_of MM.out.1 MM.out.2.1
      go_loopg [16] K.length (fun gg s16 W => ∃ j : Nat, j ≤ K.length ∧ K.length - j ≤ gg ∧ s16 = .int .i64 j ∧ Hid (I r (K.drop j) W) ∧ Hid (Frm S V W))
      case atStart => exact ⟨0, Nat.zero_le _, by omega, rfl, IV.out, Frm.refl _ _⟩
      case round =>
        obtain ⟨j, hj, hg2, rfl, II, FW⟩ := hrel
        by_cases hlt : j < K.length
        · obtain ⟨k, hk⟩ : ∃ k, K[j]? = some k := ⟨_, List.getElem?_eq_getElem hlt⟩
          have hdr : K.drop j = k :: K.drop (j + 1) := by
            rw [List.drop_eq_getElem_cons hlt]
            congr 1
            have := List.getElem?_eq_some_iff.1 hk
            exact this.2
          obtain ⟨ad, e, hal, hc⟩ := (ints_frm FW.out RI.out NS.out) j k (intsOf_get hk)
          subst e
          have I2 : Hid (I r (k :: K.drop (j + 1)) wr) := by have := II.out; rw [hdr] at this; exact this
          obtain ⟨-, T2, hM2, hk2, hcl⟩ := HI.out r k _ wr I2.out
          obtain ⟨w2, hdel, hM3, hg3⟩ := hM2.run_del k (hM2.2.1 k hk2) hk2 0
          have hk3 := hM2.2.1 k hk2
          have hl2 : (ad.add j).block < wr.heap.size := by rw [Go.ChangeShapes.block_add]; exact hal
          have CALL := Lib.hid (hcl w2 hM3 hg3)
          have F3 : Hid (Frm S V w2) := FW.out.grown hg3 hmS
          clear hM2 hM3 hg3 hk hk2 hdr hcl
          go_wp2_with (go_at_fn g; refine CALL.out.mono ?_; rintro e w4 ⟨rfl, hi4, hf4⟩; have I4 := Lib.hid hi4; have F4 := Lib.hid hf4; clear hi4 hf4)
          go_roundg (K.length - (j + 1))
          case measure => omega
          case rel => exact ⟨j + 1, by omega, by omega, by go_num, I4.out, F3.out.trans F4.out⟩
        · have hjn : j = K.length := by omega
          have I2 : Hid (∃ T, H (r + 1) T wr) := by
            have := II.out
            rw [hjn, List.drop_length] at this
            exact H2.out r wr this
          clear hjn
          go_wp2_with fail
          go_roundg (N + 2 - (r + 1))
          case measure => omega
          case rel => exact ⟨r + 1, by omega, by omega, by omega, by go_num, I2.out, FV.out.trans FW.out⟩
end Go.Proofs.Ytjlobjgemhapaaa
