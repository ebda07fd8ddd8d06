/- Free numbers as spans, rising: what Take and Give make of them. No program. -/
namespace Go.Proofs.Ytlbbbfmnghcdnaa

abbrev topM : Nat := 9223372036854775807
/-- Spans that rise from lo on, with a gap between each two, all of them ahead of hi. -/
def RiseS : Nat → List (Nat × Nat) → Nat → Prop
  | lo, [], hi => lo ≤ hi
  | lo, p :: r, hi => lo ≤ p.1 ∧ p.1 ≤ p.2 ∧ RiseS (p.2 + 2) r hi
def FreeIn (F : List (Nat × Nat)) (m : Nat) : Prop := ∃ p ∈ F, p.1 ≤ m ∧ m ≤ p.2
/-- The last span begins at top, and is endless. -/
structure Rise (F : List (Nat × Nat)) (top : Nat) : Prop where
  rise : RiseS 1 F (topM + 2)
  last : F.getLast? = some (top, topM)
theorem RiseS.mono : ∀ {F : List (Nat × Nat)} {lo lo' hi : Nat}, RiseS lo F hi → lo' ≤ lo → RiseS lo' F hi
  | [], _, _, _, h, hl => by simp only [RiseS] at h ⊢; omega
  | _ :: _, _, _, _, ⟨h1, h2, h3⟩, hl => ⟨by omega, h2, h3⟩
theorem RiseS.up : ∀ {F : List (Nat × Nat)} {lo hi hi' : Nat}, RiseS lo F hi → hi ≤ hi' → RiseS lo F hi'
  | [], _, _, _, h, hl => by simp only [RiseS] at h ⊢; omega
  | _ :: r, _, _, _, ⟨h1, h2, h3⟩, hl => ⟨h1, h2, h3.up hl⟩
theorem RiseS.split : ∀ {A B : List (Nat × Nat)} {lo hi : Nat}, RiseS lo (A ++ B) hi → ∃ mid, RiseS lo A mid ∧ RiseS mid B hi
  | [], B, lo, hi, h => ⟨lo, Nat.le_refl _, h⟩
  | p :: A, B, lo, hi, ⟨h1, h2, h3⟩ => by
    obtain ⟨mid, ha, hb⟩ := RiseS.split (A := A) h3
    exact ⟨mid, ⟨h1, h2, ha⟩, hb⟩
theorem RiseS.join : ∀ {A B : List (Nat × Nat)} {lo mid hi : Nat}, RiseS lo A mid → RiseS mid B hi → RiseS lo (A ++ B) hi
  | [], B, lo, mid, hi, h, hb => by simp only [RiseS] at h; exact hb.mono h
  | p :: A, B, lo, mid, hi, ⟨h1, h2, h3⟩, hb => ⟨h1, h2, RiseS.join (A := A) h3 hb⟩
theorem RiseS.le : ∀ {F : List (Nat × Nat)} {lo hi : Nat}, RiseS lo F hi → lo + 2 * F.length ≤ hi
  | [], _, _, h => by simp only [RiseS] at h; simpa using h
  | p :: r, lo, hi, ⟨h1, h2, h3⟩ => by have := h3.le; simp; omega
theorem RiseS.mem : ∀ {F : List (Nat × Nat)} {lo hi : Nat}, RiseS lo F hi → ∀ p ∈ F, lo ≤ p.1 ∧ p.1 ≤ p.2 ∧ p.2 + 2 ≤ hi
  | [], _, _, _, p, hp => by simp at hp
  | q :: r, lo, hi, ⟨h1, h2, h3⟩, p, hp => by
    rcases List.mem_cons.1 hp with rfl | hp
    · have := h3.le; exact ⟨h1, h2, by omega⟩
    · have := h3.mem p hp; exact ⟨by omega, this.2.1, this.2.2⟩
/-- All of A ends ahead of hi. -/
theorem RiseS.upto : ∀ {A : List (Nat × Nat)} {lo mid hi : Nat}, RiseS lo A mid → lo ≤ hi → (∀ p ∈ A, p.2 + 2 ≤ hi) → RiseS lo A hi
  | [], _, _, _, _, hl, _ => hl
  | p :: r, _, _, _, ⟨h1, h2, h3⟩, _, h => ⟨h1, h2, h3.upto (h p (by simp)) fun q hq => h q (by simp [hq])⟩
theorem RiseS.from : ∀ {B : List (Nat × Nat)} {lo lo' hi : Nat}, RiseS lo B hi → B ≠ [] → (∀ p, B.head? = some p → lo' ≤ p.1) → RiseS lo' B hi
  | [], _, _, _, _, h, _ => absurd rfl h
  | p :: _, _, _, _, ⟨_, h2, h3⟩, _, h => ⟨h p rfl, h2, h3⟩
theorem free_append (A B : List (Nat × Nat)) (m : Nat) : FreeIn (A ++ B) m ↔ FreeIn A m ∨ FreeIn B m := by
  simp only [FreeIn, List.mem_append]
  constructor
  · rintro ⟨p, h1 | h1, h2⟩
    · exact .inl ⟨p, h1, h2⟩
    · exact .inr ⟨p, h1, h2⟩
  · rintro (⟨p, h1, h2⟩ | ⟨p, h1, h2⟩)
    · exact ⟨p, .inl h1, h2⟩
    · exact ⟨p, .inr h1, h2⟩
theorem free_cons (p : Nat × Nat) (B : List (Nat × Nat)) (m : Nat) : FreeIn (p :: B) m ↔ (p.1 ≤ m ∧ m ≤ p.2) ∨ FreeIn B m := by
  simp only [FreeIn, List.mem_cons]
  constructor
  · rintro ⟨q, rfl | h1, h2⟩
    · exact .inl h2
    · exact .inr ⟨q, h1, h2⟩
  · rintro (h | ⟨q, h1, h2⟩)
    · exact ⟨p, .inl rfl, h⟩
    · exact ⟨q, .inr h1, h2⟩
theorem Rise.ne {F : List (Nat × Nat)} {top : Nat} (h : Rise F top) : F ≠ [] := by rintro rfl; have := h.last; simp at this
theorem Rise.form {F : List (Nat × Nat)} {top : Nat} (h : Rise F top) : ∃ S, F = S ++ [(top, topM)] ∧ RiseS 1 S top ∧ 1 ≤ top := by
  obtain ⟨S, rfl⟩ : ∃ S, F = S ++ [(top, topM)] := by
    have := h.last
    rw [List.getLast?_eq_some_iff] at this
    exact this
  obtain ⟨mid, h1, h2, h3, _⟩ := h.rise.split
  have := h1.le
  refine ⟨S, rfl, h1.up h2, ?_⟩
  simp only [] at h2; omega
theorem Rise.length {F : List (Nat × Nat)} {top : Nat} (h : Rise F top) : F.length ≤ top := by
  obtain ⟨S, rfl, h1, _⟩ := h.form
  have := h1.le
  simp; omega
theorem Rise.top_free {F : List (Nat × Nat)} {top : Nat} (h : Rise F top) {m : Nat} (h1 : top ≤ m) (h2 : m ≤ topM) : FreeIn F m := by
  obtain ⟨S, rfl, _⟩ := h.form
  exact ⟨(top, topM), by simp, h1, h2⟩
/-- The number ahead of the last span is taken, or there is none. -/
theorem Rise.top_taken {F : List (Nat × Nat)} {top : Nat} (h : Rise F top) : top = 1 ∨ ¬ FreeIn F (top - 1) := by
  obtain ⟨S, rfl, h1, h0⟩ := h.form
  by_cases ht : top = 1
  · exact .inl ht
  · refine .inr ?_
    rintro ⟨p, hp, h2, h3⟩
    rcases List.mem_append.1 hp with hp | hp
    · have := h1.mem p hp; omega
    · simp at hp; subst hp; simp only [] at h2; omega

/-- Take. -/
def takeF : List (Nat × Nat) → List (Nat × Nat)
  | [] => []
  | p :: r => if p.2 = p.1 then r else (p.1 + 1, p.2) :: r
theorem take_rise {F : List (Nat × Nat)} {top : Nat} (h : Rise F top) (ht : top < topM) : ∃ a b r, F = (a, b) :: r ∧ 1 ≤ a ∧ a ≤ b ∧ (∀ m, 1 ≤ m → m < a → ¬ FreeIn F m) ∧ FreeIn F a ∧ a ≤ top ∧
    (∃ top', Rise (takeF F) top' ∧ top' ≤ max top (a + 1)) ∧ (∀ m, FreeIn (takeF F) m ↔ FreeIn F m ∧ m ≠ a) := by
  obtain ⟨S, rfl, h1, h0⟩ := h.form
  have hrise := h.rise
  rcases S with _ | ⟨⟨a, b⟩, S⟩
  · refine ⟨top, topM, [], rfl, h0, by omega, ?_, ⟨(top, topM), by simp, Nat.le_refl _, by simp only []; omega⟩, Nat.le_refl _, ⟨top + 1, ?_, by omega⟩, ?_⟩
    · rintro m h2 h3 ⟨p, hp, h4, h5⟩; simp at hp; subst hp; simp only [] at h4; omega
    · have e : takeF ([] ++ [(top, topM)]) = [(top + 1, topM)] := by simp [takeF]; omega
      rw [e]
      exact ⟨⟨by simp, by simp; omega, by simp [RiseS]⟩, rfl⟩
    · intro m
      have e : takeF ([] ++ [(top, topM)]) = [(top + 1, topM)] := by simp [takeF]; omega
      rw [e]
      simp only [FreeIn, List.mem_singleton, List.nil_append]
      constructor
      · rintro ⟨p, rfl, h2, h3⟩; exact ⟨⟨_, rfl, by simp only [] at *; omega, by simpa using h3⟩, by simp only [] at *; omega⟩
      · rintro ⟨⟨p, rfl, h2, h3⟩, h4⟩; exact ⟨_, rfl, by simp only [] at *; omega, by simpa using h3⟩
  · obtain ⟨g1, g2, g3⟩ := hrise
    simp only [] at g1 g2 g3
    have hmem := g3.mem
    have hat : a ≤ top := by have := h1.2.2.le; simp only [] at this; omega
    refine ⟨a, b, S ++ [(top, topM)], rfl, g1, g2, ?_, ⟨(a, b), by simp, Nat.le_refl _, g2⟩, hat, ⟨top, ?_, by omega⟩, ?_⟩
    · rintro m h2 h3 ⟨p, hp, h4, h5⟩
      rcases List.mem_cons.1 hp with rfl | hp
      · simp only [] at h4; omega
      · have := hmem p hp; omega
    · have hl : (S ++ [(top, topM)]).getLast? = some (top, topM) := by simp
      simp only [takeF, List.cons_append]
      split
      · exact ⟨g3.mono (by omega), hl⟩
      · exact ⟨⟨by simp, by simp only [] at *; omega, g3⟩, by simp [List.getLast?_cons]⟩
    · intro m
      simp only [takeF, List.cons_append]
      split
      · rename_i hba
        rw [free_cons]
        simp only [] at hba ⊢
        constructor
        · intro hm
          refine ⟨.inr hm, ?_⟩
          obtain ⟨p, hp, h4, h5⟩ := hm
          have := hmem p hp; omega
        · rintro ⟨h4 | h4, h5⟩
          · omega
          · exact h4
      · rename_i hba
        rw [free_cons, free_cons]
        simp only [] at hba ⊢
        constructor
        · rintro (h4 | h4)
          · exact ⟨.inl (by omega), by omega⟩
          · refine ⟨.inr h4, ?_⟩
            obtain ⟨p, hp, h5, h6⟩ := h4
            have := hmem p hp; omega
        · rintro ⟨h4 | h4, h5⟩
          · exact .inl (by omega)
          · exact .inr h4

/-! Give: at is how many spans begin ahead of n. -/
def placeF (F : List (Nat × Nat)) (n : Nat) : Nat := (F.takeWhile fun p => decide (p.1 < n)).length
theorem takeWhile_rise : ∀ {F : List (Nat × Nat)} {lo hi : Nat} (_ : RiseS lo F hi) (n : Nat), (∀ p ∈ F.dropWhile (fun p => decide (p.1 < n)), n ≤ p.1)
  | [], _, _, _, n, p, hp => by simp at hp
  | q :: r, lo, hi, ⟨h1, h2, h3⟩, n, p, hp => by
    by_cases hq : q.1 < n
    · simp [List.dropWhile, hq] at hp
      exact takeWhile_rise h3 n p hp
    · simp [List.dropWhile, hq] at hp
      rcases hp with rfl | hp
      · omega
      · have := h3.mem p hp; omega
theorem takeWhile_all {n : Nat} : ∀ (F : List (Nat × Nat)) {p : Nat × Nat}, p ∈ F.takeWhile (fun p => decide (p.1 < n)) → p.1 < n
  | [], _, h => by simp at h
  | q :: r, p, h => by
    by_cases hq : q.1 < n
    · simp [List.takeWhile, hq] at h
      rcases h with rfl | h
      · exact hq
      · exact takeWhile_all r h
    · simp [List.takeWhile, hq] at h
theorem place_parts {F : List (Nat × Nat)} {top : Nat} (h : Rise F top) (n : Nat) : ∃ A B, F = A ++ B ∧ A.length = placeF F n ∧ (∀ p ∈ A, p.1 < n) ∧ (∀ p ∈ B, n ≤ p.1) := by
  refine ⟨F.takeWhile fun p => decide (p.1 < n), F.dropWhile fun p => decide (p.1 < n), (List.takeWhile_append_dropWhile).symm, rfl, ?_, takeWhile_rise h.rise n⟩
  intro p hp
  exact takeWhile_all _ hp
theorem place_of {A B : List (Nat × Nat)} {n : Nat} (ha : ∀ p ∈ A, p.1 < n) (hb : ∀ p ∈ B, n ≤ p.1) : placeF (A ++ B) n = A.length := by
  unfold placeF
  rw [List.takeWhile_append_of_pos (by simpa using ha)]
  have : B.takeWhile (fun p => decide (p.1 < n)) = [] := by
    cases B with
    | nil => rfl
    | cons q r =>
      have := hb q (by simp)
      have hq : ¬ q.1 < n := by omega
      simp [List.takeWhile, hq]
  rw [this]; simp
/-- What Give makes of the spans: from, to, and the span between. -/
structure GiveP (F : List (Nat × Nat)) (n k f t a e : Nat) : Prop where
  left : (f = k ∧ a = n ∧ (0 < k → ∀ p, F[k - 1]? = some p → p.2 ≠ n - 1)) ∨ (f + 1 = k ∧ F[f]? = some (a, n - 1))
  right : (t = k ∧ e = n ∧ (∀ p, F[k]? = some p → p.1 ≠ n + 1)) ∨ (t = k + 1 ∧ F[k]? = some (n + 1, e))
theorem give_rise {F : List (Nat × Nat)} {top n k f t a e : Nat} (h : Rise F top) (h1 : 1 ≤ n) (hn : ¬ FreeIn F n) (hm : n < topM) (hk : k = placeF F n) (hp : GiveP F n k f t a e) :
    k < F.length ∧ f ≤ t ∧ t ≤ F.length ∧ (∃ top', Rise (F.take f ++ (a, e) :: F.drop t) top' ∧ top' ≤ top) ∧ (∀ m, FreeIn (F.take f ++ (a, e) :: F.drop t) m ↔ FreeIn F m ∨ m = n) := by
  obtain ⟨A, B, rfl, hl, ha, hb⟩ := place_parts h n
  have hB : B ≠ [] := by
    rintro rfl
    obtain ⟨S, hS, _⟩ := h.form
    have : (top, topM) ∈ A ++ [] := by rw [hS]; simp
    exact hn ⟨(top, topM), this, by have := ha _ (by simpa using this); simp only [] at this; exact Nat.le_of_lt this, Nat.le_of_lt hm⟩
  obtain ⟨mid, hra, hrb⟩ := h.rise.split
  have ha2 : ∀ p ∈ A, p.2 + 1 ≤ n := fun p hp => by
    have h2 := ha p hp
    have : ¬ n ≤ p.2 := fun h3 => hn ⟨p, by simp [hp], by omega, h3⟩
    omega
  have hb2 : ∀ p ∈ B, n + 1 ≤ p.1 := fun p hp => by
    have h2 := hb p hp
    have h3 := (hrb.mem p hp).2.1
    have : ¬ n = p.1 := fun h4 => hn ⟨p, by simp [hp], by omega, by omega⟩
    omega
  rcases B with _ | ⟨⟨b1, b2⟩, B⟩
  · exact absurd rfl hB
  have hlast : ((b1, b2) :: B).getLast? = some (top, topM) := by
    have := h.last
    rw [List.getLast?_append] at this
    simpa [List.getLast?_cons] using this
  have hrb' : RiseS (n + 1) ((b1, b2) :: B) (topM + 2) := hrb.from (by simp) (fun p hp => by simp at hp; subst hp; exact hb2 _ (by simp))
  have hra' : RiseS 1 A (n + 1) := hra.upto (by omega) (fun p hp => by have := ha2 p hp; omega)
  have hplt : A.length < (A ++ (b1, b2) :: B).length := by simp
  rw [← hl] at hk
  subst hk
  have hgB : (A ++ (b1, b2) :: B)[A.length]? = some (b1, b2) := by simp
  have hL : ∃ A' , (A ++ (b1, b2) :: B).take f = A' ∧ f ≤ A.length ∧ RiseS 1 A' a ∧ a ≤ n ∧ 1 ≤ a ∧ (∀ m, (FreeIn A' m ∨ (a ≤ m ∧ m ≤ n)) ↔ (FreeIn A m ∨ m = n)) := by
    rcases hp.left with ⟨hf1, ha1, h3⟩ | ⟨h3, h4⟩
    · subst ha1
      subst hf1
      refine ⟨A, by simp, Nat.le_refl _, ?_, Nat.le_refl _, h1, fun m => ?_⟩
      · refine hra.upto h1 (fun p hp => ?_)
        have hp2 := ha2 p hp
        have hne : A ≠ [] := by rintro rfl; simp at hp
        have hpos : 0 < A.length := List.length_pos_iff.2 hne
        obtain ⟨A', q, rfl⟩ : ∃ A' q, A = A' ++ [q] := ⟨A.dropLast, A.getLast hne, (List.dropLast_concat_getLast hne).symm⟩
        have hq := h3 hpos q (by simp)
        have hq2 := ha2 q (by simp)
        rcases List.mem_append.1 hp with hp | hp
        · obtain ⟨mid2, k1, k2, k3, _⟩ := hra.split
          have := k1.mem p hp
          omega
        · simp at hp; subst hp; omega
      · have : (a ≤ m ∧ m ≤ a) ↔ m = a := by omega
        rw [this]
    · have hlt : f < A.length := by omega
      have h4' : A[f]? = some (a, n - 1) := by rw [List.getElem?_append_left hlt] at h4; exact h4
      have eA : A = A.take f ++ [(a, n - 1)] := by
        have e1 := List.take_append_drop f A
        have e2 : A.drop f = [(a, n - 1)] := by
          rw [List.drop_eq_getElem_cons hlt, List.drop_eq_nil_of_le (by omega)]
          rw [List.getElem?_eq_getElem hlt] at h4'
          rw [Option.some.inj h4']
        rw [e2] at e1; exact e1.symm
      obtain ⟨mid2, k1, k2⟩ : ∃ mid2, RiseS 1 (A.take f) mid2 ∧ RiseS mid2 [(a, n - 1)] (n + 1) := by
        rw [eA] at hra'; exact hra'.split
      have k3 := k2.1
      have k4 := k2.2.1
      simp only [] at k3 k4
      have k5 := k1.le
      refine ⟨A.take f, by rw [List.take_append_of_le_length (by omega)], by omega, k1.up k3, by omega, by omega, fun m => ?_⟩
      have e3 : FreeIn A m ↔ FreeIn (A.take f) m ∨ (a ≤ m ∧ m ≤ n - 1) := by
        conv => lhs; rw [eA]
        rw [free_append, free_cons]
        simp [FreeIn]
      rw [e3]
      constructor
      · rintro (h | h)
        · exact .inl (.inl h)
        · by_cases hmn : m = n
          · exact .inr hmn
          · exact .inl (.inr (by omega))
      · rintro ((h | h) | h)
        · exact .inl h
        · exact .inr (by omega)
        · exact .inr (by omega)
  obtain ⟨A', eA', hfl, hrA, han, h1a, hfA⟩ := hL
  have hR : ∃ B', (A ++ (b1, b2) :: B).drop t = B' ∧ A.length ≤ t ∧ t ≤ A.length + 1 ∧ RiseS (e + 2) B' (topM + 2) ∧ n ≤ e ∧ (∀ m, (FreeIn B' m ∨ (n ≤ m ∧ m ≤ e)) ↔ (FreeIn ((b1, b2) :: B) m ∨ m = n)) ∧
      ((B'.getLast? = some (top, topM)) ∨ (B' = [] ∧ e = topM ∧ n + 1 = top)) := by
    rcases hp.right with ⟨ht1, he1, h3⟩ | ⟨rfl, h4⟩
    · subst he1
      subst ht1
      have h5 := h3 _ hgB
      simp only [] at h5
      refine ⟨(b1, b2) :: B, by simp, Nat.le_refl _, by omega, ?_, Nat.le_refl _, fun m => ?_, .inl hlast⟩
      · refine hrb.from (by simp) (fun p hp => ?_)
        simp at hp; subst hp
        have := hb2 (b1, b2) (by simp)
        simp only [] at this ⊢
        omega
      · have : (e ≤ m ∧ m ≤ e) ↔ m = e := by omega
        rw [this]
    · rw [hgB] at h4
      injection h4 with h4
      injection h4 with h4 h5
      subst h4; subst h5
      have hbb : n + 1 ≤ b2 := hrb'.2.1
      refine ⟨B, by rw [List.drop_append]; simp, by omega, by omega, hrb'.2.2, by omega, fun m => ?_, ?_⟩
      · rw [free_cons]
        simp only []
        constructor
        · rintro (h | h)
          · exact .inl (.inr h)
          · by_cases hmn : m = n
            · exact .inr hmn
            · exact .inl (.inl (by omega))
        · rintro ((h | h) | h)
          · exact .inr (by omega)
          · exact .inl h
          · exact .inr (by omega)
      · rcases B with _ | ⟨q, B⟩
        · simp at hlast
          exact .inr ⟨rfl, hlast.2, hlast.1⟩
        · refine .inl ?_
          rwa [List.getLast?_cons_cons] at hlast
  obtain ⟨B', eB', htl, htu, hrB, hne, hfB, hlB⟩ := hR
  rw [eA', eB']
  refine ⟨hplt, by omega, by simp; omega, ?_, fun m => ?_⟩
  · have hr : RiseS 1 (A' ++ (a, e) :: B') (topM + 2) := hrA.join ⟨Nat.le_refl _, by simp only []; omega, hrB⟩
    rcases hlB with hlB | ⟨rfl, rfl, htop⟩
    · refine ⟨top, ⟨hr, ?_⟩, Nat.le_refl _⟩
      rw [List.getLast?_append, List.getLast?_cons, hlB]; rfl
    · exact ⟨a, ⟨hr, by simp⟩, by omega⟩
  · rw [free_append, free_cons, free_append]
    have x := hfA m
    have y := hfB m
    simp only []
    constructor
    · rintro (h | h | h)
      · rcases x.1 (.inl h) with h | h
        · exact .inl (.inl h)
        · exact .inr h
      · by_cases hmn : m ≤ n
        · rcases x.1 (.inr ⟨h.1, hmn⟩) with h | h
          · exact .inl (.inl h)
          · exact .inr h
        · rcases y.1 (.inr ⟨by omega, h.2⟩) with h | h
          · exact .inl (.inr h)
          · exact .inr h
      · rcases y.1 (.inl h) with h | h
        · exact .inl (.inr h)
        · exact .inr h
    · rintro ((h | h) | h)
      · rcases x.2 (.inl h) with h | h
        · exact .inl h
        · exact .inr (.inl ⟨h.1, by omega⟩)
      · rcases y.2 (.inl h) with h | h
        · exact .inr (.inr h)
        · exact .inr (.inl ⟨by omega, h.2⟩)
      · exact .inr (.inl (by omega))
end Go.Proofs.Ytlbbbfmnghcdnaa
