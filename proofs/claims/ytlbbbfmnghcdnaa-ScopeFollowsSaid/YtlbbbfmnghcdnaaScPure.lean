/- What the plain walk leaves as it was: the functions around, how many functions there are at least. No walk, no program. -/
import Derived.Test.YtlbbbfmnghcdnaaScFind
namespace Go.Proofs.Ytlbbbfmnghcdnaa
set_option maxRecDepth 20000

/-- The stack is as it was, and no function is lost. -/
structure PresS (st st' : StS) : Prop where
  stack : st'.stack = st.stack
  len : st.fns.length ≤ st'.fns.length
theorem PresS.refl (st : StS) : PresS st st := ⟨rfl, Nat.le_refl _⟩
theorem PresS.trans {a b c : StS} (h : PresS a b) (k : PresS b c) : PresS a c := ⟨k.stack.trans h.stack, Nat.le_trans h.len k.len⟩
def KeepsS (φ : StS → ResS) : Prop := ∀ st st', φ st = .ok st' → PresS st st'
theorem bindS_eq {r : ResS} {f : StS → ResS} {st' : StS} (h : r.bind f = .ok st') : ∃ s, r = .ok s ∧ f s = .ok st' := by
  cases r with
  | out => cases h
  | bad c l => cases h
  | ok s => exact ⟨s, rfl, h⟩
theorem beginS_keeps (l : Int) : KeepsS (beginS l) := fun st st' h => by
  unfold beginS at h
  split at h
  · cases h
  · injection h with h; subst h; exact ⟨rfl, Nat.le_refl _⟩
theorem declareS_keeps (s : List UInt8) (l : Int) : KeepsS (declareS s l) := fun st st' h => by
  unfold declareS at h
  split at h
  · cases h
  · split at h
    · cases h
    · injection h with h; subst h; exact ⟨rfl, by simp⟩
theorem findS_len (s : List UInt8) (l : Int) : ∀ (suf : List Nat) (fns fns' : List FnS) (u : UseS), findS s l suf fns = .ok fns' u → fns'.length = fns.length
  | [], fns, fns', u, h => by
    simp only [findS, FindS.ok.injEq] at h
    rw [← h.1]
  | n :: rest, fns, fns', u, h => by
    simp only [findS] at h
    split at h
    · simp only [FindS.ok.injEq] at h; rw [← h.1]
    · split at h
      · simp only [FindS.ok.injEq] at h; rw [← h.1]
      · rename_i m rest'
        split at h
        · simp only [FindS.ok.injEq] at h; rw [← h.1]
        · split at h
          · cases h
          · rename_i fns1 u1 hr
            have IH := findS_len s l (m :: rest') fns fns1 u1 hr
            split at h
            · simp only [FindS.ok.injEq] at h; rw [← h.1]; exact IH
            · split at h
              · cases h
              · simp only [FindS.ok.injEq] at h
                rw [← h.1, List.length_modify, ← IH]
                cases u1.own <;> simp [outerBox]
theorem useS_keeps (s : List UInt8) (l : Int) : KeepsS (useS s l) := fun st st' h => by
  unfold useS at h
  split at h
  · cases h
  · split at h
    · cases h
    · rename_i fns u hr
      injection h with h; subst h
      exact ⟨rfl, by simp [findS_len s l _ _ _ _ hr]⟩
theorem backS_keeps (n : Nat) : KeepsS (backS n) := fun st st' h => by
  unfold backS at h
  injection h with h; subst h; exact ⟨rfl, by simp⟩
theorem declaresS_keeps (l : Int) : ∀ t, KeepsS (declaresS l t)
  | .nil, st, st', h => by simp only [declaresS, ResS.ok.injEq] at h; subst h; exact .refl _
  | .tx _, st, st', h => by simp only [declaresS] at h; cases h
  | .ex .., st, st', h => by simp only [declaresS] at h; cases h
  | .st .., st, st', h => by simp only [declaresS] at h; cases h
  | .cons (.tx s) r, st, st', h => by
    simp only [declaresS] at h
    obtain ⟨s1, h1, h2⟩ := bindS_eq h
    exact (declareS_keeps s l st s1 h1).trans (declaresS_keeps l r s1 st' h2)
  | .cons .nil _, st, st', h => by simp only [declaresS] at h; cases h
  | .cons (.ex ..) _, st, st', h => by simp only [declaresS] at h; cases h
  | .cons (.st ..) _, st, st', h => by simp only [declaresS] at h; cases h
  | .cons (.cons ..) _, st, st', h => by simp only [declaresS] at h; cases h
theorem goS_keeps (t : Tree) : KeepsS (goS t) := by
  induction t with
  | nil => intro st st' h; simp only [goS, ResS.ok.injEq] at h; subst h; exact .refl _
  | tx s => intro st st' h; simp only [goS] at h; cases h
  | cons x r ix ir =>
    intro st st' h
    cases x with
    | nil => simp only [goS] at h; cases h
    | tx s => simp only [goS] at h; cases h
    | cons a b => simp only [goS] at h; cases h
    | ex k l n s a b ks xs ps bd =>
      unfold goS at h
      obtain ⟨s1, h1, h2⟩ := bindS_eq h
      exact (ix _ _ h1).trans (ir _ _ h2)
    | st k l s a b c x y =>
      unfold goS at h
      obtain ⟨s1, h1, h2⟩ := bindS_eq h
      exact (ix _ _ h1).trans (ir _ _ h2)
  | ex k l n s a b ks xs ps bd ia ib ik ix ip iy =>
    intro st st' h
    unfold goS at h
    obtain ⟨s1, h1, h2⟩ := bindS_eq h
    have p1 := beginS_keeps l _ _ h1
    refine p1.trans ?_
    clear h h1 p1
    split at h2
    · exact useS_keeps s l _ _ h2
    · split at h2
      · split at h2
        · obtain ⟨s2, h3, h4⟩ := bindS_eq h2
          exact (ia _ _ h3).trans (ix _ _ h4)
        · cases h2
      · split at h2
        · split at h2
          · cases h2
          · split at h2
            · cases h2
            split at h2
            · cases h2
            · obtain ⟨s2, h3, h4⟩ := bindS_eq h2
              obtain ⟨s3, h5, h6⟩ := bindS_eq h3
              have p2 := (declaresS_keeps l ps _ _ h5).trans (iy _ _ h6)
              unfold leaveS at h4
              injection h4 with h4
              subst h4
              have e := p2.stack
              have e2 := p2.len
              simp only [enterS, List.length_append] at e e2
              exact ⟨by show s2.stack.tail = _; rw [e]; rfl, by show _ ≤ s2.fns.length; omega⟩
        · cases h2
  | st k l s a b c x y ia ib ic ix iy =>
    intro st st' h
    unfold goS at h
    obtain ⟨s1, h1, h2⟩ := bindS_eq h
    have p1 := beginS_keeps l _ _ h1
    refine p1.trans ?_
    clear h h1 p1
    split at h2
    · split at h2
      · exact declareS_keeps s l _ _ h2
      · obtain ⟨s2, h3, h4⟩ := bindS_eq h2
        exact (ib _ _ h3).trans (declareS_keeps s l _ _ h4)
      · cases h2
    · split at h2
      · split at h2
        · exact ib _ _ h2
        · cases h2
      · split at h2
        · obtain ⟨s2, h3, h4⟩ := bindS_eq h2
          exact (ix _ _ h3).trans (backS_keeps _ _ _ h4)
        · split at h2
          · split at h2
            · injection h2 with h2; subst h2; exact .refl _
            · exact ib _ _ h2
            · cases h2
          · cases h2
end Go.Proofs.Ytlbbbfmnghcdnaa
