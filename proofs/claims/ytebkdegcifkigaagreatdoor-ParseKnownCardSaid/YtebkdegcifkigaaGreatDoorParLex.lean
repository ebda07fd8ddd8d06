/- What the lexer's tokens are: the end last, short texts. No walk. -/
import Derived.Test.YtebkdegcifkigaaGreatDoorParMath
namespace Go.Proofs.YtebkdegcifkigaaGreatDoor.P5
set_option maxRecDepth 20000

theorem unq_short (q : List UInt8) (h : (unqL q).2 = 0) : (unqL q).1.length ≤ 4096 := by
  unfold unqL at h ⊢
  generalize (midL q).bind readL = r at h ⊢
  cases r with
  | none => exact Nat.zero_le _
  | some s =>
    revert h
    show (if 4096 < s.length then (([], 3) : List UInt8 × Int) else (s, 0)).2 = 0 → (if 4096 < s.length then (([], 3) : List UInt8 × Int) else (s, 0)).1.length ≤ 4096
    split
    · intro h; simp
    · intro _; show s.length ≤ 4096; omega
theorem word_fine {t : List UInt8} (hne : t ≠ []) (h0 : kindL t ≠ 0) (he : (wordL t).err = 0) (hl : t.length ≤ 32768) : (wordL t).kind ≠ 5 ∧ (wordL t).text.length ≤ 32768 := by
  have hp := word_pos hne h0 he
  have h5 : kindL t ≠ 5 := fun e => hne ((kind_nil_iff t).1 e)
  have hk := kind_le t
  have hh : (headL (kindL t) t).length ≤ 32768 := by omega
  unfold wordL readW at he ⊢
  generalize headL (kindL t) t = w at he hh ⊢
  by_cases k1 : kindL t = 1
  · rw [if_pos k1] at he ⊢
    unfold nameW at he ⊢
    split
    · rename_i q; rw [if_pos q] at he; exact absurd he (by decide)
    · refine ⟨?_, hh⟩
      show (if reservedB w = true then 4 else 1) ≠ 5
      split <;> decide
  · rw [if_neg k1] at he ⊢
    by_cases k2 : kindL t = 2
    · rw [if_pos k2] at he ⊢
      unfold intW at he ⊢
      split
      · exact ⟨(show (2 : Nat) ≠ 5 by decide), hh⟩
      · rename_i q
        rw [if_neg q] at he
        have he : wordE (parseE w) = 0 := he
        unfold wordE at he
        split at he
        · exact absurd he (by decide)
        · exact absurd he q
    · rw [if_neg k2] at he ⊢
      by_cases k3 : kindL t = 3
      · rw [if_pos k3] at he ⊢
        unfold strW at he ⊢
        by_cases q : (unqL w).2 = 0
        · rw [if_pos q]
          exact ⟨(show (3 : Nat) ≠ 5 by decide), by have := unq_short w q; show (unqL w).1.length ≤ _; omega⟩
        · rw [if_neg q] at he
          have he : wordE (unqL w).2 = 0 := he
          unfold wordE at he
          split at he
          · exact absurd he (by decide)
          · exact absurd he q
      · rw [if_neg k3] at he ⊢
        unfold signW at he ⊢
        split
        · rename_i q; rw [if_pos q] at he; exact absurd he (by decide)
        · exact ⟨(show (4 : Nat) ≠ 5 by decide), hh⟩
theorem wf_cons {t : Tok} {ts : List Tok} (h : t.kind ≠ 5) (hw : WFT ts) : WFT (t :: ts) := by
  cases ts with
  | nil => exact hw.elim
  | cons u r => exact ⟨h, hw⟩
theorem lexed_wf : ∀ (n : Nat) (u : List UInt8) (l : Nat) (ts : List Tok) (m : Nat), u.length ≤ n → u.length ≤ 32768 → tokL u l = ⟨ts, 0, m⟩ → WFT ts ∧ ts.length ≤ u.length + 1 ∧ ∀ t, t ∈ ts → t.text.length ≤ 32768 := by
  intro n
  have nil : ∀ (l : Nat) (ts : List Tok) (m : Nat), tokL [] l = ⟨ts, 0, m⟩ → WFT ts ∧ ts.length ≤ ([] : List UInt8).length + 1 ∧ ∀ t, t ∈ ts → t.text.length ≤ 32768 := by
    intro l ts m h
    rw [tokL_nil] at h
    injection h with h1 _ _
    subst h1
    exact ⟨rfl, by simp, by simp⟩
  induction n with
  | zero =>
    intro u l ts m hu hl h
    obtain rfl : u = [] := List.length_eq_zero_iff.1 (by omega)
    exact nil l ts m h
  | succ n ih =>
    intro u l ts m hu hl h
    by_cases hne : u = []
    · subst hne; exact nil l ts m h
    by_cases h0 : kindL u = 0
    · rw [tokL_blank l h0] at h
      have hp := blanks_pos h0
      obtain ⟨a, b, c⟩ := ih _ _ _ _ (by rw [List.length_drop]; omega) (by rw [List.length_drop]; omega) h
      rw [List.length_drop] at b
      exact ⟨a, by omega, c⟩
    by_cases he : (wordL u).err = 0
    · rw [tokL_word l hne h0 he] at h
      have hp := word_pos hne h0 he
      have hf := word_fine hne h0 he hl
      cases hr : tokL (u.drop (wordL u).size) l with
      | mk ts' e' m' =>
        rw [hr] at h
        unfold pushL at h
        simp only [] at h
        by_cases h' : e' = 0
        · rw [if_pos h'] at h
          injection h with h1 h2 h3
          subst h'; subst h3
          obtain ⟨a, b, c⟩ := ih _ _ _ _ (by rw [List.length_drop]; omega) (by rw [List.length_drop]; omega) hr
          rw [List.length_drop] at b
          subst h1
          refine ⟨wf_cons hf.1 a, by rw [List.length_cons]; omega, fun t ht => ?_⟩
          rcases List.mem_cons.1 ht with rfl | ht
          · exact hf.2
          · exact c t ht
        · rw [if_neg h'] at h
          injection h with h1 h2 h3
          exact absurd h2 h'
    · rw [tokL_bad l hne h0 he] at h
      injection h with h1 h2 h3
      exact absurd h2 he
theorem lex_wf {u : List UInt8} {ts : List Tok} {m : Nat} (h : lexL u = ⟨ts, 0, m⟩) : WFT ts ∧ ts.length ≤ 32769 ∧ ∀ t, t ∈ ts → t.text.length ≤ 32768 := by
  unfold lexL at h
  split at h
  · injection h with _ h2 _; exact absurd h2 (by decide)
  · obtain ⟨a, b, c⟩ := lexed_wf _ u 0 ts m (Nat.le_refl _) (by omega) h
    exact ⟨a, by omega, c⟩
/-- A source: its statements, or what is wrong first. -/
def sourceF (n : Nat) (t : List UInt8) : Res :=
  if (lexL t).err = 0 then (parseF n .stmts 0 (lexL t).toks).bind fun x ts => if (hdT ts).kind = 5 then .ok x ts else .bad 4 (linT ts) else .bad (lexL t).err (lexL t).line
end Go.Proofs.YtebkdegcifkigaaGreatDoor.P5
