/- LexBack's plain facts: each word of a text that is read is read again from its own text with a blank behind; a text that is joined of words and blanks has the same words, each on its line. No walk, no program. -/
import Derived.Test.YteoccfmhpakplaaGreatDoorLexFill
import Derived.Test.YteoccfmhpakplaaGreatDoorLexKnownM
namespace Go.Proofs.YteoccfmhpakplaaGreatDoor.lexBack
set_option maxRecDepth 20000
open Go.Proofs.YteoccfmhpakplaaGreatDoor.lexKnown (string_word)

def textL (t : Tok) : List UInt8 := if t.kind = 3 then quoteL t.text else t.text
def sepL (k : Nat) : List UInt8 := if k = 0 then [32] else if k = 1 then [10] else if k = 2 then [9, 13, 32] else [32, 45, 45, 32, 120, 32, 43, 32, 49, 32, 34, 32, 36, 10]
theorem sep_cases (k : Nat) (x : List UInt8) : ∃ c r, sepL k ++ x = c :: r ∧ (c = 32 ∨ c = 10 ∨ c = 9) := by
  unfold sepL
  split
  · exact ⟨32, x, rfl, .inl rfl⟩
  · split
    · exact ⟨10, x, rfl, .inr (.inl rfl)⟩
    · split
      · exact ⟨9, _, rfl, .inr (.inr rfl)⟩
      · exact ⟨32, _, rfl, .inl rfl⟩
theorem sep_length (k : Nat) : 1 ≤ (sepL k).length ∧ (sepL k).length ≤ 14 := by
  unfold sepL
  repeat' split
  all_goals simp
theorem sep_skip (k : Nat) (hk : k < 4) (x : List UInt8) (l : Nat) : tokL (sepL k ++ x) l = tokL x (l + k % 2) := by
  have : k = 0 ∨ k = 1 ∨ k = 2 ∨ k = 3 := by omega
  rcases this with rfl | rfl | rfl | rfl
  · show tokL (32 :: x) l = _
    rw [tokL_space l (by decide), if_neg (by decide)]
  · show tokL (10 :: x) l = _
    rw [tokL_space l (by decide), if_pos rfl]
  · show tokL (9 :: 13 :: 32 :: x) l = _
    rw [tokL_space l (by decide), if_neg (by decide), tokL_space _ (by decide), if_neg (by decide), tokL_space _ (by decide), if_neg (by decide)]
  · show tokL (32 :: 45 :: 45 :: 32 :: 120 :: 32 :: 43 :: 32 :: 49 :: 32 :: 34 :: 32 :: 36 :: 10 :: x) l = _
    have hp : Lib.hasPrefix (45 :: 45 :: 32 :: 120 :: 32 :: 43 :: 32 :: 49 :: 32 :: 34 :: 32 :: 36 :: 10 :: x) [45, 45] = true := by rw [hasPrefix_iff]; exact ⟨_, rfl⟩
    have hk : kindL (45 :: 45 :: 32 :: 120 :: 32 :: 43 :: 32 :: 49 :: 32 :: 34 :: 32 :: 36 :: 10 :: x) = 0 := by
      unfold kindL
      exact if_pos (.inr hp)
    have hb : blanksL (45 :: 45 :: 32 :: 120 :: 32 :: 43 :: 32 :: 49 :: 32 :: 34 :: 32 :: 36 :: 10 :: x) = [45, 45, 32, 120, 32, 43, 32, 49, 32, 34, 32, 36] := by
      unfold blanksL
      rw [if_pos hp]; rfl
    rw [tokL_space l (by decide), if_neg (by decide), tokL_blank _ hk, hb]
    show tokL (10 :: x) _ = _
    rw [tokL_space _ (by decide), if_pos rfl]
    rfl
/-- A word that is read again from its text, whatever blank comes behind. -/
def Fine (t : Tok) : Prop := textL t ≠ [] ∧ ∀ (c : UInt8) (r : List UInt8), (c = 32 ∨ c = 10 ∨ c = 9) → kindL (textL t ++ c :: r) ≠ 0 ∧ wordL (textL t ++ c :: r) = ⟨0, t.kind, t.text, t.num, (textL t).length⟩
theorem blank_plain {c : UInt8} (h : c = 32 ∨ c = 10 ∨ c = 9) : nameB c = false := by rcases h with rfl | rfl | rfl <;> decide
theorem name_plain {c : UInt8} (h : nameB c = true) : blankB c = false ∧ c ≠ 45 := by
  refine ⟨?_, ?_⟩
  · cases g : blankB c with
    | false => rfl
    | true => rcases blank_iff.1 g with rfl | rfl | rfl | rfl <;> exact absurd h (by decide)
  · rintro rfl; exact absurd h (by decide)
theorem tw_all {p : UInt8 → Bool} (t : List UInt8) : ∀ x ∈ t.takeWhile p, p x = true := fun _ h => mem_tw h
/-- What kind a word of letters and digits is. -/
theorem name_kind {c : UInt8} {r : List UInt8} (h : nameB c = true) : kindL (c :: r) = if digitB c then 2 else 1 := by
  obtain ⟨p2, p3⟩ := name_plain h
  rcases kind_cases c r with ⟨g, _⟩ | ⟨_, ⟨g, e⟩ | ⟨g, _, e⟩ | ⟨_, g, _⟩ | ⟨_, g, _⟩⟩
  · rcases g with g | g
    · rw [p2] at g; cases g
    · rw [prefix_take] at g
      have g := beq_iff_eq.1 g
      exact absurd (by have := congrArg List.head? g; simpa using this) p3
  · rw [g, e]; rfl
  · rw [g, e]; rfl
  · rw [h] at g; cases g
  · rw [h] at g; cases g
/-- A word of letters and digits with a blank behind. -/
theorem again {w : List UInt8} {c0 : UInt8} {w' : List UInt8} (hw : w = c0 :: w') (ha : ∀ x ∈ w, nameB x = true) {c : UInt8} (hc : c = 32 ∨ c = 10 ∨ c = 9) (r : List UInt8) :
    kindL (w ++ c :: r) = (if digitB c0 then 2 else 1) ∧ wordL (w ++ c :: r) = readW (if digitB c0 then 2 else 1) w := by
  have hk : kindL (w ++ c :: r) = if digitB c0 then 2 else 1 := by
    rw [hw]; exact name_kind (ha c0 (by rw [hw]; exact List.mem_cons_self))
  refine ⟨hk, ?_⟩
  unfold wordL
  rw [hk]
  have eh : headL (if digitB c0 then 2 else 1) (w ++ c :: r) = w := by
    unfold headL
    rw [if_pos (by split <;> omega), List.takeWhile_append_of_pos ha, List.takeWhile_cons, blank_plain hc]
    simp
  rw [eh]
theorem sign_again (w : List UInt8) (hw : w ∈ signsL) (c : UInt8) (hc : c = 32 ∨ c = 10 ∨ c = 9) (r : List UInt8) : kindL (w ++ c :: r) = 4 ∧ signL (w ++ c :: r) = w := by
  unfold signsL at hw
  simp only [List.mem_cons, List.not_mem_nil, or_false] at hw
  rcases hc with rfl | rfl | rfl <;> rcases hw with rfl | rfl | rfl | rfl | rfl | rfl | rfl | rfl | rfl | rfl | rfl | rfl | rfl | rfl | rfl | rfl | rfl | rfl | rfl | rfl | rfl | rfl | rfl | rfl | rfl | rfl | rfl <;> exact ⟨rfl, rfl⟩
theorem sign_none {w : List UInt8} (h : w ∈ signsL) : w ≠ [] := by rintro rfl; revert h; decide
/-- Whatever word is read. -/
theorem fine_word {u : List UInt8} (hne : u ≠ []) (h0 : kindL u ≠ 0) (he : (wordL u).err = 0) (l : Nat) :
    Fine ⟨(wordL u).kind, (wordL u).text, (wordL u).num, l⟩ ∧ (textL ⟨(wordL u).kind, (wordL u).text, (wordL u).num, l⟩).length ≤ (wordL u).size := by
  have hle := kind_le u
  have h5 : kindL u ≠ 5 := fun e => hne ((kind_nil_iff u).1 e)
  match u, hne with
  | c0 :: t, _ =>
    have : kindL (c0 :: t) = 1 ∨ kindL (c0 :: t) = 2 ∨ kindL (c0 :: t) = 3 ∨ kindL (c0 :: t) = 4 := by omega
    rcases this with hk | hk | hk | hk
    · have hn : nameB c0 = true ∧ digitB c0 = false := by
        rcases kind_cases c0 t with ⟨_, e⟩ | ⟨_, ⟨_, e⟩ | ⟨g, h, _⟩ | ⟨_, _, _, e⟩ | ⟨_, _, _, e⟩⟩ <;> first | exact ⟨h, g⟩ | omega
      obtain ⟨w', hw⟩ : ∃ w', (c0 :: t).takeWhile nameB = c0 :: w' := ⟨t.takeWhile nameB, by rw [List.takeWhile_cons, hn.1]; rfl⟩
      have ha := tw_all (p := nameB) (c0 :: t)
      have hW : wordL (c0 :: t) = nameW ((c0 :: t).takeWhile nameB) := by unfold wordL; rw [hk]; rfl
      rw [hW] at he ⊢
      have A := fun c hc r => again hw ha (c := c) hc r
      generalize (c0 :: t).takeWhile nameB = w at he ha A hw
      unfold nameW at he ⊢
      by_cases hl : 24 < w.length
      · rw [if_pos hl] at he; cases he
      rw [if_neg hl] at ⊢
      have ht : textL ⟨if reservedB w then 4 else 1, w, 0, l⟩ = w := by unfold textL; rw [if_neg (by simp only []; split <;> omega)]
      show Fine ⟨if reservedB w then 4 else 1, w, 0, l⟩ ∧ (textL ⟨if reservedB w then 4 else 1, w, 0, l⟩).length ≤ w.length
      refine ⟨⟨by rw [ht, hw]; simp, fun c r hc => ?_⟩, by rw [ht]; exact Nat.le_refl _⟩
      obtain ⟨a1, a2⟩ := A c hc r
      rw [ht]
      rw [hn.2] at a1 a2
      refine ⟨by rw [a1]; decide, ?_⟩
      rw [a2]
      show nameW w = _
      unfold nameW; rw [if_neg hl]
    · have hn : nameB c0 = true ∧ digitB c0 = true := by
        rcases kind_cases c0 t with ⟨_, e⟩ | ⟨_, ⟨g, e⟩ | ⟨_, _, e⟩ | ⟨_, _, _, e⟩ | ⟨_, _, _, e⟩⟩ <;> first | exact ⟨name_of_digit g, g⟩ | omega
      obtain ⟨w', hw⟩ : ∃ w', (c0 :: t).takeWhile nameB = c0 :: w' := ⟨t.takeWhile nameB, by rw [List.takeWhile_cons, hn.1]; rfl⟩
      have ha := tw_all (p := nameB) (c0 :: t)
      have hW : wordL (c0 :: t) = intW ((c0 :: t).takeWhile nameB) := by unfold wordL; rw [hk]; rfl
      rw [hW] at he ⊢
      have A := fun c hc r => again hw ha (c := c) hc r
      generalize (c0 :: t).takeWhile nameB = w at he ha A hw
      unfold intW at he ⊢
      by_cases hl : parseE w = 0
      · rw [if_pos hl]
        have ht : textL ⟨2, w, parseV w, l⟩ = w := rfl
        show Fine ⟨2, w, parseV w, l⟩ ∧ (textL ⟨2, w, parseV w, l⟩).length ≤ w.length
        refine ⟨⟨by rw [ht, hw]; simp, fun c r hc => ?_⟩, by rw [ht]; exact Nat.le_refl _⟩
        obtain ⟨a1, a2⟩ := A c hc r
        rw [ht]
        rw [hn.2] at a1 a2
        refine ⟨by rw [a1]; decide, ?_⟩
        rw [a2]
        show intW w = _
        unfold intW; rw [if_pos hl]
      · rw [if_neg hl] at he
        unfold badW wordE at he
        simp only [] at he
        split at he <;> omega
    · have hW : wordL (c0 :: t) = strW ((c0 :: t).take (quotedN (c0 :: t))) := by unfold wordL; rw [hk]; rfl
      rw [hW] at he ⊢
      generalize (c0 :: t).take (quotedN (c0 :: t)) = w at he
      unfold strW at he ⊢
      by_cases hl : (unqL w).2 = 0
      · rw [if_pos hl]
        obtain ⟨o1, o2⟩ := unq_ok hl
        show Fine ⟨3, (unqL w).1, 0, l⟩ ∧ (textL ⟨3, (unqL w).1, 0, l⟩).length ≤ w.length
        have ht : textL ⟨3, (unqL w).1, 0, l⟩ = quoteL (unqL w).1 := rfl
        refine ⟨⟨by rw [ht]; unfold quoteL; simp, fun c r _ => ?_⟩, by rw [ht]; exact o2⟩
        rw [ht]
        obtain ⟨a1, a2⟩ := string_word (unqL w).1 (c :: r) o1
        exact ⟨by rw [a1]; decide, a2⟩
      · rw [if_neg hl] at he
        unfold badW wordE at he
        simp only [] at he
        split at he <;> omega
    · have hW : wordL (c0 :: t) = signW (signL (c0 :: t)) := by unfold wordL; rw [hk]; rfl
      rw [hW] at he ⊢
      have hm : signL (c0 :: t) = [] ∨ signL (c0 :: t) ∈ signsL := by
        unfold signL
        split
        · rename_i s hs; exact .inr (List.mem_of_find?_eq_some hs)
        · exact .inl rfl
      generalize signL (c0 :: t) = w at he hm
      unfold signW at he ⊢
      by_cases hl : w = []
      · rw [if_pos hl] at he; cases he
      rw [if_neg hl]
      have hm := hm.resolve_left hl
      have ht : textL ⟨4, w, 0, l⟩ = w := rfl
      show Fine ⟨4, w, 0, l⟩ ∧ (textL ⟨4, w, 0, l⟩).length ≤ w.length
      refine ⟨⟨by rw [ht]; exact hl, fun c r hc => ?_⟩, by rw [ht]; exact Nat.le_refl _⟩
      obtain ⟨a1, a2⟩ := sign_again w hm c hc r
      rw [ht]
      refine ⟨by rw [a1]; decide, ?_⟩
      unfold wordL
      rw [a1]
      show signW (signL (w ++ c :: r)) = _
      rw [a2]
      unfold signW; rw [if_neg hl]
/-- The words of a text that is read: the last is its end, the others are fine, and no longer than the text. -/
theorem lexed_fine : ∀ (n : Nat) (u : List UInt8) (l : Nat) (ts : List Tok) (m : Nat), u.length ≤ n → tokL u l = ⟨ts, 0, m⟩ →
    ∃ init, ts = init ++ [⟨5, [], 0, m⟩] ∧ (∀ t ∈ init, Fine t) ∧ (init.map fun t => (textL t).length).sum ≤ u.length ∧ init.length ≤ u.length := by
  intro n
  induction n with
  | zero =>
    intro u l ts m hu h
    obtain rfl : u = [] := List.length_eq_zero_iff.1 (by omega)
    rw [tokL_nil] at h
    injection h with h1 _ h2
    exact ⟨[], by rw [← h1, ← h2]; rfl, by simp, by simp, by simp⟩
  | succ n ih =>
    intro u l ts m hu h
    by_cases hne : u = []
    · subst hne
      rw [tokL_nil] at h
      injection h with h1 _ h2
      exact ⟨[], by rw [← h1, ← h2]; rfl, by simp, by simp, by simp⟩
    by_cases h0 : kindL u = 0
    · rw [tokL_blank l h0] at h
      have hp := blanks_pos h0
      obtain ⟨i, e, f, s, b⟩ := ih _ _ _ _ (by rw [List.length_drop]; omega) h
      rw [List.length_drop] at s b
      exact ⟨i, e, f, by omega, by omega⟩
    by_cases he : (wordL u).err = 0
    · rw [tokL_word l hne h0 he] at h
      have hp := word_pos hne h0 he
      obtain ⟨f1, f2⟩ := fine_word hne h0 he l
      cases hr : tokL (u.drop (wordL u).size) l with
      | mk ts' e' m' =>
        rw [hr] at h
        unfold pushL at h
        simp only [] at h
        by_cases h' : e' = 0
        · rw [if_pos h'] at h
          injection h with h1 h2 h3
          subst h'; subst h3
          obtain ⟨i, e, f, s, b⟩ := ih _ _ _ _ (by rw [List.length_drop]; omega) hr
          rw [List.length_drop] at s b
          refine ⟨_ :: i, by rw [← h1, e]; rfl, ?_, ?_, ?_⟩
          · intro t ht
            rcases List.mem_cons.1 ht with rfl | ht
            · exact f1
            · exact f t ht
          · rw [List.map_cons, List.sum_cons]; omega
          · rw [List.length_cons]; omega
        · rw [if_neg h'] at h
          injection h with h1 h2 h3
          exact absurd h2 h'
    · rw [tokL_bad l hne h0 he] at h
      injection h with h1 h2 h3
      exact absurd h2 he
/-- A token of a list, or the end. -/
def tokAt (ts : List Tok) (i : Nat) : Tok := ts.getD i ⟨5, [], 0, 0⟩
/-- How many line feeds stand ahead. -/
def lineN (kf : Nat → Nat) : Nat → Nat
  | 0 => 0
  | i + 1 => lineN kf i + kf i % 2
/-- The text that is joined of the first i words. -/
def joinN (ts : List Tok) (kf : Nat → Nat) : Nat → List UInt8
  | 0 => []
  | i + 1 => joinN ts kf i ++ textL (tokAt ts i) ++ sepL (kf i)
def toksN (ts : List Tok) (kf : Nat → Nat) : Nat → List Tok
  | 0 => []
  | i + 1 => toksN ts kf i ++ [⟨(tokAt ts i).kind, (tokAt ts i).text, (tokAt ts i).num, lineN kf i⟩]
theorem toksN_length (ts : List Tok) (kf : Nat → Nat) : ∀ i, (toksN ts kf i).length = i
  | 0 => rfl
  | i + 1 => by rw [toksN, List.length_append, toksN_length ts kf i]; rfl
theorem toksN_at (ts : List Tok) (kf : Nat → Nat) : ∀ (i j : Nat), j < i → (toksN ts kf i)[j]? = some ⟨(tokAt ts j).kind, (tokAt ts j).text, (tokAt ts j).num, lineN kf j⟩
  | 0, _, h => by omega
  | i + 1, j, h => by
    rw [toksN]
    by_cases e : j = i
    · subst e
      rw [List.getElem?_append_right (by rw [toksN_length]; exact Nat.le_refl _), toksN_length]
      simp
    · rw [List.getElem?_append_left (by rw [toksN_length]; omega)]
      exact toksN_at ts kf i j (by omega)
theorem line_le (kf : Nat → Nat) : ∀ i, lineN kf i ≤ i
  | 0 => Nat.le_refl _
  | i + 1 => by have := line_le kf i; rw [lineN]; omega
theorem join_lex (ts : List Tok) (kf : Nat → Nat) (hk : ∀ i, kf i < 4) : ∀ (i : Nat) (x : List UInt8), (∀ j, j < i → Fine (tokAt ts j)) → tokL (joinN ts kf i ++ x) 0 = glueL (toksN ts kf i) (tokL x (lineN kf i))
  | 0, x, _ => by rw [joinN, toksN, lineN, List.nil_append, glue_nil]
  | i + 1, x, hf => by
    rw [joinN, toksN, lineN, List.append_assoc, List.append_assoc, join_lex ts kf hk i _ (fun j hj => hf j (by omega)), ← glue_push]
    obtain ⟨hne, hF⟩ := hf i (by omega)
    obtain ⟨c, r, hs, hc⟩ := sep_cases (kf i) x
    obtain ⟨f1, f2⟩ := hF c r hc
    rw [← sep_skip (kf i) (hk i), hs, tokL_word _ (by simp [hne]) f1 (by rw [f2]), f2]
    show _ = glueL _ (pushL _ (tokL (c :: r) (lineN kf i)))
    rw [List.drop_left' rfl]
theorem join_length (ts : List Tok) (kf : Nat → Nat) : ∀ (i : Nat), i ≤ ts.length → (joinN ts kf i).length ≤ ((ts.take i).map fun t => (textL t).length).sum + 14 * i
  | 0, _ => by simp [joinN]
  | i + 1, h => by
    have hi := join_length ts kf i (by omega)
    have hs := (sep_length (kf i)).2
    have ht : ts[i]? = some (tokAt ts i) := by unfold tokAt; rw [List.getElem?_eq_getElem (by omega), List.getD_eq_getElem?_getD, List.getElem?_eq_getElem (by omega)]; rfl
    rw [joinN, List.length_append, List.length_append, List.take_add_one, ht, List.map_append, List.sum_append]
    simp only [Option.toList_some, List.map_cons, List.map_nil, List.sum_cons, List.sum_nil, Nat.add_zero]
    omega
theorem mem_sum : ∀ {l : List Nat} {n : Nat}, n ∈ l → n ≤ l.sum
  | m :: l, n, h => by
    rw [List.sum_cons]
    rcases List.mem_cons.1 h with rfl | h
    · omega
    · have := mem_sum h; omega
/-- All together: what comes of the joined text. -/
theorem lex_back {u : List UInt8} {ts : List Tok} {m : Nat} (hu : u.length ≤ 1000) (h : lexL u = ⟨ts, 0, m⟩) (kf : Nat → Nat) (hk : ∀ i, kf i < 4) :
    ∃ n, ts.length = n + 1 ∧ n ≤ 1000 ∧ (∀ i, i ≤ n + 1 → (joinN ts kf i).length ≤ 16000) ∧ (∀ i, i < n → (textL (tokAt ts i)).length ≤ 1000 ∧ (tokAt ts i).text.length ≤ 1000) ∧ tokAt ts n = ⟨5, [], 0, m⟩ ∧
      lexL (joinN ts kf (n + 1)) = ⟨toksN ts kf n ++ [⟨5, [], 0, lineN kf (n + 1)⟩], 0, lineN kf (n + 1)⟩ := by
  unfold lexL at h
  rw [if_neg (by omega)] at h
  obtain ⟨init, e, hf, hs, hl⟩ := lexed_fine _ u 0 ts m (Nat.le_refl _) h
  have hsum : (ts.map fun t => (textL t).length).sum ≤ 1000 := by
    rw [e, List.map_append, List.sum_append]
    have : ((([⟨5, [], 0, m⟩] : List Tok)).map fun t => (textL t).length).sum = 0 := rfl
    omega
  have hlen : ts.length = init.length + 1 := by rw [e]; simp
  have hat : ∀ j, j < init.length → ∃ t ∈ init, tokAt ts j = t := by
    intro j hj
    refine ⟨init[j], List.getElem_mem hj, ?_⟩
    unfold tokAt
    rw [e, List.getD_eq_getElem?_getD, List.getElem?_append_left hj, List.getElem?_eq_getElem hj]; rfl
  have hend : tokAt ts init.length = ⟨5, [], 0, m⟩ := by
    unfold tokAt
    rw [e, List.getD_eq_getElem?_getD, List.getElem?_append_right (Nat.le_refl _)]; simp
  have hbound : ∀ i, i ≤ init.length + 1 → (joinN ts kf i).length ≤ 16000 := by
    intro i hi
    have h1 := join_length ts kf i (by omega)
    have h2 : ((ts.take i).map fun t => (textL t).length).sum ≤ (ts.map fun t => (textL t).length).sum := by
      conv => rhs; rw [← List.take_append_drop i ts, List.map_append, List.sum_append]
      omega
    omega
  have hone : ∀ t ∈ init, (textL t).length ≤ 1000 := by
    intro t ht
    have : (textL t).length ≤ (init.map fun t => (textL t).length).sum := mem_sum (List.mem_map.2 ⟨t, ht, rfl⟩)
    omega
  refine ⟨init.length, hlen, by omega, hbound, ?_, hend, ?_⟩
  · intro i hi
    obtain ⟨t, ht, e'⟩ := hat i hi
    rw [e']
    refine ⟨hone t ht, ?_⟩
    have h3 := hone t ht
    unfold textL at h3
    split at h3
    · rw [quote_length] at h3
      have : t.text.length ≤ (bodyL t.text).length := by
        unfold bodyL
        generalize t.text = s
        induction s with
        | nil => simp
        | cons c s ih => rw [List.flatMap_cons, List.length_append, List.length_cons]; have := (esc_length c).1; omega
      omega
    · exact h3
  · have hb := hbound (init.length + 1) (Nat.le_refl _)
    unfold lexL
    rw [if_neg (by omega), joinN, hend, List.append_assoc, join_lex ts kf hk init.length _ (by intro j hj; obtain ⟨t, ht, e'⟩ := hat j hj; rw [e']; exact hf t ht)]
    show glueL _ (tokL (sepL (kf init.length)) (lineN kf init.length)) = _
    have h4 := sep_skip (kf init.length) (hk _) [] (lineN kf init.length)
    rw [List.append_nil] at h4
    rw [h4, tokL_nil]
    rfl
end Go.Proofs.YteoccfmhpakplaaGreatDoor.lexBack
