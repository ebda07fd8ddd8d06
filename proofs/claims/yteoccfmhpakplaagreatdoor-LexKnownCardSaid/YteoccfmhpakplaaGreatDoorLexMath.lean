/- A source's words as plain functions on lists of bytes: letters, blanks, reserved words, signs, where a string ends, one word, the words of a text. No walk, no program. -/
import Derived.Test.YteoccfmhpakplaaGreatDoorQuoteMath
import Derived.Test.YteoccfmhpakplaaGreatDoorTextMath
namespace Go.Proofs.YteoccfmhpakplaaGreatDoor

def letterB (c : UInt8) : Bool := decide (97 ≤ c.toNat) && decide (c.toNat ≤ 122) || (decide (65 ≤ c.toNat) && decide (c.toNat ≤ 90)) || c.toNat == 95
def nameB (c : UInt8) : Bool := letterB c || digitB c
def blankB (c : UInt8) : Bool := c.toNat == 32 || c.toNat == 9 || c.toNat == 13 || c.toNat == 10
def reservedL : List (List UInt8) := [[97, 110, 100], [98, 114, 101, 97, 107], [99, 97, 116, 99, 104], [100, 111], [101, 108, 115, 101], [101, 108, 115, 101, 105, 102], [101, 110, 100], [102, 97, 108, 115, 101], [102, 111, 114], [102, 117, 110, 99, 116, 105, 111, 110], [105, 102], [108, 111, 99, 97, 108], [110, 105, 108], [110, 111, 116], [111, 114], [114, 101, 116, 117, 114, 110], [116, 104, 101, 110], [116, 114, 117, 101], [116, 114, 121], [119, 104, 105, 108, 101]]
def reservedB (w : List UInt8) : Bool := reservedL.contains w
/-- Where a string ends whose first quote was read: how many bytes up to the next quote that is not escaped, and with it. -/
def closeF : Bool → List UInt8 → Option Nat
  | _, [] => none
  | e, c :: r => if e then (closeF false r).map (· + 1) else if c = 92 then (closeF true r).map (· + 1) else if c = 34 then some 1 else (closeF false r).map (· + 1)
/-- The same in one line. -/
def closeR : Bool → List UInt8 → Option Nat
  | _, [] => none
  | e, c :: r => if c = 10 then none else if e then (closeR false r).map (· + 1) else if c = 92 then (closeR true r).map (· + 1) else if c = 34 then some 1 else (closeR false r).map (· + 1)
def quotedN (t : List UInt8) : Nat := match closeF false (t.drop 1) with | some n => n + 1 | none => t.length
def signsL : List (List UInt8) := [[47, 47], [60, 60], [62, 62], [61, 61], [126, 61], [60, 61], [62, 61], [46, 46], [43], [45], [42], [37], [38], [124], [126], [60], [62], [61], [46], [44], [40], [41], [91], [93], [123], [125], [35]]
def signL (t : List UInt8) : List UInt8 := match signsL.find? (fun s => Lib.hasPrefix t s) with | some s => s | none => []
def wordE (e : Int) : Int := if e = 4 then 14 else e
/-- One word: an error, or its kind, text and number, and how many bytes it takes. -/
structure Word where
  err : Int
  kind : Nat
  text : List UInt8
  num : Int
  size : Nat
def badW (e : Int) : Word := ⟨e, 0, [], 0, 0⟩
def nameW (w : List UInt8) : Word := if 24 < w.length then badW 14 else ⟨0, if reservedB w then 4 else 1, w, 0, w.length⟩
def intW (w : List UInt8) : Word := if parseE w = 0 then ⟨0, 2, w, parseV w, w.length⟩ else badW (wordE (parseE w))
def strW (w : List UInt8) : Word := if (unqL w).2 = 0 then ⟨0, 3, (unqL w).1, 0, w.length⟩ else badW (wordE (unqL w).2)
def signW (w : List UInt8) : Word := if w = [] then badW 14 else ⟨0, 4, w, 0, w.length⟩
def kindL (t : List UInt8) : Nat := match t with
  | [] => 5
  | c :: _ => if blankB c = true ∨ Lib.hasPrefix t [45, 45] = true then 0 else if digitB c then 2 else if nameB c then 1 else if c = 34 then 3 else 4
def headL (k : Nat) (t : List UInt8) : List UInt8 :=
  if k = 1 ∨ k = 2 then t.takeWhile nameB else if k = 3 then t.take (quotedN t) else signL t
def readW (k : Nat) (w : List UInt8) : Word := if k = 1 then nameW w else if k = 2 then intW w else if k = 3 then strW w else signW w
def wordL (t : List UInt8) : Word := readW (kindL t) (headL (kindL t) t)
structure Tok where
  kind : Nat
  text : List UInt8
  num : Int
  line : Nat
/-- The words of a text, or what is wrong first, and where. -/
structure Lexed where
  toks : List Tok
  err : Int
  line : Nat
def pushL (t : Tok) (r : Lexed) : Lexed := if r.err = 0 then ⟨t :: r.toks, r.err, r.line⟩ else r
def glueL (a : List Tok) (r : Lexed) : Lexed := if r.err = 0 then ⟨a ++ r.toks, r.err, r.line⟩ else r
def blanksL (t : List UInt8) : List UInt8 := if Lib.hasPrefix t [45, 45] then t.takeWhile (· != 10) else t.takeWhile blankB
def tokF : Nat → List UInt8 → Nat → Lexed
  | _, [], l => ⟨[⟨5, [], 0, l⟩], 0, l⟩
  | 0, _ :: _, l => ⟨[], 14, l⟩
  | f + 1, c :: r, l =>
    if kindL (c :: r) = 0 then tokF f ((c :: r).drop (blanksL (c :: r)).length) (l + (blanksL (c :: r)).count 10)
    else if (wordL (c :: r)).err = 0 then pushL ⟨(wordL (c :: r)).kind, (wordL (c :: r)).text, (wordL (c :: r)).num, l⟩ (tokF f ((c :: r).drop (wordL (c :: r)).size) l)
    else ⟨[], (wordL (c :: r)).err, l⟩
def tokL (t : List UInt8) (l : Nat) : Lexed := tokF t.length t l
def lexL (t : List UInt8) : Lexed := if 32768 < t.length then ⟨[], 3, 0⟩ else tokL t 0

theorem takeWhile_le (p : UInt8 → Bool) (t : List UInt8) : (t.takeWhile p).length ≤ t.length := (List.takeWhile_sublist p).length_le
theorem hasPrefix_iff {t p : List UInt8} : Lib.hasPrefix t p = true ↔ ∃ r, t = p ++ r := by
  unfold Lib.hasPrefix
  rw [List.isPrefixOf_iff_prefix]
  exact ⟨fun ⟨r, h⟩ => ⟨r, h.symm⟩, fun ⟨r, h⟩ => ⟨r, h.symm⟩⟩
theorem kind_le (t : List UInt8) : kindL t ≤ 5 := by
  unfold kindL
  split
  · exact Nat.le_refl _
  · repeat' split
    all_goals omega
theorem kind_nil_iff (t : List UInt8) : kindL t = 5 ↔ t = [] := by
  cases t with
  | nil => exact ⟨fun _ => rfl, fun _ => rfl⟩
  | cons c r =>
    simp only [kindL, reduceCtorEq, iff_false]
    repeat' split
    all_goals omega
/-- What a kind says of the first byte. -/
theorem kind_cases (c : UInt8) (r : List UInt8) :
    ((blankB c = true ∨ Lib.hasPrefix (c :: r) [45, 45] = true) ∧ kindL (c :: r) = 0) ∨
    ((blankB c = false ∧ Lib.hasPrefix (c :: r) [45, 45] = false) ∧
      ((digitB c = true ∧ kindL (c :: r) = 2) ∨ (digitB c = false ∧ nameB c = true ∧ kindL (c :: r) = 1) ∨ (digitB c = false ∧ nameB c = false ∧ c = 34 ∧ kindL (c :: r) = 3) ∨ (digitB c = false ∧ nameB c = false ∧ c ≠ 34 ∧ kindL (c :: r) = 4))) := by
  unfold kindL
  simp only []
  by_cases g : blankB c = true ∨ Lib.hasPrefix (c :: r) [45, 45] = true
  · exact .inl ⟨g, by rw [if_pos g]⟩
  · refine .inr ⟨by simpa using g, ?_⟩
    rw [if_neg g]
    by_cases hd : digitB c = true
    · exact .inl ⟨hd, by rw [if_pos hd]⟩
    · rw [if_neg hd]
      have hd' : digitB c = false := by simpa using hd
      by_cases hn : nameB c = true
      · exact .inr (.inl ⟨hd', hn, by rw [if_pos hn]⟩)
      · rw [if_neg hn]
        have hn' : nameB c = false := by simpa using hn
        by_cases h34 : c = 34
        · exact .inr (.inr (.inl ⟨hd', hn', h34, by rw [if_pos h34]⟩))
        · exact .inr (.inr (.inr ⟨hd', hn', h34, by rw [if_neg h34]⟩))
theorem name_of_digit {c : UInt8} (h : digitB c = true) : nameB c = true := by unfold nameB; rw [h]; simp
theorem blanks_pos {t : List UInt8} (h : kindL t = 0) : 1 ≤ (blanksL t).length ∧ (blanksL t).length ≤ t.length := by
  match t, h with
  | [], h => simp [kindL] at h
  | c :: r, h =>
    have hk : blankB c = true ∨ Lib.hasPrefix (c :: r) [45, 45] = true := by
      rcases kind_cases c r with ⟨g, _⟩ | ⟨_, ⟨_, e⟩ | ⟨_, _, e⟩ | ⟨_, _, _, e⟩ | ⟨_, _, _, e⟩⟩ <;> first | exact g | omega
    unfold blanksL
    split
    · rename_i hp
      obtain ⟨q, hq⟩ := hasPrefix_iff.1 hp
      simp only [List.cons_append, List.cons.injEq] at hq
      obtain ⟨rfl, _⟩ := hq
      refine ⟨?_, takeWhile_le _ _⟩
      rw [List.takeWhile_cons]; simp
    · rename_i hp
      refine ⟨?_, takeWhile_le _ _⟩
      rcases hk with hk | hk
      · rw [List.takeWhile_cons, hk]; simp
      · exact absurd hk hp
theorem quoted_le (t : List UInt8) : (t.take (quotedN t)).length ≤ t.length := by rw [List.length_take]; omega
theorem word_pos {t : List UInt8} (hne : t ≠ []) (h0 : kindL t ≠ 0) (h : (wordL t).err = 0) : 1 ≤ (wordL t).size ∧ (wordL t).size ≤ t.length ∧ (wordL t).size = (headL (kindL t) t).length := by
  have hk := kind_le t
  have h5 : kindL t ≠ 5 := fun e => hne ((kind_nil_iff t).1 e)
  have hlen : (headL (kindL t) t).length ≤ t.length := by
    unfold headL
    split
    · exact takeWhile_le _ _
    · split
      · exact quoted_le t
      · unfold signL
        split
        · rename_i s hs
          have := List.find?_some hs
          obtain ⟨r, hr⟩ := hasPrefix_iff.1 this
          rw [hr, List.length_append]; omega
        · simp
  have hpos : headL (kindL t) t ≠ [] → 1 ≤ (headL (kindL t) t).length := fun h => List.length_pos_iff.2 h
  unfold wordL at *
  have hsz : (readW (kindL t) (headL (kindL t) t)).size = (headL (kindL t) t).length ∧ headL (kindL t) t ≠ [] := by
    generalize hw : headL (kindL t) t = w at *
    match t, hne with
    | c :: r, _ =>
      generalize hkk : kindL (c :: r) = k at *
      have : k = 1 ∨ k = 2 ∨ k = 3 ∨ k = 4 := by omega
      rcases this with rfl | rfl | rfl | rfl
      · have hn : nameB c = true := by
          rcases kind_cases c r with ⟨_, e⟩ | ⟨_, ⟨h, e⟩ | ⟨_, h, e⟩ | ⟨_, _, _, e⟩ | ⟨_, _, _, e⟩⟩ <;> first | exact h | exact name_of_digit h | omega
        have hne : w ≠ [] := by rw [← hw]; unfold headL; rw [if_pos (by omega), List.takeWhile_cons, hn]; simp
        refine ⟨?_, hne⟩
        simp only [readW, if_pos] at *
        unfold nameW at *
        split at h
        · cases h
        · rename_i hl
          rw [if_neg hl]
      · have hn : nameB c = true := by
          rcases kind_cases c r with ⟨_, e⟩ | ⟨_, ⟨h, e⟩ | ⟨_, h, e⟩ | ⟨_, _, _, e⟩ | ⟨_, _, _, e⟩⟩ <;> first | exact h | exact name_of_digit h | omega
        have hne : w ≠ [] := by rw [← hw]; unfold headL; rw [if_pos (by omega), List.takeWhile_cons, hn]; simp
        refine ⟨?_, hne⟩
        simp only [readW] at *
        unfold intW at *
        by_cases hp : parseE w = 0
        · simp [hp]
        · simp [hp, badW, wordE] at h
          split at h <;> omega
      · have hne : w ≠ [] := by
          rw [← hw]; unfold headL quotedN
          rw [if_neg (by omega), if_pos rfl]
          split <;> simp
        refine ⟨?_, hne⟩
        simp only [readW] at *
        unfold strW at *
        by_cases hp : (unqL w).2 = 0
        · simp [hp]
        · simp [hp, badW, wordE] at h
          split at h <;> omega
      · simp only [readW] at *
        unfold signW at *
        by_cases hp : w = []
        · simp [hp, badW] at h
        · exact ⟨by simp [hp], hp⟩
  rw [hsz.1]
  exact ⟨hpos hsz.2, hlen, rfl⟩
theorem tokF_nil (f l : Nat) : tokF f [] l = ⟨[⟨5, [], 0, l⟩], 0, l⟩ := by cases f <;> rfl
theorem tokF_more : ∀ (f : Nat) (t : List UInt8) (l : Nat), t.length ≤ f → tokF f t l = tokF t.length t l := by
  intro f
  induction f using Nat.strongRecOn with
  | _ f ih =>
    intro t l ht
    match f, t, ht with
    | f, [], _ => rw [tokF_nil, tokF_nil]
    | f + 1, c :: r, ht =>
      simp only [List.length_cons] at ht
      simp only [List.length_cons, tokF]
      have step : ∀ (n m : Nat), 1 ≤ n → tokF f ((c :: r).drop n) m = tokF r.length ((c :: r).drop n) m := by
        intro n m hn
        have hl : ((c :: r).drop n).length ≤ r.length := by rw [List.length_drop, List.length_cons]; omega
        rw [ih f (by omega) _ _ (by omega)]
        rcases Nat.lt_or_ge r.length (f + 1) with h | h
        · rw [ih r.length (by omega) _ _ hl]
        · omega
      by_cases h0 : kindL (c :: r) = 0
      · rw [if_pos h0, if_pos h0, step _ _ (blanks_pos h0).1]
      · rw [if_neg h0, if_neg h0]
        by_cases he : (wordL (c :: r)).err = 0
        · rw [if_pos he, if_pos he, step _ _ (word_pos (by simp) h0 he).1]
        · rw [if_neg he, if_neg he]
theorem tokL_nil (l : Nat) : tokL [] l = ⟨[⟨5, [], 0, l⟩], 0, l⟩ := rfl
theorem tokL_blank {t : List UInt8} (l : Nat) (h : kindL t = 0) : tokL t l = tokL (t.drop (blanksL t).length) (l + (blanksL t).count 10) := by
  match t, h with
  | [], h => simp [kindL] at h
  | c :: r, h =>
    have hp := (blanks_pos h).1
    unfold tokL
    rw [List.length_cons, tokF, if_pos h, tokF_more r.length _ _ (by rw [List.length_drop, List.length_cons]; omega)]
theorem tokL_word {t : List UInt8} (l : Nat) (hne : t ≠ []) (h : kindL t ≠ 0) (he : (wordL t).err = 0) : tokL t l = pushL ⟨(wordL t).kind, (wordL t).text, (wordL t).num, l⟩ (tokL (t.drop (wordL t).size) l) := by
  match t, hne with
  | c :: r, hne =>
    have hp := (word_pos hne h he).1
    unfold tokL
    rw [List.length_cons, tokF, if_neg h, if_pos he, tokF_more r.length _ _ (by rw [List.length_drop, List.length_cons]; omega)]
theorem tokL_bad {t : List UInt8} (l : Nat) (hne : t ≠ []) (h : kindL t ≠ 0) (he : (wordL t).err ≠ 0) : tokL t l = ⟨[], (wordL t).err, l⟩ := by
  match t, hne with
  | c :: r, hne =>
    unfold tokL
    rw [List.length_cons, tokF, if_neg h, if_neg he]
theorem glue_nil (r : Lexed) : glueL [] r = r := by unfold glueL; split <;> rfl
theorem glue_push (a : List Tok) (t : Tok) (r : Lexed) : glueL a (pushL t r) = glueL (a ++ [t]) r := by
  unfold glueL pushL
  by_cases h : r.err = 0
  · simp [h]
  · simp [h]
end Go.Proofs.YteoccfmhpakplaaGreatDoor
