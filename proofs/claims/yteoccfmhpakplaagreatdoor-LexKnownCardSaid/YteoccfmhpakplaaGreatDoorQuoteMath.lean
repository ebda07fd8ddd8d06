/- Quoted texts as plain functions on lists of bytes: which byte stands itself, escapes, a string's text, what a text is read as; and that what is quoted is read as it was. No walk, no program. -/
import Derived.Test.YteoccfmhpakplaaGreatDoorBase
namespace Go.Proofs.YteoccfmhpakplaaGreatDoor
set_option maxRecDepth 20000

def selfB (c : UInt8) : Bool := decide (32 ≤ c.toNat) && decide (c.toNat ≤ 126) && !(c.toNat == 34) && !(c.toNat == 92)
def letterO (c : UInt8) : Option UInt8 := if c = 10 then some 110 else if c = 9 then some 116 else if c = 92 then some 92 else if c = 34 then some 34 else none
def byteO (l : UInt8) : Option UInt8 := if l = 110 then some 10 else if l = 116 then some 9 else if l = 92 then some 92 else if l = 34 then some 34 else none
def hexB (n : Nat) : UInt8 := if n < 10 then UInt8.ofNat (48 + n) else UInt8.ofNat (87 + n)
def hexO (c : UInt8) : Option Nat := if 48 ≤ c.toNat ∧ c.toNat ≤ 57 then some (c.toNat - 48) else if 97 ≤ c.toNat ∧ c.toNat ≤ 102 then some (c.toNat - 87) else none
def escL (c : UInt8) : List UInt8 :=
  if selfB c then [c] else match letterO c with
    | some l => [92, l]
    | none => [92, 120, hexB (c.toNat / 16), hexB (c.toNat % 16)]
def bodyL (s : List UInt8) : List UInt8 := s.flatMap escL
def quoteL (s : List UInt8) : List UInt8 := 34 :: (bodyL s ++ [34])
/-- What a text begins with: the byte, and how many bytes of the text it takes. -/
def hex2 (h l : UInt8) : Option (UInt8 × Nat) := match hexO h, hexO l with
  | some a, some b => some (UInt8.ofNat (16 * a + b), 4)
  | _, _ => none
def hexL : List UInt8 → Option (UInt8 × Nat)
  | h :: l :: _ => hex2 h l
  | _ => none
def afterL : List UInt8 → Option (UInt8 × Nat)
  | [] => none
  | d :: r => match byteO d with
    | some b => some (b, 2)
    | none => if d = 120 then hexL r else none
theorem hexL_short : ∀ {r : List UInt8}, r.length < 2 → hexL r = none
  | [], _ => rfl
  | [_], _ => rfl
  | _ :: _ :: _, h => by simp at h; omega
theorem hexL_at : ∀ {r : List UInt8} {x y : UInt8}, r[0]? = some x → r[1]? = some y → hexL r = hex2 x y
  | [], _, _, h, _ => by simp at h
  | [_], _, _, _, h => by simp at h
  | a :: b :: r, x, y, h, g => by simp at h g; subst h; subst g; rfl
def oneL : List UInt8 → Option (UInt8 × Nat)
  | [] => none
  | c :: r => if c = 92 then afterL r else if selfB c then some (c, 1) else none
def readF : Nat → List UInt8 → Option (List UInt8)
  | _, [] => some []
  | 0, _ :: _ => none
  | f + 1, c :: r => match oneL (c :: r) with
    | none => none
    | some (b, n) => (readF f ((c :: r).drop n)).map (b :: ·)
def readL (t : List UInt8) : Option (List UInt8) := readF t.length t
/-- What lies between the two quotes; none, if the text does not begin and end with one. -/
def midL (q : List UInt8) : Option (List UInt8) :=
  if 2 ≤ q.length ∧ q.head? = some 34 ∧ q.getLast? = some 34 then some ((q.drop 1).take (q.length - 2)) else none
def gotL (r : Option (List UInt8)) : List UInt8 × Int := match r with
  | none => ([], 4)
  | some s => if 4096 < s.length then ([], 3) else (s, 0)
def unqL (q : List UInt8) : List UInt8 × Int := gotL ((midL q).bind readL)

theorem all_bytes {p : UInt8 → Bool} (h : ((List.range 256).all fun n => p (UInt8.ofNat n)) = true) (c : UInt8) : p c = true := by
  have h1 := List.all_eq_true.1 h c.toNat (by simp; exact c.toNat_lt)
  simpa using h1
theorem oneL_pos {t : List UInt8} {b : UInt8} {n : Nat} (h : oneL t = some (b, n)) : 1 ≤ n ∧ n ≤ t.length ∧ n ≤ 4 := by
  match t, h with
  | c :: r, h =>
    simp only [oneL] at h
    split at h
    · match r, h with
      | d :: r, h =>
        simp only [afterL] at h
        split at h
        · cases h; simp
        · split at h
          · match r, h with
            | x :: y :: r, h =>
              simp only [hexL, hex2] at h
              split at h
              · cases h; simp
              · cases h
          · cases h
    · split at h
      · cases h; simp
      · cases h
theorem readF_nil (f : Nat) : readF f [] = some [] := by cases f <;> rfl
theorem readF_more : ∀ (f : Nat) (t : List UInt8), t.length ≤ f → readF f t = readF t.length t := by
  intro f
  induction f using Nat.strongRecOn with
  | _ f ih =>
    intro t ht
    match f, t, ht with
    | f, [], _ => rw [readF_nil, readF_nil]
    | f + 1, c :: r, ht =>
      simp only [List.length_cons, readF]
      cases ho : oneL (c :: r) with
      | none => rfl
      | some x =>
        obtain ⟨b, n⟩ := x
        have hp := oneL_pos ho
        have hl : ((c :: r).drop n).length ≤ r.length := by rw [List.length_drop, List.length_cons]; omega
        simp only [List.length_cons] at ht
        simp only []
        rw [ih f (by omega) _ (by omega)]
        rcases Nat.lt_or_ge r.length (f + 1) with h | h
        · rw [ih r.length (by omega) _ hl]
        · omega
theorem readL_nil : readL [] = some [] := rfl
theorem readL_none {t : List UInt8} (hne : t ≠ []) (h : oneL t = none) : readL t = none := by
  match t, hne with
  | c :: r, _ => unfold readL; rw [List.length_cons, readF, h]
theorem readL_some {t : List UInt8} {b : UInt8} {n : Nat} (h : oneL t = some (b, n)) : readL t = (readL (t.drop n)).map (b :: ·) := by
  match t, h with
  | c :: r, h =>
    have hp := oneL_pos h
    unfold readL
    rw [List.length_cons, readF, h]
    simp only []
    rw [readF_more r.length _ (by rw [List.length_drop, List.length_cons]; omega)]
/-- One byte's text is read as that byte. -/
theorem hexO_hexB (n : Nat) (h : n < 16) : hexO (hexB n) = some n := by
  have : n = 0 ∨ n = 1 ∨ n = 2 ∨ n = 3 ∨ n = 4 ∨ n = 5 ∨ n = 6 ∨ n = 7 ∨ n = 8 ∨ n = 9 ∨ n = 10 ∨ n = 11 ∨ n = 12 ∨ n = 13 ∨ n = 14 ∨ n = 15 := by omega
  rcases this with rfl | rfl | rfl | rfl | rfl | rfl | rfl | rfl | rfl | rfl | rfl | rfl | rfl | rfl | rfl | rfl <;> decide
theorem letter_byte {c l : UInt8} (h : letterO c = some l) : byteO l = some c := by
  unfold letterO at h
  split at h
  · cases h; subst_vars; decide
  · split at h
    · cases h; subst_vars; decide
    · split at h
      · cases h; subst_vars; decide
      · split at h
        · cases h; subst_vars; decide
        · cases h
theorem byte_letter {c l : UInt8} (h : byteO l = some c) : letterO c = some l := by
  unfold byteO at h
  split at h
  · cases h; subst_vars; decide
  · split at h
    · cases h; subst_vars; decide
    · split at h
      · cases h; subst_vars; decide
      · split at h
        · cases h; subst_vars; decide
        · cases h
theorem self_ne {c : UInt8} (h : selfB c = true) : c ≠ 92 ∧ c ≠ 34 := by
  constructor <;> (rintro rfl; revert h; decide)
theorem one_esc (c : UInt8) (r : List UInt8) : oneL (escL c ++ r) = some (c, (escL c).length) := by
  unfold escL
  cases hs : selfB c with
  | true => simp [oneL, self_ne hs, hs]
  | false =>
    simp only [Bool.false_eq_true, if_false]
    cases hl : letterO c with
    | some l => simp [oneL, afterL, letter_byte hl]
    | none =>
      have h1 : c.toNat < 256 := c.toNat_lt
      have e1 := hexO_hexB (c.toNat / 16) (by omega)
      have e2 := hexO_hexB (c.toNat % 16) (by omega)
      have e3 : UInt8.ofNat (16 * (c.toNat / 16) + c.toNat % 16) = c := by rw [Nat.div_add_mod]; simp
      simp [oneL, afterL, show byteO 120 = none by decide, hexL, hex2, e1, e2, e3]
theorem esc_length (c : UInt8) : 1 ≤ (escL c).length ∧ (escL c).length ≤ 4 := by
  unfold escL; split
  · simp
  · split <;> simp
theorem read_body : ∀ s : List UInt8, readL (bodyL s) = some s
  | [] => rfl
  | c :: s => by
    unfold bodyL
    rw [List.flatMap_cons, readL_some (one_esc c _), List.drop_left']
    · have := read_body s
      unfold bodyL at this
      rw [this]; rfl
    · rfl
theorem mid_quote (s : List UInt8) : midL (quoteL s) = some (bodyL s) := by
  unfold midL quoteL
  rw [if_pos ⟨by simp, rfl, by simp [List.getLast?_cons]⟩]
  simp
theorem unq_quote (s : List UInt8) : unqL (quoteL s) = if 4096 < s.length then ([], 3) else (s, 0) := by
  unfold unqL
  rw [mid_quote, Option.bind_some, read_body]; rfl
theorem quote_inj {a b : List UInt8} (h : quoteL a = quoteL b) : a = b := by
  have h1 := mid_quote a
  rw [h, mid_quote, Option.some.injEq] at h1
  have h2 := read_body a
  rw [← h1, read_body, Option.some.injEq] at h2
  exact h2.symm
theorem body_length (s : List UInt8) : (bodyL s).length ≤ 4 * s.length := by
  induction s with
  | nil => simp [bodyL]
  | cons c s ih =>
    unfold bodyL at *
    rw [List.flatMap_cons, List.length_append, List.length_cons]
    have := esc_length c
    omega
theorem quote_length (s : List UInt8) : (quoteL s).length = (bodyL s).length + 2 := by simp [quoteL]
theorem body_append (a b : List UInt8) : bodyL (a ++ b) = bodyL a ++ bodyL b := by unfold bodyL; rw [List.flatMap_append]
/-- What is read of a text takes no more bytes than the text. -/
theorem one_short {t : List UInt8} {b : UInt8} {n : Nat} (h : oneL t = some (b, n)) : (escL b).length ≤ n := by
  match t, h with
  | c :: r, h =>
    simp only [oneL] at h
    split at h
    · match r, h with
      | d :: r, h =>
        simp only [afterL] at h
        split at h
        · rename_i x hx
          cases h
          unfold escL
          rw [byte_letter hx]
          split <;> simp
        · split at h
          · match r, h with
            | x :: y :: r, h =>
              simp only [hexL, hex2] at h
              split at h
              · cases h; exact (esc_length _).2
              · cases h
          · cases h
    · split at h
      · rename_i hs
        cases h
        unfold escL; rw [if_pos hs]; simp
      · cases h
theorem read_short : ∀ (n : Nat) (t s : List UInt8), t.length ≤ n → readL t = some s → (bodyL s).length ≤ t.length := by
  intro n
  induction n with
  | zero =>
    intro t s ht h
    obtain rfl : t = [] := List.length_eq_zero_iff.1 (by omega)
    rw [readL_nil, Option.some.injEq] at h
    subst h; simp [bodyL]
  | succ n ih =>
    intro t s ht h
    match t, ht, h with
    | [], _, h =>
      rw [readL_nil, Option.some.injEq] at h
      subst h; simp [bodyL]
    | c :: r, ht, h =>
      cases ho : oneL (c :: r) with
      | none => rw [readL_none (by simp) ho] at h; cases h
      | some x =>
        obtain ⟨b, k⟩ := x
        have hp := oneL_pos ho
        rw [readL_some ho, Option.map_eq_some_iff] at h
        obtain ⟨s', h', rfl⟩ := h
        have h1 := ih _ _ (by rw [List.length_drop]; omega) h'
        have h2 := one_short ho
        unfold bodyL at *
        rw [List.flatMap_cons, List.length_append]
        rw [List.length_drop] at h1
        omega
theorem unq_ok {q : List UInt8} (h : (unqL q).2 = 0) : (unqL q).1.length ≤ 4096 ∧ (quoteL (unqL q).1).length ≤ q.length := by
  unfold unqL at h ⊢
  cases hm : midL q with
  | none => rw [hm] at h; simp [gotL] at h
  | some m =>
    rw [hm, Option.bind_some] at h
    rw [Option.bind_some]
    cases hr : readL m with
    | none => rw [hr] at h; simp [gotL] at h
    | some s =>
      rw [hr] at h
      have eg : gotL (some s) = if 4096 < s.length then ([], 3) else (s, 0) := rfl
      rw [eg] at h ⊢
      by_cases hs : 4096 < s.length
      · rw [if_pos hs] at h; cases h
      · rw [if_neg hs]
        show s.length ≤ 4096 ∧ (quoteL s).length ≤ q.length
        refine ⟨by omega, ?_⟩
        have h1 := read_short _ _ _ (Nat.le_refl _) hr
        rw [quote_length]
        unfold midL at hm
        split at hm
        · rename_i hc
          rw [Option.some.injEq] at hm
          subst hm
          rw [List.length_take, List.length_drop] at h1
          omega
        · cases hm
theorem unq_bad {q : List UInt8} (h : (unqL q).2 ≠ 0) : (unqL q).1 = [] := by
  unfold unqL at *
  generalize (midL q).bind readL = r at *
  cases r with
  | none => rfl
  | some s =>
    have eg : gotL (some s) = if 4096 < s.length then ([], 3) else (s, 0) := rfl
    rw [eg] at h ⊢
    by_cases hs : 4096 < s.length
    · rw [if_pos hs]
    · rw [if_neg hs] at h; exact absurd rfl h
/-- Between its quotes a text has bytes that may be seen alone, and a quote behind a backslash alone: e: is the next byte escaped. -/
def fineB : Bool → List UInt8 → Bool
  | _, [] => true
  | e, c :: r => decide (32 ≤ c.toNat) && decide (c.toNat ≤ 126) && (!(c == 34) || e) && fineB (c == 92 && !e) r
def escF (e : Bool) (l : List UInt8) : Bool := l.foldl (fun e c => c == 92 && !e) e
theorem fine_append : ∀ (a b : List UInt8) (e : Bool), fineB e (a ++ b) = (fineB e a && fineB (escF e a) b)
  | [], _, _ => by simp [fineB, escF]
  | c :: a, b, e => by
    rw [List.cons_append, fineB, fineB, fine_append a b, show escF e (c :: a) = escF (c == 92 && !e) a from rfl]
    simp only [Bool.and_assoc]
set_option maxRecDepth 100000 in
theorem fine_esc (c : UInt8) : fineB false (escL c) = true ∧ escF false (escL c) = false := by
  have h := all_bytes (p := fun c => fineB false (escL c) && !(escF false (escL c))) (by decide) c
  simpa using h
theorem fine_body : ∀ s : List UInt8, fineB false (bodyL s) = true
  | [] => rfl
  | c :: s => by
    have := fine_body s
    unfold bodyL at *
    rw [List.flatMap_cons, fine_append, (fine_esc c).1, (fine_esc c).2, this]; rfl
end Go.Proofs.YteoccfmhpakplaaGreatDoor
