/- Plain facts on decimal texts: what a text is read as, that a number's text is read as that number, and that a text that is read is that number's. No walk. -/
import Derived.Test.YteoccfmhpakplaaGreatDoorBase
import Derived.Test.YteoccfmhpakplaaGreatDoorNumParse
import Derived.Test.YteoccfmhpakplaaGreatDoorRefText
namespace Go.Proofs.YteoccfmhpakplaaGreatDoor
set_option maxRecDepth 20000
open Go.RowKit

/-- What digits spell, behind others that spell acc. -/
def valA (acc : Nat) (l : List UInt8) : Nat := l.foldl (fun a c => a * 10 + (c.toNat - 48)) acc
theorem valA_cons (acc : Nat) (c : UInt8) (r : List UInt8) : valA acc (c :: r) = valA (acc * 10 + (c.toNat - 48)) r := by unfold valA; rw [List.foldl_cons]
theorem valA_append (acc : Nat) (l r : List UInt8) : valA acc (l ++ r) = valA (valA acc l) r := by simp only [valA, List.foldl_append]
theorem valA_ge : ∀ (l : List UInt8) (acc : Nat), acc ≤ valA acc l
  | [], _ => Nat.le_refl _
  | c :: r, acc => by rw [valA_cons]; have := valA_ge r (acc * 10 + (c.toNat - 48)); omega
theorem digitB_iff {c : UInt8} : digitB c = true ↔ 48 ≤ c.toNat ∧ c.toNat ≤ 57 := by simp [digitB]
theorem parseUintM_val : ∀ (l : List UInt8) (acc : Nat), l.all digitB = true → acc ≤ 18446744073709551615 →
    Lib.parseUintM 18446744073709551615 acc l = if valA acc l ≤ 18446744073709551615 then .ok (valA acc l) else .range
  | [], acc, _, h => by rw [show valA acc [] = acc from rfl, if_pos h]; rfl
  | c :: r, acc, ha, h => by
    simp only [List.all_cons, Bool.and_eq_true] at ha
    have hc := digitB_iff.1 ha.1
    have hg := valA_ge r (acc * 10 + (c.toNat - 48))
    rw [valA_cons]
    unfold Lib.parseUintM
    rw [if_pos hc]
    by_cases h1 : 1844674407370955162 ≤ acc
    · rw [if_pos h1, if_neg (by omega)]
    · rw [if_neg h1]
      by_cases h2 : 18446744073709551615 < acc * 10 + (c.toNat - 48)
      · rw [if_pos h2, if_neg (by omega)]
      · rw [if_neg h2]
        exact parseUintM_val r _ ha.2 (by omega)
theorem parseUintB_val {l : List UInt8} (hne : l ≠ []) (ha : l.all digitB = true) :
    Lib.parseUintB 64 l = if valA 0 l ≤ 18446744073709551615 then .ok (valA 0 l) else .range := by
  unfold Lib.parseUintB
  rw [if_neg hne]
  exact parseUintM_val l 0 ha (by omega)

theorem decDigits_ne (n : Nat) : Lib.decDigits n ≠ [] := by
  by_cases h : n < 10
  · rw [decDigits_small h]; simp
  · rw [decDigits_big h, decDigits_small (Nat.mod_lt n (by decide))]; simp
theorem toNat_digit {d : Nat} (h : d < 10) : (UInt8.ofNat (48 + d)).toNat = 48 + d := by
  rw [UInt8.toNat_ofNat']; omega
theorem digit_ofNat {d : Nat} (h : d < 10) : digitB (UInt8.ofNat (48 + d)) = true := digitB_iff.2 (by rw [toNat_digit h]; omega)
theorem decDigits_all (n : Nat) : (Lib.decDigits n).all digitB = true := by
  induction n using Nat.strongRecOn with
  | ind n ih =>
    by_cases h : n < 10
    · rw [decDigits_small h]; simp only [List.all_cons, List.all_nil, digit_ofNat h, Bool.and_true]
    · have hm := Nat.mod_lt n (show 0 < 10 by decide)
      rw [decDigits_big h, decDigits_small hm, List.all_append, ih _ (by omega)]
      simp only [List.all_cons, List.all_nil, digit_ofNat hm, Bool.and_true]
theorem decDigits_valA (n : Nat) : valA 0 (Lib.decDigits n) = n := by
  induction n using Nat.strongRecOn with
  | ind n ih =>
    by_cases h : n < 10
    · rw [decDigits_small h, valA_cons, toNat_digit h]; simp [valA]
    · have hm := Nat.mod_lt n (show 0 < 10 by decide)
      rw [decDigits_big h, decDigits_small hm, valA_append, ih _ (by omega), valA_cons, toNat_digit hm]
      simp [valA]; omega
theorem decDigits_head {n : Nat} (h0 : 0 < n) : (Lib.decDigits n).head? ≠ some 48 := by
  induction n using Nat.strongRecOn with
  | ind n ih =>
    by_cases h : n < 10
    · rw [decDigits_small h]
      intro e
      have e1 := congrArg UInt8.toNat (Option.some.inj e)
      rw [toNat_digit h] at e1
      have : (48 : UInt8).toNat = 48 := rfl
      omega
    · rw [decDigits_big h, List.head?_append]
      have h1 := ih (n / 10) (by omega) (by omega)
      have h2 := decDigits_ne (n / 10)
      cases hd : Lib.decDigits (n / 10) with
      | nil => exact absurd hd h2
      | cons c r => rw [hd] at h1; simpa using h1
theorem digit_back {c : UInt8} (h : digitB c = true) : UInt8.ofNat (48 + (c.toNat - 48)) = c := by
  have := digitB_iff.1 h
  rw [show 48 + (c.toNat - 48) = c.toNat by omega]
  exact UInt8.ofNat_toNat
theorem decDigits_more : ∀ (l : List UInt8) (acc : Nat), l.all digitB = true → 0 < acc → Lib.decDigits (valA acc l) = Lib.decDigits acc ++ l
  | [], acc, _, _ => by simp [valA]
  | c :: r, acc, ha, h => by
    simp only [List.all_cons, Bool.and_eq_true] at ha
    have hc := digitB_iff.1 ha.1
    rw [valA_cons, decDigits_more r _ ha.2 (by omega), decDigits_big (n := acc * 10 + (c.toNat - 48)) (by omega)]
    rw [show (acc * 10 + (c.toNat - 48)) / 10 = acc by omega, show (acc * 10 + (c.toNat - 48)) % 10 = c.toNat - 48 by omega, decDigits_small (n := c.toNat - 48) (by omega), digit_back ha.1]
    simp
/-- Digits without noughts ahead are the text of what they spell. -/
theorem decDigits_of {l : List UInt8} (hne : l ≠ []) (ha : l.all digitB = true) (hh : l.head? = some 48 → l = [48]) : Lib.decDigits (valA 0 l) = l := by
  match l, hne with
  | c :: r, _ =>
    by_cases h48 : c = 48
    · subst h48
      have := hh rfl
      rw [this]
      rw [decDigits_small (by decide)]; rfl
    · simp only [List.all_cons, Bool.and_eq_true] at ha
      have hc := digitB_iff.1 ha.1
      have hne48 : c.toNat ≠ 48 := fun e => h48 (UInt8.toNat_inj.1 e)
      rw [valA_cons, decDigits_more r _ ha.2 (by omega), Nat.zero_mul, Nat.zero_add, decDigits_small (by omega), digit_back ha.1]
      rfl
theorem val_pos {l : List UInt8} (hne : l ≠ []) (ha : l.all digitB = true) (hh : l.head? ≠ some 48) : 0 < valA 0 l := by
  match l, hne with
  | c :: r, _ =>
    simp only [List.all_cons, Bool.and_eq_true] at ha
    have hc := digitB_iff.1 ha.1
    have h48 : c.toNat ≠ 48 := fun e => hh (by rw [List.head?_cons]; exact congrArg some (UInt8.toNat_inj.1 e))
    have := valA_ge r (0 * 10 + (c.toNat - 48))
    rw [valA_cons]
    omega

/-- A text of a number, by its parts: -, or nothing; digits without noughts ahead; 0 alone. -/
theorem isText_cases {l : List UInt8} (h : isTextL l = true) :
    (∃ r, l = 45 :: r ∧ r ≠ [] ∧ r.all digitB = true ∧ r.head? ≠ some 48) ∨ (l.head? ≠ some 45 ∧ l ≠ [] ∧ l.all digitB = true ∧ (l.head? = some 48 → l = [48])) := by
  obtain ⟨hne, hd⟩ := isText_digits h
  match l with
  | [] => exact absurd (by decide) hne
  | c :: r =>
    by_cases hc : c = 45
    · subst hc
      refine Or.inl ⟨r, rfl, ?_⟩
      unfold isTextL at h
      rw [trim_minus] at h hne hd
      refine ⟨hne, hd, fun hh => ?_⟩
      rw [if_neg hne, if_pos hh] at h
      simp at h
    · refine Or.inr ⟨by simpa using hc, by simp, ?_⟩
      unfold isTextL at h
      rw [trim_other r hc] at h hne hd
      refine ⟨hd, fun hh => ?_⟩
      rw [if_neg hne, if_pos hh] at h
      simpa using h
theorem isText_minus {r : List UInt8} (hne : r ≠ []) (ha : r.all digitB = true) (hh : r.head? ≠ some 48) : isTextL (45 :: r) = true := by
  unfold isTextL
  rw [trim_minus, if_neg hne, if_neg hh, ha]
theorem isText_plain {l : List UInt8} (hne : l ≠ []) (ha : l.all digitB = true) (hh : l.head? = some 48 → l = [48]) : isTextL l = true := by
  match l, hne with
  | c :: r, hne =>
    have hc : c ≠ 45 := fun e => by subst e; simp only [List.all_cons] at ha; exact absurd ha (by simp [digitB])
    unfold isTextL
    rw [trim_other r hc, if_neg hne]
    split
    · rename_i h; rw [hh h]; rfl
    · exact ha
theorem parse_minus {r : List UInt8} (hne : r ≠ []) (ha : r.all digitB = true) :
    Lib.parseIntB 64 (45 :: r) = if valA 0 r ≤ 9223372036854775808 then .ok (-(valA 0 r : Int)) else .range := by
  simp only [Lib.parseIntB]
  rw [if_pos (Or.inr (by decide)), parseUintB_val hne ha]
  have e45 : (45 : UInt8).toNat = 45 := rfl
  by_cases h : valA 0 r ≤ 18446744073709551615
  · rw [if_pos h]
    simp only [e45, not_true_eq_false, false_and, if_false, true_and, if_true]
    by_cases h2 : valA 0 r ≤ 9223372036854775808
    · rw [if_neg (by omega), if_pos h2]
    · rw [if_pos (by omega), if_neg h2]
  · rw [if_neg h, if_neg (by omega)]
theorem parse_plain {l : List UInt8} (hne : l ≠ []) (ha : l.all digitB = true) :
    Lib.parseIntB 64 l = if valA 0 l ≤ 9223372036854775807 then .ok (valA 0 l : Int) else .range := by
  match l, hne with
  | c :: r, hne =>
    have hc : 48 ≤ c.toNat ∧ c.toNat ≤ 57 := by simp only [List.all_cons, Bool.and_eq_true] at ha; exact digitB_iff.1 ha.1
    simp only [Lib.parseIntB]
    rw [if_neg (by omega), parseUintB_val hne ha]
    have e : ¬ c.toNat = 45 := by omega
    by_cases h : valA 0 (c :: r) ≤ 18446744073709551615
    · rw [if_pos h]
      simp only [e, not_false_eq_true, true_and, false_and, if_false]
      by_cases h2 : valA 0 (c :: r) ≤ 9223372036854775807
      · rw [if_neg (by omega), if_pos h2]
      · rw [if_pos (by omega), if_neg h2]
    · rw [if_neg h, if_neg (by omega)]
/-- A number's text is read as it is written. -/
theorem parse_itoa (n : Int) (h0 : -9223372036854775808 ≤ n) (h1 : n ≤ 9223372036854775807) : parseV (Lib.itoa n) = n ∧ parseE (Lib.itoa n) = 0 := by
  unfold Lib.itoa
  by_cases h : n < 0
  · rw [if_pos h]
    have ht := isText_minus (decDigits_ne n.natAbs) (decDigits_all _) (decDigits_head (by omega))
    have hp := parse_minus (decDigits_ne n.natAbs) (decDigits_all _)
    rw [decDigits_valA, if_pos (by omega)] at hp
    unfold parseV parseE
    rw [if_pos ht, if_pos ht, hp]
    exact ⟨by simp only []; omega, rfl⟩
  · rw [if_neg h]
    have hh : (Lib.decDigits n.toNat).head? = some 48 → Lib.decDigits n.toNat = [48] := fun e => by
      by_cases h0 : 0 < n.toNat
      · exact absurd e (decDigits_head h0)
      · rw [show n.toNat = 0 by omega, decDigits_small (by decide)]; rfl
    have ht := isText_plain (decDigits_ne n.toNat) (decDigits_all _) hh
    have hp := parse_plain (decDigits_ne n.toNat) (decDigits_all _)
    rw [decDigits_valA, if_pos (by omega)] at hp
    unfold parseV parseE
    rw [if_pos ht, if_pos ht, hp]
    exact ⟨by simp only []; omega, rfl⟩
/-- A text that is read is that number's. -/
theorem itoa_parse {l : List UInt8} (h : parseE l = 0) : Lib.itoa (parseV l) = l := by
  unfold parseE at h
  unfold parseV
  by_cases ht : isTextL l = true
  · rw [if_pos ht] at h ⊢
    rcases isText_cases ht with ⟨r, rfl, hne, ha, hh⟩ | ⟨_, hne, ha, hh⟩
    · rw [parse_minus hne ha] at h ⊢
      by_cases hv : valA 0 r ≤ 9223372036854775808
      · rw [if_pos hv]
        have hp := val_pos hne ha hh
        simp only []
        unfold Lib.itoa
        rw [if_pos (by omega), show (-(valA 0 r : Int)).natAbs = valA 0 r by omega, decDigits_of hne ha (fun e => absurd e hh)]
      · rw [if_neg hv] at h; simp at h
    · rw [parse_plain hne ha] at h ⊢
      by_cases hv : valA 0 l ≤ 9223372036854775807
      · rw [if_pos hv]
        simp only []
        unfold Lib.itoa
        rw [if_neg (by omega), show ((valA 0 l : Int)).toNat = valA 0 l by omega, decDigits_of hne ha hh]
      · rw [if_neg hv] at h; simp at h
  · rw [if_neg ht] at h; simp at h
theorem parse_none {l : List UInt8} (h : parseE l ≠ 0) : parseV l = 0 ∧ (parseE l = 4 ∨ parseE l = 15) := by
  unfold parseE parseV at *
  by_cases ht : isTextL l = true
  · rw [if_pos ht] at h ⊢
    rw [if_pos ht]
    rcases well_cases (isText_well ht) with ⟨v, hv⟩ | hv
    · rw [hv] at h; simp at h
    · rw [hv]; exact ⟨rfl, Or.inr rfl⟩
  · rw [if_neg ht, if_neg ht]; exact ⟨rfl, Or.inl rfl⟩
end Go.Proofs.YteoccfmhpakplaaGreatDoor
