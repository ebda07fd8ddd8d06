/- Where a string ends in its line, and what is read of it; digits with a letter behind. No walk, no program. -/
import Derived.Test.YteoccfmhpakplaaGreatDoorLexMath
import Derived.Test.YteoccfmhpakplaaGreatDoorLexRefB
import Derived.Test.YteoccfmhpakplaaGreatDoorRefParse
namespace Go.Proofs.YteoccfmhpakplaaGreatDoor

theorem closeF_of_R : ∀ (l : List UInt8) (e : Bool) (n : Nat), closeR e l = some n → closeF e l = some n
  | [], _, _, h => by cases h
  | c :: r, e, n, h => by
    unfold closeR at h
    unfold closeF
    split at h
    · cases h
    · split at h
      · obtain ⟨m, hm, rfl⟩ := Option.map_eq_some_iff.1 h
        rename_i he
        rw [if_pos he, closeF_of_R r _ _ hm]; rfl
      · rename_i he
        rw [if_neg he]
        split at h
        · obtain ⟨m, hm, rfl⟩ := Option.map_eq_some_iff.1 h
          rename_i hc
          rw [if_pos hc, closeF_of_R r _ _ hm]; rfl
        · rename_i hc
          rw [if_neg hc]
          split at h
          · rename_i h3; rw [if_pos h3]; exact h
          · obtain ⟨m, hm, rfl⟩ := Option.map_eq_some_iff.1 h
            rename_i h3
            rw [if_neg h3, closeF_of_R r _ _ hm]; rfl
theorem close_plain {c : UInt8} {r : List UInt8} (h10 : c ≠ 10) (h92 : c ≠ 92) (h34 : c ≠ 34) : closeR false (c :: r) = (closeR false r).map (· + 1) := by
  rw [closeR, if_neg h10, if_neg (by simp), if_neg h92, if_neg h34]
theorem close_esc {d : UInt8} {r : List UInt8} (h10 : d ≠ 10) : closeR false (92 :: d :: r) = (closeR false r).map (· + 2) := by
  rw [closeR, if_neg (by decide), if_neg (by simp), if_pos rfl, closeR, if_neg h10, if_pos rfl]
  cases closeR false r <;> rfl
theorem byteO_fine {d b : UInt8} (h : byteO d = some b) : d ≠ 10 := by
  rintro rfl; rw [show byteO 10 = none by decide] at h; cases h
theorem hexO_fine {h : UInt8} {n : Nat} (g : hexO h = some n) : h ≠ 10 ∧ h ≠ 92 ∧ h ≠ 34 := by
  refine ⟨?_, ?_, ?_⟩
  · rintro rfl; rw [show hexO 10 = none by decide] at g; cases g
  · rintro rfl; rw [show hexO 92 = none by decide] at g; cases g
  · rintro rfl; rw [show hexO 34 = none by decide] at g; cases g
theorem self_fine {c : UInt8} (h : selfB c = true) : c ≠ 10 ∧ c ≠ 92 ∧ c ≠ 34 := by
  refine ⟨?_, ?_, ?_⟩ <;> (rintro rfl; revert h; decide)
/-- One item of a text is gone over whole. -/
theorem close_one {t : List UInt8} {b : UInt8} {n : Nat} (h : oneL t = some (b, n)) (x : List UInt8) : closeR false (t ++ x) = (closeR false (t.drop n ++ x)).map (· + n) := by
  match t, h with
  | c :: r, h =>
    simp only [oneL] at h
    split at h
    · rename_i hc
      subst hc
      match r, h with
      | d :: r, h =>
        simp only [afterL] at h
        split at h
        · rename_i b' hb
          cases h
          rw [List.cons_append, List.cons_append, close_esc (byteO_fine hb)]; rfl
        · split at h
          · rename_i hd
            subst hd
            match r, h with
            | y :: z :: r, h =>
              simp only [hexL, hex2] at h
              split at h
              · rename_i u v hu hv
                cases h
                obtain ⟨y1, y2, y3⟩ := hexO_fine hu
                obtain ⟨z1, z2, z3⟩ := hexO_fine hv
                rw [List.cons_append, List.cons_append, List.cons_append, List.cons_append, close_esc (by decide), close_plain y1 y2 y3, close_plain z1 z2 z3]
                show _ = (closeR false (r ++ x)).map (· + 4)
                cases closeR false (r ++ x) <;> rfl
              · cases h
          · cases h
    · split at h
      · rename_i hs
        cases h
        obtain ⟨c1, c2, c3⟩ := self_fine hs
        rw [List.cons_append, close_plain c1 c2 c3]; rfl
      · cases h
theorem close_read : ∀ (k : Nat) (mid s x : List UInt8), mid.length ≤ k → readL mid = some s → closeR false (mid ++ 34 :: x) = some (mid.length + 1) := by
  intro k
  induction k with
  | zero =>
    intro mid s x hk h
    obtain rfl : mid = [] := List.length_eq_zero_iff.1 (by omega)
    rfl
  | succ k ih =>
    intro mid s x hk h
    match mid, hk, h with
    | [], _, _ => rfl
    | c :: r, hk, h =>
      cases ho : oneL (c :: r) with
      | none => rw [readL_none (by simp) ho] at h; cases h
      | some y =>
        obtain ⟨b, n⟩ := y
        have hp := oneL_pos ho
        rw [readL_some ho, Option.map_eq_some_iff] at h
        obtain ⟨s', h', _⟩ := h
        rw [close_one ho, ih _ _ x (by rw [List.length_drop]; omega) h']
        simp only [Option.map_some, List.length_drop, Option.some.injEq]
        omega
/-- A text that is read between two quotes ends in its line. -/
theorem close_mid {r : List UInt8} {k : Nat} {mid s : List UInt8} (hm : midL ((34 :: r).take k) = some mid) (hr : readL mid = some s) : closeR false r = some (mid.length + 1) := by
  unfold midL at hm
  split at hm
  · rename_i hc
    obtain ⟨h2, _, hl⟩ := hc
    rw [Option.some.injEq] at hm
    have hk : 2 ≤ k := by
      have : ((34 :: r).take k).length ≤ k := List.length_take_le _ _
      omega
    obtain ⟨k, rfl⟩ : ∃ j, k = j + 1 := ⟨k - 1, by omega⟩
    rw [List.take_succ_cons] at h2 hl hm
    have hlen : (r.take k).length ≤ r.length := by rw [List.length_take]; omega
    rw [List.length_cons] at h2
    have e1 : r.take k = mid ++ [34] := by
      have hne : r.take k ≠ [] := by intro e; rw [e] at h2; simp at h2
      have hl2 : (r.take k).getLast? = some 34 := by
        cases hq : r.take k with
        | nil => exact absurd hq hne
        | cons y l => rw [hq] at hl; rw [List.getLast?_cons_cons] at hl; exact hl
      obtain ⟨ys, hys⟩ := List.getLast?_eq_some_iff.1 hl2
      rw [List.drop_one, List.tail_cons, List.length_cons, hys] at hm
      rw [hys, ← hm, List.length_append]
      simp
    have e3 : r = mid ++ 34 :: r.drop k := by
      conv => lhs; rw [← List.take_append_drop k r, e1]
      simp
    rw [e3]
    exact close_read _ _ _ _ (Nat.le_refl _) hr
  · cases hm
theorem unq_none {r : List UInt8} (h : closeR false r = none) (k : Nat) : unqL ((34 :: r).take k) = ([], 4) := by
  unfold unqL
  cases hm : midL ((34 :: r).take k) with
  | none => rfl
  | some mid =>
    rw [Option.bind_some]
    cases hr : readL mid with
    | none => rfl
    | some s => rw [close_mid hm hr] at h; cases h
theorem mem_tw {p : UInt8 → Bool} : ∀ {l : List UInt8} {x : UInt8}, x ∈ l.takeWhile p → p x = true
  | c :: l, x, h => by
    rw [List.takeWhile_cons] at h
    split at h
    · rename_i hc
      rcases List.mem_cons.1 h with rfl | h
      · exact hc
      · exact mem_tw h
    · cases h
/-- The document's string and the program's. -/
theorem str_none {r : List UInt8} (h : quotedR (34 :: r) = 0) : strW ((34 :: r).take (quotedN (34 :: r))) = badW 14 := by
  have hc : closeR false r = none := by
    unfold quotedR at h
    rw [List.drop_one, List.tail_cons] at h
    cases g : closeR false r with
    | none => rfl
    | some n => rw [g] at h; simp at h
  unfold strW
  rw [unq_none hc]; rfl
theorem str_some {r : List UInt8} (h : quotedR (34 :: r) ≠ 0) : quotedN (34 :: r) = quotedR (34 :: r) ∧ quotedR (34 :: r) ≤ (34 :: r).length := by
  have e : quotedN (34 :: r) = quotedR (34 :: r) := by
    unfold quotedR quotedN at *
    rw [List.drop_one, List.tail_cons] at *
    cases g : closeR false r with
    | none => rw [g] at h; exact absurd rfl h
    | some n => rw [closeF_of_R _ _ _ g]
  exact ⟨e, by rw [← e]; exact quotedN_le _ (by simp)⟩
/-- Digits with a letter behind are no number. -/
theorem isText_letter {w : List UInt8} {c : UInt8} (hh : w.head? = some c) (hc : digitB c = true) (ha : w.all digitB = false) : isTextL w = false := by
  match w, hh with
  | c' :: r, hh =>
    obtain rfl : c' = c := by simpa using hh
    have h45 : c' ≠ 45 := by rintro rfl; revert hc; decide
    unfold isTextL
    rw [trim_other r h45, if_neg (by simp)]
    split
    · rename_i h48
      have h48 : c' = 48 := by simpa using h48
      subst h48
      refine beq_eq_false_iff_ne.2 fun e => ?_
      rw [e] at ha
      revert ha; decide
    · exact ha
theorem takeWhile_name {t : List UInt8} {c : UInt8} (hc : (t.drop (t.takeWhile digitB).length).head? = some c) (hn : nameB c = false) : t.takeWhile nameB = t.takeWhile digitB := by
  have e : t = t.takeWhile digitB ++ t.drop (t.takeWhile digitB).length := by
    conv => lhs; rw [← List.take_append_drop (t.takeWhile digitB).length t]
    rw [← List.prefix_iff_eq_take.1 (List.takeWhile_prefix _)]
  conv => lhs; rw [e]
  rw [List.takeWhile_append_of_pos (fun x hx => name_of_digit (mem_tw hx))]
  cases hd : t.drop (t.takeWhile digitB).length with
  | nil => rw [hd] at hc; cases hc
  | cons d r =>
    rw [hd] at hc
    obtain rfl : d = c := by simpa using hc
    rw [List.takeWhile_cons, hn]; simp
theorem takeWhile_all {t : List UInt8} (h : t.drop (t.takeWhile digitB).length = []) : t.takeWhile nameB = t.takeWhile digitB := by
  have e : t = t.takeWhile digitB := by
    conv => lhs; rw [← List.take_append_drop (t.takeWhile digitB).length t]
    rw [← List.prefix_iff_eq_take.1 (List.takeWhile_prefix _), h, List.append_nil]
  have ha : ∀ x ∈ t, nameB x = true := fun x hx => name_of_digit (by rw [e] at hx; exact mem_tw hx)
  rw [← e]
  have := List.takeWhile_append_of_pos (l₂ := []) ha
  simpa using this
theorem int_letter {t : List UInt8} {c d : UInt8} (hh : t.head? = some d) (hd : digitB d = true) (hc : (t.drop (t.takeWhile digitB).length).head? = some c) (hn : nameB c = true) : intW (t.takeWhile nameB) = badW 14 := by
  have hdig : digitB c = false := by
    cases g : digitB c with
    | false => rfl
    | true =>
      have e : t = t.takeWhile digitB ++ t.drop (t.takeWhile digitB).length := by
        conv => lhs; rw [← List.take_append_drop (t.takeWhile digitB).length t]
        rw [← List.prefix_iff_eq_take.1 (List.takeWhile_prefix _)]
      have h2 : (t.takeWhile digitB) = t.takeWhile digitB ++ (t.drop (t.takeWhile digitB).length).takeWhile digitB := by
        conv => lhs; rw [e]
        rw [List.takeWhile_append_of_pos (fun x hx => mem_tw hx)]
      have h3 := congrArg List.length h2
      rw [List.length_append] at h3
      cases hd2 : t.drop (t.takeWhile digitB).length with
      | nil => rw [hd2] at hc; cases hc
      | cons x r =>
        rw [hd2] at hc h3
        obtain rfl : x = c := by simpa using hc
        rw [List.takeWhile_cons, g] at h3
        simp at h3
  have ht : isTextL (t.takeWhile nameB) = false := by
    refine isText_letter (c := d) ?_ hd ?_
    · match t, hh with
      | d' :: r, hh =>
        obtain rfl : d' = d := by simpa using hh
        rw [List.takeWhile_cons, name_of_digit hd]; rfl
    · rw [List.all_eq_false]
      refine ⟨c, ?_, by rw [hdig]; simp⟩
      have e : t = t.takeWhile digitB ++ t.drop (t.takeWhile digitB).length := by
        conv => lhs; rw [← List.take_append_drop (t.takeWhile digitB).length t]
        rw [← List.prefix_iff_eq_take.1 (List.takeWhile_prefix _)]
      rw [e, List.takeWhile_append_of_pos (fun x hx => name_of_digit (mem_tw hx))]
      refine List.mem_append_right _ ?_
      cases hd2 : t.drop (t.takeWhile digitB).length with
      | nil => rw [hd2] at hc; cases hc
      | cons x r =>
        rw [hd2] at hc
        obtain rfl : x = c := by simpa using hc
        rw [List.takeWhile_cons, hn]; simp
  unfold intW
  have e := (parse_bad ht).2
  rw [if_neg (by rw [e]; decide), e]; rfl
end Go.Proofs.YteoccfmhpakplaaGreatDoor
