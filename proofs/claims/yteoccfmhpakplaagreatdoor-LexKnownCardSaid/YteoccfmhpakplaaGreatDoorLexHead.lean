/- More small contracts of lex: reserved words, where a string ends, signs out of their table, how many bytes that takes with which a text begins. -/
import Derived.Test.YteoccfmhpakplaaGreatDoorLexRun
namespace Go.Proofs.YteoccfmhpakplaaGreatDoor
open Go.RowKit

theorem str_eq_of {s : ByteArray} {l : List UInt8} (h : s.data.toList = l) : s = ⟨l.toArray⟩ := by subst h; rfl
theorem toList_beq {s : ByteArray} {l : List UInt8} (h : s.data.toList ≠ l) : (s.toList == l) = false := by rw [Lib.toList_data]; exact beq_eq_false_iff_ne.2 h
set_option maxHeartbeats 4000000 in
theorem Reserved_no (s : ByteArray) (w : World) (h : reservedB s.data.toList = false) : Calls Tryz.prog 14 #[.string s] w fun e w' => e = .returned (.bool false) ∧ w' = w := by
  simp only [reservedB, reservedL, List.contains_cons, List.contains_nil, Bool.or_false, Bool.or_eq_false_iff, beq_eq_false_iff_ne, ne_eq] at h
  obtain ⟨h0, h1, h2, h3, h4, h5, h6, h7, h8, h9, h10, h11, h12, h13, h14, h15, h16, h17, h18, h19⟩ := h
  have r0 := toList_beq h0
  have r1 := toList_beq h1
  have r2 := toList_beq h2
  have r3 := toList_beq h3
  have r4 := toList_beq h4
  have r5 := toList_beq h5
  have r6 := toList_beq h6
  have r7 := toList_beq h7
  have r8 := toList_beq h8
  have r9 := toList_beq h9
  have r10 := toList_beq h10
  have r11 := toList_beq h11
  have r12 := toList_beq h12
  have r13 := toList_beq h13
  have r14 := toList_beq h14
  have r15 := toList_beq h15
  have r16 := toList_beq h16
  have r17 := toList_beq h17
  have r18 := toList_beq h18
  have r19 := toList_beq h19
  clear h0 h1 h2 h3 h4 h5 h6 h7 h8 h9 h10 h11 h12 h13 h14 h15 h16 h17 h18 h19
  go_enter Tryz.func14, Tryz.ntmps14
  go_wp2_with fail
  go_ret
  exact ⟨rfl, rfl⟩
set_option maxHeartbeats 4000000 in
theorem Reserved_yes (s : ByteArray) (w : World) (h : reservedB s.data.toList = true) : Calls Tryz.prog 14 #[.string s] w fun e w' => e = .returned (.bool true) ∧ w' = w := by
  simp only [reservedB, reservedL, List.contains_cons, List.contains_nil, Bool.or_false, Bool.or_eq_true, beq_iff_eq] at h
  rcases h with h | h | h | h | h | h | h | h | h | h | h | h | h | h | h | h | h | h | h | h
  all_goals
    obtain rfl := str_eq_of h
    clear h
    go_enter Tryz.func14, Tryz.ntmps14
    go_wp2_with fail
    go_ret
    exact ⟨rfl, rfl⟩
theorem Reserved_any (s : ByteArray) (w : World) : Calls Tryz.prog 14 #[.string s] w fun e w' => e = .returned (.bool (reservedB s.data.toList)) ∧ w' = w := by
  cases h : reservedB s.data.toList with
  | true => exact Reserved_yes s w h
  | false => exact Reserved_no s w h
/-- Where the string's end is looked for. -/
def Seek (t : List UInt8) (k : Nat) (e : Bool) : Prop := (k = 0 ∧ e = false) ∨ (1 ≤ k ∧ closeF false (t.drop 1) = (closeF e (t.drop k)).map (· + (k - 1)))
theorem seek_next {t : List UInt8} {k : Nat} {e : Bool} {c : UInt8} (h : Seek t k e) (hk : 1 ≤ k) (hc : t[k]? = some c) (hn : e = true ∨ c ≠ 34) : Seek t (k + 1) (c == 92 && !e) := by
  rcases h with ⟨rfl, _⟩ | ⟨h1, h2⟩
  · omega
  · refine .inr ⟨by omega, ?_⟩
    rw [List.drop_eq_getElem_cons (List.getElem?_eq_some_iff.1 hc).1, (List.getElem?_eq_some_iff.1 hc).2] at h2
    rw [h2]
    have m : ∀ x : Option Nat, (x.map (· + 1)).map (· + (k - 1)) = x.map (· + (k + 1 - 1)) := fun x => by
      cases x with
      | none => rfl
      | some n => simp; omega
    cases e with
    | true => simp only [closeF, if_pos, m, Bool.not_true, Bool.and_false]
    | false =>
      by_cases h92 : c = 92
      · subst h92; simp only [closeF, Bool.false_eq_true, if_false, if_pos, m]; rfl
      · have h34 : c ≠ 34 := hn.resolve_left (by simp)
        rw [show (c == 92) = false from beq_eq_false_iff_ne.2 h92]
        simp only [closeF, Bool.false_eq_true, if_false, if_neg h92, if_neg h34, m, Bool.false_and]
theorem seek_first (t : List UInt8) : Seek t 1 false := .inr ⟨Nat.le_refl _, by simp⟩
theorem seek_hit {t : List UInt8} {k : Nat} (h : Seek t k false) (hk : 1 ≤ k) (hc : t[k]? = some 34) : quotedN t = k + 1 := by
  rcases h with ⟨rfl, _⟩ | ⟨h1, h2⟩
  · omega
  · rw [List.drop_eq_getElem_cons (List.getElem?_eq_some_iff.1 hc).1, (List.getElem?_eq_some_iff.1 hc).2] at h2
    unfold quotedN
    rw [h2]
    simp [closeF]; omega
theorem seek_end {t : List UInt8} {e : Bool} (h : Seek t t.length e) (ht : t ≠ []) : quotedN t = t.length := by
  have hl := List.length_pos_iff.2 ht
  rcases h with ⟨h, _⟩ | ⟨h1, h2⟩
  · omega
  · rw [List.drop_length] at h2
    unfold quotedN
    rw [h2]
    cases e <;> rfl
set_option maxHeartbeats 2000000 in
/-- lex.quoted. -/
theorem quoted_any (s : ByteArray) (w : World) (hs : s.size ≤ 1048576) (h0 : 0 < s.size) (hq : s[0] = 34) : Calls Tryz.prog 35 #[.string s] w fun e w' => e = .returned (.int .i64 (quotedN s.data.toList)) ∧ w' = w := by
  have L := Lib.hid (size_toList s)
  have Q := Lib.hid hq
  have NE := Lib.hid (show s.data.toList ≠ [] from fun h => by have := size_toList s; rw [h] at this; simp at this; omega)
  clear hq
  go_enter Tryz.func35, Tryz.ntmps35
  go_wp2_with fail
  go_loop [3, 7] (fun v i => ∃ (k : Nat) (e : Bool), k ≤ s.size ∧ i = .int .i64 k ∧ v = .bool e ∧ Hid (Seek s.data.toList k e)) (fun _ i => s.size - (intOf i).toNat)
  case atStart => exact ⟨0, false, by omega, rfl, rfl, .inl ⟨rfl, rfl⟩⟩
  case round =>
    obtain ⟨k, e, hk, rfl, rfl, hS⟩ := hrel
    by_cases hlt : k < s.size
    · have hget := Lib.hid (byte_at hlt)
      by_cases hk0 : k = 0
      · have R : Hid (Seek s.data.toList (k + 1) false) := by rw [hk0]; exact seek_first _
        have e0 : e = false := by
          rcases hS.out with ⟨_, h⟩ | ⟨h, _⟩
          · exact h
          · omega
        subst e0
        have hb : s[k] = 34 := by have := Q.out; subst hk0; exact this
        have q34 : ((s[k].toNat : Int) == 34) = true := beq_byte hb
        have q92 : ((s[k].toNat : Int) == 92) = false := by rw [hb]; rfl
        have g0 : decide ((0 : Int) < (k : Int)) = false := decide_eq_false (by omega)
        have g3 : decide (0 < k) = false := decide_eq_false (by omega)
        clear hk0 hb
        go_wp2_with fail
        go_round
        case rel => exact ⟨k + 1, false, by omega, by go_num, rfl, R⟩
        case measure => simp [intOf]; omega
      · have hk1 : 1 ≤ k := by omega
        have g0 : decide ((0 : Int) < (k : Int)) = true := decide_eq_true (by omega)
        clear hk0
        cases e with
        | true =>
          have R := Lib.hid (seek_next hS.out hk1 hget.out (.inl rfl))
          rw [Bool.not_true, Bool.and_false] at R
          go_wp2_with fail
          go_round
          case rel => exact ⟨k + 1, false, by omega, by go_num, rfl, R⟩
          case measure => simp [intOf]; omega
        | false =>
          by_cases h34 : s[k] = 34
          · have q34 : ((s[k].toNat : Int) == 34) = true := beq_byte h34
            have q92 : ((s[k].toNat : Int) == 92) = false := by rw [h34]; rfl
            have E := Lib.hid (seek_hit hS.out hk1 (by rw [hget.out, h34]))
            clear h34
            go_wp2_with fail
            go_ret
            exact ⟨ret_int (by rw [E.out]; go_num), rfl⟩
          · have q34 : ((s[k].toNat : Int) == 34) = false := bne_byte h34
            by_cases h92 : s[k] = 92
            · have q92 : ((s[k].toNat : Int) == 92) = true := beq_byte h92
              have R := Lib.hid (seek_next hS.out hk1 hget.out (.inr h34))
              rw [h92] at R
              replace R : Hid (Seek s.data.toList (k + 1) true) := R
              go_wp2_with fail
              go_round
              case rel => exact ⟨k + 1, true, by omega, by go_num, rfl, R⟩
              case measure => simp [intOf]; omega
            · have q92 : ((s[k].toNat : Int) == 92) = false := bne_byte h92
              have R := Lib.hid (seek_next hS.out hk1 hget.out (.inr h34))
              rw [show (s[k] == 92) = false from beq_eq_false_iff_ne.2 h92, Bool.false_and] at R
              go_wp2_with fail
              go_round
              case rel => exact ⟨k + 1, false, by omega, by go_num, rfl, R⟩
              case measure => simp [intOf]; omega
    · obtain rfl : k = s.size := by omega
      have E : Hid (quotedN s.data.toList = s.size) := by
        have h := hS.out
        rw [← L.out] at h
        rw [Hid, seek_end h NE.out, L.out]
      go_wp2_with fail
      go_ret
      exact ⟨ret_int (by rw [E.out]), rfl⟩
/-- The table of signs stands in the world as it was laid. -/
def signT (k : Nat) : ByteArray := ⟨(signsL.getD k []).toArray⟩
def SignsAt (w : World) : Prop := 1 < w.heap.size ∧ ∀ k, k < 27 → w.cell? ⟨1, k, none⟩ = some (.string (signT k))
theorem SignsAt.below {w w' : World} {B : Nat} (h : SignsAt w) (hg : 1 < B) (hb : Below B w w') (hB : B ≤ w'.heap.size) : SignsAt w' :=
  ⟨by omega, fun k hk => (hb.cell (p := ⟨1, k, none⟩) hg).trans (h.2 k hk)⟩
theorem find_none_snoc {f : List UInt8 → Bool} {l : List (List UInt8)} {k : Nat} (h : (l.take k).find? f = none) (hk : k < l.length) (hf : f l[k] = false) : (l.take (k + 1)).find? f = none := by
  rw [List.take_add_one, List.getElem?_eq_getElem hk, List.find?_append, h]
  simp [hf]
theorem find_hit {f : List UInt8 → Bool} {l : List (List UInt8)} {k : Nat} (h : (l.take k).find? f = none) (hk : k < l.length) (hf : f l[k] = true) : l.find? f = some l[k] := by
  have e : (l.take k ++ l.drop k).find? f = some l[k] := by
    rw [List.find?_append, h, List.drop_eq_getElem_cons hk, List.find?_cons, hf]
    rfl
  rwa [List.take_append_drop] at e
theorem signs_length : signsL.length = 27 := rfl
theorem signT_list {k : Nat} (hk : k < 27) : (signT k).data.toList = signsL[k]'hk := by
  unfold signT
  show signsL.getD k [] = _
  rw [List.getD_eq_getElem?_getD, List.getElem?_eq_getElem (by exact hk)]; rfl
set_option maxHeartbeats 2000000 in
/-- lex.sign. -/
theorem sign_any (s : ByteArray) (w : World) (hS : SignsAt w) : Calls Tryz.prog 36 #[.string s] w fun e w' => e = .returned (.string ⟨(signL s.data.toList).toArray⟩) ∧ w' = w := by
  have S := Lib.hid hS
  clear hS
  go_enter Tryz.func36, Tryz.ntmps36
  go_wp2_with fail
  go_loop [4] (fun i => ∃ k : Nat, k ≤ 27 ∧ i = .int .i64 k ∧ Hid ((signsL.take k).find? (fun x => Lib.hasPrefix s.data.toList x) = none)) (fun i => 27 - (intOf i).toNat)
  case atStart => exact ⟨0, by omega, rfl, rfl⟩
  case round =>
    obtain ⟨k, hk, rfl, hN⟩ := hrel
    by_cases hlt : k < 27
    · have P := Tryz.strings_HasPrefix s (signT k)
      rw [signT_list hlt] at P
      have c0 := S.out.2 k hlt
      have k0 : (0 : Int) ≤ (k : Int) := by omega
      have k1 : (k : Int) < (27 : Int) := by omega
      cases hp : Lib.hasPrefix s.data.toList (signsL[k]'hlt) with
      | true =>
        rw [hp] at P
        have P := Lib.hid P
        have E : Hid ((⟨(signL s.data.toList).toArray⟩ : ByteArray) = signT k) := by
          unfold Hid signL
          rw [find_hit (k := k) hN.out hlt hp]
          have := signT_list hlt
          rw [← this]
        generalize signT k = t at c0 P E
        go_wp2_with (go_at_call 38; refine (P.out _).mono ?_; rintro e w1 ⟨rfl, rfl⟩)
        go_ret
        exact ⟨ret_str E.out.symm, rfl⟩
      | false =>
        rw [hp] at P
        have P := Lib.hid P
        have R := Lib.hid (find_none_snoc (f := fun x => Lib.hasPrefix s.data.toList x) (l := signsL) hN.out hlt hp)
        generalize signT k = t at c0 P
        go_wp2_with (go_at_call 38; refine (P.out _).mono ?_; rintro e w1 ⟨rfl, rfl⟩)
        go_round
        case rel => exact ⟨k + 1, by omega, by go_num, R⟩
        case measure => simp [intOf]; omega
    · obtain rfl : k = 27 := by omega
      have E : Hid ((⟨(signL s.data.toList).toArray⟩ : ByteArray) = ⟨#[]⟩) := by
        have h := hN.out
        rw [List.take_of_length_le (by rw [signs_length]; omega)] at h
        unfold Hid signL
        rw [h]
      go_wp2_with fail
      go_ret
      exact ⟨ret_str E.out.symm, rfl⟩
theorem quotedN_le (t : List UInt8) (h : t ≠ []) : quotedN t ≤ t.length := by
  have hc : ∀ (l : List UInt8) (e : Bool) (n : Nat), closeF e l = some n → n ≤ l.length := by
    intro l
    induction l with
    | nil => intro e n h; simp [closeF] at h
    | cons c r ih =>
      intro e n h
      unfold closeF at h
      rw [List.length_cons]
      split at h
      · obtain ⟨m, hm, rfl⟩ := Option.map_eq_some_iff.1 h
        have := ih _ _ hm; omega
      · split at h
        · obtain ⟨m, hm, rfl⟩ := Option.map_eq_some_iff.1 h
          have := ih _ _ hm; omega
        · split at h
          · cases h; omega
          · obtain ⟨m, hm, rfl⟩ := Option.map_eq_some_iff.1 h
            have := ih _ _ hm; omega
  unfold quotedN
  have hl := List.length_pos_iff.2 h
  split
  · rename_i n hn
    have := hc _ _ _ hn
    rw [List.length_drop] at this
    omega
  · exact Nat.le_refl _
/-- How many bytes that takes with which a text begins. -/
def cutN (t : List UInt8) : Nat := if kindL t = 0 then (blanksL t).length else (headL (kindL t) t).length
set_option maxHeartbeats 1000000 in
/-- lex.length. -/
theorem length_any (s : ByteArray) (w : World) (hs : s.size ≤ 1048576) (h0 : 0 < s.size) (hS : SignsAt w) : Calls Tryz.prog 21 #[.int .i64 (kindL s.data.toList), .string s] w fun e w' => e = .returned (.int .i64 (cutN s.data.toList)) ∧ w' = w := by
  obtain ⟨r, hr⟩ := head_at h0
  have hne : s.data.toList ≠ [] := by rw [hr]; simp
  have B := Lib.hid (fun w => blanks_any s w hs)
  have R := Lib.hid (fun w => run_name s w hs)
  have G := Lib.hid (sign_any s w hS)
  unfold cutN
  rcases kind_cases s[0] r with ⟨_, e⟩ | ⟨_, ⟨_, e⟩ | ⟨_, _, e⟩ | ⟨_, _, h3, e⟩ | ⟨_, _, h3, e⟩⟩
  · rw [← hr] at e
    rw [e, if_pos rfl]
    clear hr
    go_enter Tryz.func21, Tryz.ntmps21
    go_wp2_with (go_at_call 32; with_reducible refine (B.out _).mono ?_; rintro e w1 ⟨rfl, rfl⟩)
    go_ret
    exact ⟨rfl, rfl⟩
  · rw [← hr] at e
    rw [e, if_neg (by decide)]
    unfold headL
    rw [if_pos (by decide)]
    clear hr
    go_enter Tryz.func21, Tryz.ntmps21
    go_wp2_with (go_at_call 33; with_reducible refine (R.out _).mono ?_; rintro e w1 ⟨rfl, rfl⟩)
    go_ret
    exact ⟨rfl, rfl⟩
  · rw [← hr] at e
    rw [e, if_neg (by decide)]
    unfold headL
    rw [if_pos (by decide)]
    clear hr
    go_enter Tryz.func21, Tryz.ntmps21
    go_wp2_with (go_at_call 33; with_reducible refine (R.out _).mono ?_; rintro e w1 ⟨rfl, rfl⟩)
    go_ret
    exact ⟨rfl, rfl⟩
  · rw [← hr] at e
    have Q := Lib.hid (fun w => quoted_any s w hs h0 h3)
    clear h3
    rw [e, if_neg (by decide)]
    unfold headL
    rw [if_neg (by decide), if_pos rfl, List.length_take, Nat.min_eq_left (quotedN_le _ hne)]
    clear hne
    clear hr
    go_enter Tryz.func21, Tryz.ntmps21
    go_wp2_with (go_at_call 35; with_reducible refine (Q.out _).mono ?_; rintro e w1 ⟨rfl, rfl⟩)
    go_ret
    exact ⟨rfl, rfl⟩
  · rw [← hr] at e
    rw [e, if_neg (by decide)]
    unfold headL
    rw [if_neg (by decide), if_neg (by decide)]
    have hsz : (ByteArray.mk (signL s.data.toList).toArray).size = (signL s.data.toList).length := by rw [← size_toList]
    clear hr
    go_enter Tryz.func21, Tryz.ntmps21
    go_wp2_with (go_at_call 36; with_reducible refine G.out.mono ?_; rintro e w1 ⟨rfl, rfl⟩)
    go_ret
    exact ⟨rfl, rfl⟩
end Go.Proofs.YteoccfmhpakplaaGreatDoor
