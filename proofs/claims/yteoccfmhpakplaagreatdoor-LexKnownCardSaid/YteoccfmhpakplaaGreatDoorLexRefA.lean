/- The document's own words, the small contracts: reserved words, digits, letters, how far a name goes, where a string ends in its line. -/
import Derived.Test.YteoccfmhpakplaaGreatDoorLexHead
import Derived.Test.YteoccfmhpakplaaGreatDoorLexStore
namespace Go.Proofs.YteoccfmhpakplaaGreatDoor
set_option maxRecDepth 20000
open Go.RowKit

theorem Ldigit_any (c : UInt8) (w : World) : Calls Tryz.prog 52 #[.int .u8 c.toNat] w fun e w' => e = .returned (.bool (digitB c)) ∧ w' = w := by
  have hc := c.toNat_lt
  go_enter Tryz.func52, Tryz.ntmps52
  go_wp2_with fail
  all_goals go_ret
  all_goals refine ⟨ret_bool ?_, rfl⟩
  all_goals (rw [Bool.eq_iff_iff]; simp [digitB]; omega)
theorem Lletter_any (c : UInt8) (w : World) : Calls Tryz.prog 50 #[.int .u8 c.toNat] w fun e w' => e = .returned (.bool (letterB c)) ∧ w' = w := by
  have hc := c.toNat_lt
  go_enter Tryz.func50, Tryz.ntmps50
  go_wp2_with fail
  all_goals go_ret
  all_goals refine ⟨ret_bool ?_, rfl⟩
  all_goals (rw [Bool.eq_iff_iff]; simp [letterB]; omega)
/-- The document's reserved words lie in an array of the call's own. -/
def wordT (k : Nat) : ByteArray := ⟨(reservedL.getD k []).toArray⟩
theorem words_length : reservedL.length = 20 := rfl
theorem wordT_list {k : Nat} (hk : k < 20) : (wordT k).data.toList = reservedL[k]'hk := by
  show reservedL.getD k [] = _
  rw [List.getD_eq_getElem?_getD, List.getElem?_eq_getElem (by exact hk)]; rfl
theorem any_snoc {f : List UInt8 → Bool} {l : List (List UInt8)} {k : Nat} (h : (l.take k).any f = false) (hk : k < l.length) (hf : f l[k] = false) : (l.take (k + 1)).any f = false := by
  rw [List.take_add_one, List.getElem?_eq_getElem hk, List.any_append, h]
  simp [hf]
theorem words_any (s : List UInt8) : reservedB s = reservedL.any (· == s) := by
  unfold reservedB
  rw [Bool.eq_iff_iff]
  simp
theorem words_new (w : World) (E : TypeId) : ∀ k, k < 20 → (w.alloc (.cells #[.string ⟨#[97, 110, 100]⟩, .string ⟨#[98, 114, 101, 97, 107]⟩, .string ⟨#[99, 97, 116, 99, 104]⟩, .string ⟨#[100, 111]⟩, .string ⟨#[101, 108, 115, 101]⟩, .string ⟨#[101, 108, 115, 101, 105, 102]⟩, .string ⟨#[101, 110, 100]⟩, .string ⟨#[102, 97, 108, 115, 101]⟩, .string ⟨#[102, 111, 114]⟩, .string ⟨#[102, 117, 110, 99, 116, 105, 111, 110]⟩, .string ⟨#[105, 102]⟩, .string ⟨#[108, 111, 99, 97, 108]⟩, .string ⟨#[110, 105, 108]⟩, .string ⟨#[110, 111, 116]⟩, .string ⟨#[111, 114]⟩, .string ⟨#[114, 101, 116, 117, 114, 110]⟩, .string ⟨#[116, 104, 101, 110]⟩, .string ⟨#[116, 114, 117, 101]⟩, .string ⟨#[116, 114, 121]⟩, .string ⟨#[119, 104, 105, 108, 101]⟩] E)).cell? ⟨w.heap.size, k, none⟩ = some (.string (wordT k)) := by
  intro k hk
  have : (#[.string ⟨#[97, 110, 100]⟩, .string ⟨#[98, 114, 101, 97, 107]⟩, .string ⟨#[99, 97, 116, 99, 104]⟩, .string ⟨#[100, 111]⟩, .string ⟨#[101, 108, 115, 101]⟩, .string ⟨#[101, 108, 115, 101, 105, 102]⟩, .string ⟨#[101, 110, 100]⟩, .string ⟨#[102, 97, 108, 115, 101]⟩, .string ⟨#[102, 111, 114]⟩, .string ⟨#[102, 117, 110, 99, 116, 105, 111, 110]⟩, .string ⟨#[105, 102]⟩, .string ⟨#[108, 111, 99, 97, 108]⟩, .string ⟨#[110, 105, 108]⟩, .string ⟨#[110, 111, 116]⟩, .string ⟨#[111, 114]⟩, .string ⟨#[114, 101, 116, 117, 114, 110]⟩, .string ⟨#[116, 104, 101, 110]⟩, .string ⟨#[116, 114, 117, 101]⟩, .string ⟨#[116, 114, 121]⟩, .string ⟨#[119, 104, 105, 108, 101]⟩] : Array Value)[k]? = some (.string (wordT k)) := by
    have h := List.all_eq_true.1 (show ((List.range 20).all fun k => (match (#[.string ⟨#[97, 110, 100]⟩, .string ⟨#[98, 114, 101, 97, 107]⟩, .string ⟨#[99, 97, 116, 99, 104]⟩, .string ⟨#[100, 111]⟩, .string ⟨#[101, 108, 115, 101]⟩, .string ⟨#[101, 108, 115, 101, 105, 102]⟩, .string ⟨#[101, 110, 100]⟩, .string ⟨#[102, 97, 108, 115, 101]⟩, .string ⟨#[102, 111, 114]⟩, .string ⟨#[102, 117, 110, 99, 116, 105, 111, 110]⟩, .string ⟨#[105, 102]⟩, .string ⟨#[108, 111, 99, 97, 108]⟩, .string ⟨#[110, 105, 108]⟩, .string ⟨#[110, 111, 116]⟩, .string ⟨#[111, 114]⟩, .string ⟨#[114, 101, 116, 117, 114, 110]⟩, .string ⟨#[116, 104, 101, 110]⟩, .string ⟨#[116, 114, 117, 101]⟩, .string ⟨#[116, 114, 121]⟩, .string ⟨#[119, 104, 105, 108, 101]⟩] : Array Value)[k]? with | some (.string x) => x.data.toList == (wordT k).data.toList | _ => false)) = true by decide +kernel) k (List.mem_range.2 hk)
    revert h
    generalize (#[.string ⟨#[97, 110, 100]⟩, .string ⟨#[98, 114, 101, 97, 107]⟩, .string ⟨#[99, 97, 116, 99, 104]⟩, .string ⟨#[100, 111]⟩, .string ⟨#[101, 108, 115, 101]⟩, .string ⟨#[101, 108, 115, 101, 105, 102]⟩, .string ⟨#[101, 110, 100]⟩, .string ⟨#[102, 97, 108, 115, 101]⟩, .string ⟨#[102, 111, 114]⟩, .string ⟨#[102, 117, 110, 99, 116, 105, 111, 110]⟩, .string ⟨#[105, 102]⟩, .string ⟨#[108, 111, 99, 97, 108]⟩, .string ⟨#[110, 105, 108]⟩, .string ⟨#[110, 111, 116]⟩, .string ⟨#[111, 114]⟩, .string ⟨#[114, 101, 116, 117, 114, 110]⟩, .string ⟨#[116, 104, 101, 110]⟩, .string ⟨#[116, 114, 117, 101]⟩, .string ⟨#[116, 114, 121]⟩, .string ⟨#[119, 104, 105, 108, 101]⟩] : Array Value)[k]? = x
    intro h
    split at h
    · rename_i y
      have e : y = wordT k := ByteArray.ext (Array.toList_inj.1 (beq_iff_eq.1 h))
      rw [e]
    · cases h
  simp [go_sem, this]
theorem words_size : (Tryz.prog.info? 61).map (·.size) = some 20 := by kernel_rfl
set_option maxHeartbeats 2000000 in
/-- tallowref04.Reserved. -/
theorem LReserved_any (s : ByteArray) (w : World) : Calls Tryz.prog 15 #[.string s] w fun e w' => e = .returned (.bool (reservedB s.data.toList)) ∧ Below w.heap.size w w' := by
  have HW := Lib.hid (words_new w 61)
  have HB := Lib.hid ((Below.refl w.heap.size w).alloc (Nat.le_refl _) (.cells #[.string ⟨#[97, 110, 100]⟩, .string ⟨#[98, 114, 101, 97, 107]⟩, .string ⟨#[99, 97, 116, 99, 104]⟩, .string ⟨#[100, 111]⟩, .string ⟨#[101, 108, 115, 101]⟩, .string ⟨#[101, 108, 115, 101, 105, 102]⟩, .string ⟨#[101, 110, 100]⟩, .string ⟨#[102, 97, 108, 115, 101]⟩, .string ⟨#[102, 111, 114]⟩, .string ⟨#[102, 117, 110, 99, 116, 105, 111, 110]⟩, .string ⟨#[105, 102]⟩, .string ⟨#[108, 111, 99, 97, 108]⟩, .string ⟨#[110, 105, 108]⟩, .string ⟨#[110, 111, 116]⟩, .string ⟨#[111, 114]⟩, .string ⟨#[114, 101, 116, 117, 114, 110]⟩, .string ⟨#[116, 104, 101, 110]⟩, .string ⟨#[116, 114, 117, 101]⟩, .string ⟨#[116, 114, 121]⟩, .string ⟨#[119, 104, 105, 108, 101]⟩] 61))
  go_enter Tryz.func15, Tryz.ntmps15
  go_wp2_with (refine wpList_store_new rfl 61 _ _ rfl w _ _ rfl rfl rfl words_size rfl (by simp [Value.oneCell']) ?_)
  generalize (w.alloc (.cells #[.string ⟨#[97, 110, 100]⟩, .string ⟨#[98, 114, 101, 97, 107]⟩, .string ⟨#[99, 97, 116, 99, 104]⟩, .string ⟨#[100, 111]⟩, .string ⟨#[101, 108, 115, 101]⟩, .string ⟨#[101, 108, 115, 101, 105, 102]⟩, .string ⟨#[101, 110, 100]⟩, .string ⟨#[102, 97, 108, 115, 101]⟩, .string ⟨#[102, 111, 114]⟩, .string ⟨#[102, 117, 110, 99, 116, 105, 111, 110]⟩, .string ⟨#[105, 102]⟩, .string ⟨#[108, 111, 99, 97, 108]⟩, .string ⟨#[110, 105, 108]⟩, .string ⟨#[110, 111, 116]⟩, .string ⟨#[111, 114]⟩, .string ⟨#[114, 101, 116, 117, 114, 110]⟩, .string ⟨#[116, 104, 101, 110]⟩, .string ⟨#[116, 114, 117, 101]⟩, .string ⟨#[116, 114, 121]⟩, .string ⟨#[119, 104, 105, 108, 101]⟩] 61)) = wr at HW HB ⊢
  go_loop [4] (fun i => ∃ k : Nat, k ≤ 20 ∧ i = .int .i64 k ∧ Hid ((reservedL.take k).any (· == s.data.toList) = false)) (fun i => 20 - (intOf i).toNat)
  case atStart => exact ⟨0, by omega, rfl, rfl⟩
  case round =>
    obtain ⟨k, hk, rfl, hN⟩ := hrel
    by_cases hlt : k < 20
    · have c0 := HW.out k hlt
      have k0 : (0 : Int) ≤ (k : Int) := by omega
      have k1 : (k : Int) < (20 : Int) := by omega
      cases hp : (reservedL[k]'hlt == s.data.toList) with
      | true =>
        have q : ((wordT k).toList == s.toList) = true := by rw [Lib.toList_data, Lib.toList_data, wordT_list hlt]; exact hp
        have R : Hid (reservedB s.data.toList = true) := by
          rw [Hid, words_any, List.any_eq_true]; exact ⟨reservedL[k]'hlt, List.getElem_mem _, hp⟩
        generalize wordT k = t at c0 q
        go_wp2_with fail
        go_ret
        exact ⟨ret_bool R.out.symm, HB.out⟩
      | false =>
        have q : ((wordT k).toList == s.toList) = false := by rw [Lib.toList_data, Lib.toList_data, wordT_list hlt]; exact hp
        have R := Lib.hid (any_snoc (f := (· == s.data.toList)) hN.out hlt hp)
        generalize wordT k = t at c0 q
        go_wp2_with fail
        go_round
        case rel => exact ⟨k + 1, by omega, by go_num, R⟩
        case measure => simp [intOf]; omega
    · obtain rfl : k = 20 := by omega
      have R : Hid (reservedB s.data.toList = false) := by
        have h := hN.out
        rw [List.take_of_length_le (by rw [words_length]; omega)] at h
        rw [Hid, words_any]; exact h
      go_wp2_with fail
      go_ret
      exact ⟨ret_bool R.out.symm, HB.out⟩
theorem drop_at {s : ByteArray} {a k : Nat} (h : a + k < s.size) : (s.data.toList.drop a)[k]? = some s[a + k] := by
  rw [List.getElem?_drop]; exact byte_at h
set_option maxHeartbeats 2000000 in
/-- tallowref04.run. -/
theorem Lrun_any (s : ByteArray) (a : Nat) (w : World) (hs : s.size ≤ 1048576) (ha : a ≤ s.size) : Calls Tryz.prog 51 #[.string s, .int .i64 a] w fun e w' => e = .returned (.int .i64 ((s.data.toList.drop a).takeWhile nameB).length) ∧ w' = w := by
  have hl : (s.data.toList.drop a).length = s.size - a := by rw [List.length_drop, size_toList]
  have HL := Lib.hid hl
  clear hl
  go_enter Tryz.func51, Tryz.ntmps51
  go_wp2_with fail
  go_loop [5] (fun i => ∃ k : Nat, a + k ≤ s.size ∧ i = .int .i64 k ∧ Hid (((s.data.toList.drop a).take k).all nameB = true)) (fun i => s.size - (intOf i).toNat)
  case atStart => exact ⟨0, by omega, rfl, by simp [Hid]⟩
  case round =>
    obtain ⟨k, hk, rfl, hall⟩ := hrel
    by_cases hlt : a + k < s.size
    · have hget := Lib.hid (drop_at hlt)
      have q : decide ((a : Int) + (k : Int) < (s.size : Int)) = true := decide_eq_true (by omega)
      have L := Lletter_any s[a + k]
      have D := Ldigit_any s[a + k]
      cases hL : letterB s[a + k] with
      | true =>
        rw [hL] at L
        have L := Lib.hid L
        have R := Lib.hid (all_snoc hall.out hget.out (by unfold nameB; rw [hL]; rfl))
        clear D
        go_wp2_with (go_at_call 50; refine (L.out _).mono ?_; rintro e w1 ⟨rfl, rfl⟩)
        go_round
        case rel => exact ⟨k + 1, by omega, by go_num, R⟩
        case measure => simp [intOf]; omega
      | false =>
        rw [hL] at L
        have L := Lib.hid L
        cases hD : digitB s[a + k] with
        | true =>
          rw [hD] at D
          have D := Lib.hid D
          have R := Lib.hid (all_snoc hall.out hget.out (by unfold nameB; rw [hL, hD]; rfl))
          go_wp2_with (first
            | (go_at_call 50; refine (L.out _).mono ?_; rintro e w1 ⟨rfl, rfl⟩)
            | (go_at_call 52; refine (D.out _).mono ?_; rintro e w1 ⟨rfl, rfl⟩))
          go_round
          case rel => exact ⟨k + 1, by omega, by go_num, R⟩
          case measure => simp [intOf]; omega
        | false =>
          rw [hD] at D
          have D := Lib.hid D
          have E := Lib.hid (takeWhile_upto (p := nameB) (by rw [HL.out]; omega) hall.out (.inr ⟨_, hget.out, by unfold nameB; rw [hL, hD]; rfl⟩))
          go_wp2_with (first
            | (go_at_call 50; refine (L.out _).mono ?_; rintro e w1 ⟨rfl, rfl⟩)
            | (go_at_call 52; refine (D.out _).mono ?_; rintro e w1 ⟨rfl, rfl⟩))
          go_ret
          exact ⟨ret_int (by rw [E.out]), rfl⟩
    · have E := Lib.hid (takeWhile_upto (p := nameB) (l := s.data.toList.drop a) (k := k) (by rw [HL.out]; omega) hall.out (.inl (by rw [HL.out]; omega)))
      have q : decide ((a : Int) + (k : Int) < (s.size : Int)) = false := decide_eq_false (by omega)
      go_wp2_with fail
      go_ret
      exact ⟨ret_int (by rw [E.out]), rfl⟩
/-- Where a string's end is looked for in its line. -/
def quotedR (t : List UInt8) : Nat := match closeR false (t.drop 1) with | some n => n + 1 | none => 0
def SeekR (t : List UInt8) (k : Nat) : Prop := 1 ≤ k ∧ closeR false (t.drop 1) = (closeR false (t.drop k)).map (· + (k - 1))
theorem drop_cons {t : List UInt8} {k : Nat} {c : UInt8} (hc : t[k]? = some c) : t.drop k = c :: t.drop (k + 1) := by
  rw [List.drop_eq_getElem_cons (List.getElem?_eq_some_iff.1 hc).1, (List.getElem?_eq_some_iff.1 hc).2]
theorem map_map_add (x : Option Nat) (k j m : Nat) (h : j + k = m) : (x.map (· + j)).map (· + k) = x.map (· + m) := by
  cases x with
  | none => rfl
  | some n => simp; omega
theorem seekR_plain {t : List UInt8} {k : Nat} {c : UInt8} (h : SeekR t k) (hc : t[k]? = some c) (h10 : c ≠ 10) (h34 : c ≠ 34) (h92 : c ≠ 92) : SeekR t (k + 1) := by
  have h1 := h.1
  refine ⟨by omega, ?_⟩
  rw [h.2, drop_cons hc, closeR, if_neg h10, if_neg (by simp), if_neg h92, if_neg h34, map_map_add _ _ _ (k + 1 - 1) (by omega)]
theorem seekR_esc {t : List UInt8} {k : Nat} {d : UInt8} (h : SeekR t k) (hc : t[k]? = some 92) (hd : t[k + 1]? = some d) (h10 : d ≠ 10) : SeekR t (k + 2) := by
  have h1 := h.1
  refine ⟨by omega, ?_⟩
  rw [h.2, drop_cons hc, closeR, if_neg (by decide), if_neg (by simp), if_pos rfl, drop_cons hd, closeR, if_neg h10, if_pos rfl, map_map_add _ 1 1 2 rfl, map_map_add _ (k - 1) 2 (k + 2 - 1) (by omega)]
theorem seekR_feed {t : List UInt8} {k : Nat} (h : SeekR t k) (hc : t[k]? = some 10) : quotedR t = 0 := by
  unfold quotedR; rw [h.2, drop_cons hc, closeR, if_pos rfl]; rfl
theorem seekR_escfeed {t : List UInt8} {k : Nat} (h : SeekR t k) (hc : t[k]? = some 92) (hd : t[k + 1]? = some 10) : quotedR t = 0 := by
  unfold quotedR; rw [h.2, drop_cons hc, closeR, if_neg (by decide), if_neg (by simp), if_pos rfl, drop_cons hd, closeR, if_pos rfl]; rfl
theorem seekR_hit {t : List UInt8} {k : Nat} (h : SeekR t k) (hc : t[k]? = some 34) : quotedR t = k + 1 := by
  have h1 := h.1
  unfold quotedR; rw [h.2, drop_cons hc, closeR, if_neg (by decide), if_neg (by simp), if_neg (by decide), if_pos rfl]
  simp; omega
theorem seekR_end {t : List UInt8} {k : Nat} (h : SeekR t k) (hk : t.length ≤ k) : quotedR t = 0 := by
  unfold quotedR; rw [h.2, List.drop_eq_nil_of_le hk]; rfl
theorem seekR_escend {t : List UInt8} {k : Nat} (h : SeekR t k) (hc : t[k]? = some 92) (hk : t.length ≤ k + 1) : quotedR t = 0 := by
  unfold quotedR; rw [h.2, drop_cons hc, closeR, if_neg (by decide), if_neg (by simp), if_pos rfl, List.drop_eq_nil_of_le hk]; rfl
set_option maxHeartbeats 4000000 in
/-- tallowref04.quoted. -/
theorem Lquoted_any (s : ByteArray) (a : Nat) (w : World) (hs : s.size ≤ 1048576) (ha : a < s.size) : Calls Tryz.prog 75 #[.string s, .int .i64 a] w fun e w' => e = .returned (.int .i64 (quotedR (s.data.toList.drop a))) ∧ w' = w := by
  have hl : (s.data.toList.drop a).length = s.size - a := by rw [List.length_drop, size_toList]
  have HL := Lib.hid hl
  clear hl
  go_enter Tryz.func75, Tryz.ntmps75
  go_wp2_with fail
  go_loop [5] (fun i => ∃ j k : Nat, j = a + k ∧ i = .int .i64 j ∧ j ≤ s.size + 1 ∧ Hid (SeekR (s.data.toList.drop a) k)) (fun i => s.size + 1 - (intOf i).toNat)
  case atStart => exact ⟨a + 1, 1, rfl, by go_num, by omega, Nat.le_refl _, by simp⟩
  case round =>
    obtain ⟨j, k, hj, rfl, hle, hS⟩ := hrel
    by_cases hlt : j < s.size
    · have hget : (s.data.toList.drop a)[k]? = some s[j] := by subst hj; exact drop_at hlt
      have HG := Lib.hid hget
      have HJ := Lib.hid hj
      clear hget hj
      by_cases h10 : s[j] = 10
      · have q10 : ((s[j].toNat : Int) == 10) = true := beq_byte h10
        have E := Lib.hid (seekR_feed hS.out (by rw [HG.out, h10]))
        clear h10
        go_wp2_with fail
        go_ret
        exact ⟨ret_int (by rw [E.out]; rfl), rfl⟩
      · have q10 : ((s[j].toNat : Int) == 10) = false := bne_byte h10
        by_cases h34 : s[j] = 34
        · have q34 : ((s[j].toNat : Int) == 34) = true := beq_byte h34
          have E := Lib.hid (seekR_hit hS.out (by rw [HG.out, h34]))
          clear h34 h10
          go_wp2_with fail
          go_ret
          exact ⟨ret_int (by rw [E.out]; have := HJ.out; go_num), rfl⟩
        · have q34 : ((s[j].toNat : Int) == 34) = false := bne_byte h34
          by_cases h92 : s[j] = 92
          · have q92 : ((s[j].toNat : Int) == 92) = true := beq_byte h92
            by_cases hr : j + 1 < s.size
            · have qr : decide ((j : Int) + 1 < (s.size : Int)) = true := decide_eq_true (by omega)
              have hget2 : (s.data.toList.drop a)[k + 1]? = some s[j + 1] := by
                have hj := HJ.out
                subst hj
                exact drop_at (a := a) (k := k + 1) hr
              by_cases g10 : s[j + 1] = 10
              · have p10 : ((s[j + 1].toNat : Int) == 10) = true := beq_byte g10
                have E := Lib.hid (seekR_escfeed hS.out (by rw [HG.out, h92]) (by rw [hget2, g10]))
                clear h92 g10 h34 h10 hget2
                go_wp2_with fail
                go_ret
                exact ⟨ret_int (by rw [E.out]; rfl), rfl⟩
              · have p10 : ((s[j + 1].toNat : Int) == 10) = false := bne_byte g10
                have R := Lib.hid (seekR_esc hS.out (by rw [HG.out, h92]) hget2 g10)
                clear h92 hget2
                go_wp2_with fail
                go_round
                case rel => exact ⟨j + 2, k + 2, by have := HJ.out; omega, by go_num, by omega, R⟩
                case measure => simp [intOf]; omega
            · have qr : decide ((j : Int) + 1 < (s.size : Int)) = false := decide_eq_false (by omega)
              have E := Lib.hid (seekR_escend hS.out (by rw [HG.out, h92]) (by rw [HL.out]; have hj := HJ.out; unfold Hid at hj; omega))
              have R : Hid (SeekR (s.data.toList.drop a) (k + 2)) := by
                have e := E.out
                unfold quotedR at e
                refine ⟨by omega, ?_⟩
                rw [List.drop_eq_nil_of_le (i := k + 2) (by rw [HL.out]; have hj := HJ.out; omega)]
                revert e
                cases closeR false ((s.data.toList.drop a).drop 1) with
                | none => intro _; rfl
                | some n => intro e; simp at e
              clear h92
              go_wp2_with fail
              go_round
              case rel => exact ⟨j + 2, k + 2, by have := HJ.out; omega, by go_num, by omega, R⟩
              case measure => simp [intOf]; omega
          · have q92 : ((s[j].toNat : Int) == 92) = false := bne_byte h92
            have R := Lib.hid (seekR_plain hS.out HG.out h10 h34 h92)
            go_wp2_with fail
            go_round
            case rel => exact ⟨j + 1, k + 1, by have := HJ.out; omega, by go_num, by omega, R⟩
            case measure => simp [intOf]; omega
    · have E := Lib.hid (seekR_end hS.out (by rw [HL.out]; omega))
      clear hj
      have qj : decide ((j : Int) < (s.size : Int)) = false := decide_eq_false (by omega)
      go_wp2_with fail
      go_ret
      exact ⟨ret_int (by rw [E.out]; rfl), rfl⟩
end Go.Proofs.YteoccfmhpakplaaGreatDoor
