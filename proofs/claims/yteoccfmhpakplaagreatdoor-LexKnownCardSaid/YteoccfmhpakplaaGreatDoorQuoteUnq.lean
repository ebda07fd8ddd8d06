/- The contracts of quote.first and Unquote: what a text is read as, or refused. -/
import Derived.Test.YteoccfmhpakplaaGreatDoorBase
import Derived.Test.YteoccfmhpakplaaGreatDoorQuoteRead
namespace Go.Proofs.YteoccfmhpakplaaGreatDoor
set_option maxRecDepth 20000
open Go.RowKit Go.Maps

theorem suffix_one (m : List UInt8) (x : UInt8) : Lib.hasSuffix (m ++ [x]) [34] = decide (x = 34) := by
  rw [← Lib.hasSuffix_of_drop]
  simp
  by_cases h : x = 34 <;> simp [h]
/-- What lies between the quotes, in the library's words. -/
theorem midL_cut (q : List UInt8) : midL q = if Lib.hasPrefix q [34] && Lib.hasSuffix (Lib.trimPrefix q [34]) [34] then some (Lib.trimSuffix (Lib.trimPrefix q [34]) [34]) else none := by
  match q with
  | [] => rfl
  | c :: r =>
    by_cases hc : c = 34
    · subst hc
      have e1 : Lib.hasPrefix (34 :: r) [34] = true := by simp [Lib.hasPrefix]
      have e2 : Lib.trimPrefix (34 :: r) [34] = r := by unfold Lib.trimPrefix; rw [e1]; simp
      rw [e1, e2, Bool.true_and]
      rcases List.eq_nil_or_concat r with rfl | ⟨m, x, rfl⟩
      · rfl
      · rw [List.concat_eq_append]
        by_cases hx : x = 34
        · subst hx
          have e3 : Lib.hasSuffix (m ++ [34]) [34] = true := by rw [suffix_one]; simp
          rw [e3, if_pos rfl]
          unfold midL Lib.trimSuffix
          rw [e3, if_pos rfl, if_pos ⟨by simp, rfl, by simp [List.getLast?_cons]⟩]
          simp
        · have e3 : Lib.hasSuffix (m ++ [x]) [34] = false := by rw [suffix_one]; simp [hx]
          rw [e3, if_neg (by simp)]
          unfold midL
          rw [if_neg]
          rintro ⟨_, _, h⟩
          simp [List.getLast?_cons] at h
          exact hx h
    · have e1 : Lib.hasPrefix (c :: r) [34] = false := by
        have : ((34 : UInt8) == c) = false := beq_eq_false_iff_ne.2 fun e => hc e.symm
        show ((34 == c) && List.isPrefixOf [] r) = false
        rw [this]; rfl
      rw [e1, Bool.false_and, if_neg (by simp)]
      unfold midL
      rw [if_neg]
      rintro ⟨_, h, _⟩
      simp at h
      exact hc h
theorem first_back (t : ByteArray) (m : Nat) (w : World) (h0 : 0 < t.size) (hb : ((t[0].toNat : Int) == 92) = true) (v0 v1 : Value)
    (E : ∀ w, DictAt w m byteO → Calls Tryz.prog 87 #[.string (t.extract 1 t.size), .map (some m)] w fun e w' => e = .returned (.tuple #[v0, v1]) ∧ ∃ n, w' = w.drewN n) (hd : DictAt w m byteO) :
    Calls Tryz.prog 70 #[.string t, .map (some m)] w fun e w' => e = .returned (.tuple #[v0, v1]) ∧ ∃ n, w' = w.drewN n := by
  have E2 := Lib.hid E
  clear E
  go_enter Tryz.func70, Tryz.ntmps70
  go_wp2_with (go_at_call 87; refine (E2.out _ hd).mono ?_; rintro e w1 ⟨rfl, n, rfl⟩)
  go_ret2
  exact ⟨rfl, _, rfl⟩
theorem first_self (t : ByteArray) (m : Nat) (w : World) (h0 : 0 < t.size) (hb : ((t[0].toNat : Int) == 92) = false) (hs : selfB t[0] = true) :
    Calls Tryz.prog 70 #[.string t, .map (some m)] w fun e w' => e = .returned (.tuple #[.int .u8 t[0].toNat, .int .i64 1]) ∧ w' = w := by
  go_enter Tryz.func70, Tryz.ntmps70
  go_wp2_with (go_at_call 59; refine (stands_any t[0] _).mono ?_; rintro e w1 ⟨rfl, rfl⟩)
  go_ret2
  exact ⟨rfl, rfl⟩
theorem first_none (t : ByteArray) (m : Nat) (w : World) (h0 : 0 < t.size) (hb : ((t[0].toNat : Int) == 92) = false) (hs : selfB t[0] = false) :
    Calls Tryz.prog 70 #[.string t, .map (some m)] w fun e w' => e = .returned (.tuple #[.int .u8 0, .int .i64 0]) ∧ w' = w := by
  go_enter Tryz.func70, Tryz.ntmps70
  go_wp2_with (go_at_call 59; refine (stands_any t[0] _).mono ?_; rintro e w1 ⟨rfl, rfl⟩)
  go_ret2
  exact ⟨rfl, rfl⟩
theorem head_at {t : ByteArray} (h0 : 0 < t.size) : ∃ r, t.data.toList = t[0] :: r := by
  have h1 := byte_at h0
  cases h : t.data.toList with
  | nil => rw [h] at h1; simp at h1
  | cons c r => rw [h] at h1; simp at h1; exact ⟨r, by rw [h1]⟩
/-- quote.first. -/
theorem first_any (t : ByteArray) (m : Nat) (w : World) (h0 : 0 < t.size) (hd : DictAt w m byteO) :
    Calls Tryz.prog 70 #[.string t, .map (some m)] w fun e w' => e = .returned (pairV (oneL t.data.toList)) ∧ ∃ n, w' = w.drewN n := by
  obtain ⟨r, hr⟩ := head_at h0
  have hl := size_toList t
  rw [hr] at hl ⊢
  simp only [oneL]
  by_cases hc : t[0] = 92
  · rw [if_pos hc]
    have hx : (t.extract 1 t.size).data.toList = r := by
      rw [Lib.extract_data, hr]
      simp only [List.length_cons] at hl
      rw [List.drop_succ_cons, List.drop_zero, List.take_of_length_le (by omega)]
    have E := fun w hd => escaped_any (t.extract 1 t.size) m w hd
    rw [hx] at E
    have hb : ((t[0].toNat : Int) == 92) = true := by rw [hc]; rfl
    cases ha : afterL r with
    | none => rw [ha] at E; exact first_back t m w h0 hb _ _ E hd
    | some x => rw [ha] at E; exact first_back t m w h0 hb _ _ E hd
  · rw [if_neg hc]
    have hb : ((t[0].toNat : Int) == 92) = false := by
      rw [beq_eq_false_iff_ne]; intro h
      exact hc (UInt8.toNat_inj.1 (show t[0].toNat = 92 by omega))
    cases hs : selfB t[0] with
    | true => exact (first_self t m w h0 hb hs).mono fun e w' h => ⟨h.1, 0, h.2⟩
    | false => exact (first_none t m w h0 hb hs).mono fun e w' h => ⟨h.1, 0, h.2⟩
/-- How the reading under way stands: acc was read, rest is to come. -/
structure Rd (w w1 : World) (m b : Nat) (mid : List UInt8) (rest : ByteArray) (acc : List UInt8) (w' : World) : Prop where
  text : Lib.IsBuilder 66 5 b b (Lib.byteCells acc) w'
  below : Below b w1 w'
  dict : DictAt w' m byteO
  at_ : b = w1.heap.size
  m_ : m < b
  low : Below w.heap.size w w1
  goes : readL mid = (readL rest.data.toList).map (acc ++ ·)
  room : acc.length + rest.size ≤ 1048576
section
variable {w w1 w2 : World} {m b : Nat} {mid acc : List UInt8} {rest : ByteArray}
theorem Rd.size (h : Rd w w1 m b mid rest acc w2) : b ≤ w2.heap.size := by
  have := h.below.size; have := h.at_; omega
theorem Rd.all (h : Rd w w1 m b mid rest acc w2) : Below w.heap.size w w2 := h.low.trans (h.below.mono (by have := h.at_; have := h.low.size; omega))
theorem Rd.drew (h : Rd w w1 m b mid rest acc w2) (n : Nat) : Rd w w1 m b mid rest acc (w2.drewN n) :=
  ⟨h.text, below_drewN h.below n, h.dict, h.at_, h.m_, h.low, h.goes, h.room⟩
theorem Rd.first (h : Rd w w1 m b mid rest acc w2) (h0 : 0 < rest.size) :
    Calls Tryz.prog 70 #[.string rest, .map (some m)] w2 fun e w' => e = .returned (pairV (oneL rest.data.toList)) ∧ Rd w w1 m b mid rest acc w' :=
  (first_any rest m w2 h0 h.dict).mono fun e w' r => ⟨r.1, by obtain ⟨n, rfl⟩ := r.2; exact h.drew n⟩
theorem Rd.write {c : UInt8} {n : Nat} (h : Rd w w1 m b mid rest acc w2) (ho : oneL rest.data.toList = some (c, n)) :
    Calls Tryz.prog 60 #[.pointer (some ⟨b, 0, none⟩), .int .u8 c.toNat] w2 fun e w' => e = .returned .nilIface ∧ Rd w w1 m b mid (rest.extract n rest.size) (acc ++ [c]) w' := by
  have hp := oneL_pos ho
  have hr := h.room
  rw [size_toList] at hp
  have hx : (rest.extract n rest.size).data.toList = rest.data.toList.drop n := by
    rw [Lib.extract_data, List.take_of_length_le (by rw [List.length_drop, size_toList]; omega)]
  refine (Tryz.Builder_WriteByte b b _ c.toNat w2 h.text (by rw [Lib.byteCells_length]; omega) h.size).mono fun e w' r => ⟨r.1, ?_, h.below.trans r.2.2, h.dict.below r.2.2 h.m_, h.at_, h.m_, h.low, ?_, ?_⟩
  · have := r.2.1
    rw [Lib.byteCells_append]
    exact .inr this
  · rw [hx, h.goes, readL_some ho]
    cases readL (rest.data.toList.drop n) with
    | none => rfl
    | some s => simp
  · rw [List.length_append, ← size_toList, hx, List.length_drop, size_toList]
    simp only [List.length_cons, List.length_nil]
    omega
theorem Rd.none_ (h : Rd w w1 m b mid rest acc w2) (h0 : 0 < rest.size) (ho : oneL rest.data.toList = none) : readL mid = none := by
  rw [h.goes, readL_none (fun e => by have := size_toList rest; rw [e] at this; simp at this; omega) ho]; rfl
theorem Rd.some_ (h : Rd w w1 m b mid rest acc w2) (h0 : rest.size = 0) : readL mid = some acc := by
  have e : rest.data.toList = [] := List.length_eq_zero_iff.1 (by rw [size_toList]; exact h0)
  rw [h.goes, e, readL_nil]; simp
theorem Rd.len (h : Rd w w1 m b mid rest acc w2) : Calls Tryz.prog 71 #[.pointer (some ⟨b, 0, none⟩)] w2 fun e w' => e = .returned (.int .i64 acc.length) ∧ w' = w2 := by
  have := Tryz.Builder_Len b b _ w2 h.text
  rwa [Lib.byteCells_length] at this
theorem Rd.string (h : Rd w w1 m b mid rest acc w2) : Calls Tryz.prog 31 #[.pointer (some ⟨b, 0, none⟩)] w2 fun e w' => e = .returned (.string ⟨acc.toArray⟩) ∧ Below w.heap.size w w' :=
  (Tryz.Builder_String_any b b acc w2 h.text h.size).mono fun e w' r => ⟨r.1, h.all.trans (r.2.mono (by have := h.at_; have := h.low.size; omega))⟩
end
/-- The reading's start. -/
theorem Rd.start {w w1 : World} {r2 : ByteArray} (hd : DictAt w1 w.heap.size byteO) (hb : Below w.heap.size w w1) (hs : r2.size ≤ 1048576) :
    Rd w w1 w.heap.size w1.heap.size r2.data.toList r2 [] (w1.alloc (.cells #[.pointer none, .slice none 0 0] 66)) :=
  ⟨fresh_builder w1, (Below.refl _ _).alloc (Nat.le_refl _) _, hd.alloc _, rfl, hd.lt, hb, by simp, by simpa using hs⟩
def strOf : Value → ByteArray | .string s => s | _ => ⟨#[]⟩
theorem isEmpty_of {t : ByteArray} (h : t.size = 0) : t.toList.isEmpty = true := by
  have e : t.data.toList = [] := List.length_eq_zero_iff.1 (by rw [size_toList]; exact h)
  rw [Lib.toList_data, e]; rfl
theorem not_isEmpty {t : ByteArray} (h : 0 < t.size) : t.toList.isEmpty = false := by
  obtain ⟨r, hr⟩ := head_at h
  rw [Lib.toList_data, hr]; rfl
theorem cut1 (q r1 : ByteArray) (b1 : Bool) (w : World) (e1 : Lib.trimPrefix q.data.toList [34] = r1.data.toList) (e2 : Lib.hasPrefix q.data.toList [34] = b1) :
    Calls Tryz.prog 67 #[.string q, .string ⟨#[34]⟩] w fun e w' => e = .returned (.tuple #[.string r1, .bool b1]) ∧ w' = w := by
  have h := Tryz.strings_CutPrefix q ⟨#[34]⟩ w
  rw [show (⟨#[34]⟩ : ByteArray).data.toList = [34] from rfl, e1, e2] at h
  exact h
theorem cut2 (q r1 : ByteArray) (b1 : Bool) (w : World) (hs : q.size ≤ 9223372036854775807) (e1 : Lib.trimSuffix q.data.toList [34] = r1.data.toList) (e2 : Lib.hasSuffix q.data.toList [34] = b1) :
    Calls Tryz.prog 68 #[.string q, .string ⟨#[34]⟩] w fun e w' => e = .returned (.tuple #[.string r1, .bool b1]) ∧ w' = w := by
  have h := Tryz.strings_CutSuffix q ⟨#[34]⟩ w hs
  rw [show (⟨#[34]⟩ : ByteArray).data.toList = [34] from rfl, e1, e2] at h
  exact h
theorem unq_open (q r1 r2 : ByteArray) (b2 : Bool) (w : World)
    (C1 : ∀ w, Calls Tryz.prog 67 #[.string q, .string ⟨#[34]⟩] w fun e w' => e = .returned (.tuple #[.string r1, .bool false]) ∧ w' = w)
    (C2 : ∀ w, Calls Tryz.prog 68 #[.string r1, .string ⟨#[34]⟩] w fun e w' => e = .returned (.tuple #[.string r2, .bool b2]) ∧ w' = w) :
    Calls Tryz.prog 45 #[.string q] w fun e w' => e = .returned (.tuple #[.string ⟨#[]⟩, .int .i64 4]) ∧ w' = w := by
  have C1 := Lib.hid C1
  have C2 := Lib.hid C2
  go_enter Tryz.func45, Tryz.ntmps45
  go_wp2
  go_step3
  go_wp2_with (first
    | (go_at_call 67; refine (C1.out _).mono ?_; rintro e w1 ⟨rfl, rfl⟩)
    | (go_at_call 68; refine (C2.out _).mono ?_; rintro e w1 ⟨rfl, rfl⟩))
  rw [Exit.noGoto_ret]
  go_ret2
  exact ⟨rfl, rfl⟩
theorem unq_close (q r1 r2 : ByteArray) (w : World)
    (C1 : ∀ w, Calls Tryz.prog 67 #[.string q, .string ⟨#[34]⟩] w fun e w' => e = .returned (.tuple #[.string r1, .bool true]) ∧ w' = w)
    (C2 : ∀ w, Calls Tryz.prog 68 #[.string r1, .string ⟨#[34]⟩] w fun e w' => e = .returned (.tuple #[.string r2, .bool false]) ∧ w' = w) :
    Calls Tryz.prog 45 #[.string q] w fun e w' => e = .returned (.tuple #[.string ⟨#[]⟩, .int .i64 4]) ∧ w' = w := by
  have C1 := Lib.hid C1
  have C2 := Lib.hid C2
  go_enter Tryz.func45, Tryz.ntmps45
  go_wp2
  go_step3
  go_wp2_with (first
    | (go_at_call 67; refine (C1.out _).mono ?_; rintro e w1 ⟨rfl, rfl⟩)
    | (go_at_call 68; refine (C2.out _).mono ?_; rintro e w1 ⟨rfl, rfl⟩))
  rw [Exit.noGoto_ret]
  go_ret2
  exact ⟨rfl, rfl⟩
theorem after_cut {t : ByteArray} {n : Nat} (h1 : 1 ≤ n) (h2 : n ≤ t.size) : (t.extract n t.size).size < t.size := by
  rw [← size_toList, Lib.extract_data, List.length_take, List.length_drop, size_toList]; omega
theorem ret_two {a b : List UInt8} {x y : Int} (h : (a, x) = (b, y)) : Ending.returned (.tuple #[.string ⟨a.toArray⟩, .int .i64 x]) = .returned (.tuple #[.string ⟨b.toArray⟩, .int .i64 y]) := by
  injection h with h1 h2; rw [h1, h2]
set_option maxHeartbeats 4000000 in
theorem unq_goes (q r1 r2 : ByteArray) (w : World) (h2 : r2.size ≤ 1048576) (S : List UInt8) (E : Int)
    (NO : Hid (readL r2.data.toList = none → ([], 4) = (S, E))) (FAR : Hid (∀ s, readL r2.data.toList = some s → 4096 < s.length → ([], 3) = (S, E))) (YES : Hid (∀ s, readL r2.data.toList = some s → s.length ≤ 4096 → (s, 0) = (S, E)))
    (C1 : Hid (∀ w, Calls Tryz.prog 67 #[.string q, .string ⟨#[34]⟩] w fun e w' => e = .returned (.tuple #[.string r1, .bool true]) ∧ w' = w))
    (C2 : Hid (∀ w, Calls Tryz.prog 68 #[.string r1, .string ⟨#[34]⟩] w fun e w' => e = .returned (.tuple #[.string r2, .bool true]) ∧ w' = w)) :
    Calls Tryz.prog 45 #[.string q] w fun e w' => e = .returned (.tuple #[.string ⟨S.toArray⟩, .int .i64 E]) ∧ Below w.heap.size w w' := by
  go_enter Tryz.func45, Tryz.ntmps45
  go_wp2
  refine wp_scope_jumps 0 (fun a' w' => ∃ (w1 : World) (m b : Nat) (rest : ByteArray) (acc : List UInt8) (u0 u1 u2 u3 u5 u6 u9 u10 u11 u12 u13 u14 u15 u16 u17 u18 u19 u20 u21 u22 u23 u24 u25 u26 u27 u28 u29 u30 u31 u32 u33 u34 u35 u36 u37 u38 u39 u40 u41 u42 u43 u44 u45 : Value), a' = { tmps := #[u0, u1, u2, u3, .string rest, u5, u6, .map (some m), .pointer (some ⟨b, 0, none⟩), u9, u10, u11, u12, u13, u14, u15, u16, u17, u18, u19, u20, u21, u22, u23, u24, u25, u26, u27, u28, u29, u30, u31, u32, u33, u34, u35, u36, u37, u38, u39, u40, u41, u42, u43, u44, u45], defers := [] } ∧ Hid (Rd w w1 m b r2.data.toList rest acc w')) (fun a' _ => (strOf (a'.tmps.getD 4 undef)).size) rfl ?_ ?_
  · go_wp2_with (first
      | (go_at_call 67; refine (C1.out _).mono ?_; rintro e w1 ⟨rfl, rfl⟩)
      | (go_at_call 68; refine (C2.out _).mono ?_; rintro e w1 ⟨rfl, rfl⟩)
      | (go_at_call 69; refine (bytes_dict _).mono ?_; rintro e w2 ⟨rfl, hd, hb⟩; have hR := Lib.hid (Rd.start hd hb h2)))
    go_step3
    by_cases h0 : r2.size = 0
    · have e0 := isEmpty_of h0
      have hm := Lib.hid (hR.out.some_ h0)
      by_cases hl : 4096 < (([] : List UInt8)).length
      · exact absurd hl (by decide)
      · have FIN := Lib.hid (ret_two (YES.out _ hm.out (by omega)))
        go_wp2_with (first
          | (go_at_call 71; refine hR.out.len.mono ?_; rintro e w3 ⟨rfl, rfl⟩)
          | (go_at_call 31; refine hR.out.string.mono ?_; rintro e w4 ⟨rfl, hb4⟩))
        simp only [Exit.jump]
        go_ret2
        exact ⟨FIN.out, hb4⟩
    · have e0 := not_isEmpty (t := r2) (by omega)
      have R := Lib.hid (hR.out.first (by omega))
      cases ho : oneL r2.data.toList with
      | none =>
        rw [ho] at R
        simp only [pairV] at R
        have FIN := Lib.hid (ret_two (NO.out (hR.out.none_ (by omega) ho)))
        go_wp2_with (go_at_call 70; refine R.out.mono ?_; rintro e w3 ⟨rfl, hR3⟩; replace hR3 := Lib.hid hR3)
        simp only [Exit.jump]
        go_ret2
        exact ⟨FIN.out, hR3.out.all⟩
      | some x =>
        obtain ⟨c, n⟩ := x
        rw [ho] at R
        simp only [pairV] at R
        have hp := oneL_pos ho
        rw [size_toList] at hp
        have hn : ((n : Int) == 0) = false := beq_eq_false_iff_ne.2 (by omega)
        go_wp2_with (first
          | (go_at_call 70; refine R.out.mono ?_; rintro e w3 ⟨rfl, hR3⟩; replace hR3 := Lib.hid hR3)
          | (go_at_call 60; refine (hR3.out.write ho).mono ?_; rintro e w4 ⟨rfl, hR4⟩; replace hR4 := Lib.hid hR4))
        go_step3
        exact ⟨rfl, _, _, _, _, _, _, _, _, _, _, _, _, _, _, _, _, _, _, _, _, _, _, _, _, _, _, _, _, _, _, _, _, _, _, _, _, _, _, _, _, _, _, _, _, _, _, _, _, rfl, hR4⟩
  · rintro a' w2 ⟨w1, m, b, rest, acc, u0, u1, u2, u3, u5, u6, u9, u10, u11, u12, u13, u14, u15, u16, u17, u18, u19, u20, u21, u22, u23, u24, u25, u26, u27, u28, u29, u30, u31, u32, u33, u34, u35, u36, u37, u38, u39, u40, u41, u42, u43, u44, u45, rfl, hR⟩
    by_cases h0 : rest.size = 0
    · have e0 := isEmpty_of h0
      have hm := Lib.hid (hR.out.some_ h0)
      by_cases hl : 4096 < (acc).length
      · have FIN := Lib.hid (ret_two (FAR.out _ hm.out hl))
        go_wp2_with (go_at_call 71; refine hR.out.len.mono ?_; rintro e w3 ⟨rfl, rfl⟩)
        simp only [Exit.jump]
        go_ret2
        exact ⟨FIN.out, hR.out.all⟩
      · have FIN := Lib.hid (ret_two (YES.out _ hm.out (by omega)))
        go_wp2_with (first
          | (go_at_call 71; refine hR.out.len.mono ?_; rintro e w3 ⟨rfl, rfl⟩)
          | (go_at_call 31; refine hR.out.string.mono ?_; rintro e w4 ⟨rfl, hb4⟩))
        simp only [Exit.jump]
        go_ret2
        exact ⟨FIN.out, hb4⟩
    · have e0 := not_isEmpty (t := rest) (by omega)
      have R := Lib.hid (hR.out.first (by omega))
      cases ho : oneL rest.data.toList with
      | none =>
        rw [ho] at R
        simp only [pairV] at R
        have FIN := Lib.hid (ret_two (NO.out (hR.out.none_ (by omega) ho)))
        go_wp2_with (go_at_call 70; refine R.out.mono ?_; rintro e w3 ⟨rfl, hR3⟩; replace hR3 := Lib.hid hR3)
        simp only [Exit.jump]
        go_ret2
        exact ⟨FIN.out, hR3.out.all⟩
      | some x =>
        obtain ⟨c, n⟩ := x
        rw [ho] at R
        simp only [pairV] at R
        have hp := oneL_pos ho
        rw [size_toList] at hp
        have hn : ((n : Int) == 0) = false := beq_eq_false_iff_ne.2 (by omega)
        go_wp2_with (first
          | (go_at_call 70; refine R.out.mono ?_; rintro e w3 ⟨rfl, hR3⟩; replace hR3 := Lib.hid hR3)
          | (go_at_call 60; refine (hR3.out.write ho).mono ?_; rintro e w4 ⟨rfl, hR4⟩; replace hR4 := Lib.hid hR4))
        go_step3
        refine ⟨rfl, ⟨_, _, _, _, _, _, _, _, _, _, _, _, _, _, _, _, _, _, _, _, _, _, _, _, _, _, _, _, _, _, _, _, _, _, _, _, _, _, _, _, _, _, _, _, _, _, _, _, rfl, hR4⟩, ?_⟩
        have := after_cut hp.1 hp.2.1
        simpa [strOf] using this
/-- quote.Unquote. -/
theorem Unquote_any (q : ByteArray) (w : World) (hs : q.size ≤ 1048576) :
    Calls Tryz.prog 45 #[.string q] w fun e w' => e = .returned (.tuple #[.string ⟨(unqL q.data.toList).1.toArray⟩, .int .i64 (unqL q.data.toList).2]) ∧ Below w.heap.size w w' := by
  obtain ⟨r1, e1⟩ : ∃ r1 : ByteArray, Lib.trimPrefix q.data.toList [34] = r1.data.toList := ⟨⟨(Lib.trimPrefix q.data.toList [34]).toArray⟩, by simp⟩
  have s1 : r1.size ≤ q.size := by
    have := Lib.trimPrefix_le q.data.toList [34]
    rw [e1, size_toList, size_toList] at this
    exact this
  obtain ⟨r2, e2⟩ : ∃ r2 : ByteArray, Lib.trimSuffix r1.data.toList [34] = r2.data.toList := ⟨⟨(Lib.trimSuffix r1.data.toList [34]).toArray⟩, by simp⟩
  have s2 : r2.size ≤ r1.size := by
    have := Lib.trimSuffix_le r1.data.toList [34]
    rw [e2, size_toList, size_toList] at this
    exact this
  have M := midL_cut q.data.toList
  rw [e1, e2] at M
  cases h1 : Lib.hasPrefix q.data.toList [34] with
  | false =>
    rw [h1, Bool.false_and, if_neg (by simp)] at M
    unfold unqL
    rw [M]
    exact (unq_open q r1 r2 _ w (fun w => cut1 q r1 _ w e1 h1) (fun w => cut2 r1 r2 _ w (by omega) e2 rfl)).mono fun e w' h => ⟨h.1, by rw [h.2]; exact Below.refl _ _⟩
  | true =>
    cases h2 : Lib.hasSuffix r1.data.toList [34] with
    | false =>
      rw [h1, h2, Bool.and_false, if_neg (by simp)] at M
      unfold unqL
      rw [M]
      exact (unq_close q r1 r2 w (fun w => cut1 q r1 _ w e1 h1) (fun w => cut2 r1 r2 _ w (by omega) e2 h2)).mono fun e w' h => ⟨h.1, by rw [h.2]; exact Below.refl _ _⟩
    | true =>
      rw [h1, h2, Bool.and_true, if_pos rfl] at M
      refine unq_goes q r1 r2 w (by omega) _ _ (Lib.hid fun h => ?_) (Lib.hid fun s h g => ?_) (Lib.hid fun s h g => ?_) (Lib.hid fun w => cut1 q r1 _ w e1 h1) (Lib.hid fun w => cut2 r1 r2 _ w (by omega) e2 h2)
      · unfold unqL; rw [M, Option.bind_some, h]; rfl
      · unfold unqL; rw [M, Option.bind_some, h]
        show _ = if 4096 < s.length then ([], 3) else (s, 0)
        rw [if_pos g]
      · unfold unqL; rw [M, Option.bind_some, h]
        show _ = if 4096 < s.length then ([], 3) else (s, 0)
        rw [if_neg (by omega)]
end Go.Proofs.YteoccfmhpakplaaGreatDoor
