/- LexStore: Two laws of a walk: a whole array into the block that was laid last, in one step; and so out of it. | LexRefA: The document's own words, the small contracts: reserved words, digits, letters, how far a name goes, where a string ends in its line. | LexRefB: The document's own signs: how many bytes the sign has that begins at a place. | LexMath2: Where a string ends in its line, and what is read of it; digits with a letter behind. No walk, no program. | LexRefC: The document's own word: digits, a string, whatever begins at a place. | LexRefD: The document's own word, whatever begins at a place. | LexRefT: The document's own tokens of a text. | LexTold: What the laws ask of errors and of lists: errors.Is at a fault, told, Same. | LexSame: The document's own 'Same' at two lists of the same tokens. -/
import Derived.Test.YtebkdegcifkigaaGreatDoorBase
import Derived.Deep.WholeRow
import Derived.Test.YtebkdegcifkigaaGreatDoorOldLex
import Derived.RegionTactic
import Derived.Test.YtebkdegcifkigaaGreatDoorOldNum
import Derived.Lib.IfaceEq
import Derived.Stop.IfaceNil
import Derived.Deep.RegionWith
import Derived.Deep.AppendLies
namespace Go.Proofs.YtebkdegcifkigaaGreatDoor
set_option maxRecDepth 20000
open Go.RowKit

theorem wpList_store_new {P : Program} {w : World} {ops : Array Oper} {rest : List Oper} {o : Oper} {a : Act} {Q : Exit → Act → World → Prop} (hgd : o.guard = none) (t : TypeId) (p x : Operand) (ho : o.op = Op.store t p x)
    (w0 : World) (c c' : Array Value) (hw : w = w0.alloc (.cells c t)) (hp : a.eval p = .pointer (some ⟨w0.heap.size, 0, none⟩)) (hx : a.eval x = .agg c') (hi : (P.info? t).map (·.size) = some c'.size) (hs : c.size = c'.size) (h1 : c'.all (·.oneCell') = true)
    (h : wpList P ops Q rest (a.put o.dst undef) (w0.alloc (.cells c' t))) : wpList P ops Q (o :: rest) a w := by
  subst hw
  refine wpList_plain hgd fun K' hK' => ?_
  unfold Oper.wp
  simp only [execOp, ho, hp, hx, Sem.run_bind, run_storeAt_new w0 t c c' hi hs h1, Result.andThen]
  exact hK' _ _ h
end Go.Proofs.YtebkdegcifkigaaGreatDoor
namespace Go.Proofs.YtebkdegcifkigaaGreatDoor
set_option maxRecDepth 20000
set_option maxRecDepth 20000
open Go.RowKit

theorem Ldigit_any (c : UInt8) (w : World) : Calls Tryz.prog 77 #[.int .u8 c.toNat] w fun e w' => e = .returned (.bool (digitB c)) ∧ w' = w := by
  have hc := c.toNat_lt
  go_enter Tryz.func77, Tryz.ntmps77
  go_wp2_with fail
  all_goals go_ret
  all_goals refine ⟨ret_bool ?_, rfl⟩
  all_goals (rw [Bool.eq_iff_iff]; simp [digitB]; omega)
theorem Lletter_any (c : UInt8) (w : World) : Calls Tryz.prog 74 #[.int .u8 c.toNat] w fun e w' => e = .returned (.bool (letterB c)) ∧ w' = w := by
  have hc := c.toNat_lt
  go_enter Tryz.func74, Tryz.ntmps74
  go_wp2_with fail
  all_goals go_ret
  all_goals refine ⟨ret_bool ?_, rfl⟩
  all_goals (rw [Bool.eq_iff_iff]; simp [letterB]; omega)
/-- The document's reserved words lie in an array of the call's own. -/
def wordTR (k : Nat) : ByteArray := ⟨(reservedL.getD k []).toArray⟩
theorem words_length : reservedL.length = 20 := rfl
theorem wordT_list {k : Nat} (hk : k < 20) : (wordTR k).data.toList = reservedL[k]'hk := by
  show reservedL.getD k [] = _
  rw [List.getD_eq_getElem?_getD, List.getElem?_eq_getElem (by exact hk)]; rfl
theorem any_snoc {f : List UInt8 → Bool} {l : List (List UInt8)} {k : Nat} (h : (l.take k).any f = false) (hk : k < l.length) (hf : f l[k] = false) : (l.take (k + 1)).any f = false := by
  rw [List.take_add_one, List.getElem?_eq_getElem hk, List.any_append, h]
  simp [hf]
theorem words_any (s : List UInt8) : reservedB s = reservedL.any (· == s) := by
  unfold reservedB
  rw [Bool.eq_iff_iff]
  simp
theorem words_new (w : World) (E : TypeId) : ∀ k, k < 20 → (w.alloc (.cells #[.string ⟨#[97, 110, 100]⟩, .string ⟨#[98, 114, 101, 97, 107]⟩, .string ⟨#[99, 97, 116, 99, 104]⟩, .string ⟨#[100, 111]⟩, .string ⟨#[101, 108, 115, 101]⟩, .string ⟨#[101, 108, 115, 101, 105, 102]⟩, .string ⟨#[101, 110, 100]⟩, .string ⟨#[102, 97, 108, 115, 101]⟩, .string ⟨#[102, 111, 114]⟩, .string ⟨#[102, 117, 110, 99, 116, 105, 111, 110]⟩, .string ⟨#[105, 102]⟩, .string ⟨#[108, 111, 99, 97, 108]⟩, .string ⟨#[110, 105, 108]⟩, .string ⟨#[110, 111, 116]⟩, .string ⟨#[111, 114]⟩, .string ⟨#[114, 101, 116, 117, 114, 110]⟩, .string ⟨#[116, 104, 101, 110]⟩, .string ⟨#[116, 114, 117, 101]⟩, .string ⟨#[116, 114, 121]⟩, .string ⟨#[119, 104, 105, 108, 101]⟩] E)).cell? ⟨w.heap.size, k, none⟩ = some (.string (wordTR k)) := by
  intro k hk
  have : (#[.string ⟨#[97, 110, 100]⟩, .string ⟨#[98, 114, 101, 97, 107]⟩, .string ⟨#[99, 97, 116, 99, 104]⟩, .string ⟨#[100, 111]⟩, .string ⟨#[101, 108, 115, 101]⟩, .string ⟨#[101, 108, 115, 101, 105, 102]⟩, .string ⟨#[101, 110, 100]⟩, .string ⟨#[102, 97, 108, 115, 101]⟩, .string ⟨#[102, 111, 114]⟩, .string ⟨#[102, 117, 110, 99, 116, 105, 111, 110]⟩, .string ⟨#[105, 102]⟩, .string ⟨#[108, 111, 99, 97, 108]⟩, .string ⟨#[110, 105, 108]⟩, .string ⟨#[110, 111, 116]⟩, .string ⟨#[111, 114]⟩, .string ⟨#[114, 101, 116, 117, 114, 110]⟩, .string ⟨#[116, 104, 101, 110]⟩, .string ⟨#[116, 114, 117, 101]⟩, .string ⟨#[116, 114, 121]⟩, .string ⟨#[119, 104, 105, 108, 101]⟩] : Array Value)[k]? = some (.string (wordTR k)) := by
    have h := List.all_eq_true.1 (show ((List.range 20).all fun k => (match (#[.string ⟨#[97, 110, 100]⟩, .string ⟨#[98, 114, 101, 97, 107]⟩, .string ⟨#[99, 97, 116, 99, 104]⟩, .string ⟨#[100, 111]⟩, .string ⟨#[101, 108, 115, 101]⟩, .string ⟨#[101, 108, 115, 101, 105, 102]⟩, .string ⟨#[101, 110, 100]⟩, .string ⟨#[102, 97, 108, 115, 101]⟩, .string ⟨#[102, 111, 114]⟩, .string ⟨#[102, 117, 110, 99, 116, 105, 111, 110]⟩, .string ⟨#[105, 102]⟩, .string ⟨#[108, 111, 99, 97, 108]⟩, .string ⟨#[110, 105, 108]⟩, .string ⟨#[110, 111, 116]⟩, .string ⟨#[111, 114]⟩, .string ⟨#[114, 101, 116, 117, 114, 110]⟩, .string ⟨#[116, 104, 101, 110]⟩, .string ⟨#[116, 114, 117, 101]⟩, .string ⟨#[116, 114, 121]⟩, .string ⟨#[119, 104, 105, 108, 101]⟩] : Array Value)[k]? with | some (.string x) => x.data.toList == (wordTR k).data.toList | _ => false)) = true by decide +kernel) k (List.mem_range.2 hk)
    revert h
    generalize (#[.string ⟨#[97, 110, 100]⟩, .string ⟨#[98, 114, 101, 97, 107]⟩, .string ⟨#[99, 97, 116, 99, 104]⟩, .string ⟨#[100, 111]⟩, .string ⟨#[101, 108, 115, 101]⟩, .string ⟨#[101, 108, 115, 101, 105, 102]⟩, .string ⟨#[101, 110, 100]⟩, .string ⟨#[102, 97, 108, 115, 101]⟩, .string ⟨#[102, 111, 114]⟩, .string ⟨#[102, 117, 110, 99, 116, 105, 111, 110]⟩, .string ⟨#[105, 102]⟩, .string ⟨#[108, 111, 99, 97, 108]⟩, .string ⟨#[110, 105, 108]⟩, .string ⟨#[110, 111, 116]⟩, .string ⟨#[111, 114]⟩, .string ⟨#[114, 101, 116, 117, 114, 110]⟩, .string ⟨#[116, 104, 101, 110]⟩, .string ⟨#[116, 114, 117, 101]⟩, .string ⟨#[116, 114, 121]⟩, .string ⟨#[119, 104, 105, 108, 101]⟩] : Array Value)[k]? = x
    intro h
    split at h
    · rename_i y
      have e : y = wordTR k := ByteArray.ext (Array.toList_inj.1 (beq_iff_eq.1 h))
      rw [e]
    · cases h
  simp [go_sem, this]
theorem words_size : (Tryz.prog.info? 158).map (·.size) = some 20 := by kernel_rfl
set_option maxHeartbeats 2000000 in
/-- tallowref04.Reserved. -/
theorem LReserved_any (s : ByteArray) (w : World) : Calls Tryz.prog 76 #[.string s] w fun e w' => e = .returned (.bool (reservedB s.data.toList)) ∧ Below w.heap.size w w' := by
  have HW := Lib.hid (words_new w 158)
  have HB := Lib.hid ((Below.refl w.heap.size w).alloc (Nat.le_refl _) (.cells #[.string ⟨#[97, 110, 100]⟩, .string ⟨#[98, 114, 101, 97, 107]⟩, .string ⟨#[99, 97, 116, 99, 104]⟩, .string ⟨#[100, 111]⟩, .string ⟨#[101, 108, 115, 101]⟩, .string ⟨#[101, 108, 115, 101, 105, 102]⟩, .string ⟨#[101, 110, 100]⟩, .string ⟨#[102, 97, 108, 115, 101]⟩, .string ⟨#[102, 111, 114]⟩, .string ⟨#[102, 117, 110, 99, 116, 105, 111, 110]⟩, .string ⟨#[105, 102]⟩, .string ⟨#[108, 111, 99, 97, 108]⟩, .string ⟨#[110, 105, 108]⟩, .string ⟨#[110, 111, 116]⟩, .string ⟨#[111, 114]⟩, .string ⟨#[114, 101, 116, 117, 114, 110]⟩, .string ⟨#[116, 104, 101, 110]⟩, .string ⟨#[116, 114, 117, 101]⟩, .string ⟨#[116, 114, 121]⟩, .string ⟨#[119, 104, 105, 108, 101]⟩] 158))
  go_enter Tryz.func76, Tryz.ntmps76
  go_wp2_with (refine wpList_store_new rfl 158 _ _ rfl w _ _ rfl rfl rfl words_size rfl (by simp [Value.oneCell']) ?_)
  generalize (w.alloc (.cells #[.string ⟨#[97, 110, 100]⟩, .string ⟨#[98, 114, 101, 97, 107]⟩, .string ⟨#[99, 97, 116, 99, 104]⟩, .string ⟨#[100, 111]⟩, .string ⟨#[101, 108, 115, 101]⟩, .string ⟨#[101, 108, 115, 101, 105, 102]⟩, .string ⟨#[101, 110, 100]⟩, .string ⟨#[102, 97, 108, 115, 101]⟩, .string ⟨#[102, 111, 114]⟩, .string ⟨#[102, 117, 110, 99, 116, 105, 111, 110]⟩, .string ⟨#[105, 102]⟩, .string ⟨#[108, 111, 99, 97, 108]⟩, .string ⟨#[110, 105, 108]⟩, .string ⟨#[110, 111, 116]⟩, .string ⟨#[111, 114]⟩, .string ⟨#[114, 101, 116, 117, 114, 110]⟩, .string ⟨#[116, 104, 101, 110]⟩, .string ⟨#[116, 114, 117, 101]⟩, .string ⟨#[116, 114, 121]⟩, .string ⟨#[119, 104, 105, 108, 101]⟩] 158)) = wr at HW HB ⊢
  go_loop [4] (fun i => ∃ k : Nat, k ≤ 20 ∧ i = .int .i64 k ∧ Hid ((reservedL.take k).any (· == s.data.toList) = false)) (fun i => 20 - (intOf i).toNat)
  case atStart => exact ⟨0, by omega, rfl, rfl⟩
  case round =>
    obtain ⟨k, hk, rfl, hN⟩ := hrel
    by_cases hlt : k < 20
    · have c0 := HW.out k hlt
      have k0 : (0 : Int) ≤ (k : Int) := by omega
      have k1 : (k : Int) < (20 : Int) := by omega
      cases hp : (reservedL[k]'hlt == s.data.toList) with
      | true =>
        have q : ((wordTR k).toList == s.toList) = true := by rw [Lib.toList_data, Lib.toList_data, wordT_list hlt]; exact hp
        have R : Hid (reservedB s.data.toList = true) := by
          rw [Hid, words_any, List.any_eq_true]; exact ⟨reservedL[k]'hlt, List.getElem_mem _, hp⟩
        generalize wordTR k = t at c0 q
        go_wp2_with fail
        go_ret
        exact ⟨ret_bool R.out.symm, HB.out⟩
      | false =>
        have q : ((wordTR k).toList == s.toList) = false := by rw [Lib.toList_data, Lib.toList_data, wordT_list hlt]; exact hp
        have R := Lib.hid (any_snoc (f := (· == s.data.toList)) hN.out hlt hp)
        generalize wordTR k = t at c0 q
        go_wp2_with fail
        go_round
        case rel => exact ⟨k + 1, by omega, by go_num, R⟩
        case measure => simp [intOf]; omega
    · obtain rfl : k = 20 := by omega
      have R : Hid (reservedB s.data.toList = false) := by
        have h := hN.out
        rw [List.take_of_length_le (by rw [words_length]; omega)] at h
        rw [Hid, words_any]; exact h
      go_wp2_with fail
      go_ret
      exact ⟨ret_bool R.out.symm, HB.out⟩
theorem drop_at {s : ByteArray} {a k : Nat} (h : a + k < s.size) : (s.data.toList.drop a)[k]? = some s[a + k] := by
  rw [List.getElem?_drop]; exact byte_at h
set_option maxHeartbeats 2000000 in
/-- tallowref04.run. -/
theorem Lrun_any (s : ByteArray) (a : Nat) (w : World) (hs : s.size ≤ 1048576) (ha : a ≤ s.size) : Calls Tryz.prog 75 #[.string s, .int .i64 a] w fun e w' => e = .returned (.int .i64 ((s.data.toList.drop a).takeWhile nameB).length) ∧ w' = w := by
  have hl : (s.data.toList.drop a).length = s.size - a := by rw [List.length_drop, size_toList]
  have HL := Lib.hid hl
  clear hl
  go_enter Tryz.func75, Tryz.ntmps75
  go_wp2_with fail
  go_loop [5] (fun i => ∃ k : Nat, a + k ≤ s.size ∧ i = .int .i64 k ∧ Hid (((s.data.toList.drop a).take k).all nameB = true)) (fun i => s.size - (intOf i).toNat)
  case atStart => exact ⟨0, by omega, rfl, by simp [Hid]⟩
  case round =>
    obtain ⟨k, hk, rfl, hall⟩ := hrel
    by_cases hlt : a + k < s.size
    · have hget := Lib.hid (drop_at hlt)
      have q : decide ((a : Int) + (k : Int) < (s.size : Int)) = true := decide_eq_true (by omega)
      have L := Lletter_any s[a + k]
      have D := Ldigit_any s[a + k]
      cases hL : letterB s[a + k] with
      | true =>
        rw [hL] at L
        have L := Lib.hid L
        have R := Lib.hid (all_snoc hall.out hget.out (by unfold nameB; rw [hL]; rfl))
        clear D
        go_wp2_with (go_at_call 74; refine (L.out _).mono ?_; rintro e w1 ⟨rfl, rfl⟩)
        go_round
        case rel => exact ⟨k + 1, by omega, by go_num, R⟩
        case measure => simp [intOf]; omega
      | false =>
        rw [hL] at L
        have L := Lib.hid L
        cases hD : digitB s[a + k] with
        | true =>
          rw [hD] at D
          have D := Lib.hid D
          have R := Lib.hid (all_snoc hall.out hget.out (by unfold nameB; rw [hL, hD]; rfl))
          go_wp2_with (first
            | (go_at_call 74; refine (L.out _).mono ?_; rintro e w1 ⟨rfl, rfl⟩)
            | (go_at_call 77; refine (D.out _).mono ?_; rintro e w1 ⟨rfl, rfl⟩))
          go_round
          case rel => exact ⟨k + 1, by omega, by go_num, R⟩
          case measure => simp [intOf]; omega
        | false =>
          rw [hD] at D
          have D := Lib.hid D
          have E := Lib.hid (takeWhile_upto (p := nameB) (by rw [HL.out]; omega) hall.out (.inr ⟨_, hget.out, by unfold nameB; rw [hL, hD]; rfl⟩))
          go_wp2_with (first
            | (go_at_call 74; refine (L.out _).mono ?_; rintro e w1 ⟨rfl, rfl⟩)
            | (go_at_call 77; refine (D.out _).mono ?_; rintro e w1 ⟨rfl, rfl⟩))
          go_ret
          exact ⟨ret_int (by rw [E.out]), rfl⟩
    · have E := Lib.hid (takeWhile_upto (p := nameB) (l := s.data.toList.drop a) (k := k) (by rw [HL.out]; omega) hall.out (.inl (by rw [HL.out]; omega)))
      have q : decide ((a : Int) + (k : Int) < (s.size : Int)) = false := decide_eq_false (by omega)
      go_wp2_with fail
      go_ret
      exact ⟨ret_int (by rw [E.out]), rfl⟩
/-- Where a string's end is looked for in its line. -/
def quotedR (t : List UInt8) : Nat := match closeR false (t.drop 1) with | some n => n + 1 | none => 0
def SeekR (t : List UInt8) (k : Nat) : Prop := 1 ≤ k ∧ closeR false (t.drop 1) = (closeR false (t.drop k)).map (· + (k - 1))
theorem drop_cons {t : List UInt8} {k : Nat} {c : UInt8} (hc : t[k]? = some c) : t.drop k = c :: t.drop (k + 1) := by
  rw [List.drop_eq_getElem_cons (List.getElem?_eq_some_iff.1 hc).1, (List.getElem?_eq_some_iff.1 hc).2]
theorem map_map_add (x : Option Nat) (k j m : Nat) (h : j + k = m) : (x.map (· + j)).map (· + k) = x.map (· + m) := by
  cases x with
  | none => rfl
  | some n => simp; omega
theorem seekR_plain {t : List UInt8} {k : Nat} {c : UInt8} (h : SeekR t k) (hc : t[k]? = some c) (h10 : c ≠ 10) (h34 : c ≠ 34) (h92 : c ≠ 92) : SeekR t (k + 1) := by
  have h1 := h.1
  refine ⟨by omega, ?_⟩
  rw [h.2, drop_cons hc, closeR, if_neg h10, if_neg (by simp), if_neg h92, if_neg h34, map_map_add _ _ _ (k + 1 - 1) (by omega)]
theorem seekR_esc {t : List UInt8} {k : Nat} {d : UInt8} (h : SeekR t k) (hc : t[k]? = some 92) (hd : t[k + 1]? = some d) (h10 : d ≠ 10) : SeekR t (k + 2) := by
  have h1 := h.1
  refine ⟨by omega, ?_⟩
  rw [h.2, drop_cons hc, closeR, if_neg (by decide), if_neg (by simp), if_pos rfl, drop_cons hd, closeR, if_neg h10, if_pos rfl, map_map_add _ 1 1 2 rfl, map_map_add _ (k - 1) 2 (k + 2 - 1) (by omega)]
theorem seekR_feed {t : List UInt8} {k : Nat} (h : SeekR t k) (hc : t[k]? = some 10) : quotedR t = 0 := by
  unfold quotedR; rw [h.2, drop_cons hc, closeR, if_pos rfl]; rfl
theorem seekR_escfeed {t : List UInt8} {k : Nat} (h : SeekR t k) (hc : t[k]? = some 92) (hd : t[k + 1]? = some 10) : quotedR t = 0 := by
  unfold quotedR; rw [h.2, drop_cons hc, closeR, if_neg (by decide), if_neg (by simp), if_pos rfl, drop_cons hd, closeR, if_pos rfl]; rfl
theorem seekR_hit {t : List UInt8} {k : Nat} (h : SeekR t k) (hc : t[k]? = some 34) : quotedR t = k + 1 := by
  have h1 := h.1
  unfold quotedR; rw [h.2, drop_cons hc, closeR, if_neg (by decide), if_neg (by simp), if_neg (by decide), if_pos rfl]
  simp; omega
theorem seekR_end {t : List UInt8} {k : Nat} (h : SeekR t k) (hk : t.length ≤ k) : quotedR t = 0 := by
  unfold quotedR; rw [h.2, List.drop_eq_nil_of_le hk]; rfl
theorem seekR_escend {t : List UInt8} {k : Nat} (h : SeekR t k) (hc : t[k]? = some 92) (hk : t.length ≤ k + 1) : quotedR t = 0 := by
  unfold quotedR; rw [h.2, drop_cons hc, closeR, if_neg (by decide), if_neg (by simp), if_pos rfl, List.drop_eq_nil_of_le hk]; rfl
set_option maxHeartbeats 4000000 in
/-- tallowref04.quoted. -/
theorem Lquoted_any (s : ByteArray) (a : Nat) (w : World) (hs : s.size ≤ 1048576) (ha : a < s.size) : Calls Tryz.prog 116 #[.string s, .int .i64 a] w fun e w' => e = .returned (.int .i64 (quotedR (s.data.toList.drop a))) ∧ w' = w := by
  have hl : (s.data.toList.drop a).length = s.size - a := by rw [List.length_drop, size_toList]
  have HL := Lib.hid hl
  clear hl
  go_enter Tryz.func116, Tryz.ntmps116
  go_wp2_with fail
  go_loop [5] (fun i => ∃ j k : Nat, j = a + k ∧ i = .int .i64 j ∧ j ≤ s.size + 1 ∧ Hid (SeekR (s.data.toList.drop a) k)) (fun i => s.size + 1 - (intOf i).toNat)
  case atStart => exact ⟨a + 1, 1, rfl, by go_num, by omega, Nat.le_refl _, by simp⟩
  case round =>
    obtain ⟨j, k, hj, rfl, hle, hS⟩ := hrel
    by_cases hlt : j < s.size
    · have hget : (s.data.toList.drop a)[k]? = some s[j] := by subst hj; exact drop_at hlt
      have HG := Lib.hid hget
      have HJ := Lib.hid hj
      clear hget hj
      by_cases h10 : s[j] = 10
      · have q10 : ((s[j].toNat : Int) == 10) = true := beq_byte h10
        have E := Lib.hid (seekR_feed hS.out (by rw [HG.out, h10]))
        clear h10
        go_wp2_with fail
        go_ret
        exact ⟨ret_int (by rw [E.out]; rfl), rfl⟩
      · have q10 : ((s[j].toNat : Int) == 10) = false := bne_byte h10
        by_cases h34 : s[j] = 34
        · have q34 : ((s[j].toNat : Int) == 34) = true := beq_byte h34
          have E := Lib.hid (seekR_hit hS.out (by rw [HG.out, h34]))
          clear h34 h10
          go_wp2_with fail
          go_ret
          exact ⟨ret_int (by rw [E.out]; have := HJ.out; go_num), rfl⟩
        · have q34 : ((s[j].toNat : Int) == 34) = false := bne_byte h34
          by_cases h92 : s[j] = 92
          · have q92 : ((s[j].toNat : Int) == 92) = true := beq_byte h92
            by_cases hr : j + 1 < s.size
            · have qr : decide ((j : Int) + 1 < (s.size : Int)) = true := decide_eq_true (by omega)
              have hget2 : (s.data.toList.drop a)[k + 1]? = some s[j + 1] := by
                have hj := HJ.out
                subst hj
                exact drop_at (a := a) (k := k + 1) hr
              by_cases g10 : s[j + 1] = 10
              · have p10 : ((s[j + 1].toNat : Int) == 10) = true := beq_byte g10
                have E := Lib.hid (seekR_escfeed hS.out (by rw [HG.out, h92]) (by rw [hget2, g10]))
                clear h92 g10 h34 h10 hget2
                go_wp2_with fail
                go_ret
                exact ⟨ret_int (by rw [E.out]; rfl), rfl⟩
              · have p10 : ((s[j + 1].toNat : Int) == 10) = false := bne_byte g10
                have R := Lib.hid (seekR_esc hS.out (by rw [HG.out, h92]) hget2 g10)
                clear h92 hget2
                go_wp2_with fail
                go_round
                case rel => exact ⟨j + 2, k + 2, by have := HJ.out; omega, by go_num, by omega, R⟩
                case measure => simp [intOf]; omega
            · have qr : decide ((j : Int) + 1 < (s.size : Int)) = false := decide_eq_false (by omega)
              have E := Lib.hid (seekR_escend hS.out (by rw [HG.out, h92]) (by rw [HL.out]; have hj := HJ.out; unfold Hid at hj; omega))
              have R : Hid (SeekR (s.data.toList.drop a) (k + 2)) := by
                have e := E.out
                unfold quotedR at e
                refine ⟨by omega, ?_⟩
                rw [List.drop_eq_nil_of_le (i := k + 2) (by rw [HL.out]; have hj := HJ.out; omega)]
                revert e
                cases closeR false ((s.data.toList.drop a).drop 1) with
                | none => intro _; rfl
                | some n => intro e; simp at e
              clear h92
              go_wp2_with fail
              go_round
              case rel => exact ⟨j + 2, k + 2, by have := HJ.out; omega, by go_num, by omega, R⟩
              case measure => simp [intOf]; omega
          · have q92 : ((s[j].toNat : Int) == 92) = false := bne_byte h92
            have R := Lib.hid (seekR_plain hS.out HG.out h10 h34 h92)
            go_wp2_with fail
            go_round
            case rel => exact ⟨j + 1, k + 1, by have := HJ.out; omega, by go_num, by omega, R⟩
            case measure => simp [intOf]; omega
    · have E := Lib.hid (seekR_end hS.out (by rw [HL.out]; omega))
      clear hj
      have qj : decide ((j : Int) < (s.size : Int)) = false := decide_eq_false (by omega)
      go_wp2_with fail
      go_ret
      exact ⟨ret_int (by rw [E.out]; rfl), rfl⟩
end Go.Proofs.YtebkdegcifkigaaGreatDoor
namespace Go.Proofs.YtebkdegcifkigaaGreatDoor
set_option maxRecDepth 20000
set_option maxRecDepth 20000
open Go.RowKit

def twoL : List (List UInt8) := [[47, 47], [60, 60], [62, 62], [61, 61], [126, 61], [60, 61], [62, 61]]
def onesL : List UInt8 := [43, 45, 42, 37, 38, 124, 126, 60, 62, 61, 46, 44, 40, 41, 91, 93, 123, 125, 35]
theorem signs_parts : signsL = twoL ++ ([46, 46] :: onesL.map fun c => [c]) := by decide
theorem prefix_take {t x : List UInt8} : Lib.hasPrefix t x = (t.take x.length == x) := by
  rw [Bool.eq_iff_iff, hasPrefix_iff, beq_iff_eq]
  constructor
  · rintro ⟨r, rfl⟩; simp
  · intro h; exact ⟨t.drop x.length, by rw [← List.take_append_drop x.length t, h]; simp⟩
theorem sign_two {t x : List UInt8} (h : twoL.find? (fun x => Lib.hasPrefix t x) = some x) : (signL t).length = 2 := by
  unfold signL
  rw [signs_parts, List.find?_append, h]
  have hm := List.mem_of_find?_eq_some h
  unfold twoL at hm
  simp only [List.mem_cons, List.not_mem_nil, or_false] at hm
  rcases hm with rfl | rfl | rfl | rfl | rfl | rfl | rfl <;> rfl
theorem sign_dots {t : List UInt8} (h : twoL.find? (fun x => Lib.hasPrefix t x) = none) (hd : Lib.hasPrefix t [46, 46] = true) : (signL t).length = 2 := by
  unfold signL
  rw [signs_parts, List.find?_append, h, Option.none_or, List.find?_cons, hd]; rfl
theorem ones_find {c : UInt8} {r : List UInt8} : ∀ l : List UInt8, (l.map fun c => [c]).find? (fun x => Lib.hasPrefix (c :: r) x) = if l.contains c then some [c] else none
  | [] => rfl
  | x :: l => by
    rw [List.map_cons, List.find?_cons, prefix_take, List.contains_cons]
    have e : (((c :: r).take [x].length) == [x]) = (c == x) := by
      rw [Bool.eq_iff_iff]; simp
    rw [e]
    cases hc : c == x with
    | true => rw [beq_iff_eq.1 hc]; simp
    | false => rw [ones_find l]; simp
theorem sign_one {c : UInt8} {r : List UInt8} (h : twoL.find? (fun x => Lib.hasPrefix (c :: r) x) = none) (hd : Lib.hasPrefix (c :: r) [46, 46] = false) : (signL (c :: r)).length = if onesL.contains c then 1 else 0 := by
  unfold signL
  rw [signs_parts, List.find?_append, h, Option.none_or, List.find?_cons, hd, ones_find]
  cases onesL.contains c <;> rfl
def twoT (k : Nat) : ByteArray := ⟨(twoL.getD k []).toArray⟩
theorem two_length : twoL.length = 7 := rfl
theorem twoT_list {k : Nat} (hk : k < 7) : (twoT k).data.toList = twoL[k]'hk := by
  show twoL.getD k [] = _
  rw [List.getD_eq_getElem?_getD, List.getElem?_eq_getElem (by exact hk)]; rfl
theorem two_len : ∀ x ∈ twoL, x.length = 2 := by decide
/-- The array of the call's own. -/
structure TwoAt (w wr : World) : Prop where
  cell : ∀ k, k < 7 → wr.cell? ⟨w.heap.size, k, none⟩ = some (.string (twoT k))
  below : Below w.heap.size w wr
theorem two_new (w : World) (E : TypeId) : TwoAt w (w.alloc (.cells #[.string ⟨#[47, 47]⟩, .string ⟨#[60, 60]⟩, .string ⟨#[62, 62]⟩, .string ⟨#[61, 61]⟩, .string ⟨#[126, 61]⟩, .string ⟨#[60, 61]⟩, .string ⟨#[62, 61]⟩] E)) := by
  refine ⟨fun k hk => ?_, (Below.refl _ _).alloc (Nat.le_refl _) _⟩
  have : k = 0 ∨ k = 1 ∨ k = 2 ∨ k = 3 ∨ k = 4 ∨ k = 5 ∨ k = 6 := by omega
  rcases this with rfl | rfl | rfl | rfl | rfl | rfl | rfl <;> simp [go_sem] <;> rfl
theorem TwoAt.drew {w wr : World} (h : TwoAt w wr) : TwoAt w wr.drew := ⟨h.cell, h.below.drew⟩
theorem two_size : (Tryz.prog.info? 159).map (·.size) = some 7 := by kernel_rfl
def oneT : ByteArray := ⟨#[43, 45, 42, 37, 38, 124, 126, 60, 62, 61, 46, 44, 40, 41, 91, 93, 123, 125, 35]⟩
theorem oneT_size : oneT.size = 19 := rfl
theorem oneT_list : oneT.data.toList = onesL := rfl
theorem ones_length : onesL.length = 19 := rfl
theorem oneT_at {k : Nat} (hk : k < 19) : oneT[k]'hk = onesL[k]'hk := by
  have h := byte_at (s := oneT) (k := k) hk
  have e : oneT.data.toList[k]? = some (onesL[k]'hk) := by rw [oneT_list]; exact List.getElem?_eq_getElem hk
  rw [e] at h
  exact (Option.some.inj h).symm
theorem contains_snoc {l : List UInt8} {k : Nat} {c : UInt8} (h : (l.take k).contains c = false) (hk : k < l.length) (hc : l[k] ≠ c) : (l.take (k + 1)).contains c = false := by
  rw [Bool.eq_false_iff] at *
  intro g
  rw [List.contains_iff_mem, List.take_add_one, List.getElem?_eq_getElem hk, List.mem_append] at g
  rcases g with g | g
  · exact h (List.contains_iff_mem.2 g)
  · simp at g; exact hc g.symm
theorem index_one {k : Nat} (hk : k < 19) (w : World) : (Instr.index 9 (.string oneT) (.int .i64 k)).run Tryz.prog w = .ok (.int .u8 (onesL[k]'hk).toNat) w := by
  rw [index_at oneT k hk, oneT_at hk]
/-- What is behind the pairs: a single byte's sign. -/
def OneEnd (s : ByteArray) (a : Nat) (r : Nat) : Prop := (signL (s.data.toList.drop a)).length = r
set_option maxHeartbeats 4000000 in
theorem Lsign_room (s : ByteArray) (a : Nat) (w : World) (hs : s.size ≤ 1048576) (ha : a + 2 ≤ s.size) :
    Calls Tryz.prog 80 #[.string s, .int .i64 a] w fun e w' => e = .returned (.int .i64 (signL (s.data.toList.drop a)).length) ∧ Below w.heap.size w w' := by
  have HT := Lib.hid (two_new w 159)
  have q2 : decide ((a : Int) + 2 ≤ (s.size : Int)) = true := decide_eq_true (by omega)
  obtain ⟨x, hx⟩ : ∃ x, s.extract a (a + 2) = x := ⟨_, rfl⟩
  have hxl : x.data.toList = (s.data.toList.drop a).take 2 := by
    rw [← hx, Lib.extract_data]; congr 1; omega
  have HX := Lib.hid hxl
  clear hxl
  have hcons : s.data.toList.drop a = s[a] :: s.data.toList.drop (a + 1) := drop_cons (byte_at (by omega))
  have HC := Lib.hid hcons
  clear hcons
  go_enter Tryz.func80, Tryz.ntmps80
  go_wp2_with (refine wpList_store_new rfl 159 _ _ rfl w _ _ rfl rfl rfl two_size rfl (by simp [Value.oneCell']) ?_)
  go_loopw [6] (fun i wr => ∃ k : Nat, k ≤ 7 ∧ i = .int .i64 k ∧ Hid (TwoAt w wr) ∧ Hid ((twoL.take k).find? (fun x => Lib.hasPrefix (s.data.toList.drop a) x) = none)) (fun i _ => 7 - (intOf i).toNat)
  case atStart => exact ⟨0, by omega, rfl, HT, rfl⟩
  case round =>
    obtain ⟨k, hk, rfl, HT2, hN⟩ := hrel
    clear HT
    by_cases hlt : k < 7
    · have c0 := HT2.out.cell k hlt
      have k0 : (0 : Int) ≤ (k : Int) := by omega
      have k1 : (k : Int) < (7 : Int) := by omega
      have hp : (x.toList == (twoT k).toList) = Lib.hasPrefix (s.data.toList.drop a) (twoL[k]'hlt) := by
        have hl2 := two_len _ (List.getElem_mem (show k < twoL.length from hlt))
        rw [Lib.toList_data, Lib.toList_data, twoT_list hlt, HX.out]
        generalize twoL[k]'hlt = y at hl2
        rw [prefix_take, hl2]
      cases hv : Lib.hasPrefix (s.data.toList.drop a) (twoL[k]'hlt) with
      | true =>
        rw [hv] at hp
        have E := Lib.hid (sign_two (find_hit (f := fun x => Lib.hasPrefix (s.data.toList.drop a) x) (l := twoL) hN.out hlt hv))
        generalize twoT k = t at c0 hp
        go_wp2_with fail
        go_region
        go_wp2_with fail
        go_ret
        exact ⟨ret_int (by rw [E.out]; rfl), HT2.out.drew.below⟩
      | false =>
        rw [hv] at hp
        have R := Lib.hid (find_none_snoc (f := fun x => Lib.hasPrefix (s.data.toList.drop a) x) (l := twoL) hN.out hlt hv)
        generalize twoT k = t at c0 hp
        go_wp2_with fail
        go_region
        go_wp2_with fail
        go_roundw
        case rel => exact ⟨k + 1, by omega, by go_num, HT2.out.drew, R⟩
        case measure => simp [intOf]; omega
    · obtain rfl : k = 7 := by omega
      have N : Hid (twoL.find? (fun x => Lib.hasPrefix (s.data.toList.drop a) x) = none) := by
        have h := hN.out
        rw [List.take_of_length_le (by rw [two_length]; omega)] at h
        exact h
      have hp : (x.toList == [46, 46]) = Lib.hasPrefix (s.data.toList.drop a) [46, 46] := by
        rw [Lib.toList_data, HX.out, prefix_take]; rfl
      cases hv : Lib.hasPrefix (s.data.toList.drop a) [46, 46] with
      | true =>
        rw [hv] at hp
        have E := Lib.hid (sign_dots N.out hv)
        go_wp2_with fail
        go_ret
        exact ⟨ret_int (by rw [E.out]; rfl), HT2.out.below⟩
      | false =>
        rw [hv] at hp
        have E : Hid ((signL (s.data.toList.drop a)).length = if onesL.contains s[a] then 1 else 0) := by
          have n := N.out
          rw [HC.out] at n hv
          rw [Hid, HC.out]; exact sign_one n hv
        clear hlt hN
        go_wp2_with fail
        go_loopw [8] (fun i wr => ∃ k : Nat, k ≤ 19 ∧ i = .int .i64 k ∧ Hid (TwoAt w wr) ∧ Hid ((onesL.take k).contains s[a] = false)) (fun i _ => 19 - (intOf i).toNat)
        case atStart => exact ⟨0, by omega, rfl, HT2, rfl⟩
        case round =>
          obtain ⟨k, hk, rfl, HT3, hM⟩ := hrel
          clear HT2
          by_cases hlt : k < 19
          · have i0 := index_at s a (by omega)
            have i1 := fun w => index_one hlt w
            unfold oneT at i1
            have k0 : (0 : Int) ≤ (k : Int) := by omega
            have k1 : (k : Int) < (19 : Int) := by omega
            by_cases hc : onesL[k]'hlt = s[a]
            · have q : ((s[a].toNat : Int) == ((onesL[k]'hlt).toNat : Int)) = true := beq_byte hc.symm
              have E1 : Hid ((signL (s.data.toList.drop a)).length = 1) := by
                rw [Hid, E.out, if_pos (List.contains_iff_mem.2 (hc ▸ List.getElem_mem _))]
              generalize onesL[k]'hlt = y at i1 q hc
              clear hc
              go_wp2_with fail
              go_region
              go_wp2_with fail
              go_ret
              exact ⟨ret_int (by rw [E1.out]; rfl), HT3.out.drew.below⟩
            · have q : ((s[a].toNat : Int) == ((onesL[k]'hlt).toNat : Int)) = false := bne_byte (fun e => hc e.symm)
              have R := Lib.hid (contains_snoc (l := onesL) hM.out hlt hc)
              generalize onesL[k]'hlt = y at i1 q hc
              clear hc
              go_wp2_with fail
              go_region
              go_wp2_with fail
              go_roundw
              case rel => exact ⟨k + 1, by omega, by go_num, HT3.out.drew, R⟩
              case measure => simp [intOf]; omega
          · obtain rfl : k = 19 := by omega
            have E0 : Hid ((signL (s.data.toList.drop a)).length = 0) := by
              have h := hM.out
              rw [List.take_of_length_le (by rw [ones_length]; omega)] at h
              rw [Hid, E.out, h]; rfl
            go_wp2_with fail
            go_ret
            exact ⟨ret_int (by rw [E0.out]; rfl), HT3.out.below⟩
set_option maxHeartbeats 4000000 in
theorem Lsign_last (s : ByteArray) (a : Nat) (w : World) (hs : s.size ≤ 1048576) (ha : a + 1 = s.size) :
    Calls Tryz.prog 80 #[.string s, .int .i64 a] w fun e w' => e = .returned (.int .i64 (signL (s.data.toList.drop a)).length) ∧ Below w.heap.size w w' := by
  have HT := Lib.hid (two_new w 159)
  have q2 : decide ((a : Int) + 2 ≤ (s.size : Int)) = false := decide_eq_false (by omega)
  have hcons : s.data.toList.drop a = s[a] :: s.data.toList.drop (a + 1) := drop_cons (byte_at (by omega))
  have HC := Lib.hid hcons
  clear hcons
  have hsh : ∀ x : List UInt8, x.length = 2 → Lib.hasPrefix (s.data.toList.drop a) x = false := by
    intro x hx
    rw [prefix_take, hx]
    refine beq_eq_false_iff_ne.2 fun e => ?_
    have h := congrArg List.length e
    rw [List.length_take, List.length_drop, size_toList, hx] at h
    omega
  have SH := Lib.hid hsh
  clear hsh
  go_enter Tryz.func80, Tryz.ntmps80
  go_wp2_with (refine wpList_store_new rfl 159 _ _ rfl w _ _ rfl rfl rfl two_size rfl (by simp [Value.oneCell']) ?_)
  go_loopw [6] (fun i wr => ∃ k : Nat, k ≤ 7 ∧ i = .int .i64 k ∧ Hid (TwoAt w wr) ∧ Hid ((twoL.take k).find? (fun x => Lib.hasPrefix (s.data.toList.drop a) x) = none)) (fun i _ => 7 - (intOf i).toNat)
  case atStart => exact ⟨0, by omega, rfl, HT, rfl⟩
  case round =>
    obtain ⟨k, hk, rfl, HT2, hN⟩ := hrel
    clear HT
    by_cases hlt : k < 7
    · have c0 := HT2.out.cell k hlt
      have k0 : (0 : Int) ≤ (k : Int) := by omega
      have k1 : (k : Int) < (7 : Int) := by omega
      have hv := SH.out _ (two_len _ (List.getElem_mem (show k < twoL.length from hlt)))
      have R := Lib.hid (find_none_snoc (f := fun x => Lib.hasPrefix (s.data.toList.drop a) x) (l := twoL) hN.out hlt hv)
      clear hv
      generalize twoT k = t at c0
      go_wp2_with fail
      go_region
      go_wp2_with fail
      go_roundw
      case rel => exact ⟨k + 1, by omega, by go_num, HT2.out.drew, R⟩
      case measure => simp [intOf]; omega
    · obtain rfl : k = 7 := by omega
      have N : Hid (twoL.find? (fun x => Lib.hasPrefix (s.data.toList.drop a) x) = none) := by
        have h := hN.out
        rw [List.take_of_length_le (by rw [two_length]; omega)] at h
        exact h
      have hv := SH.out [46, 46] rfl
      have E : Hid ((signL (s.data.toList.drop a)).length = if onesL.contains s[a] then 1 else 0) := by
        have n := N.out
        rw [HC.out] at n hv
        rw [Hid, HC.out]; exact sign_one n hv
      clear hlt hN
      go_wp2_with fail
      go_loopw [8] (fun i wr => ∃ k : Nat, k ≤ 19 ∧ i = .int .i64 k ∧ Hid (TwoAt w wr) ∧ Hid ((onesL.take k).contains s[a] = false)) (fun i _ => 19 - (intOf i).toNat)
      case atStart => exact ⟨0, by omega, rfl, HT2, rfl⟩
      case round =>
        obtain ⟨k, hk, rfl, HT3, hM⟩ := hrel
        clear HT2
        by_cases hlt : k < 19
        · have i0 := index_at s a (by omega)
          have i1 := fun w => index_one hlt w
          unfold oneT at i1
          have k0 : (0 : Int) ≤ (k : Int) := by omega
          have k1 : (k : Int) < (19 : Int) := by omega
          by_cases hc : onesL[k]'hlt = s[a]
          · have q : ((s[a].toNat : Int) == ((onesL[k]'hlt).toNat : Int)) = true := beq_byte hc.symm
            have E1 : Hid ((signL (s.data.toList.drop a)).length = 1) := by
              rw [Hid, E.out, if_pos (List.contains_iff_mem.2 (hc ▸ List.getElem_mem _))]
            generalize onesL[k]'hlt = y at i1 q hc
            clear hc
            go_wp2_with fail
            go_region
            go_wp2_with fail
            go_ret
            exact ⟨ret_int (by rw [E1.out]; rfl), HT3.out.drew.below⟩
          · have q : ((s[a].toNat : Int) == ((onesL[k]'hlt).toNat : Int)) = false := bne_byte (fun e => hc e.symm)
            have R := Lib.hid (contains_snoc (l := onesL) hM.out hlt hc)
            generalize onesL[k]'hlt = y at i1 q hc
            clear hc
            go_wp2_with fail
            go_region
            go_wp2_with fail
            go_roundw
            case rel => exact ⟨k + 1, by omega, by go_num, HT3.out.drew, R⟩
            case measure => simp [intOf]; omega
        · obtain rfl : k = 19 := by omega
          have E0 : Hid ((signL (s.data.toList.drop a)).length = 0) := by
            have h := hM.out
            rw [List.take_of_length_le (by rw [ones_length]; omega)] at h
            rw [Hid, E.out, h]; rfl
          go_wp2_with fail
          go_ret
          exact ⟨ret_int (by rw [E0.out]; rfl), HT3.out.below⟩
/-- tallowref04.sign. -/
theorem Lsign_any (s : ByteArray) (a : Nat) (w : World) (hs : s.size ≤ 1048576) (ha : a < s.size) :
    Calls Tryz.prog 80 #[.string s, .int .i64 a] w fun e w' => e = .returned (.int .i64 (signL (s.data.toList.drop a)).length) ∧ Below w.heap.size w w' := by
  by_cases h : a + 2 ≤ s.size
  · exact Lsign_room s a w hs h
  · exact Lsign_last s a w hs (by omega)
end Go.Proofs.YtebkdegcifkigaaGreatDoor
namespace Go.Proofs.YtebkdegcifkigaaGreatDoor
set_option maxRecDepth 20000

theorem closeF_of_R : ∀ (l : List UInt8) (e : Bool) (n : Nat), closeR e l = some n → closeF e l = some n
  | [], _, _, h => by cases h
  | c :: r, e, n, h => by
    unfold closeR at h
    unfold closeF
    split at h
    · cases h
    · split at h
      · obtain ⟨m, hm, rfl⟩ := Option.map_eq_some_iff.1 h
        rename_i he
        rw [if_pos he, closeF_of_R r _ _ hm]; rfl
      · rename_i he
        rw [if_neg he]
        split at h
        · obtain ⟨m, hm, rfl⟩ := Option.map_eq_some_iff.1 h
          rename_i hc
          rw [if_pos hc, closeF_of_R r _ _ hm]; rfl
        · rename_i hc
          rw [if_neg hc]
          split at h
          · rename_i h3; rw [if_pos h3]; exact h
          · obtain ⟨m, hm, rfl⟩ := Option.map_eq_some_iff.1 h
            rename_i h3
            rw [if_neg h3, closeF_of_R r _ _ hm]; rfl
theorem close_plain {c : UInt8} {r : List UInt8} (h10 : c ≠ 10) (h92 : c ≠ 92) (h34 : c ≠ 34) : closeR false (c :: r) = (closeR false r).map (· + 1) := by
  rw [closeR, if_neg h10, if_neg (by simp), if_neg h92, if_neg h34]
theorem close_esc {d : UInt8} {r : List UInt8} (h10 : d ≠ 10) : closeR false (92 :: d :: r) = (closeR false r).map (· + 2) := by
  rw [closeR, if_neg (by decide), if_neg (by simp), if_pos rfl, closeR, if_neg h10, if_pos rfl]
  cases closeR false r <;> rfl
theorem byteO_fine {d b : UInt8} (h : byteO d = some b) : d ≠ 10 := by
  rintro rfl; rw [show byteO 10 = none by decide] at h; cases h
theorem hexO_fine {h : UInt8} {n : Nat} (g : hexO h = some n) : h ≠ 10 ∧ h ≠ 92 ∧ h ≠ 34 := by
  refine ⟨?_, ?_, ?_⟩
  · rintro rfl; rw [show hexO 10 = none by decide] at g; cases g
  · rintro rfl; rw [show hexO 92 = none by decide] at g; cases g
  · rintro rfl; rw [show hexO 34 = none by decide] at g; cases g
theorem self_fine {c : UInt8} (h : selfB c = true) : c ≠ 10 ∧ c ≠ 92 ∧ c ≠ 34 := by
  refine ⟨?_, ?_, ?_⟩ <;> (rintro rfl; revert h; decide)
/-- One item of a text is gone over whole. -/
theorem close_one {t : List UInt8} {b : UInt8} {n : Nat} (h : oneL t = some (b, n)) (x : List UInt8) : closeR false (t ++ x) = (closeR false (t.drop n ++ x)).map (· + n) := by
  match t, h with
  | c :: r, h =>
    simp only [oneL] at h
    split at h
    · rename_i hc
      subst hc
      match r, h with
      | d :: r, h =>
        simp only [afterL] at h
        split at h
        · rename_i b' hb
          cases h
          rw [List.cons_append, List.cons_append, close_esc (byteO_fine hb)]; rfl
        · split at h
          · rename_i hd
            subst hd
            match r, h with
            | y :: z :: r, h =>
              simp only [hexL, hex2] at h
              split at h
              · rename_i u v hu hv
                cases h
                obtain ⟨y1, y2, y3⟩ := hexO_fine hu
                obtain ⟨z1, z2, z3⟩ := hexO_fine hv
                rw [List.cons_append, List.cons_append, List.cons_append, List.cons_append, close_esc (by decide), close_plain y1 y2 y3, close_plain z1 z2 z3]
                show _ = (closeR false (r ++ x)).map (· + 4)
                cases closeR false (r ++ x) <;> rfl
              · cases h
          · cases h
    · split at h
      · rename_i hs
        cases h
        obtain ⟨c1, c2, c3⟩ := self_fine hs
        rw [List.cons_append, close_plain c1 c2 c3]; rfl
      · cases h
theorem close_read : ∀ (k : Nat) (mid s x : List UInt8), mid.length ≤ k → readL mid = some s → closeR false (mid ++ 34 :: x) = some (mid.length + 1) := by
  intro k
  induction k with
  | zero =>
    intro mid s x hk h
    obtain rfl : mid = [] := List.length_eq_zero_iff.1 (by omega)
    rfl
  | succ k ih =>
    intro mid s x hk h
    match mid, hk, h with
    | [], _, _ => rfl
    | c :: r, hk, h =>
      cases ho : oneL (c :: r) with
      | none => rw [readL_none (by simp) ho] at h; cases h
      | some y =>
        obtain ⟨b, n⟩ := y
        have hp := oneL_pos ho
        rw [readL_some ho, Option.map_eq_some_iff] at h
        obtain ⟨s', h', _⟩ := h
        rw [close_one ho, ih _ _ x (by rw [List.length_drop]; omega) h']
        simp only [Option.map_some, List.length_drop, Option.some.injEq]
        omega
/-- A text that is read between two quotes ends in its line. -/
theorem close_mid {r : List UInt8} {k : Nat} {mid s : List UInt8} (hm : midL ((34 :: r).take k) = some mid) (hr : readL mid = some s) : closeR false r = some (mid.length + 1) := by
  unfold midL at hm
  split at hm
  · rename_i hc
    obtain ⟨h2, _, hl⟩ := hc
    rw [Option.some.injEq] at hm
    have hk : 2 ≤ k := by
      have : ((34 :: r).take k).length ≤ k := List.length_take_le _ _
      omega
    obtain ⟨k, rfl⟩ : ∃ j, k = j + 1 := ⟨k - 1, by omega⟩
    rw [List.take_succ_cons] at h2 hl hm
    have hlen : (r.take k).length ≤ r.length := by rw [List.length_take]; omega
    rw [List.length_cons] at h2
    have e1 : r.take k = mid ++ [34] := by
      have hne : r.take k ≠ [] := by intro e; rw [e] at h2; simp at h2
      have hl2 : (r.take k).getLast? = some 34 := by
        cases hq : r.take k with
        | nil => exact absurd hq hne
        | cons y l => rw [hq] at hl; rw [List.getLast?_cons_cons] at hl; exact hl
      obtain ⟨ys, hys⟩ := List.getLast?_eq_some_iff.1 hl2
      rw [List.drop_one, List.tail_cons, List.length_cons, hys] at hm
      rw [hys, ← hm, List.length_append]
      simp
    have e3 : r = mid ++ 34 :: r.drop k := by
      conv => lhs; rw [← List.take_append_drop k r, e1]
      simp
    rw [e3]
    exact close_read _ _ _ _ (Nat.le_refl _) hr
  · cases hm
theorem unq_none {r : List UInt8} (h : closeR false r = none) (k : Nat) : unqL ((34 :: r).take k) = ([], 4) := by
  unfold unqL
  cases hm : midL ((34 :: r).take k) with
  | none => rfl
  | some mid =>
    rw [Option.bind_some]
    cases hr : readL mid with
    | none => rfl
    | some s => rw [close_mid hm hr] at h; cases h
theorem mem_tw {p : UInt8 → Bool} : ∀ {l : List UInt8} {x : UInt8}, x ∈ l.takeWhile p → p x = true
  | c :: l, x, h => by
    rw [List.takeWhile_cons] at h
    split at h
    · rename_i hc
      rcases List.mem_cons.1 h with rfl | h
      · exact hc
      · exact mem_tw h
    · cases h
/-- The document's string and the program's. -/
theorem str_none {r : List UInt8} (h : quotedR (34 :: r) = 0) : strW ((34 :: r).take (quotedN (34 :: r))) = badW 14 := by
  have hc : closeR false r = none := by
    unfold quotedR at h
    rw [List.drop_one, List.tail_cons] at h
    cases g : closeR false r with
    | none => rfl
    | some n => rw [g] at h; simp at h
  unfold strW
  rw [unq_none hc]; rfl
theorem str_some {r : List UInt8} (h : quotedR (34 :: r) ≠ 0) : quotedN (34 :: r) = quotedR (34 :: r) ∧ quotedR (34 :: r) ≤ (34 :: r).length := by
  have e : quotedN (34 :: r) = quotedR (34 :: r) := by
    unfold quotedR quotedN at *
    rw [List.drop_one, List.tail_cons] at *
    cases g : closeR false r with
    | none => rw [g] at h; exact absurd rfl h
    | some n => rw [closeF_of_R _ _ _ g]
  exact ⟨e, by rw [← e]; exact quotedN_le _ (by simp)⟩
/-- Digits with a letter behind are no number. -/
theorem isText_letter {w : List UInt8} {c : UInt8} (hh : w.head? = some c) (hc : digitB c = true) (ha : w.all digitB = false) : isTextL w = false := by
  match w, hh with
  | c' :: r, hh =>
    obtain rfl : c' = c := by simpa using hh
    have h45 : c' ≠ 45 := by rintro rfl; revert hc; decide
    unfold isTextL
    rw [trim_other r h45, if_neg (by simp)]
    split
    · rename_i h48
      have h48 : c' = 48 := by simpa using h48
      subst h48
      refine beq_eq_false_iff_ne.2 fun e => ?_
      rw [e] at ha
      revert ha; decide
    · exact ha
theorem takeWhile_name {t : List UInt8} {c : UInt8} (hc : (t.drop (t.takeWhile digitB).length).head? = some c) (hn : nameB c = false) : t.takeWhile nameB = t.takeWhile digitB := by
  have e : t = t.takeWhile digitB ++ t.drop (t.takeWhile digitB).length := by
    conv => lhs; rw [← List.take_append_drop (t.takeWhile digitB).length t]
    rw [← List.prefix_iff_eq_take.1 (List.takeWhile_prefix _)]
  conv => lhs; rw [e]
  rw [List.takeWhile_append_of_pos (fun x hx => name_of_digit (mem_tw hx))]
  cases hd : t.drop (t.takeWhile digitB).length with
  | nil => rw [hd] at hc; cases hc
  | cons d r =>
    rw [hd] at hc
    obtain rfl : d = c := by simpa using hc
    rw [List.takeWhile_cons, hn]; simp
theorem takeWhile_all {t : List UInt8} (h : t.drop (t.takeWhile digitB).length = []) : t.takeWhile nameB = t.takeWhile digitB := by
  have e : t = t.takeWhile digitB := by
    conv => lhs; rw [← List.take_append_drop (t.takeWhile digitB).length t]
    rw [← List.prefix_iff_eq_take.1 (List.takeWhile_prefix _), h, List.append_nil]
  have ha : ∀ x ∈ t, nameB x = true := fun x hx => name_of_digit (by rw [e] at hx; exact mem_tw hx)
  rw [← e]
  have := List.takeWhile_append_of_pos (l₂ := []) ha
  simpa using this
theorem int_letter {t : List UInt8} {c d : UInt8} (hh : t.head? = some d) (hd : digitB d = true) (hc : (t.drop (t.takeWhile digitB).length).head? = some c) (hn : nameB c = true) : intW (t.takeWhile nameB) = badW 14 := by
  have hdig : digitB c = false := by
    cases g : digitB c with
    | false => rfl
    | true =>
      have e : t = t.takeWhile digitB ++ t.drop (t.takeWhile digitB).length := by
        conv => lhs; rw [← List.take_append_drop (t.takeWhile digitB).length t]
        rw [← List.prefix_iff_eq_take.1 (List.takeWhile_prefix _)]
      have h2 : (t.takeWhile digitB) = t.takeWhile digitB ++ (t.drop (t.takeWhile digitB).length).takeWhile digitB := by
        conv => lhs; rw [e]
        rw [List.takeWhile_append_of_pos (fun x hx => mem_tw hx)]
      have h3 := congrArg List.length h2
      rw [List.length_append] at h3
      cases hd2 : t.drop (t.takeWhile digitB).length with
      | nil => rw [hd2] at hc; cases hc
      | cons x r =>
        rw [hd2] at hc h3
        obtain rfl : x = c := by simpa using hc
        rw [List.takeWhile_cons, g] at h3
        simp at h3
  have ht : isTextL (t.takeWhile nameB) = false := by
    refine isText_letter (c := d) ?_ hd ?_
    · match t, hh with
      | d' :: r, hh =>
        obtain rfl : d' = d := by simpa using hh
        rw [List.takeWhile_cons, name_of_digit hd]; rfl
    · rw [List.all_eq_false]
      refine ⟨c, ?_, by rw [hdig]; simp⟩
      have e : t = t.takeWhile digitB ++ t.drop (t.takeWhile digitB).length := by
        conv => lhs; rw [← List.take_append_drop (t.takeWhile digitB).length t]
        rw [← List.prefix_iff_eq_take.1 (List.takeWhile_prefix _)]
      rw [e, List.takeWhile_append_of_pos (fun x hx => name_of_digit (mem_tw hx))]
      refine List.mem_append_right _ ?_
      cases hd2 : t.drop (t.takeWhile digitB).length with
      | nil => rw [hd2] at hc; cases hc
      | cons x r =>
        rw [hd2] at hc
        obtain rfl : x = c := by simpa using hc
        rw [List.takeWhile_cons, hn]; simp
  unfold intW
  have e := (parse_bad ht).2
  rw [if_neg (by rw [e]; decide), e]; rfl
end Go.Proofs.YtebkdegcifkigaaGreatDoor
namespace Go.Proofs.YtebkdegcifkigaaGreatDoor
set_option maxRecDepth 20000
set_option maxRecDepth 20000
open Go.RowKit

/-- What the document's word is: its error; and where there is none, the token and its bytes. -/
def GivesW (W : Word) (w : World) (e : Ending) (w' : World) : Prop :=
  ∃ (k : Nat) (x : ByteArray) (n z : Int), e = .returned (.tuple #[.agg (tokV k x n 0), .int .i64 z, .int .i64 W.err]) ∧ (W.err = 0 → k = W.kind ∧ x = ⟨W.text.toArray⟩ ∧ n = W.num ∧ z = W.size) ∧ Below w.heap.size w w'
theorem results_cell_tmp2 {fn : Func} {p u v : Tmp} {ty : TypeId} (h : fn.results = #[.cell p ty, .tmp u, .tmp v]) (tmps : Array Value) (P : Program) (w : World) :
    (results fn tmps).run P w = ((asAddr (tmps.getD p undef)).run P w).andThen fun a w1 => ((loadVar ty a).run P w1).andThen fun x w2 => .ok (.tuple #[x, tmps.getD u undef, tmps.getD v undef]) w2 := by
  simp only [results, h]
  simp [Sem.run_bind, Result.andThen]
theorem ret_tok_tmp2 {fn : Func} {R : Ending → World → Prop} {a : Act} {W : World} {p u v : Tmp} {b : Nat} {v0 v1 v2 v3 : Value} (h : fn.results = #[.cell p 66, .tmp u, .tmp v]) (hp : a.tmps.getD p undef = .pointer (some ⟨b, 0, none⟩))
    (h0 : W.cell? ⟨b, 0, none⟩ = some v0) (h1 : W.cell? ⟨b, 1, none⟩ = some v1) (h2 : W.cell? ⟨b, 2, none⟩ = some v2) (h3 : W.cell? ⟨b, 3, none⟩ = some v3) (hd : a.defers = [])
    (hR : R (.returned (.tuple #[.agg #[v0, v1, v2, v3], a.tmps.getD u undef, a.tmps.getD v undef])) W) : bodyPost Tryz.prog fn R .ret a W := by
  refine bodyPost_ret (v := .tuple #[.agg #[v0, v1, v2, v3], a.tmps.getD u undef, a.tmps.getD v undef]) ?_ hd hR
  rw [results_cell_tmp2 h, hp]
  simp only [asAddr, Sem.run_pure, Result.andThen_ok, load_tok h0 h1 h2 h3]
theorem setTok {B : Nat} {w w1 : World} {b : Nat} (h : Below B w w1) (hb : B ≤ b) (x0 x1 x2 x3 : Value) : Below B w ((((w1.setCell ⟨b, 0, none⟩ x0).setCell ⟨b, 1, none⟩ x1).setCell ⟨b, 2, none⟩ x2).setCell ⟨b, 3, none⟩ x3) :=
  (((h.setCell (p := ⟨b, 0, none⟩) hb _).setCell (p := ⟨b, 1, none⟩) hb _).setCell (p := ⟨b, 2, none⟩) hb _).setCell (p := ⟨b, 3, none⟩) hb _
theorem bad_gives {e : Int} {w w' : World} {k : Nat} {x : ByteArray} {n z : Int} (he : e ≠ 0) (hb : Below w.heap.size w w') : GivesW (badW e) w (.returned (.tuple #[.agg (tokV k x n 0), .int .i64 z, .int .i64 e])) w' :=
  ⟨k, x, n, z, rfl, fun h => absurd h he, hb⟩
set_option maxHeartbeats 2000000 in
theorem Lstr_none (s : ByteArray) (a : Nat) (w : World) (hs : s.size ≤ 1048576) (ha : a < s.size) (hq : quotedR (s.data.toList.drop a) = 0) :
    Calls Tryz.prog 79 #[.string s, .int .i64 a] w (GivesW (badW 14) w) := by
  have Q := fun w => Lquoted_any s a w hs ha
  rw [hq] at Q
  have Q := Lib.hid Q
  go_enter Tryz.func79, Tryz.ntmps79
  go_wp2_with (go_at_call 116; refine (Q.out _).mono ?_; rintro e w1 ⟨rfl, hq⟩; obtain rfl := hq.symm)
  refine ret_tok_tmp2 rfl rfl (v0 := .int .i64 0) (v1 := .string ⟨#[]⟩) (v2 := .int .i64 0) (v3 := .int .i64 0) (by simp [go_sem]) (by simp [go_sem]) (by simp [go_sem]) (by simp [go_sem]) rfl ?_
  exact bad_gives (by decide) ((Below.refl _ _).alloc (Nat.le_refl _) _)
set_option maxHeartbeats 2000000 in
theorem Lstr_form (s : ByteArray) (a n : Nat) (w : World) (hs : s.size ≤ 1048576) (ha : a < s.size) (hn : quotedR (s.data.toList.drop a) = n) (h0 : n ≠ 0) (hle : a + n ≤ s.size) (q : ByteArray) (hq : s.extract a (a + n) = q) (hqs : q.size ≤ 1048576) (hE : (unqL q.data.toList).2 = 4) :
    Calls Tryz.prog 79 #[.string s, .int .i64 a] w (GivesW (badW 14) w) := by
  have Q := fun w => Lquoted_any s a w hs ha
  rw [hn] at Q
  have Q := Lib.hid Q
  have U := fun w => RUnquote_any q w hqs
  rw [hE] at U
  have U := Lib.hid U
  generalize (ByteArray.mk (unqL q.data.toList).1.toArray) = t at U
  have n0 : ((n : Int) == 0) = false := beq_eq_false_iff_ne.2 (by omega)
  go_enter Tryz.func79, Tryz.ntmps79
  go_wp2_with (first
    | (go_at_call 116; refine (Q.out _).mono ?_; rintro e w1 ⟨rfl, hq⟩; obtain rfl := hq.symm)
    | (go_at_call 117; refine (U.out _).mono ?_; rintro e w2 ⟨rfl, hb2⟩; obtain ⟨p0, p1, p2, p3, d0, d1, d2, d3⟩ := token_mine hb2; have B2 := Lib.hid (below_box hb2); clear hb2))
  refine ret_tok_tmp2 rfl rfl (v0 := .int .i64 0) (v1 := .string ⟨#[]⟩) (v2 := .int .i64 0) (v3 := .int .i64 0) (by simp [go_sem, p0]) (by simp [go_sem, p1]) (by simp [go_sem, p2]) (by simp [go_sem, p3]) rfl ?_
  exact bad_gives (by decide) (setTok B2.out (Nat.le_refl _) _ _ _ _)
set_option maxHeartbeats 2000000 in
theorem Lstr_else (s : ByteArray) (a n : Nat) (w : World) (hs : s.size ≤ 1048576) (ha : a < s.size) (hn : quotedR (s.data.toList.drop a) = n) (h0 : n ≠ 0) (hle : a + n ≤ s.size) (q : ByteArray) (hq : s.extract a (a + n) = q) (hqs : q.size ≤ 1048576) (t : ByteArray) (ht : (⟨(unqL q.data.toList).1.toArray⟩ : ByteArray) = t) (E : Int) (hE : (unqL q.data.toList).2 = E) (h4 : E ≠ 4) :
    Calls Tryz.prog 79 #[.string s, .int .i64 a] w fun e w' => e = .returned (.tuple #[.agg (tokV 3 t 0 0), .int .i64 n, .int .i64 E]) ∧ Below w.heap.size w w' := by
  have Q := fun w => Lquoted_any s a w hs ha
  rw [hn] at Q
  have Q := Lib.hid Q
  have U := fun w => RUnquote_any q w hqs
  rw [hE, ht] at U
  have U := Lib.hid U
  have n0 : ((n : Int) == 0) = false := beq_eq_false_iff_ne.2 (by omega)
  have e4 : (E == 4) = false := beq_eq_false_iff_ne.2 h4
  go_enter Tryz.func79, Tryz.ntmps79
  go_wp2_with (first
    | (go_at_call 116; refine (Q.out _).mono ?_; rintro e w1 ⟨rfl, hq⟩; obtain rfl := hq.symm)
    | (go_at_call 117; refine (U.out _).mono ?_; rintro e w2 ⟨rfl, hb2⟩; obtain ⟨p0, p1, p2, p3, d0, d1, d2, d3⟩ := token_mine hb2; have B2 := Lib.hid (below_box hb2); clear hb2))
  refine ret_tok_tmp2 rfl rfl (v0 := .int .i64 3) (v1 := .string t) (v2 := .int .i64 0) (v3 := .int .i64 0) (by simp [go_sem, p0]) (by simp [go_sem, p1]) (by simp [go_sem, p2]) (by simp [go_sem, p3]) rfl ?_
  exact ⟨rfl, setTok B2.out (Nat.le_refl _) _ _ _ _⟩
theorem extract_at (s : ByteArray) (a n : Nat) : (s.extract a (a + n)).data.toList = (s.data.toList.drop a).take n := by
  rw [Lib.extract_data]; congr 1; omega
/-- tallowref04.str. -/
theorem Lstr_any (s : ByteArray) (a : Nat) (w : World) (hs : s.size ≤ 1048576) (ha : a < s.size) (h34 : s[a] = 34) :
    Calls Tryz.prog 79 #[.string s, .int .i64 a] w (GivesW (strW ((s.data.toList.drop a).take (quotedN (s.data.toList.drop a)))) w) := by
  have hc : s.data.toList.drop a = 34 :: s.data.toList.drop (a + 1) := by rw [drop_cons (byte_at ha), h34]
  have hlen : (s.data.toList.drop a).length = s.size - a := by rw [List.length_drop, size_toList]
  by_cases h0 : quotedR (s.data.toList.drop a) = 0
  · have e : strW ((s.data.toList.drop a).take (quotedN (s.data.toList.drop a))) = badW 14 := by rw [hc] at h0 ⊢; exact str_none h0
    rw [e]
    exact Lstr_none s a w hs ha h0
  · have hs2 : quotedN (s.data.toList.drop a) = quotedR (s.data.toList.drop a) ∧ quotedR (s.data.toList.drop a) ≤ (s.data.toList.drop a).length := by
      have := str_some (r := s.data.toList.drop (a + 1)) (by rw [← hc]; exact h0)
      rw [← hc] at this; exact this
    obtain ⟨n, hn⟩ : ∃ n, quotedR (s.data.toList.drop a) = n := ⟨_, rfl⟩
    rw [hs2.1, hn]
    rw [hn] at h0 hs2
    have hle : a + n ≤ s.size := by omega
    have hqs : (s.extract a (a + n)).size ≤ 1048576 := by rw [← size_toList, extract_at, List.length_take]; omega
    have ex := extract_at s a n
    have hsz : ((s.data.toList.drop a).take n).length = n := by rw [List.length_take]; omega
    rw [← ex] at hsz ⊢
    rcases unq_codes (s.extract a (a + n)).data.toList with h | h | h
    · refine (Lstr_else s a n w hs ha hn h0 hle _ rfl hqs _ rfl 0 h (by decide)).mono ?_
      rintro e w' ⟨rfl, hb⟩
      unfold strW
      rw [if_pos h]
      exact ⟨_, _, _, _, rfl, fun _ => ⟨rfl, rfl, rfl, by show (n : Int) = _; rw [hsz]⟩, hb⟩
    · refine (Lstr_else s a n w hs ha hn h0 hle _ rfl hqs _ rfl 3 h (by decide)).mono ?_
      rintro e w' ⟨rfl, hb⟩
      unfold strW
      rw [if_neg (by rw [h]; decide), h]
      exact bad_gives (by decide) hb
    · unfold strW
      rw [if_neg (by rw [h]; decide), h]
      exact Lstr_form s a n w hs ha hn h0 hle _ rfl hqs h
set_option maxHeartbeats 2000000 in
/-- The loop of digits, and what is behind. -/
theorem Lnumber_all (s : ByteArray) (a n : Nat) (w : World) (hs : s.size ≤ 1048576) (ha : a < s.size) (hn : ((s.data.toList.drop a).takeWhile digitB).length = n) (hle : a + n ≤ s.size) (q : ByteArray) (hq : s.extract a (a + n) = q) (hqs : q.size ≤ 1048576) (v : Int) (hV : parseV q.data.toList = v) (E : Int) (hE : parseE q.data.toList = E)
    (ans : Value) (h1 : (E = 4 ∨ ∃ c, (s.data.toList.drop a)[n]? = some c ∧ letterB c = true) → ans = .tuple #[.agg (tokV 0 ⟨#[]⟩ 0 0), .int .i64 0, .int .i64 14]) (h2 : ¬ (E = 4 ∨ ∃ c, (s.data.toList.drop a)[n]? = some c ∧ letterB c = true) → ans = .tuple #[.agg (tokV 2 q v 0), .int .i64 n, .int .i64 E]) :
    Calls Tryz.prog 78 #[.string s, .int .i64 a] w fun e w' => e = .returned ans ∧ Below w.heap.size w w' := by
  have hl : (s.data.toList.drop a).length = s.size - a := by rw [List.length_drop, size_toList]
  have HL := Lib.hid hl
  have HN := Lib.hid hn
  have H1 := Lib.hid h1
  have H2 := Lib.hid h2
  have U := fun w => RParse_any q w (by omega)
  rw [hV, hE] at U
  have U := Lib.hid U
  clear hl hn h1 h2 hV hE
  go_enter Tryz.func78, Tryz.ntmps78
  go_wp2_with fail
  go_loop [7] (fun i => ∃ k : Nat, a + k ≤ s.size ∧ i = .int .i64 k ∧ Hid (((s.data.toList.drop a).take k).all digitB = true)) (fun i => s.size - (intOf i).toNat)
  case atStart => exact ⟨0, by omega, rfl, by simp [Hid]⟩
  case round =>
    obtain ⟨k, hk, rfl, hall⟩ := hrel
    have stop : ∀ (hx : s.size ≤ a + k ∨ ∃ c, (s.data.toList.drop a)[k]? = some c ∧ digitB c = false), k = n := by
      intro hx
      rw [← HN.out]
      refine (takeWhile_upto (p := digitB) (by rw [HL.out]; omega) hall.out ?_).symm
      rcases hx with h | h
      · exact .inl (by rw [HL.out]; omega)
      · exact .inr h
    have ST := Lib.hid stop
    clear stop
    by_cases hlt : a + k < s.size
    · have hget := Lib.hid (drop_at hlt)
      have q1 : decide ((a : Int) + (k : Int) < (s.size : Int)) = true := decide_eq_true (by omega)
      have D := Ldigit_any s[a + k]
      cases hD : digitB s[a + k] with
      | true =>
        rw [hD] at D
        have D := Lib.hid D
        have R := Lib.hid (all_snoc hall.out hget.out hD)
        go_wp2_with (go_at_call 77; refine (D.out _).mono ?_; rintro e w1 ⟨rfl, hq⟩; obtain rfl := hq.symm)
        go_round
        case rel => exact ⟨k + 1, by omega, by go_num, R⟩
        case measure => simp [intOf]; omega
      | false =>
        obtain rfl := ST.out (.inr ⟨_, hget.out, hD⟩)
        rw [hD] at D
        have D := Lib.hid D
        have L := Lletter_any s[a + k]
        by_cases h4 : E = 4
        · have hb := Lib.hid (H1.out (.inl h4))
          have e4 : (E == 4) = true := beq_iff_eq.2 h4
          clear h4
          go_wp2_with (first
            | (go_at_call 77; refine (D.out _).mono ?_; rintro e w1 ⟨rfl, hq⟩; obtain rfl := hq.symm)
            | (go_at_call 115; refine (U.out _).mono ?_; rintro e w1 ⟨rfl, hq⟩; obtain rfl := hq.symm))
          refine ret_tok_tmp2 rfl rfl (v0 := .int .i64 0) (v1 := .string ⟨#[]⟩) (v2 := .int .i64 0) (v3 := .int .i64 0) (by simp [go_sem]) (by simp [go_sem]) (by simp [go_sem]) (by simp [go_sem]) rfl ?_
          exact ⟨ret_eq hb.out.symm, (Below.refl _ _).alloc (Nat.le_refl _) _⟩
        · have e4 : (E == 4) = false := beq_eq_false_iff_ne.2 h4
          cases hL : letterB s[a + k] with
          | true =>
            rw [hL] at L
            have L := Lib.hid L
            have hb := Lib.hid (H1.out (.inr ⟨_, hget.out, hL⟩))
            go_wp2_with (first
              | (go_at_call 77; refine (D.out _).mono ?_; rintro e w1 ⟨rfl, hq⟩; obtain rfl := hq.symm)
              | (go_at_call 74; refine (L.out _).mono ?_; rintro e w1 ⟨rfl, hq⟩; obtain rfl := hq.symm)
              | (go_at_call 115; refine (U.out _).mono ?_; rintro e w1 ⟨rfl, hq⟩; obtain rfl := hq.symm))
            refine ret_tok_tmp2 rfl rfl (v0 := .int .i64 0) (v1 := .string ⟨#[]⟩) (v2 := .int .i64 0) (v3 := .int .i64 0) (by simp [go_sem]) (by simp [go_sem]) (by simp [go_sem]) (by simp [go_sem]) rfl ?_
            exact ⟨ret_eq hb.out.symm, (Below.refl _ _).alloc (Nat.le_refl _) _⟩
          | false =>
            rw [hL] at L
            have L := Lib.hid L
            have hb := Lib.hid (H2.out (fun h => by
              rcases h with h | ⟨c, hc, h⟩
              · exact h4 h
              · rw [hget.out] at hc; cases hc; rw [hL] at h; cases h))
            go_wp2_with (first
              | (go_at_call 77; refine (D.out _).mono ?_; rintro e w1 ⟨rfl, hq⟩; obtain rfl := hq.symm)
              | (go_at_call 74; refine (L.out _).mono ?_; rintro e w1 ⟨rfl, hq⟩; obtain rfl := hq.symm)
              | (go_at_call 115; refine (U.out _).mono ?_; rintro e w1 ⟨rfl, hq⟩; obtain rfl := hq.symm))
            refine ret_tok_tmp2 rfl rfl (v0 := .int .i64 2) (v1 := .string q) (v2 := .int .i64 v) (v3 := .int .i64 0) (by simp [go_sem]) (by simp [go_sem]) (by simp [go_sem]) (by simp [go_sem]) rfl ?_
            exact ⟨ret_eq hb.out.symm, (Below.refl _ _).alloc (Nat.le_refl _) _⟩
    · obtain rfl := ST.out (.inl (by omega))
      have q1 : decide ((a : Int) + (k : Int) < (s.size : Int)) = false := decide_eq_false (by omega)
      have hno : ¬ ∃ c, (s.data.toList.drop a)[k]? = some c ∧ letterB c = true := by
        rintro ⟨c, hc, _⟩
        rw [List.getElem?_eq_none (by rw [HL.out]; omega)] at hc; cases hc
      by_cases h4 : E = 4
      · have hb := Lib.hid (H1.out (.inl h4))
        have e4 : (E == 4) = true := beq_iff_eq.2 h4
        clear h4 hno
        go_wp2_with (go_at_call 115; refine (U.out _).mono ?_; rintro e w1 ⟨rfl, hq⟩; obtain rfl := hq.symm)
        refine ret_tok_tmp2 rfl rfl (v0 := .int .i64 0) (v1 := .string ⟨#[]⟩) (v2 := .int .i64 0) (v3 := .int .i64 0) (by simp [go_sem]) (by simp [go_sem]) (by simp [go_sem]) (by simp [go_sem]) rfl ?_
        exact ⟨ret_eq hb.out.symm, (Below.refl _ _).alloc (Nat.le_refl _) _⟩
      · have e4 : (E == 4) = false := beq_eq_false_iff_ne.2 h4
        have hb := Lib.hid (H2.out (fun h => h.elim h4 hno))
        clear hno
        go_wp2_with (go_at_call 115; refine (U.out _).mono ?_; rintro e w1 ⟨rfl, hq⟩; obtain rfl := hq.symm)
        refine ret_tok_tmp2 rfl rfl (v0 := .int .i64 2) (v1 := .string q) (v2 := .int .i64 v) (v3 := .int .i64 0) (by simp [go_sem]) (by simp [go_sem]) (by simp [go_sem]) (by simp [go_sem]) rfl ?_
        exact ⟨ret_eq hb.out.symm, (Below.refl _ _).alloc (Nat.le_refl _) _⟩
/-- tallowref04.number. -/
theorem Lnumber_any (s : ByteArray) (a : Nat) (w : World) (hs : s.size ≤ 1048576) (ha : a < s.size) (hd : digitB s[a] = true) :
    Calls Tryz.prog 78 #[.string s, .int .i64 a] w (GivesW (intW ((s.data.toList.drop a).takeWhile nameB)) w) := by
  have hc : s.data.toList.drop a = s[a] :: s.data.toList.drop (a + 1) := drop_cons (byte_at ha)
  have hlen : (s.data.toList.drop a).length = s.size - a := by rw [List.length_drop, size_toList]
  obtain ⟨n, hn⟩ : ∃ n, ((s.data.toList.drop a).takeWhile digitB).length = n := ⟨_, rfl⟩
  have hle : a + n ≤ s.size := by have := takeWhile_le digitB (s.data.toList.drop a); omega
  have hqs : (s.extract a (a + n)).size ≤ 1048576 := by rw [← size_toList, extract_at, List.length_take]; omega
  have ex : (s.extract a (a + n)).data.toList = (s.data.toList.drop a).takeWhile digitB := by
    rw [extract_at, ← hn]; exact (List.prefix_iff_eq_take.1 (List.takeWhile_prefix _)).symm
  have hh : (s.data.toList.drop a).head? = some s[a] := by rw [hc]; rfl
  by_cases hbad : parseE (s.extract a (a + n)).data.toList = 4 ∨ ∃ c, (s.data.toList.drop a)[n]? = some c ∧ letterB c = true
  · have e : intW ((s.data.toList.drop a).takeWhile nameB) = badW 14 := by
      by_cases hl : ∃ c, (s.data.toList.drop a)[n]? = some c ∧ nameB c = true
      · obtain ⟨c, h1, h2⟩ := hl
        exact int_letter (c := c) hh hd (by rw [hn, List.head?_drop]; exact h1) h2
      · have e4 := hbad.resolve_right (fun ⟨c, h1, h2⟩ => hl ⟨c, h1, by unfold nameB; rw [h2]; rfl⟩)
        have ew : (s.data.toList.drop a).takeWhile nameB = (s.data.toList.drop a).takeWhile digitB := by
          cases hq : (s.data.toList.drop a)[n]? with
          | none => exact takeWhile_all (by rw [hn]; exact List.drop_eq_nil_of_le (List.getElem?_eq_none_iff.1 hq))
          | some c => exact takeWhile_name (c := c) (by rw [hn, List.head?_drop]; exact hq) (by cases g : nameB c with | false => rfl | true => exact absurd ⟨c, hq, g⟩ hl)
        rw [ew, ← ex]
        unfold intW
        rw [if_neg (by rw [e4]; decide), e4]; rfl
    rw [e]
    refine (Lnumber_all s a n w hs ha hn hle _ rfl hqs _ rfl _ rfl _ (fun _ => rfl) (fun h => absurd hbad h)).mono ?_
    rintro e w' ⟨rfl, hb⟩
    exact bad_gives (by decide) hb
  · have hl : ¬ ∃ c, (s.data.toList.drop a)[n]? = some c ∧ nameB c = true := by
      rintro ⟨c, h1, h2⟩
      unfold nameB at h2
      rcases Bool.or_eq_true_iff.1 h2 with g | g
      · exact hbad (.inr ⟨c, h1, g⟩)
      · have e2 : (s.data.toList.drop a).takeWhile digitB = (s.data.toList.drop a).takeWhile digitB ++ ((s.data.toList.drop a).drop n).takeWhile digitB := by
          have e : s.data.toList.drop a = (s.data.toList.drop a).takeWhile digitB ++ (s.data.toList.drop a).drop n := by
            conv => lhs; rw [← List.take_append_drop n (s.data.toList.drop a)]
            rw [← hn, ← List.prefix_iff_eq_take.1 (List.takeWhile_prefix _)]
          conv => lhs; rw [e]
          rw [List.takeWhile_append_of_pos (fun x hx => mem_tw hx)]
        have h3 := congrArg List.length e2
        rw [List.length_append, drop_cons h1, List.takeWhile_cons, g] at h3
        simp at h3
    have ew : (s.data.toList.drop a).takeWhile nameB = (s.data.toList.drop a).takeWhile digitB := by
      cases hq : (s.data.toList.drop a)[n]? with
      | none => exact takeWhile_all (by rw [hn]; exact List.drop_eq_nil_of_le (List.getElem?_eq_none_iff.1 hq))
      | some c => exact takeWhile_name (c := c) (by rw [hn, List.head?_drop]; exact hq) (by cases g : nameB c with | false => rfl | true => exact absurd ⟨c, hq, g⟩ hl)
    rw [ew]
    refine (Lnumber_all s a n w hs ha hn hle _ rfl hqs _ rfl _ rfl _ (fun h => absurd h hbad) (fun _ => rfl)).mono ?_
    rintro e w' ⟨rfl, hb⟩
    unfold intW
    rw [ex] at hbad ⊢
    by_cases h0 : parseE ((s.data.toList.drop a).takeWhile digitB) = 0
    · rw [if_pos h0, h0]
      exact ⟨_, _, _, _, rfl, fun _ => ⟨rfl, by rw [← ex], rfl, by rw [hn]⟩, hb⟩
    · rw [if_neg h0]
      have h15 := (parse_none h0).2.resolve_left (fun h => hbad (.inl h))
      rw [h15]
      exact bad_gives (by decide) hb
end Go.Proofs.YtebkdegcifkigaaGreatDoor
namespace Go.Proofs.YtebkdegcifkigaaGreatDoor
set_option maxRecDepth 20000
set_option maxRecDepth 20000
open Go.RowKit

theorem letter_of {c : UInt8} (h1 : digitB c = false) (h2 : nameB c = true) : letterB c = true := by
  unfold nameB at h2; rw [h1, Bool.or_false] at h2; exact h2
theorem not_letter {c : UInt8} (h : digitB c = true) : letterB c = false := by
  have h := digitB_iff.1 h
  unfold letterB
  rw [Bool.eq_false_iff]
  intro g
  simp at g
  omega
theorem letter_not {c : UInt8} (h : nameB c = false) : letterB c = false := by
  unfold nameB at h
  exact (Bool.or_eq_false_iff.1 h).1
set_option maxHeartbeats 2000000 in
theorem Lword_long (s : ByteArray) (a n : Nat) (w : World) (hs : s.size ≤ 1048576) (ha : a < s.size) (hL : letterB s[a] = true) (hn : ((s.data.toList.drop a).takeWhile nameB).length = n) (h24 : 24 < n) :
    Calls Tryz.prog 41 #[.string s, .int .i64 a] w (GivesW (badW 14) w) := by
  have L := Lletter_any s[a]
  rw [hL] at L
  have L := Lib.hid L
  have R := fun w => Lrun_any s a w hs (by omega)
  rw [hn] at R
  have R := Lib.hid R
  have i0 := index_at s a ha
  go_enter Tryz.func41, Tryz.ntmps41
  go_wp2_with (first
    | (go_at_call 74; refine (L.out _).mono ?_; rintro e w1 ⟨rfl, hq⟩; obtain rfl := hq.symm)
    | (go_at_call 75; refine (R.out _).mono ?_; rintro e w1 ⟨rfl, hq⟩; obtain rfl := hq.symm))
  refine ret_tok_tmp2 rfl rfl (v0 := .int .i64 0) (v1 := .string ⟨#[]⟩) (v2 := .int .i64 0) (v3 := .int .i64 0) (by simp [go_sem]) (by simp [go_sem]) (by simp [go_sem]) (by simp [go_sem]) rfl ?_
  exact bad_gives (by decide) ((Below.refl _ _).alloc (Nat.le_refl _) _)
set_option maxHeartbeats 2000000 in
theorem Lword_name (s : ByteArray) (a n : Nat) (w : World) (hs : s.size ≤ 1048576) (ha : a < s.size) (hL : letterB s[a] = true) (hn : ((s.data.toList.drop a).takeWhile nameB).length = n) (h24 : n ≤ 24) (hle : a + n ≤ s.size) (q : ByteArray) (hq : s.extract a (a + n) = q) (b : Bool) (hb : reservedB q.data.toList = b) :
    Calls Tryz.prog 41 #[.string s, .int .i64 a] w fun e w' => e = .returned (.tuple #[.agg (tokV (if b then 4 else 1) q 0 0), .int .i64 n, .int .i64 0]) ∧ Below w.heap.size w w' := by
  have L := Lletter_any s[a]
  rw [hL] at L
  have L := Lib.hid L
  have R := fun w => Lrun_any s a w hs (by omega)
  rw [hn] at R
  have R := Lib.hid R
  have V := LReserved_any q
  rw [hb] at V
  have V := Lib.hid V
  have i0 := index_at s a ha
  cases b with
  | true =>
    go_enter Tryz.func41, Tryz.ntmps41
    go_wp2_with (first
      | (go_at_call 74; refine (L.out _).mono ?_; rintro e w1 ⟨rfl, hq⟩; obtain rfl := hq.symm)
      | (go_at_call 75; refine (R.out _).mono ?_; rintro e w1 ⟨rfl, hq⟩; obtain rfl := hq.symm)
      | (go_at_call 76; refine (V.out _).mono ?_; rintro e w2 ⟨rfl, hb2⟩; obtain ⟨p0, p1, p2, p3, d0, d1, d2, d3⟩ := token_mine hb2; have B2 := Lib.hid (below_box hb2); clear hb2))
    refine ret_tok_tmp2 rfl rfl (v0 := .int .i64 4) (v1 := .string q) (v2 := .int .i64 0) (v3 := .int .i64 0) (by simp [go_sem, p0]) (by simp [go_sem, p1]) (by simp [go_sem, p2]) (by simp [go_sem, p3]) rfl ?_
    exact ⟨rfl, setTok B2.out (Nat.le_refl _) _ _ _ _⟩
  | false =>
    go_enter Tryz.func41, Tryz.ntmps41
    go_wp2_with (first
      | (go_at_call 74; refine (L.out _).mono ?_; rintro e w1 ⟨rfl, hq⟩; obtain rfl := hq.symm)
      | (go_at_call 75; refine (R.out _).mono ?_; rintro e w1 ⟨rfl, hq⟩; obtain rfl := hq.symm)
      | (go_at_call 76; refine (V.out _).mono ?_; rintro e w2 ⟨rfl, hb2⟩; obtain ⟨p0, p1, p2, p3, d0, d1, d2, d3⟩ := token_mine hb2; have B2 := Lib.hid (below_box hb2); clear hb2))
    refine ret_tok_tmp2 rfl rfl (v0 := .int .i64 1) (v1 := .string q) (v2 := .int .i64 0) (v3 := .int .i64 0) (by simp [go_sem, p0]) (by simp [go_sem, p1]) (by simp [go_sem, p2]) (by simp [go_sem, p3]) rfl ?_
    exact ⟨rfl, setTok B2.out (Nat.le_refl _) _ _ _ _⟩
set_option maxHeartbeats 2000000 in
theorem Lword_int (s : ByteArray) (a : Nat) (w : World) (ha : a < s.size) (hL : letterB s[a] = false) (hD : digitB s[a] = true) (W : Word)
    (N : Hid (∀ w, Calls Tryz.prog 78 #[.string s, .int .i64 a] w (GivesW W w))) :
    Calls Tryz.prog 41 #[.string s, .int .i64 a] w (GivesW W w) := by
  have L := Lletter_any s[a]
  rw [hL] at L
  have L := Lib.hid L
  have D := Ldigit_any s[a]
  rw [hD] at D
  have D := Lib.hid D
  have i0 := index_at s a ha
  go_enter Tryz.func41, Tryz.ntmps41
  go_wp2_with (first
    | (go_at_call 74; refine (L.out _).mono ?_; rintro e w1 ⟨rfl, hq⟩; obtain rfl := hq.symm)
    | (go_at_call 77; refine (D.out _).mono ?_; rintro e w1 ⟨rfl, hq⟩; obtain rfl := hq.symm)
    | (go_at_call 78; refine (N.out _).mono ?_; rintro e w2 ⟨k, x, n, z, rfl, hW, hb2⟩; obtain ⟨p0, p1, p2, p3, d0, d1, d2, d3⟩ := token_mine hb2; have B2 := Lib.hid (below_box hb2); have HW := Lib.hid hW; clear hb2 hW))
  refine ret_tok_tmp2 rfl rfl (v0 := .int .i64 k) (v1 := .string x) (v2 := .int .i64 n) (v3 := .int .i64 0) (by simp [go_sem, p0]) (by simp [go_sem, p1]) (by simp [go_sem, p2]) (by simp [go_sem, p3]) rfl ?_
  exact ⟨k, x, n, z, rfl, HW.out, setTok B2.out (Nat.le_refl _) _ _ _ _⟩
set_option maxHeartbeats 2000000 in
theorem Lword_str (s : ByteArray) (a : Nat) (w : World) (ha : a < s.size) (hL : letterB s[a] = false) (hD : digitB s[a] = false) (h34 : s[a] = 34) (W : Word)
    (N : Hid (∀ w, Calls Tryz.prog 79 #[.string s, .int .i64 a] w (GivesW W w))) :
    Calls Tryz.prog 41 #[.string s, .int .i64 a] w (GivesW W w) := by
  have L := Lletter_any s[a]
  rw [hL] at L
  have L := Lib.hid L
  have D := Ldigit_any s[a]
  rw [hD] at D
  have D := Lib.hid D
  have i0 := index_at s a ha
  have q34 : ((s[a].toNat : Int) == 34) = true := beq_byte h34
  clear h34
  go_enter Tryz.func41, Tryz.ntmps41
  go_wp2_with (first
    | (go_at_call 74; refine (L.out _).mono ?_; rintro e w1 ⟨rfl, hq⟩; obtain rfl := hq.symm)
    | (go_at_call 77; refine (D.out _).mono ?_; rintro e w1 ⟨rfl, hq⟩; obtain rfl := hq.symm)
    | (go_at_call 79; refine (N.out _).mono ?_; rintro e w2 ⟨k, x, n, z, rfl, hW, hb2⟩; obtain ⟨p0, p1, p2, p3, d0, d1, d2, d3⟩ := token_mine hb2; have B2 := Lib.hid (below_box hb2); have HW := Lib.hid hW; clear hb2 hW))
  refine ret_tok_tmp2 rfl rfl (v0 := .int .i64 k) (v1 := .string x) (v2 := .int .i64 n) (v3 := .int .i64 0) (by simp [go_sem, p0]) (by simp [go_sem, p1]) (by simp [go_sem, p2]) (by simp [go_sem, p3]) rfl ?_
  exact ⟨k, x, n, z, rfl, HW.out, setTok B2.out (Nat.le_refl _) _ _ _ _⟩
set_option maxHeartbeats 2000000 in
theorem Lword_sign (s : ByteArray) (a n : Nat) (w : World) (hs : s.size ≤ 1048576) (ha : a < s.size) (hL : letterB s[a] = false) (hD : digitB s[a] = false) (h34 : s[a] ≠ 34) (hn : (signL (s.data.toList.drop a)).length = n) (hle : a + n ≤ s.size) (q : ByteArray) (hq : s.extract a (a + n) = q) (W : Word)
    (h0 : n = 0 → W = badW 14) (h1 : n ≠ 0 → W = ⟨0, 4, q.data.toList, 0, n⟩) :
    Calls Tryz.prog 41 #[.string s, .int .i64 a] w (GivesW W w) := by
  have L := Lletter_any s[a]
  rw [hL] at L
  have L := Lib.hid L
  have D := Ldigit_any s[a]
  rw [hD] at D
  have D := Lib.hid D
  have G := fun w => Lsign_any s a w hs ha
  rw [hn] at G
  have G := Lib.hid G
  have i0 := index_at s a ha
  have q34 : ((s[a].toNat : Int) == 34) = false := bne_byte h34
  clear hn
  by_cases hn0 : n = 0
  · rw [h0 hn0]
    have n0 : ((n : Int) == 0) = true := beq_iff_eq.2 (by omega)
    clear h0 h1 hn0
    go_enter Tryz.func41, Tryz.ntmps41
    go_wp2_with (first
      | (go_at_call 74; refine (L.out _).mono ?_; rintro e w1 ⟨rfl, hq⟩; obtain rfl := hq.symm)
      | (go_at_call 77; refine (D.out _).mono ?_; rintro e w1 ⟨rfl, hq⟩; obtain rfl := hq.symm)
      | (go_at_call 80; refine (G.out _).mono ?_; rintro e w2 ⟨rfl, hb2⟩; obtain ⟨p0, p1, p2, p3, d0, d1, d2, d3⟩ := token_mine hb2; have B2 := Lib.hid (below_box hb2); clear hb2))
    refine ret_tok_tmp2 rfl rfl (v0 := .int .i64 0) (v1 := .string ⟨#[]⟩) (v2 := .int .i64 0) (v3 := .int .i64 0) (by simp [go_sem, p0]) (by simp [go_sem, p1]) (by simp [go_sem, p2]) (by simp [go_sem, p3]) rfl ?_
    exact bad_gives (by decide) (setTok B2.out (Nat.le_refl _) _ _ _ _)
  · rw [h1 hn0]
    have n0 : ((n : Int) == 0) = false := beq_eq_false_iff_ne.2 (by omega)
    clear h0 h1 hn0
    go_enter Tryz.func41, Tryz.ntmps41
    go_wp2_with (first
      | (go_at_call 74; refine (L.out _).mono ?_; rintro e w1 ⟨rfl, hq⟩; obtain rfl := hq.symm)
      | (go_at_call 77; refine (D.out _).mono ?_; rintro e w1 ⟨rfl, hq⟩; obtain rfl := hq.symm)
      | (go_at_call 80; refine (G.out _).mono ?_; rintro e w2 ⟨rfl, hb2⟩; obtain ⟨p0, p1, p2, p3, d0, d1, d2, d3⟩ := token_mine hb2; have B2 := Lib.hid (below_box hb2); clear hb2))
    refine ret_tok_tmp2 rfl rfl (v0 := .int .i64 4) (v1 := .string q) (v2 := .int .i64 0) (v3 := .int .i64 0) (by simp [go_sem, p0]) (by simp [go_sem, p1]) (by simp [go_sem, p2]) (by simp [go_sem, p3]) rfl ?_
    exact ⟨4, q, 0, n, rfl, fun _ => ⟨rfl, rfl, rfl, rfl⟩, setTok B2.out (Nat.le_refl _) _ _ _ _⟩
/-- tallowref04.word. -/
theorem Lword_any (s : ByteArray) (a : Nat) (w : World) (hs : s.size ≤ 1048576) (ha : a < s.size) (hk : kindL (s.data.toList.drop a) ≠ 0) :
    Calls Tryz.prog 41 #[.string s, .int .i64 a] w (GivesW (wordL (s.data.toList.drop a)) w) := by
  have hc : s.data.toList.drop a = s[a] :: s.data.toList.drop (a + 1) := drop_cons (byte_at ha)
  have hlen : (s.data.toList.drop a).length = s.size - a := by rw [List.length_drop, size_toList]
  have hk2 := kind_cases s[a] (s.data.toList.drop (a + 1))
  rw [← hc] at hk2
  unfold wordL
  rcases hk2 with ⟨_, e⟩ | ⟨_, ⟨h1, e⟩ | ⟨h1, h2, e⟩ | ⟨h1, h2, h3, e⟩ | ⟨h1, h2, h3, e⟩⟩
  · exact absurd e hk
  · rw [e]
    show Calls _ _ _ _ (GivesW (intW (headL 2 (s.data.toList.drop a))) w)
    have eh : headL 2 (s.data.toList.drop a) = (s.data.toList.drop a).takeWhile nameB := by unfold headL; rw [if_pos (by omega)]
    rw [eh]
    exact Lword_int s a w ha (not_letter h1) h1 _ (Lib.hid fun w => Lnumber_any s a w hs ha h1)
  · rw [e]
    show Calls _ _ _ _ (GivesW (nameW (headL 1 (s.data.toList.drop a))) w)
    have eh : headL 1 (s.data.toList.drop a) = (s.data.toList.drop a).takeWhile nameB := by unfold headL; rw [if_pos (by omega)]
    rw [eh]
    obtain ⟨n, hn⟩ : ∃ n, ((s.data.toList.drop a).takeWhile nameB).length = n := ⟨_, rfl⟩
    have hle : a + n ≤ s.size := by have := takeWhile_le nameB (s.data.toList.drop a); omega
    unfold nameW
    by_cases h24 : 24 < n
    · rw [if_pos (by omega)]
      exact Lword_long s a n w hs ha (letter_of h1 h2) hn h24
    · rw [if_neg (by omega)]
      have ex : (s.extract a (a + n)).data.toList = (s.data.toList.drop a).takeWhile nameB := by
        rw [extract_at, ← hn]; exact (List.prefix_iff_eq_take.1 (List.takeWhile_prefix _)).symm
      refine (Lword_name s a n w hs ha (letter_of h1 h2) hn (by omega) hle _ rfl _ rfl).mono ?_
      rintro e w' ⟨rfl, hb⟩
      rw [← ex]
      exact ⟨_, _, _, _, rfl, fun _ => ⟨rfl, rfl, rfl, by show (n : Int) = _; rw [ex, hn]⟩, hb⟩
  · rw [e]
    show Calls _ _ _ _ (GivesW (strW (headL 3 (s.data.toList.drop a))) w)
    have eh : headL 3 (s.data.toList.drop a) = (s.data.toList.drop a).take (quotedN (s.data.toList.drop a)) := by unfold headL; rw [if_neg (by omega), if_pos rfl]
    rw [eh]
    exact Lword_str s a w ha (letter_not h2) h1 h3 _ (Lib.hid fun w => Lstr_any s a w hs ha h3)
  · rw [e]
    show Calls _ _ _ _ (GivesW (signW (headL 4 (s.data.toList.drop a))) w)
    have eh : headL 4 (s.data.toList.drop a) = signL (s.data.toList.drop a) := by unfold headL; rw [if_neg (by omega), if_neg (by omega)]
    have ht := head_take 4 (s.data.toList.drop a)
    rw [eh] at ht ⊢
    obtain ⟨n, hn⟩ : ∃ n, (signL (s.data.toList.drop a)).length = n := ⟨_, rfl⟩
    have hle2 : n ≤ (s.data.toList.drop a).length := by rw [← hn, ← ht, List.length_take]; omega
    have ex : (s.extract a (a + n)).data.toList = signL (s.data.toList.drop a) := by rw [extract_at, ← hn]; exact ht
    refine Lword_sign s a n w hs ha (letter_not h2) h1 h3 hn (by omega) _ rfl _ (fun h0 => ?_) (fun h0 => ?_)
    · unfold signW; rw [if_pos (List.length_eq_zero_iff.1 (by omega))]
    · unfold signW; rw [if_neg (fun e => h0 (by rw [← hn, e]; rfl)), ex, hn]
end Go.Proofs.YtebkdegcifkigaaGreatDoor
namespace Go.Proofs.YtebkdegcifkigaaGreatDoor
set_option maxRecDepth 20000
set_option maxRecDepth 20000
open Go.RowKit

/-- What tallowref04.Tokens hands back. -/
def GivesR (r : Lexed) (w : World) (e : Ending) (w' : World) : Prop :=
  (r.err = 0 ∧ ∃ v, e = .returned (.tuple #[v, .agg #[.int .i64 0, .int .i64 0]]) ∧ TokRow w.heap.size v r.toks w' ∧ Below w.heap.size w w') ∨
  (r.err ≠ 0 ∧ e = .returned (.tuple #[.slice none 0 0, .agg #[.int .i64 r.err, .int .i64 r.line]]) ∧ Below w.heap.size w w')
theorem load_fault {W : World} {b : Nat} {v0 v1 : Value} (h0 : W.cell? ⟨b, 0, none⟩ = some v0) (h1 : W.cell? ⟨b, 1, none⟩ = some v1) : (loadVar 31 ⟨b, 0, none⟩).run Tryz.prog W = .ok (.agg #[v0, v1]) W := by
  have ha := Tryz.isAgg31
  simp only [loadVar, Sem.run_bind, ha, Result.andThen]
  simp [go_sem, h0, h1]
theorem results_tmp_cell {fn : Func} {p u : Tmp} {ty : TypeId} (h : fn.results = #[.tmp u, .cell p ty]) (tmps : Array Value) (P : Program) (w : World) :
    (results fn tmps).run P w = ((asAddr (tmps.getD p undef)).run P w).andThen fun a w1 => ((loadVar ty a).run P w1).andThen fun x w2 => .ok (.tuple #[tmps.getD u undef, x]) w2 := by
  simp only [results, h]
  simp [Sem.run_bind, Result.andThen]
theorem ret_tmp_fault {fn : Func} {R : Ending → World → Prop} {a : Act} {W : World} {p u : Tmp} {b : Nat} {v0 v1 : Value} (h : fn.results = #[.tmp u, .cell p 31]) (hp : a.tmps.getD p undef = .pointer (some ⟨b, 0, none⟩))
    (h0 : W.cell? ⟨b, 0, none⟩ = some v0) (h1 : W.cell? ⟨b, 1, none⟩ = some v1) (hd : a.defers = []) (hR : R (.returned (.tuple #[a.tmps.getD u undef, .agg #[v0, v1]])) W) : bodyPost Tryz.prog fn R .ret a W := by
  refine bodyPost_ret (v := .tuple #[a.tmps.getD u undef, .agg #[v0, v1]]) ?_ hd hR
  rw [results_tmp_cell h, hp]
  simp only [asAddr, Sem.run_pure, Result.andThen_ok, load_fault h0 h1]
theorem LTokens_long (s : ByteArray) (w : World) (h : 32768 < s.size) : Calls Tryz.prog 25 #[.string s] w (GivesR ⟨[], 3, 0⟩ w) := by
  go_enter Tryz.func25, Tryz.ntmps25
  go_wp2_with fail
  refine ret_tmp_fault rfl rfl (v0 := .int .i64 3) (v1 := .int .i64 0) (by simp [go_sem]) (by simp [go_sem]) rfl ?_
  exact .inr ⟨by decide, rfl, (Below.refl _ _).alloc (Nat.le_refl _) _⟩
/-- A blank alone; a remark. -/
theorem blank_not {c : UInt8} {r : List UInt8} (h : blankB c = true) : Lib.hasPrefix (c :: r) [45, 45] = false := by
  rw [prefix_take]
  refine beq_eq_false_iff_ne.2 fun e => ?_
  have : c = 45 := by
    have := congrArg List.head? e
    simpa using this
  subst this; revert h; decide
theorem kind_blank {c : UInt8} {r : List UInt8} (h : blankB c = true) : kindL (c :: r) = 0 := by
  unfold kindL; simp only []; rw [if_pos (.inl h)]
theorem tokL_run : ∀ (r : List UInt8) (l : Nat), tokL r l = tokL (r.drop (r.takeWhile blankB).length) (l + (r.takeWhile blankB).count 10)
  | [], l => rfl
  | c :: r, l => by
    cases hb : blankB c with
    | false => rw [List.takeWhile_cons, hb]; simp
    | true =>
      rw [tokL_blank l (kind_blank hb)]
      unfold blanksL
      rw [blank_not hb]; simp
theorem tokL_space {c : UInt8} {r : List UInt8} (l : Nat) (h : blankB c = true) : tokL (c :: r) l = tokL r (l + if c = 10 then 1 else 0) := by
  rw [tokL_run (c :: r), tokL_run r, List.takeWhile_cons, h]
  simp only [if_pos, List.length_cons, List.drop_succ_cons, List.count_cons, beq_iff_eq]
  congr 1
  omega
theorem count_feed (r : List UInt8) : (r.takeWhile (· != 10)).count 10 = 0 := by
  rw [List.count_eq_zero]
  intro h
  have := mem_tw h
  revert this; decide
theorem tokL_remark {t : List UInt8} (l : Nat) (h : Lib.hasPrefix t [45, 45] = true) : tokL t l = tokL (t.drop (t.takeWhile (· != 10)).length) l := by
  have hk : kindL t = 0 := by
    match t, h with
    | c :: r, h => unfold kindL; simp only []; rw [if_pos (.inr h)]
  rw [tokL_blank l hk]
  unfold blanksL
  rw [if_pos h, count_feed, Nat.add_zero]
theorem blank_iff {c : UInt8} : blankB c = true ↔ c = 32 ∨ c = 9 ∨ c = 13 ∨ c = 10 := by
  unfold blankB
  simp only [Bool.or_eq_true, beq_iff_eq, ← UInt8.toNat_inj]
  simp [or_assoc]
/-- How far the text was gone through. -/
structure FarR (s : ByteArray) (w : World) (i line : Nat) (acc : List Tok) (v : Value) (wr : World) : Prop where
  row : TokRow (w.heap.size + 1) v acc wr
  c0 : wr.cell? ⟨w.heap.size, 0, none⟩ = some (.int .i64 0)
  c1 : wr.cell? ⟨w.heap.size, 1, none⟩ = some (.int .i64 0)
  f0 : wr.frozen? ⟨w.heap.size, 0, none⟩ = false
  f1 : wr.frozen? ⟨w.heap.size, 1, none⟩ = false
  below : Below w.heap.size w wr
  lt : w.heap.size < wr.heap.size
  goes : lexL s.data.toList = glueL acc (tokL (s.data.toList.drop i) line)
  inside : i ≤ s.size
  room : acc.length ≤ i
  lines : line ≤ i
theorem FarR.step {s : ByteArray} {w wr : World} {i j line line' : Nat} {acc : List Tok} {v : Value} (h : FarR s w i line acc v wr) (hij : i ≤ j) (hj : j ≤ s.size) (hl : line' ≤ j) (hg : tokL (s.data.toList.drop i) line = tokL (s.data.toList.drop j) line') : FarR s w j line' acc v wr :=
  { h with goes := by rw [h.goes, hg], inside := hj, room := Nat.le_trans h.room hij, lines := hl }
/-- Behind the end's token. -/
theorem FarR.finish {s : ByteArray} {w wr w2 w3 : World} {line : Nat} {acc : List Tok} {v v2 : Value} {o : Obj} (h : FarR s w s.size line acc v wr)
    (ho : w2.ownsRow (w.heap.size + 1) 66 4 v2 (acc.length + 1) (tokCells acc ++ [.int .i64 5, .string ⟨#[]⟩, .int .i64 0, .int .i64 line])) (hg : (wr.alloc o).grownBy w2 v.ownBlock)
    (h3 : w3 = (w2.setCell ⟨w.heap.size, 0, none⟩ (.int .i64 0)).setCell ⟨w.heap.size, 1, none⟩ (.int .i64 0)) :
    GivesR (lexL s.data.toList) w (.returned (.tuple #[v2, .agg #[.int .i64 0, .int .i64 0]])) w3 := by
  have e : lexL s.data.toList = ⟨acc ++ [⟨5, [], 0, line⟩], 0, line⟩ := by
    rw [h.goes, List.drop_eq_nil_of_le (by rw [size_toList]; omega), tokL_nil]; rfl
  rw [e, h3]
  have hb : Below w.heap.size w w2 := (h.below.alloc h.below.size o).grown hg (by have := h.below.size; simp; omega) fun k hk => by have := (h.row.own.lt k hk).1; omega
  exact .inl ⟨rfl, v2, rfl, (TokRow.mk (ownsRow_setCell_below (ownsRow_setCell_below (TokRow.more (t := ⟨5, [], 0, line⟩) ho).own (a := ⟨w.heap.size, 0, none⟩) (Nat.lt_succ_self _) _) (a := ⟨w.heap.size, 1, none⟩) (Nat.lt_succ_self _) _)).low (Nat.le_succ _), (hb.setCell (p := ⟨w.heap.size, 0, none⟩) (Nat.le_refl _) _).setCell (p := ⟨w.heap.size, 1, none⟩) (Nat.le_refl _) _⟩
/-- Behind a word. -/
theorem FarR.word {s : ByteArray} {w wr w2 wa w3 : World} {i line : Nat} {acc : List Tok} {v v2 : Value} (h : FarR s w i line acc v wr) (hi : i < s.size) (hk : kindL (s.data.toList.drop i) ≠ 0) (he : (wordL (s.data.toList.drop i)).err = 0)
    (hb : Below wr.heap.size wr w2) (hba : Below w2.heap.size w2 wa)
    (ho : w3.ownsRow (w.heap.size + 1) 66 4 v2 (acc.length + 1) (tokCells acc ++ [.int .i64 (wordL (s.data.toList.drop i)).kind, .string ⟨(wordL (s.data.toList.drop i)).text.toArray⟩, .int .i64 (wordL (s.data.toList.drop i)).num, .int .i64 line])) (hg : wa.grownBy w3 v.ownBlock) :
    FarR s w (i + (wordL (s.data.toList.drop i)).size) line (acc ++ [⟨(wordL (s.data.toList.drop i)).kind, (wordL (s.data.toList.drop i)).text, (wordL (s.data.toList.drop i)).num, line⟩]) v2 w3 ∧ 1 ≤ (wordL (s.data.toList.drop i)).size ∧ i + (wordL (s.data.toList.drop i)).size ≤ s.size := by
  have hlen : (s.data.toList.drop i).length = s.size - i := by rw [List.length_drop, size_toList]
  have hne : s.data.toList.drop i ≠ [] := fun e => by rw [e] at hlen; simp at hlen; omega
  have hp := word_pos hne hk he
  have hr := h.room
  have hl := h.lines
  have hlt := h.lt
  have h2 : w.heap.size < w2.heap.size := Nat.lt_of_lt_of_le hlt hb.size
  have ha : w.heap.size < wa.heap.size := Nat.lt_of_lt_of_le h2 hba.size
  have h3 := hg.size
  have cell3 : ∀ p : Addr, p.block = w.heap.size → w3.cell? p = wr.cell? p ∧ w3.frozen? p = wr.frozen? p := by
    intro p hpb
    have g := hg.block p.block (by omega) (fun e => by have := (h.row.own.lt _ e.symm).1; omega)
    exact ⟨(World.cell?_of_block g).trans ((hba.cell (by omega)).trans (hb.cell (by omega))), (World.frozen?_of_block g).trans ((hba.frozen (by omega)).trans (hb.frozen (by omega)))⟩
  refine ⟨⟨TokRow.more (t := ⟨_, _, _, line⟩) ho, (cell3 ⟨w.heap.size, 0, none⟩ rfl).1.trans h.c0, (cell3 ⟨w.heap.size, 1, none⟩ rfl).1.trans h.c1, (cell3 ⟨w.heap.size, 0, none⟩ rfl).2.trans h.f0, (cell3 ⟨w.heap.size, 1, none⟩ rfl).2.trans h.f1, ?_, by omega, ?_, by omega, ?_, by omega⟩, hp.1, by omega⟩
  · exact ((h.below.trans (hb.mono (by omega))).trans (hba.mono (by omega))).grown hg (by omega) fun k hk => by have := (h.row.own.lt k hk).1; omega
  · rw [h.goes, tokL_word line hne hk he, glue_push, List.drop_drop]
  · rw [List.length_append]; simp only [List.length_cons, List.length_nil]; omega
theorem FarR.bad {s : ByteArray} {w wr : World} {i line : Nat} {acc : List Tok} {v : Value} (h : FarR s w i line acc v wr) (hi : i < s.size) (hk : kindL (s.data.toList.drop i) ≠ 0) (he : (wordL (s.data.toList.drop i)).err ≠ 0) :
    lexL s.data.toList = ⟨[], (wordL (s.data.toList.drop i)).err, line⟩ := by
  have hlen : (s.data.toList.drop i).length = s.size - i := by rw [List.length_drop, size_toList]
  have hne : s.data.toList.drop i ≠ [] := fun e => by rw [e] at hlen; simp at hlen; omega
  rw [h.goes, tokL_bad line hne hk he]
  unfold glueL
  rw [if_neg he]
theorem fault_cells {s : ByteArray} {w wr w2 : World} {k line : Nat} {acc : List Tok} {v : Value} {o : Obj} (h : FarR s w k line acc v wr) (hg : (wr.alloc o).grownBy w2 v.ownBlock) :
    w2.cell? ⟨w.heap.size, 0, none⟩ = some (.int .i64 0) ∧ w2.cell? ⟨w.heap.size, 1, none⟩ = some (.int .i64 0) ∧ w2.frozen? ⟨w.heap.size, 0, none⟩ = false ∧ w2.frozen? ⟨w.heap.size, 1, none⟩ = false := by
  have hlt := h.lt
  have g := hg.block w.heap.size (by simp; omega) (fun e => by have := (h.row.own.lt _ e.symm).1; omega)
  exact ⟨(World.cell?_of_block (a := ⟨w.heap.size, 0, none⟩) g).trans ((World.cell?_alloc_lt _ _ ⟨w.heap.size, 0, none⟩ hlt).trans h.c0), (World.cell?_of_block (a := ⟨w.heap.size, 1, none⟩) g).trans ((World.cell?_alloc_lt _ _ ⟨w.heap.size, 1, none⟩ hlt).trans h.c1),
    (World.frozen?_of_block (a := ⟨w.heap.size, 0, none⟩) g).trans ((World.frozen?_alloc_old _ _ ⟨w.heap.size, 0, none⟩ (Nat.ne_of_lt hlt)).trans h.f0), (World.frozen?_of_block (a := ⟨w.heap.size, 1, none⟩) g).trans ((World.frozen?_alloc_old _ _ ⟨w.heap.size, 1, none⟩ (Nat.ne_of_lt hlt)).trans h.f1)⟩
theorem fault_keep {s : ByteArray} {w wr w2 : World} {k line : Nat} {acc : List Tok} {v : Value} (h : FarR s w k line acc v wr) (hb : Below wr.heap.size wr w2) :
    w2.cell? ⟨w.heap.size, 0, none⟩ = some (.int .i64 0) ∧ w2.cell? ⟨w.heap.size, 1, none⟩ = some (.int .i64 0) ∧ w2.frozen? ⟨w.heap.size, 0, none⟩ = false ∧ w2.frozen? ⟨w.heap.size, 1, none⟩ = false := by
  have hlt := h.lt
  exact ⟨(hb.cell (p := ⟨w.heap.size, 0, none⟩) hlt).trans h.c0, (hb.cell (p := ⟨w.heap.size, 1, none⟩) hlt).trans h.c1, (hb.frozen (p := ⟨w.heap.size, 0, none⟩) hlt).trans h.f0, (hb.frozen (p := ⟨w.heap.size, 1, none⟩) hlt).trans h.f1⟩
set_option maxHeartbeats 8000000 in
theorem LTokens_goes (s : ByteArray) (w : World) (h : ¬ 32768 < s.size) : Calls Tryz.prog 25 #[.string s] w (GivesR (lexL s.data.toList) w) := by
  obtain ⟨i9, hi, hz0, hz1, hz2⟩ := info_parts tok_info
  have hs := size_toList s
  have hq : decide ((32768 : Int) < (s.size : Int)) = false := decide_eq_false (by omega)
  have hS : s.size ≤ 32768 := by omega
  have F0 : Hid (FarR s w 0 0 [] (.slice none 0 0) (w.alloc (.cells #[.int .i64 0, .int .i64 0] 31))) :=
    ⟨TokRow.nil _ _, by simp [go_sem], by simp [go_sem], by simp [go_sem], by simp [go_sem], (Below.refl _ _).alloc (Nat.le_refl _) _, by simp, by rw [glue_nil]; unfold lexL; rw [if_neg (by omega)]; rfl, by omega, by simp, by omega⟩
  clear hs h
  go_enter Tryz.func25, Tryz.ntmps25
  go_wp2_with fail
  go_loopw [4, 5, 6] (fun v l i wr => ∃ (k line : Nat) (acc : List Tok), l = .int .i64 line ∧ i = .int .i64 k ∧ k ≤ s.size ∧ line ≤ k ∧ Hid (FarR s w k line acc v wr)) (fun _ _ i _ => s.size - (intOf i).toNat)
  case atStart => exact ⟨0, 0, [], rfl, rfl, by omega, by omega, F0⟩
  case round =>
    obtain ⟨k, line, acc, rfl, rfl, hk, hline, hF⟩ := hrel
    clear F0 hq
    have hroom := hF.out.room
    by_cases hlt : k < s.size
    · have hget := Lib.hid (byte_at hlt)
      have hdrop : Hid (s.data.toList.drop k = s[k] :: s.data.toList.drop (k + 1)) := drop_cons (byte_at hlt)
      by_cases h10 : s[k] = 10
      · have q10 : ((s[k].toNat : Int) == 10) = true := beq_byte h10
        have q32 : ((s[k].toNat : Int) == 32) = false := by rw [h10]; rfl
        have q9 : ((s[k].toNat : Int) == 9) = false := by rw [h10]; rfl
        have q13 : ((s[k].toNat : Int) == 13) = false := by rw [h10]; rfl
        have R := Lib.hid (hF.out.step (j := k + 1) (line' := line + 1) (by omega) (by omega) (by omega) (by rw [hdrop.out, tokL_space line (blank_iff.2 (.inr (.inr (.inr h10)))), if_pos h10]))
        clear h10
        go_wp2_with fail
        go_roundw
        case rel => exact ⟨k + 1, line + 1, acc, by go_num, by go_num, by omega, by omega, R⟩
        case measure => simp [intOf]; omega
      · have q10 : ((s[k].toNat : Int) == 10) = false := bne_byte h10
        by_cases hc : s[k] = 32
        · have R := Lib.hid (hF.out.step (j := k + 1) (line' := line) (by omega) (by omega) (by omega) (by rw [hdrop.out, tokL_space line (blank_iff.2 (.inl hc)), if_neg h10]; rfl))
          have q32 : ((s[k].toNat : Int) == 32) = true := beq_byte hc
          clear hc h10
          go_wp2_with fail
          go_roundw
          case rel => exact ⟨k + 1, line, acc, rfl, by go_num, by omega, by omega, R⟩
          case measure => simp [intOf]; omega
        · have q32 : ((s[k].toNat : Int) == 32) = false := bne_byte hc
          by_cases hc9 : s[k] = 9
          · replace hc := hc9
            clear hc9
            have R := Lib.hid (hF.out.step (j := k + 1) (line' := line) (by omega) (by omega) (by omega) (by rw [hdrop.out, tokL_space line (blank_iff.2 (.inr (.inl hc))), if_neg h10]; rfl))
            have q9 : ((s[k].toNat : Int) == 9) = true := beq_byte hc
            clear hc h10
            go_wp2_with fail
            go_roundw
            case rel => exact ⟨k + 1, line, acc, rfl, by go_num, by omega, by omega, R⟩
            case measure => simp [intOf]; omega
          · have q9 : ((s[k].toNat : Int) == 9) = false := bne_byte hc9
            by_cases hc13 : s[k] = 13
            · replace hc := hc13
              clear hc13
              have R := Lib.hid (hF.out.step (j := k + 1) (line' := line) (by omega) (by omega) (by omega) (by rw [hdrop.out, tokL_space line (blank_iff.2 (.inr (.inr (.inl hc)))), if_neg h10]; rfl))
              have q13 : ((s[k].toNat : Int) == 13) = true := beq_byte hc
              clear hc h10
              go_wp2_with fail
              go_roundw
              case rel => exact ⟨k + 1, line, acc, rfl, by go_num, by omega, by omega, R⟩
              case measure => simp [intOf]; omega
            · have q13 : ((s[k].toNat : Int) == 13) = false := bne_byte hc13
              have hnb : ¬ blankB s[k] = true := by rw [blank_iff]; rintro (h | h | h | h) <;> contradiction
              clear hc hc9 hc13
              by_cases hrm : k + 1 < s.size
              · have qr : decide ((k : Int) + 1 < (s.size : Int)) = true := decide_eq_true (by omega)
                have hget1 : s.data.toList.drop (k + 1) = s[k + 1] :: s.data.toList.drop (k + 2) := drop_cons (byte_at hrm)
                by_cases h45 : s[k] = 45
                · have p45 : ((s[k].toNat : Int) == 45) = true := beq_byte h45
                  by_cases g45 : s[k + 1] = 45
                  · have r45 : ((s[k + 1].toNat : Int) == 45) = true := beq_byte g45
                    have hpre : Hid (Lib.hasPrefix (s.data.toList.drop k) [45, 45] = true) := by
                      rw [Hid, hdrop.out, hget1, h45, g45, prefix_take]; rfl
                    have HL : Hid ((s.data.toList.drop k).length = s.size - k) := by rw [Hid, List.length_drop, size_toList]
                    clear hnb h10 h45 g45 hget1
                    go_wp2_with fail
                    go_loop [6] (fun i => ∃ m j : Nat, i = .int .i64 m ∧ m ≤ s.size ∧ Hid (k + j = m) ∧ Hid (((s.data.toList.drop k).take j).all (· != 10) = true)) (fun i => s.size - (intOf i).toNat)
                    case atStart => exact ⟨k, 0, rfl, by omega, rfl, rfl⟩
                    case round =>
                      obtain ⟨m, j, rfl, hm, HM, hall⟩ := hrel
                      have done : Hid (s.size ≤ m ∨ (∃ c, (s.data.toList.drop k)[j]? = some c ∧ c = 10) → FarR s w m line acc u4 wr ∧ k < m) := by
                        intro hx
                        have hmj := HM.out
                        have hj : ((s.data.toList.drop k).takeWhile (· != 10)).length = j := by
                          refine takeWhile_upto (by rw [HL.out]; omega) hall.out ?_
                          rcases hx with h | ⟨c, h1, h2⟩
                          · exact .inl (by rw [HL.out]; omega)
                          · exact .inr ⟨c, h1, by rw [h2]; rfl⟩
                        have hpos : 1 ≤ j := by
                          rw [← hj]
                          obtain ⟨r, hr⟩ := hasPrefix_iff.1 hpre.out
                          rw [hr, List.cons_append, List.takeWhile_cons]; simp
                        exact ⟨hF.out.step (by omega) hm (by omega) (by rw [tokL_remark line hpre.out, hj, List.drop_drop, hmj]), by omega⟩
                      by_cases hjm : m < s.size
                      · have hgm : Hid ((s.data.toList.drop k)[j]? = some s[m]) := by have hm2 := HM.out; subst hm2; exact drop_at hjm
                        have qm : decide ((m : Int) < (s.size : Int)) = true := decide_eq_true (by omega)
                        by_cases hm10 : s[m] = 10
                        · have qq : ((s[m].toNat : Int) != 10) = false := by rw [hm10]; rfl
                          have R := done.out (.inr ⟨_, hgm.out, hm10⟩)
                          have hkm := R.2
                          replace R := Lib.hid R.1
                          clear hm10 done
                          go_wp2_with fail
                          go_roundw
                          case rel => exact ⟨m, line, acc, rfl, rfl, by omega, by omega, R⟩
                          case measure => simp [intOf]; omega
                        · have qq : ((s[m].toNat : Int) != 10) = true := bne_iff_ne.2 (fun e => hm10 (UInt8.toNat_inj.1 (by show s[m].toNat = 10; omega)))
                          have R := Lib.hid (all_snoc hall.out hgm.out (bne_iff_ne.2 hm10))
                          clear hm10 done
                          go_wp2_with fail
                          go_round
                          case rel => exact ⟨m + 1, j + 1, by go_num, by omega, by have := HM.out; show k + (j + 1) = m + 1; omega, R⟩
                          case measure => simp [intOf]; omega
                      · have R := done.out (.inl (by omega))
                        have hkm := R.2
                        replace R := Lib.hid R.1
                        have qm : decide ((m : Int) < (s.size : Int)) = false := decide_eq_false (by omega)
                        clear done
                        go_wp2_with fail
                        go_roundw
                        case rel => exact ⟨m, line, acc, rfl, rfl, by omega, by omega, R⟩
                        case measure => simp [intOf]; omega
                  · have r45 : ((s[k + 1].toNat : Int) == 45) = false := bne_byte g45
                    have hnr : ¬ Lib.hasPrefix (s.data.toList.drop k) [45, 45] = true := by
                      intro hp
                      obtain ⟨r, hr⟩ := hasPrefix_iff.1 hp
                      rw [hdrop.out] at hr
                      rw [hget1] at hr
                      simp only [List.cons_append, List.nil_append, List.cons.injEq] at hr
                      exact g45 hr.2.1
                    clear h45 g45 hget1
                    have hk0 : kindL (s.data.toList.drop k) ≠ 0 := by
                      intro e0
                      have := kind_cases s[k] (s.data.toList.drop (k + 1))
                      rw [← hdrop.out] at this
                      rcases this with ⟨g | g, _⟩ | ⟨_, ⟨_, e⟩ | ⟨_, _, e⟩ | ⟨_, _, _, e⟩ | ⟨_, _, _, e⟩⟩
                      · exact hnb g
                      · exact hnr g
                      all_goals omega
                    by_cases herr : (wordL (s.data.toList.drop k)).err = 0
                    · have N : Hid (∀ w, Calls Tryz.prog 41 #[.string s, .int .i64 k] w fun e w' => e = .returned (.tuple #[.agg (tokV (wordL (s.data.toList.drop k)).kind ⟨(wordL (s.data.toList.drop k)).text.toArray⟩ (wordL (s.data.toList.drop k)).num 0), .int .i64 (wordL (s.data.toList.drop k)).size, .int .i64 0]) ∧ Below w.heap.size w w') := by
                        intro w
                        refine (Lword_any s k w (by omega) hlt hk0).mono ?_
                        rintro e w' ⟨kd, tx, nm, z, rfl, hW, hb⟩
                        obtain ⟨rfl, rfl, rfl, rfl⟩ := hW herr
                        exact ⟨by rw [herr], hb⟩
                      have FW := Lib.hid (fun w2 wa w3 v2 => hF.out.word (w2 := w2) (wa := wa) (w3 := w3) (v2 := v2) hlt hk0 herr)
                      clear hk0 herr hnb hnr h10
                      generalize (wordL (s.data.toList.drop k)).kind = kd at *
                      generalize (wordL (s.data.toList.drop k)).text = tx at *
                      generalize (wordL (s.data.toList.drop k)).num = nm at *
                      generalize (wordL (s.data.toList.drop k)).size = z at *
                      go_wp2_with (first
                        | (go_at_call 41; with_reducible refine (N.out _).mono ?_; rintro e w2 ⟨rfl, hb2⟩)
                        | (at_builtin; refine wpList_append_own _ rfl (.tmp 92) (.tmp 94) _ rfl (w.heap.size + 1) 66 i9 _ 4 40 Tryz.underlying56 hi hz0 hz1 hz2 rfl (by decide) _ _ _ rfl (((own_below hF.out.row.own hb2).alloc _).alloc _) _ _ _ [.int .i64 kd, .string ⟨tx.toArray⟩, .int .i64 nm, .int .i64 line] rfl rfl (cells_at _ _ _ _ (by simp)) (by simp [Value.oneCell']) (by unfold maxLen; omega) (by omega) (by have := hF.out.lt; have := hb2.size; simp; omega) ?_; intro v2 w3 hown2 hg2 _; have R := FW.out _ _ _ _ hb2 (((Below.refl _ _).alloc (Nat.le_refl _) _).alloc (by simp) _) hown2 hg2; have z1 := R.2.1; have z2 := R.2.2; replace R := Lib.hid R.1; clear hown2 hg2 hb2))
                      go_roundw
                      case rel => exact ⟨k + z, line, _, rfl, by go_num, by omega, by omega, R⟩
                      case measure => simp [intOf]; omega
                    · have N : Hid (∀ w, Calls Tryz.prog 41 #[.string s, .int .i64 k] w fun e w' => ∃ (kd : Nat) (tx : ByteArray) (nm z : Int), e = .returned (.tuple #[.agg (tokV kd tx nm 0), .int .i64 z, .int .i64 (wordL (s.data.toList.drop k)).err]) ∧ Below w.heap.size w w') := by
                        intro w
                        refine (Lword_any s k w (by omega) hlt hk0).mono ?_
                        rintro e w' ⟨kd, tx, nm, z, rfl, _, hb⟩
                        exact ⟨kd, tx, nm, z, rfl, hb⟩
                      have BAD := Lib.hid (hF.out.bad hlt hk0 herr)
                      have HERR := Lib.hid herr
                      have e0 : ((wordL (s.data.toList.drop k)).err != 0) = true := bne_iff_ne.2 herr
                      clear hk0 herr hnb hnr h10
                      generalize (wordL (s.data.toList.drop k)).err = er at *
                      go_wp2_with (go_at_call 41; with_reducible refine (N.out _).mono ?_; rintro e w2 ⟨kd, tx, nm, z, rfl, hb2⟩; obtain ⟨c0, c1, f0, f1⟩ := fault_keep hF.out hb2; have B2 := Lib.hid (hF.out.below.trans (hb2.mono hF.out.below.size)); have hlw : w.heap.size < w2.heap.size := Nat.lt_of_lt_of_le hF.out.lt hb2.size; clear hb2)
                      refine ret_tmp_fault rfl rfl (v0 := .int .i64 er) (v1 := .int .i64 line) (by rw [World.cell?_alloc_lt _ _ ⟨w.heap.size, 0, none⟩ (by simpa using hlw)]; simp [go_sem, c0]) (by rw [World.cell?_alloc_lt _ _ ⟨w.heap.size, 1, none⟩ (by simpa using hlw)]; simp [go_sem, c1]) rfl ?_
                      rw [BAD.out]
                      exact .inr ⟨HERR.out, rfl, ((B2.out.setCell (p := ⟨w.heap.size, 0, none⟩) (Nat.le_refl _) _).setCell (p := ⟨w.heap.size, 1, none⟩) (Nat.le_refl _) _).alloc (by simp; omega) _⟩
                · have p45 : ((s[k].toNat : Int) == 45) = false := bne_byte h45
                  have hnr : ¬ Lib.hasPrefix (s.data.toList.drop k) [45, 45] = true := by
                    intro hp
                    obtain ⟨r, hr⟩ := hasPrefix_iff.1 hp
                    rw [hdrop.out] at hr
                    simp only [List.cons_append, List.nil_append, List.cons.injEq] at hr
                    exact h45 hr.1
                  clear h45 hget1
                  have hk0 : kindL (s.data.toList.drop k) ≠ 0 := by
                    intro e0
                    have := kind_cases s[k] (s.data.toList.drop (k + 1))
                    rw [← hdrop.out] at this
                    rcases this with ⟨g | g, _⟩ | ⟨_, ⟨_, e⟩ | ⟨_, _, e⟩ | ⟨_, _, _, e⟩ | ⟨_, _, _, e⟩⟩
                    · exact hnb g
                    · exact hnr g
                    all_goals omega
                  by_cases herr : (wordL (s.data.toList.drop k)).err = 0
                  · have N : Hid (∀ w, Calls Tryz.prog 41 #[.string s, .int .i64 k] w fun e w' => e = .returned (.tuple #[.agg (tokV (wordL (s.data.toList.drop k)).kind ⟨(wordL (s.data.toList.drop k)).text.toArray⟩ (wordL (s.data.toList.drop k)).num 0), .int .i64 (wordL (s.data.toList.drop k)).size, .int .i64 0]) ∧ Below w.heap.size w w') := by
                      intro w
                      refine (Lword_any s k w (by omega) hlt hk0).mono ?_
                      rintro e w' ⟨kd, tx, nm, z, rfl, hW, hb⟩
                      obtain ⟨rfl, rfl, rfl, rfl⟩ := hW herr
                      exact ⟨by rw [herr], hb⟩
                    have FW := Lib.hid (fun w2 wa w3 v2 => hF.out.word (w2 := w2) (wa := wa) (w3 := w3) (v2 := v2) hlt hk0 herr)
                    clear hk0 herr hnb hnr h10
                    generalize (wordL (s.data.toList.drop k)).kind = kd at *
                    generalize (wordL (s.data.toList.drop k)).text = tx at *
                    generalize (wordL (s.data.toList.drop k)).num = nm at *
                    generalize (wordL (s.data.toList.drop k)).size = z at *
                    go_wp2_with (first
                      | (go_at_call 41; with_reducible refine (N.out _).mono ?_; rintro e w2 ⟨rfl, hb2⟩)
                      | (at_builtin; refine wpList_append_own _ rfl (.tmp 92) (.tmp 94) _ rfl (w.heap.size + 1) 66 i9 _ 4 40 Tryz.underlying56 hi hz0 hz1 hz2 rfl (by decide) _ _ _ rfl (((own_below hF.out.row.own hb2).alloc _).alloc _) _ _ _ [.int .i64 kd, .string ⟨tx.toArray⟩, .int .i64 nm, .int .i64 line] rfl rfl (cells_at _ _ _ _ (by simp)) (by simp [Value.oneCell']) (by unfold maxLen; omega) (by omega) (by have := hF.out.lt; have := hb2.size; simp; omega) ?_; intro v2 w3 hown2 hg2 _; have R := FW.out _ _ _ _ hb2 (((Below.refl _ _).alloc (Nat.le_refl _) _).alloc (by simp) _) hown2 hg2; have z1 := R.2.1; have z2 := R.2.2; replace R := Lib.hid R.1; clear hown2 hg2 hb2))
                    go_roundw
                    case rel => exact ⟨k + z, line, _, rfl, by go_num, by omega, by omega, R⟩
                    case measure => simp [intOf]; omega
                  · have N : Hid (∀ w, Calls Tryz.prog 41 #[.string s, .int .i64 k] w fun e w' => ∃ (kd : Nat) (tx : ByteArray) (nm z : Int), e = .returned (.tuple #[.agg (tokV kd tx nm 0), .int .i64 z, .int .i64 (wordL (s.data.toList.drop k)).err]) ∧ Below w.heap.size w w') := by
                      intro w
                      refine (Lword_any s k w (by omega) hlt hk0).mono ?_
                      rintro e w' ⟨kd, tx, nm, z, rfl, _, hb⟩
                      exact ⟨kd, tx, nm, z, rfl, hb⟩
                    have BAD := Lib.hid (hF.out.bad hlt hk0 herr)
                    have HERR := Lib.hid herr
                    have e0 : ((wordL (s.data.toList.drop k)).err != 0) = true := bne_iff_ne.2 herr
                    clear hk0 herr hnb hnr h10
                    generalize (wordL (s.data.toList.drop k)).err = er at *
                    go_wp2_with (go_at_call 41; with_reducible refine (N.out _).mono ?_; rintro e w2 ⟨kd, tx, nm, z, rfl, hb2⟩; obtain ⟨c0, c1, f0, f1⟩ := fault_keep hF.out hb2; have B2 := Lib.hid (hF.out.below.trans (hb2.mono hF.out.below.size)); have hlw : w.heap.size < w2.heap.size := Nat.lt_of_lt_of_le hF.out.lt hb2.size; clear hb2)
                    refine ret_tmp_fault rfl rfl (v0 := .int .i64 er) (v1 := .int .i64 line) (by rw [World.cell?_alloc_lt _ _ ⟨w.heap.size, 0, none⟩ (by simpa using hlw)]; simp [go_sem, c0]) (by rw [World.cell?_alloc_lt _ _ ⟨w.heap.size, 1, none⟩ (by simpa using hlw)]; simp [go_sem, c1]) rfl ?_
                    rw [BAD.out]
                    exact .inr ⟨HERR.out, rfl, ((B2.out.setCell (p := ⟨w.heap.size, 0, none⟩) (Nat.le_refl _) _).setCell (p := ⟨w.heap.size, 1, none⟩) (Nat.le_refl _) _).alloc (by simp; omega) _⟩
              · have qr : decide ((k : Int) + 1 < (s.size : Int)) = false := decide_eq_false (by omega)
                have hnr : ¬ Lib.hasPrefix (s.data.toList.drop k) [45, 45] = true := by
                  intro hp
                  obtain ⟨r, hr⟩ := hasPrefix_iff.1 hp
                  rw [hdrop.out] at hr
                  have h2 := congrArg List.length hr
                  simp only [List.length_cons, List.length_append, List.length_drop, size_toList, List.length_nil] at h2
                  omega
                have hk0 : kindL (s.data.toList.drop k) ≠ 0 := by
                  intro e0
                  have := kind_cases s[k] (s.data.toList.drop (k + 1))
                  rw [← hdrop.out] at this
                  rcases this with ⟨g | g, _⟩ | ⟨_, ⟨_, e⟩ | ⟨_, _, e⟩ | ⟨_, _, _, e⟩ | ⟨_, _, _, e⟩⟩
                  · exact hnb g
                  · exact hnr g
                  all_goals omega
                by_cases herr : (wordL (s.data.toList.drop k)).err = 0
                · have N : Hid (∀ w, Calls Tryz.prog 41 #[.string s, .int .i64 k] w fun e w' => e = .returned (.tuple #[.agg (tokV (wordL (s.data.toList.drop k)).kind ⟨(wordL (s.data.toList.drop k)).text.toArray⟩ (wordL (s.data.toList.drop k)).num 0), .int .i64 (wordL (s.data.toList.drop k)).size, .int .i64 0]) ∧ Below w.heap.size w w') := by
                    intro w
                    refine (Lword_any s k w (by omega) hlt hk0).mono ?_
                    rintro e w' ⟨kd, tx, nm, z, rfl, hW, hb⟩
                    obtain ⟨rfl, rfl, rfl, rfl⟩ := hW herr
                    exact ⟨by rw [herr], hb⟩
                  have FW := Lib.hid (fun w2 wa w3 v2 => hF.out.word (w2 := w2) (wa := wa) (w3 := w3) (v2 := v2) hlt hk0 herr)
                  clear hk0 herr hnb hnr h10
                  generalize (wordL (s.data.toList.drop k)).kind = kd at *
                  generalize (wordL (s.data.toList.drop k)).text = tx at *
                  generalize (wordL (s.data.toList.drop k)).num = nm at *
                  generalize (wordL (s.data.toList.drop k)).size = z at *
                  go_wp2_with (first
                    | (go_at_call 41; with_reducible refine (N.out _).mono ?_; rintro e w2 ⟨rfl, hb2⟩)
                    | (at_builtin; refine wpList_append_own _ rfl (.tmp 92) (.tmp 94) _ rfl (w.heap.size + 1) 66 i9 _ 4 40 Tryz.underlying56 hi hz0 hz1 hz2 rfl (by decide) _ _ _ rfl (((own_below hF.out.row.own hb2).alloc _).alloc _) _ _ _ [.int .i64 kd, .string ⟨tx.toArray⟩, .int .i64 nm, .int .i64 line] rfl rfl (cells_at _ _ _ _ (by simp)) (by simp [Value.oneCell']) (by unfold maxLen; omega) (by omega) (by have := hF.out.lt; have := hb2.size; simp; omega) ?_; intro v2 w3 hown2 hg2 _; have R := FW.out _ _ _ _ hb2 (((Below.refl _ _).alloc (Nat.le_refl _) _).alloc (by simp) _) hown2 hg2; have z1 := R.2.1; have z2 := R.2.2; replace R := Lib.hid R.1; clear hown2 hg2 hb2))
                  go_roundw
                  case rel => exact ⟨k + z, line, _, rfl, by go_num, by omega, by omega, R⟩
                  case measure => simp [intOf]; omega
                · have N : Hid (∀ w, Calls Tryz.prog 41 #[.string s, .int .i64 k] w fun e w' => ∃ (kd : Nat) (tx : ByteArray) (nm z : Int), e = .returned (.tuple #[.agg (tokV kd tx nm 0), .int .i64 z, .int .i64 (wordL (s.data.toList.drop k)).err]) ∧ Below w.heap.size w w') := by
                    intro w
                    refine (Lword_any s k w (by omega) hlt hk0).mono ?_
                    rintro e w' ⟨kd, tx, nm, z, rfl, _, hb⟩
                    exact ⟨kd, tx, nm, z, rfl, hb⟩
                  have BAD := Lib.hid (hF.out.bad hlt hk0 herr)
                  have HERR := Lib.hid herr
                  have e0 : ((wordL (s.data.toList.drop k)).err != 0) = true := bne_iff_ne.2 herr
                  clear hk0 herr hnb hnr h10
                  generalize (wordL (s.data.toList.drop k)).err = er at *
                  go_wp2_with (go_at_call 41; with_reducible refine (N.out _).mono ?_; rintro e w2 ⟨kd, tx, nm, z, rfl, hb2⟩; obtain ⟨c0, c1, f0, f1⟩ := fault_keep hF.out hb2; have B2 := Lib.hid (hF.out.below.trans (hb2.mono hF.out.below.size)); have hlw : w.heap.size < w2.heap.size := Nat.lt_of_lt_of_le hF.out.lt hb2.size; clear hb2)
                  refine ret_tmp_fault rfl rfl (v0 := .int .i64 er) (v1 := .int .i64 line) (by rw [World.cell?_alloc_lt _ _ ⟨w.heap.size, 0, none⟩ (by simpa using hlw)]; simp [go_sem, c0]) (by rw [World.cell?_alloc_lt _ _ ⟨w.heap.size, 1, none⟩ (by simpa using hlw)]; simp [go_sem, c1]) rfl ?_
                  rw [BAD.out]
                  exact .inr ⟨HERR.out, rfl, ((B2.out.setCell (p := ⟨w.heap.size, 0, none⟩) (Nat.le_refl _) _).setCell (p := ⟨w.heap.size, 1, none⟩) (Nat.le_refl _) _).alloc (by simp; omega) _⟩
    · obtain rfl : k = s.size := by omega
      clear hlt
      have q : decide ((s.size : Int) < (s.size : Int)) = false := decide_eq_false (by omega)
      go_wp2_with (at_builtin; refine wpList_append_own _ rfl (.tmp 99) (.tmp 102) _ rfl (w.heap.size + 1) 66 i9 _ 4 40 Tryz.underlying56 hi hz0 hz1 hz2 rfl (by decide) _ _ _ rfl (hF.out.row.own.alloc _) _ _ _ [.int .i64 5, .string ⟨#[]⟩, .int .i64 0, .int .i64 line] rfl rfl (cells_new _ _ _) (by simp [Value.oneCell']) (by unfold maxLen; omega) (by omega) (by have := hF.out.lt; simp; omega) ?_; intro v2 w2 hown2 hg2 _; obtain ⟨c0, c1, f0, f1⟩ := fault_cells hF.out hg2; have R := Lib.hid (fun w3 h3 => hF.out.finish (w3 := w3) hown2 hg2 h3); clear hown2 hg2)
      refine ret_tmp_fault rfl rfl (v0 := .int .i64 0) (v1 := .int .i64 0) (by simp [go_sem, c0]) (by simp [go_sem, c1]) rfl ?_
      exact R.out _ rfl
/-- tallowref04.Tokens, at every text. -/
theorem LTokens_any (s : ByteArray) (w : World) : Calls Tryz.prog 25 #[.string s] w (GivesR (lexL s.data.toList) w) := by
  by_cases h : 32768 < s.size
  · have e : lexL s.data.toList = ⟨[], 3, 0⟩ := by unfold lexL; rw [if_pos (by rw [size_toList]; exact h)]
    rw [e]; exact LTokens_long s w h
  · exact LTokens_goes s w h
end Go.Proofs.YtebkdegcifkigaaGreatDoor
namespace Go.Proofs.YtebkdegcifkigaaGreatDoor
set_option maxRecDepth 20000
set_option maxRecDepth 20000
open Go.RowKit Go.Extern.Stop Go.Stop Go.Extern

/-- What 'TypeOf(target).Comparable()' makes at an error's number. -/
theorem isFactsE : ∃ b : Addr, (∀ (v : Value) (w : World), (callFunc 31 #[.iface 29 v]).run Tryz.prog w = .ok (.value (.iface 106 (.agg #[.pointer (some b)]))) w) ∧
    ∀ w : World, (callFunc 212 #[.agg #[.pointer (some b)]]).run Tryz.prog w = .ok (.value (.bool true)) w :=
  ⟨⟨Tryz.prog.globals.size, 29, none⟩, fun v w => by kernel_rfl, fun w => by kernel_rfl⟩
theorem isCompE : (Tryz.prog.info? 29).map (·.comparable) = some true := by kernel_rfl
theorem noIsF (v : Value) (xT : TypeId) (w : World) : (Instr.typeAssert (.iface 59 v) xT 108 true).run Tryz.prog w = .ok (.tuple #[.nilIface, .bool false]) w := run_typeAssert_lacksB Tryz.underlying108 (by kernel_rfl) (by kernel_rfl) v xT w
theorem hasUnwrapF (v : Value) (xT : TypeId) (w : World) : (Instr.typeAssert (.iface 59 v) xT 111 true).run Tryz.prog w = .ok (.tuple #[.iface 59 v, .bool true]) w := run_typeAssert_hasB Tryz.underlying111 (by kernel_rfl) v xT w
set_option maxHeartbeats 2000000 in
/-- errors.Is at a fault and its own number. -/
theorem is_fault (pb : Nat) (c : Int) (w : World) (h0 : w.cell? ⟨pb, 0, none⟩ = some (.int .i64 c)) :
    Calls Tryz.prog 15 #[.iface 59 (.pointer (some ⟨pb, 0, none⟩)), .iface 29 (.int .i64 c)] w fun e w' => e = .returned (.bool true) ∧ w' = w := by
  obtain ⟨b0, tT, cT⟩ := isFactsE
  have nW := noIsF
  have uW := hasUnwrapF
  have heq := Lib.run_eql_iface_int (P := Tryz.prog) (tx := 29) w (k := .i64) c c Tryz.underlying26 isCompE Tryz.underlying29
  rw [beq_self_eq_true] at heq
  have hty := run_eql_iface_types (P := Tryz.prog) 59 29 (.pointer (some ⟨pb, 0, none⟩)) (.int .i64 c) Tryz.underlying26 (by decide) w
  go_enter Tryz.func15, Tryz.ntmps15
  go_wp2
  refine wp_loop_rounds 2 ?_
  rw [rounds_succ]
  go_wp2
  rw [rounds_succ]
  go_wp2
  go_ret
  exact ⟨rfl, rfl⟩
/-- The world behind errors.As: the target points to the fault; the rest is as it was. -/
structure ToldAt (w : World) (b : Nat) (c l : Int) (w5 : World) : Prop where
  g : w5.cell? ⟨w.heap.size + 1, 0, none⟩ = some (.pointer (some ⟨b, 0, none⟩))
  p0 : w5.cell? ⟨w.heap.size, 0, none⟩ = some (.int .i64 c)
  p1 : w5.cell? ⟨w.heap.size, 1, none⟩ = some (.int .i64 l)
  b0 : w5.cell? ⟨b, 0, none⟩ = some (.int .i64 c)
  b1 : w5.cell? ⟨b, 1, none⟩ = some (.int .i64 l)
  below : Below w.heap.size w w5
theorem told_at {w w4 : World} {b : Nat} {c l : Int} (hb : b < w.heap.size) (h0 : w.cell? ⟨b, 0, none⟩ = some (.int .i64 c)) (h1 : w.cell? ⟨b, 1, none⟩ = some (.int .i64 l))
    (hb4 : Below (((w.alloc (.cells #[.int .i64 c, .int .i64 l] 31)).alloc (.cells #[.pointer none] 59)).drew).heap.size (((w.alloc (.cells #[.int .i64 c, .int .i64 l] 31)).alloc (.cells #[.pointer none] 59)).drew) w4) :
    ToldAt w b c l (w4.setCell ⟨w.heap.size + 1, 0, none⟩ (.pointer (some ⟨b, 0, none⟩))) := by
  have hs : (((w.alloc (.cells #[.int .i64 c, .int .i64 l] 31)).alloc (.cells #[.pointer none] 59)).drew).heap.size = w.heap.size + 2 := by show ((w.alloc _).alloc _).heap.size = _; simp
  have look : ∀ p : Addr, p.block < w.heap.size + 2 → w4.cell? p = ((w.alloc (.cells #[.int .i64 c, .int .i64 l] 31)).alloc (.cells #[.pointer none] 59)).cell? p := fun p hp => hb4.cell (by rw [hs]; exact hp)
  have o : ∀ (q : Addr) (x : Value), q.block ≠ w.heap.size + 1 → (w4.setCell ⟨w.heap.size + 1, 0, none⟩ x).cell? q = w4.cell? q := fun q x hq => World.cell?_setCell_other _ _ _ _ (fun e => hq (by rw [← e]))
  refine ⟨?_, ?_, ?_, ?_, ?_, ?_⟩
  · have := look ⟨w.heap.size + 1, 0, none⟩ (by show w.heap.size + 1 < _; omega)
    simp [go_sem] at this
    simp [go_sem, this]
  · rw [o ⟨w.heap.size, 0, none⟩ _ (by show w.heap.size ≠ _; omega), look ⟨w.heap.size, 0, none⟩ (by show w.heap.size < _; omega)]; simp [go_sem]
  · rw [o ⟨w.heap.size, 1, none⟩ _ (by show w.heap.size ≠ _; omega), look ⟨w.heap.size, 1, none⟩ (by show w.heap.size < _; omega)]; simp [go_sem]
  · rw [o ⟨b, 0, none⟩ _ (by show b ≠ _; omega), look ⟨b, 0, none⟩ (by show b < _; omega), World.cell?_alloc_lt _ _ ⟨b, 0, none⟩ (by simp; omega), World.cell?_alloc_lt _ _ ⟨b, 0, none⟩ hb]; exact h0
  · rw [o ⟨b, 1, none⟩ _ (by show b ≠ _; omega), look ⟨b, 1, none⟩ (by show b < _; omega), World.cell?_alloc_lt _ _ ⟨b, 1, none⟩ (by simp; omega), World.cell?_alloc_lt _ _ ⟨b, 1, none⟩ hb]; exact h1
  · exact (((((Below.refl _ _).alloc (Nat.le_refl _) _).alloc (by simp) _).drew).trans (hb4.mono (by rw [hs]; omega))).setCell (p := ⟨w.heap.size + 1, 0, none⟩) (by show w.heap.size ≤ w.heap.size + 1; omega) _
end Go.Proofs.YtebkdegcifkigaaGreatDoor
namespace Go.Proofs.YtebkdegcifkigaaGreatDoor
set_option maxRecDepth 20000
set_option maxRecDepth 20000
open Go.RowKit

theorem tokCells_at : ∀ (l : List Tok) (k : Nat) (t : Tok), l[k]? = some t → (tokCells l)[k * 4]? = some (.int .i64 t.kind) ∧ (tokCells l)[k * 4 + 1]? = some (.string ⟨t.text.toArray⟩) ∧ (tokCells l)[k * 4 + 2]? = some (.int .i64 t.num) ∧ (tokCells l)[k * 4 + 3]? = some (.int .i64 t.line)
  | [], k, t, h => by simp at h
  | x :: r, 0, t, h => by
    simp at h; subst h
    exact ⟨rfl, rfl, rfl, rfl⟩
  | x :: r, k + 1, t, h => by
    have := tokCells_at r k t (by simpa using h)
    have e : ∀ j, (tokCells (x :: r))[(k + 1) * 4 + j]? = (tokCells r)[k * 4 + j]? := by
      intro j
      rw [show (k + 1) * 4 + j = (k * 4 + j) + 1 + 1 + 1 + 1 by omega]; rfl
    exact ⟨(e 0).trans this.1, (e 1).trans this.2.1, (e 2).trans this.2.2.1, (e 3).trans this.2.2.2⟩
/-- A slice's cells hold those tokens. -/
structure TokAt (w : World) (A : Option Addr) (l : List Tok) : Prop where
  at_ : ∀ k t, l[k]? = some t → ∃ g, A = some ⟨g, 0, none⟩ ∧ g < w.heap.size ∧ w.cell? ⟨g, k * 4, none⟩ = some (.int .i64 t.kind) ∧ w.cell? ⟨g, k * 4 + 1, none⟩ = some (.string ⟨t.text.toArray⟩) ∧ w.cell? ⟨g, k * 4 + 2, none⟩ = some (.int .i64 t.num) ∧ w.cell? ⟨g, k * 4 + 3, none⟩ = some (.int .i64 t.line)
theorem TokRow.form {B : Nat} {v : Value} {l : List Tok} {w : World} (h : TokRow B v l w) : ∃ A c, v = .slice A l.length c ∧ TokAt w A l := by
  by_cases hn : 0 < l.length
  · obtain ⟨g, cap, hv, _, hlt⟩ := h.own.form hn
    subst hv
    have hc := h.own.cells (g := g) rfl
    have e : ∀ j, (⟨g, 0, none⟩ : Addr).add j = ⟨g, j, none⟩ := fun j => by unfold Addr.add; split <;> simp_all
    refine ⟨_, _, rfl, ⟨fun k t hk => ?_⟩⟩
    obtain ⟨c0, c1, c2, c3⟩ := tokCells_at l k t hk
    exact ⟨g, rfl, hlt, by have := hc _ _ c0; rwa [e] at this, by have := hc _ _ c1; rwa [e] at this, by have := hc _ _ c2; rwa [e] at this, by have := hc _ _ c3; rwa [e] at this⟩
  · have hl : l = [] := List.length_eq_zero_iff.1 (by omega)
    subst hl
    rcases h.own.2 with ⟨rfl, _⟩ | ⟨g, cap, cur, rfl, _⟩
    · exact ⟨_, _, rfl, ⟨fun k t hk => by simp at hk⟩⟩
    · exact ⟨_, _, rfl, ⟨fun k t hk => by simp at hk⟩⟩
theorem TokAt.below {w w' : World} {A : Option Addr} {l : List Tok} (h : TokAt w A l) (hb : Below w.heap.size w w') : TokAt w' A l := by
  refine ⟨fun k t hk => ?_⟩
  obtain ⟨g, e, hl, c0, c1, c2, c3⟩ := h.at_ k t hk
  exact ⟨g, e, Nat.lt_of_lt_of_le hl hb.size, (hb.cell (p := ⟨g, k * 4, none⟩) hl).trans c0, (hb.cell (p := ⟨g, k * 4 + 1, none⟩) hl).trans c1, (hb.cell (p := ⟨g, k * 4 + 2, none⟩) hl).trans c2, (hb.cell (p := ⟨g, k * 4 + 3, none⟩) hl).trans c3⟩
theorem TokRow.below {B : Nat} {v : Value} {l : List Tok} {w w' : World} (h : TokRow B v l w) (hb : Below w.heap.size w w') : TokRow B v l w' := ⟨own_below h.own hb⟩
end Go.Proofs.YtebkdegcifkigaaGreatDoor
