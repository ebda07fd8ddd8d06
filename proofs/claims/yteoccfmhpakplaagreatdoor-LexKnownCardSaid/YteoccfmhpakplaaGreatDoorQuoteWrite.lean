/- The contracts of quote.standsItself, write and Quote: a string's text. -/
import Derived.Test.YteoccfmhpakplaaGreatDoorBase
import Derived.Test.YteoccfmhpakplaaGreatDoorQuoteBytes
import Derived.Test.YteoccfmhpakplaaGreatDoorShelf
import Derived.WalkMore
import Derived.ScopeJumps
namespace Go.Proofs.YteoccfmhpakplaaGreatDoor
set_option maxRecDepth 20000
open Go.RowKit Go.Maps
theorem stands_any (c : UInt8) (w : World) : Calls Tryz.prog 59 #[.int .u8 c.toNat] w fun e w' => e = .returned (.bool (selfB c)) ∧ w' = w := by
  have hc := c.toNat_lt
  go_enter Tryz.func59, Tryz.ntmps59
  go_wp2_with fail
  all_goals go_ret
  all_goals refine ⟨ret_bool ?_, rfl⟩
  all_goals (rw [Bool.eq_iff_iff]; simp [selfB]; omega)
theorem dict_look {w : World} {m : Nat} {f : UInt8 → Option UInt8} (h : DictAt w m f) (x : UInt8) :
    (Instr.lookup 62 (.map (some m)) (.int .u8 x.toNat) true).run Tryz.prog w = .ok (.tuple #[.int .u8 ((f x).getD 0).toNat, .bool (f x).isSome]) w := by
  obtain ⟨n, D, _, ho, hf⟩ := h
  obtain ⟨v, ps, hr, hv⟩ := ho.look_ok keyed Tryz.underlying62 (zeroByte _) (plainElem_int (a := 0) Tryz.underlying5 (by decide)) (keyOf_int_mk Tryz.underlying5 (wf_byte x))
  obtain ⟨c, rfl, hc, hwc⟩ := plainElem_int_inv Tryz.underlying5 hv
  rw [hr, (hf x).1]
  have h1 := congrArg Prod.fst hc
  simp only [] at h1
  rw [(hf x).2] at h1
  cases hx : f x with
  | none =>
    rw [hx] at h1
    simp only [DataW.lit.injEq, Lit.int.injEq, true_and] at h1
    rw [← h1]; rfl
  | some y =>
    rw [hx] at h1
    simp only [vB, DataW.lit.injEq, Lit.int.injEq, true_and] at h1
    rw [← h1]; rfl
set_option maxHeartbeats 1000000 in
theorem write_self (B b m : Nat) (bs : List Value) (c : UInt8) (w : World) (hs : selfB c = true) (hI : Lib.IsBuilder 66 5 B b bs w) (hlen : bs.length + 4 ≤ 140737488355328) (hBw : B ≤ w.heap.size) :
    Calls Tryz.prog 30 #[.pointer (some ⟨b, 0, none⟩), .int .u8 c.toNat, .map (some m)] w fun e w' => e = .returned (.tuple #[]) ∧ Lib.IsBuilder 66 5 B b (bs ++ [.int .u8 c.toNat]) w' ∧ Below B w w' := by
  go_enter Tryz.func30, Tryz.ntmps30
  go_wp2_with (first
    | (go_at_call 59; refine (stands_any c _).mono ?_; rintro e w1 ⟨rfl, rfl⟩)
    | (go_at_call 60; refine (Tryz.Builder_WriteByte B b bs _ _ hI (by omega) hBw).mono ?_; rintro e w1 ⟨rfl, hI1, hb1⟩))
  (try simp only [Exit.inBlock, Exit.then])
  refine bodyPost_ret (results_none rfl _ _ _) rfl ?_
  exact ⟨rfl, .inr hI1, hb1⟩
set_option maxHeartbeats 1000000 in
theorem write_letter (B b m : Nat) (bs : List Value) (c l : UInt8) (w : World) (hs : selfB c = false) (hd : DictAt w m letterO) (hl : letterO c = some l) (hI : Lib.IsBuilder 66 5 B b bs w) (hlen : bs.length + 4 ≤ 140737488355328) (hBw : B ≤ w.heap.size) :
    Calls Tryz.prog 30 #[.pointer (some ⟨b, 0, none⟩), .int .u8 c.toNat, .map (some m)] w fun e w' => e = .returned (.tuple #[]) ∧ Lib.IsBuilder 66 5 B b (bs ++ [.int .u8 92] ++ [.int .u8 l.toNat]) w' ∧ Below B w w' := by
  have hk := dict_look hd c
  rw [hl] at hk
  simp only [Option.getD_some, Option.isSome_some] at hk
  go_enter Tryz.func30, Tryz.ntmps30
  go_wp2_with (first
    | (go_at_call 59; refine (stands_any c _).mono ?_; rintro e w1 ⟨rfl, rfl⟩)
    | (go_at_call 60; refine (Tryz.Builder_WriteByte B b bs _ _ hI (by omega) hBw).mono ?_; rintro e w2 ⟨rfl, hI1, hb1⟩)
    | (go_at_call 60; refine (Tryz.Builder_WriteByte B b _ _ _ (.inr hI1) (by simp; omega) (Nat.le_trans hBw hb1.size)).mono ?_; rintro e w3 ⟨rfl, hI2, hb2⟩))
  (try simp only [Exit.inBlock, Exit.then])
  refine bodyPost_ret (results_none rfl _ _ _) rfl ?_
  exact ⟨rfl, .inr hI2, hb1.trans hb2⟩
theorem hexAt (n : Nat) (h : n < 16) (g : n < (⟨#[48, 49, 50, 51, 52, 53, 54, 55, 56, 57, 97, 98, 99, 100, 101, 102]⟩ : ByteArray).size) : (⟨#[48, 49, 50, 51, 52, 53, 54, 55, 56, 57, 97, 98, 99, 100, 101, 102]⟩ : ByteArray)[n] = hexB n := by
  have : n = 0 ∨ n = 1 ∨ n = 2 ∨ n = 3 ∨ n = 4 ∨ n = 5 ∨ n = 6 ∨ n = 7 ∨ n = 8 ∨ n = 9 ∨ n = 10 ∨ n = 11 ∨ n = 12 ∨ n = 13 ∨ n = 14 ∨ n = 15 := by omega
  rcases this with rfl | rfl | rfl | rfl | rfl | rfl | rfl | rfl | rfl | rfl | rfl | rfl | rfl | rfl | rfl | rfl <;> rfl
set_option maxHeartbeats 1000000 in
theorem write_hex (B b m : Nat) (bs : List Value) (c : UInt8) (w : World) (hs : selfB c = false) (hd : DictAt w m letterO) (hl : letterO c = none) (hI : Lib.IsBuilder 66 5 B b bs w) (hlen : bs.length + 4 ≤ 140737488355328) (hBw : B ≤ w.heap.size) :
    Calls Tryz.prog 30 #[.pointer (some ⟨b, 0, none⟩), .int .u8 c.toNat, .map (some m)] w fun e w' => e = .returned (.tuple #[]) ∧ Lib.IsBuilder 66 5 B b (bs ++ Lib.strCells ⟨#[92, 120]⟩ ++ [.int .u8 (hexB (c.toNat / 16)).toNat] ++ [.int .u8 (hexB (c.toNat % 16)).toNat]) w' ∧ Below B w w' := by
  have hk := dict_look hd c
  rw [hl] at hk
  simp only [Option.getD_none, Option.isSome_none] at hk
  have hc := c.toNat_lt
  go_enter Tryz.func30, Tryz.ntmps30
  go_wp2_with (first
    | (go_at_call 59; refine (stands_any c _).mono ?_; rintro e w1 ⟨rfl, rfl⟩)
    | (go_at_call 60; refine (Tryz.Builder_WriteByte B b _ _ _ (.inr hI2) (show (bs ++ Lib.strCells ⟨#[92, 120]⟩ ++ [Value.int .u8 (hexB (c.toNat / 16)).toNat]).length + 1 ≤ 140737488355328 by rw [List.length_append, List.length_append]; show bs.length + 2 + 1 + 1 ≤ _; omega) (Nat.le_trans hBw (hb1.trans hb2).size)).mono ?_; rintro e w4 ⟨rfl, hI3, hb3⟩)
    | (go_at_call 60; refine (Tryz.Builder_WriteByte B b _ _ _ (.inr hI1) (show (bs ++ Lib.strCells ⟨#[92, 120]⟩).length + 1 ≤ 140737488355328 by rw [List.length_append]; show bs.length + 2 + 1 ≤ _; omega) (Nat.le_trans hBw hb1.size)).mono ?_; rintro e w3 ⟨rfl, hI2, hb2⟩; rw [hexAt _ (by omega)] at hI2)
    | (go_at_call 29; refine (Tryz.Builder_WriteString B b bs ⟨#[92, 120]⟩ _ hI (show bs.length + 2 ≤ 140737488355328 by omega) hBw).mono ?_; rintro e w2 ⟨rfl, hI1, hb1⟩))
  (try simp only [Exit.inBlock, Exit.then])
  refine bodyPost_end (results_none rfl _ _ _) rfl ?_
  rw [hexAt _ (by omega)] at hI3
  exact ⟨rfl, .inr hI3, (hb1.trans hb2).trans hb3⟩
/-- quote.write. -/
theorem write_any (B b m : Nat) (bs : List Value) (c : UInt8) (w : World) (hd : DictAt w m letterO) (hI : Lib.IsBuilder 66 5 B b bs w) (hlen : bs.length + 4 ≤ 140737488355328) (hBw : B ≤ w.heap.size) :
    Calls Tryz.prog 30 #[.pointer (some ⟨b, 0, none⟩), .int .u8 c.toNat, .map (some m)] w fun e w' => e = .returned (.tuple #[]) ∧ Lib.IsBuilder 66 5 B b (bs ++ Lib.byteCells (escL c)) w' ∧ Below B w w' := by
  unfold escL
  cases hs : selfB c with
  | true => exact write_self B b m bs c w hs hI hlen hBw
  | false =>
    simp only [Bool.false_eq_true, if_false]
    cases hl : letterO c with
    | some l =>
      refine (write_letter B b m bs c l w hs hd hl hI hlen hBw).mono fun e w' h => ⟨h.1, ?_, h.2.2⟩
      have := h.2.1
      rwa [List.append_assoc] at this
    | none =>
      refine (write_hex B b m bs c w hs hd hl hI hlen hBw).mono fun e w' h => ⟨h.1, ?_, h.2.2⟩
      have := h.2.1
      rwa [List.append_assoc, List.append_assoc] at this
theorem size_toList (s : ByteArray) : s.data.toList.length = s.size := Array.length_toList
theorem byte_at {s : ByteArray} {k : Nat} (h : k < s.size) : s.data.toList[k]? = some s[k] := by
  rw [List.getElem?_eq_getElem (by rw [size_toList]; exact h)]; rfl
theorem body_take {s : ByteArray} {k : Nat} (h : k < s.size) : bodyL (s.data.toList.take (k + 1)) = bodyL (s.data.toList.take k) ++ escL s[k] := by
  rw [List.take_add_one, byte_at h, body_append]
  simp [bodyL]
theorem body_take_length (s : ByteArray) (k : Nat) (h : s.size ≤ 1048576) : (bodyL (s.data.toList.take k)).length ≤ 4194304 := by
  have h1 := body_length (s.data.toList.take k)
  have h2 : (s.data.toList.take k).length ≤ s.size := by rw [List.length_take, size_toList]; omega
  omega
/-- How the text under way stands. -/
structure Way (w w1 : World) (m b : Nat) (s : ByteArray) (k : Nat) (w' : World) : Prop where
  text : Lib.IsBuilder 66 5 b b (Lib.byteCells (34 :: bodyL (s.data.toList.take k))) w'
  below : Below b w1 w'
  dict : DictAt w' m letterO
  at_ : b = w1.heap.size
  m_ : m < b
  low : Below w.heap.size w w1
theorem Way.room {w w1 w' : World} {m b k : Nat} {s : ByteArray} (h : Way w w1 m b s k w') : b ≤ w'.heap.size := by
  have := h.below.size; have := h.at_; omega
theorem Way.write {w w1 w2 : World} {m b k : Nat} {s : ByteArray} (h : Way w w1 m b s k w2) (hk : k < s.size) (hs : s.size ≤ 1048576) :
    Calls Tryz.prog 30 #[.pointer (some ⟨b, 0, none⟩), .int .u8 s[k].toNat, .map (some m)] w2 fun e w' => e = .returned (.tuple #[]) ∧ Way w w1 m b s (k + 1) w' := by
  have hl := body_take_length s k hs
  refine (write_any b b m _ s[k] w2 h.dict h.text (by rw [Lib.byteCells_length, List.length_cons]; omega) h.room).mono fun e w' r => ⟨r.1, ?_, h.below.trans r.2.2, h.dict.below r.2.2 h.m_, h.at_, h.m_, h.low⟩
  have := r.2.1
  rw [← Lib.byteCells_append] at this
  rw [body_take hk]
  exact this
theorem Way.shut {w w1 w2 : World} {m b k : Nat} {s : ByteArray} (h : Way w w1 m b s k w2) (hk : s.size ≤ k) (hs : s.size ≤ 1048576) :
    Calls Tryz.prog 29 #[.pointer (some ⟨b, 0, none⟩), .string ⟨#[34]⟩] w2 fun e w' => e = .returned (.tuple #[.int .i64 1, .nilIface]) ∧ Lib.IsBuilder 66 5 b b (Lib.byteCells (quoteL s.data.toList)) w' ∧ Below b w2 w' := by
  have hl := body_take_length s k hs
  have ht := h.text
  rw [List.take_of_length_le (by rw [size_toList]; exact hk)] at ht hl
  refine (Tryz.Builder_WriteString b b _ ⟨#[34]⟩ w2 ht (by rw [Lib.byteCells_length, List.length_cons]; show _ + 1 + 1 ≤ _; omega) h.room).mono fun e w' r => ⟨r.1, ?_, r.2.2⟩
  have := r.2.1
  rw [Lib.strCells_eq, ← Lib.byteCells_append] at this
  exact .inr this
theorem fresh_builder (w : World) : Lib.IsBuilder 66 5 w.heap.size w.heap.size [] (w.alloc (.cells #[.pointer none, .slice none 0 0] 66)) :=
  .inl ⟨Nat.le_refl _, .slice none 0 0, (MapKept.heap_alloc w _).1, ⟨by simp, .inl ⟨rfl, rfl⟩⟩, by simp [Value.ownBlock]⟩
theorem Way.start {w w1 : World} {s : ByteArray} (hd : DictAt w1 w.heap.size letterO) (hb : Below w.heap.size w w1) :
    Calls Tryz.prog 29 #[.pointer (some ⟨w1.heap.size, 0, none⟩), .string ⟨#[34]⟩] (w1.alloc (.cells #[.pointer none, .slice none 0 0] 66)) fun e w' => e = .returned (.tuple #[.int .i64 1, .nilIface]) ∧ Way w w1 w.heap.size w1.heap.size s 0 w' := by
  refine (Tryz.Builder_WriteString _ _ _ ⟨#[34]⟩ _ (fresh_builder w1) (show 0 + 1 ≤ _ by omega) (by simp)).mono fun e w' r => ⟨r.1, .inr r.2.1, ?_, ?_, rfl, hd.lt, hb⟩
  · exact ((Below.refl _ _).alloc (Nat.le_refl _) _).trans r.2.2
  · exact (hd.alloc _).below r.2.2 hd.lt
set_option maxHeartbeats 2000000 in
/-- quote.Quote: the string's text. -/
theorem Quote_any (s : ByteArray) (w : World) (hs : s.size ≤ 1048576) :
    Calls Tryz.prog 18 #[.string s] w fun e w' => e = .returned (.string ⟨(quoteL s.data.toList).toArray⟩) ∧ Below w.heap.size w w' := by
  go_enter Tryz.func18, Tryz.ntmps18
  go_wp2
  refine wp_scope_jumps 0 (fun a' w' => ∃ (w1 : World) (m b k : Nat) (u8 u9 u10 u11 u12 u13 u14 u15 u16 u17 u18 : Value), a' = { tmps := #[.string s, undef, .string ⟨#[]⟩, .map (some m), .pointer (some ⟨b, 0, none⟩), .int .i64 k, .map (some m), .tuple #[.int .i64 1, .nilIface], u8, u9, u10, u11, u12, u13, u14, u15, u16, u17, u18, undef, undef], defers := [] } ∧ k ≤ s.size ∧ Way w w1 m b s k w') (fun a' _ => s.size - (intOf (a'.tmps.getD 5 undef)).toNat) rfl ?_ ?_
  · go_wp2_with (go_at_call 28; refine (letters_dict _).mono ?_; rintro e w1 ⟨rfl, hd, hb1⟩)
    refine (Way.start (s := s) hd hb1).mono ?_
    rintro e w2 ⟨rfl, hW⟩
    go_wp2_with fail
    go_step3
    by_cases hk : 0 < s.size
    · go_wp2_with (go_at_call 30; refine (hW.write hk hs).mono ?_; rintro e w3 ⟨rfl, hW⟩)
      go_step3
      exact ⟨rfl, w1, _, _, 1, _, _, _, _, _, _, _, _, _, _, _, rfl, hk, hW⟩
    · go_wp2_with (first
        | (go_at_call 29; refine (hW.shut (by omega) hs).mono ?_; rintro e w3 ⟨rfl, hI, hb⟩)
        | (go_at_call 31; refine (Tryz.Builder_String_any _ _ _ _ hI (Nat.le_trans hW.room hb.size)).mono ?_; rintro e w4 ⟨rfl, hb2⟩))
      simp only [Exit.jump]
      go_ret
      exact ⟨rfl, hW.low.trans (((hW.below.trans hb).trans hb2).mono (by have := hW.at_; have := hW.low.size; omega))⟩
  · rintro a' w2 ⟨w1, m, b, k, u8, u9, u10, u11, u12, u13, u14, u15, u16, u17, u18, rfl, hk0, hW⟩
    by_cases hk : k < s.size
    · go_wp2_with (go_at_call 30; refine (hW.write hk hs).mono ?_; rintro e w3 ⟨rfl, hW⟩)
      go_step3
      refine ⟨rfl, ⟨w1, _, _, k + 1, _, _, _, _, _, _, _, _, _, _, _, by go_num, hk, hW⟩, ?_⟩
      simp [intOf]
      omega
    · go_wp2_with (first
        | (go_at_call 29; refine (hW.shut (by omega) hs).mono ?_; rintro e w3 ⟨rfl, hI, hb⟩)
        | (go_at_call 31; refine (Tryz.Builder_String_any _ _ _ _ hI (Nat.le_trans hW.room hb.size)).mono ?_; rintro e w4 ⟨rfl, hb2⟩))
      simp only [Exit.jump]
      go_ret
      exact ⟨rfl, hW.low.trans (((hW.below.trans hb).trans hb2).mono (by have := hW.at_; have := hW.low.size; omega))⟩
end Go.Proofs.YteoccfmhpakplaaGreatDoor
