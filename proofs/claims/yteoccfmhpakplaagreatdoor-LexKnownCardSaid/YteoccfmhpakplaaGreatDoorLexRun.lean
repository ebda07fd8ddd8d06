/- The small contracts of lex: which bytes are blanks, digits, a name's; how many bytes of a text go on; where a string ends. -/
import Derived.Test.YteoccfmhpakplaaGreatDoorLexMath
import Derived.Test.YteoccfmhpakplaaGreatDoorQuoteRefU
namespace Go.Proofs.YteoccfmhpakplaaGreatDoor
open Go.RowKit

theorem isDigit_any (c : UInt8) (w : World) : Calls Tryz.prog 39 #[.int .u8 c.toNat] w fun e w' => e = .returned (.bool (digitB c)) ∧ w' = w := by
  have hc := c.toNat_lt
  go_enter Tryz.func39, Tryz.ntmps39
  go_wp2_with fail
  all_goals go_ret
  all_goals refine ⟨ret_bool ?_, rfl⟩
  all_goals (rw [Bool.eq_iff_iff]; simp [digitB]; omega)
theorem isBlank_any (c : UInt8) (w : World) : Calls Tryz.prog 37 #[.int .u8 c.toNat] w fun e w' => e = .returned (.bool (blankB c)) ∧ w' = w := by
  have hc := c.toNat_lt
  go_enter Tryz.func37, Tryz.ntmps37
  go_wp2_with fail
  all_goals go_ret
  all_goals refine ⟨ret_bool ?_, rfl⟩
  all_goals (rw [Bool.eq_iff_iff]; simp [blankB]; omega)
theorem inName_any (c : UInt8) (w : World) : Calls Tryz.prog 34 #[.int .u8 c.toNat] w fun e w' => e = .returned (.bool (nameB c)) ∧ w' = w := by
  have hc := c.toNat_lt
  have D := Lib.hid (isDigit_any c)
  go_enter Tryz.func34, Tryz.ntmps34
  go_wp2_with (go_at_call 39; refine (D.out _).mono ?_; rintro e w1 ⟨rfl, rfl⟩)
  all_goals go_ret
  all_goals refine ⟨ret_bool ?_, rfl⟩
  all_goals (rw [Bool.eq_iff_iff]; simp [nameB, letterB, digitB]; omega)
theorem notFeed_any (c : UInt8) (w : World) : Calls Tryz.prog 61 #[.int .u8 c.toNat] w fun e w' => e = .returned (.bool (c != 10)) ∧ w' = w := by
  have hc := c.toNat_lt
  go_enter Tryz.func61, Tryz.ntmps61
  go_wp2_with fail
  all_goals go_ret
  all_goals refine ⟨ret_bool ?_, rfl⟩
  all_goals (rw [Bool.eq_iff_iff]; simp [← UInt8.toNat_inj]; omega)
theorem takeWhile_upto {p : UInt8 → Bool} {l : List UInt8} {k : Nat} (hk : k ≤ l.length) (ha : (l.take k).all p = true) (hs : l.length ≤ k ∨ ∃ c, l[k]? = some c ∧ p c = false) : (l.takeWhile p).length = k := by
  have e : l = l.take k ++ l.drop k := (List.take_append_drop k l).symm
  rw [e, List.takeWhile_append_of_pos (by simpa using ha), List.length_append, List.length_take, Nat.min_eq_left hk]
  rcases hs with h | ⟨c, hc, hp⟩
  · rw [List.drop_eq_nil_of_le h]; simp
  · rw [List.drop_eq_getElem_cons (List.getElem?_eq_some_iff.1 hc).1, List.takeWhile_cons]
    rw [(List.getElem?_eq_some_iff.1 hc).2, hp]; simp
theorem all_snoc {p : UInt8 → Bool} {l : List UInt8} {k : Nat} {c : UInt8} (ha : (l.take k).all p = true) (hc : l[k]? = some c) (hp : p c = true) : (l.take (k + 1)).all p = true := by
  rw [List.take_add_one, List.all_append, ha, hc]; simp [hp]
/-- lex.run, at whatever asks a byte. -/
theorem run_any (F : Nat) (p : UInt8 → Bool) (s : ByteArray) (w : World) (hs : s.size ≤ 1048576)
    (hE : ∀ args w, (callFunc F args).run Tryz.prog w = .ok (.enter F args) w)
    (hF : Hid (∀ c w, Calls Tryz.prog F #[.int .u8 c.toNat] w fun e w' => e = .returned (.bool (p c)) ∧ w' = w)) :
    Calls Tryz.prog 33 #[.string s, .func (.func F) #[] #[]] w fun e w' => e = .returned (.int .i64 (s.data.toList.takeWhile p).length) ∧ w' = w := by
  have L := size_toList s
  have L := Lib.hid L
  go_enter Tryz.func33, Tryz.ntmps33
  go_wp2_with fail
  go_loop [8] (fun i => ∃ k : Nat, k ≤ s.size ∧ i = .int .i64 k ∧ Hid ((s.data.toList.take k).all p = true)) (fun i => s.size - (intOf i).toNat)
  case atStart => exact ⟨0, by omega, rfl, by simp [Hid]⟩
  case round =>
    obtain ⟨k, hk, rfl, hall⟩ := hrel
    by_cases hlt : k < s.size
    · have hget := Lib.hid (byte_at hlt)
      cases hp : p s[k] with
      | true =>
        have C := hF.out s[k]
        rw [hp] at C
        have C := Lib.hid C
        go_wp2_with (go_at_fn F; refine (C.out _).mono ?_; rintro e w1 ⟨rfl, rfl⟩)
        go_round
        case rel => exact ⟨k + 1, by omega, by go_num, all_snoc hall.out hget.out hp⟩
        case measure => simp [intOf]; omega
      | false =>
        have C := hF.out s[k]
        rw [hp] at C
        have C := Lib.hid C
        have E := Lib.hid (takeWhile_upto (by rw [L.out]; exact hk) hall.out (.inr ⟨_, hget.out, hp⟩))
        go_wp2_with (go_at_fn F; refine (C.out _).mono ?_; rintro e w1 ⟨rfl, rfl⟩)
        go_ret
        exact ⟨ret_int (by rw [E.out]), rfl⟩
    · have E := Lib.hid (takeWhile_upto (by rw [L.out]; exact hk) hall.out (.inl (by rw [L.out]; omega)))
      obtain rfl : k = s.size := by omega
      go_wp2_with fail
      go_ret
      exact ⟨ret_int (by rw [E.out]), rfl⟩
theorem enter_blank : ∀ args w, (callFunc 37 args).run Tryz.prog w = .ok (.enter 37 args) w := fun _ _ => by kernel_rfl
theorem enter_name : ∀ args w, (callFunc 34 args).run Tryz.prog w = .ok (.enter 34 args) w := fun _ _ => by kernel_rfl
theorem enter_feed : ∀ args w, (callFunc 61 args).run Tryz.prog w = .ok (.enter 61 args) w := fun _ _ => by kernel_rfl
theorem run_name (s : ByteArray) (w : World) (hs : s.size ≤ 1048576) :
    Calls Tryz.prog 33 #[.string s, .func (.func 34) #[] #[]] w fun e w' => e = .returned (.int .i64 (s.data.toList.takeWhile nameB).length) ∧ w' = w := run_any _ _ s w hs enter_name inName_any
/-- lex.blanks. -/
theorem blanks_any (s : ByteArray) (w : World) (hs : s.size ≤ 1048576) :
    Calls Tryz.prog 32 #[.string s] w fun e w' => e = .returned (.int .i64 (blanksL s.data.toList).length) ∧ w' = w := by
  have P := Tryz.strings_HasPrefix s ⟨#[45, 45]⟩
  rw [show (ByteArray.mk #[45, 45]).data.toList = [45, 45] from rfl] at P
  unfold blanksL
  cases hp : Lib.hasPrefix s.data.toList [45, 45] with
  | true =>
    rw [hp] at P
    have P := Lib.hid P
    have R := Lib.hid (fun w => run_any _ _ s w hs enter_feed notFeed_any)
    rw [if_pos rfl]
    go_enter Tryz.func32, Tryz.ntmps32
    go_wp2_with (first
      | (go_at_call 38; refine (P.out _).mono ?_; rintro e w1 ⟨rfl, rfl⟩)
      | (go_at_call 33; refine (R.out _).mono ?_; rintro e w1 ⟨rfl, rfl⟩))
    go_ret
    exact ⟨rfl, rfl⟩
  | false =>
    rw [hp] at P
    have P := Lib.hid P
    have R := Lib.hid (fun w => run_any _ _ s w hs enter_blank isBlank_any)
    rw [if_neg (by simp)]
    go_enter Tryz.func32, Tryz.ntmps32
    go_wp2_with (first
      | (go_at_call 38; refine (P.out _).mono ?_; rintro e w1 ⟨rfl, rfl⟩)
      | (go_at_call 33; refine (R.out _).mono ?_; rintro e w1 ⟨rfl, rfl⟩))
    go_ret
    exact ⟨rfl, rfl⟩
/-- lex.begins. -/
theorem begins_nil (w : World) : Calls Tryz.prog 22 #[.string ⟨#[]⟩] w fun e w' => e = .returned (.int .i64 5) ∧ w' = w := by
  go_enter Tryz.func22, Tryz.ntmps22
  go_wp2_with fail
  go_ret
  exact ⟨rfl, rfl⟩
theorem empty_iff {s : ByteArray} : s.data.toList = [] ↔ s.size = 0 := by rw [← size_toList, List.length_eq_zero_iff]
theorem notEmpty_of {s : ByteArray} (h : 0 < s.size) : s.toList.isEmpty = false := by
  rw [Lib.toList_data]
  cases g : s.data.toList with
  | nil => have := size_toList s; rw [g] at this; simp at this; omega
  | cons c r => rfl
set_option maxHeartbeats 1000000 in
theorem begins_cons (s : ByteArray) (w : World) (h0 : 0 < s.size) : Calls Tryz.prog 22 #[.string s] w fun e w' => e = .returned (.int .i64 (kindL s.data.toList)) ∧ w' = w := by
  have hem := notEmpty_of h0
  have P := Tryz.strings_HasPrefix s ⟨#[45, 45]⟩
  rw [show (ByteArray.mk #[45, 45]).data.toList = [45, 45] from rfl] at P
  obtain ⟨r, hr⟩ := head_at h0
  have B := isBlank_any s[0]
  have D := isDigit_any s[0]
  have N := inName_any s[0]
  have i0 := index_at s 0 h0
  rcases kind_cases s[0] r with ⟨g, e⟩ | ⟨⟨g1, g2⟩, ⟨h, e⟩ | ⟨h1, h2, e⟩ | ⟨h1, h2, h3, e⟩ | ⟨h1, h2, h3, e⟩⟩
  · rw [hr, e]
    rw [hr] at P
    by_cases gb : blankB s[0] = true
    · rw [gb] at B
      have B := Lib.hid B
      clear P D N
      go_enter Tryz.func22, Tryz.ntmps22
      go_wp2_with (go_at_call 37; refine (B.out _).mono ?_; rintro e w1 ⟨rfl, rfl⟩)
      go_ret
      exact ⟨rfl, rfl⟩
    · rw [false_of gb] at B
      rw [g.resolve_left gb] at P
      have B := Lib.hid B
      have P := Lib.hid P
      clear D N
      go_enter Tryz.func22, Tryz.ntmps22
      go_wp2_with (first
        | (go_at_call 37; refine (B.out _).mono ?_; rintro e w1 ⟨rfl, rfl⟩)
        | (go_at_call 38; refine (P.out _).mono ?_; rintro e w1 ⟨rfl, rfl⟩))
      go_ret
      exact ⟨rfl, rfl⟩
  · rw [hr, e]
    rw [hr, g2] at P
    rw [g1] at B
    rw [h] at D
    have B := Lib.hid B
    have P := Lib.hid P
    have D := Lib.hid D
    have N := Lib.hid N
    clear hr g1 g2 e h
    go_enter Tryz.func22, Tryz.ntmps22
    go_wp2_with (first
        | (go_at_call 37; with_reducible refine (B.out _).mono ?_; rintro e w1 ⟨rfl, rfl⟩)
        | (go_at_call 38; with_reducible refine (P.out _).mono ?_; rintro e w1 ⟨rfl, rfl⟩)
        | (go_at_call 39; with_reducible refine (D.out _).mono ?_; rintro e w1 ⟨rfl, rfl⟩)
        | (go_at_call 34; with_reducible refine (N.out _).mono ?_; rintro e w1 ⟨rfl, rfl⟩))
    go_ret
    exact ⟨rfl, rfl⟩
  · rw [hr, e]
    rw [hr, g2] at P
    rw [g1] at B
    rw [h1] at D
    rw [h2] at N
    have B := Lib.hid B
    have P := Lib.hid P
    have D := Lib.hid D
    have N := Lib.hid N
    clear hr g1 g2 e h1 h2
    go_enter Tryz.func22, Tryz.ntmps22
    go_wp2_with (first
        | (go_at_call 37; with_reducible refine (B.out _).mono ?_; rintro e w1 ⟨rfl, rfl⟩)
        | (go_at_call 38; with_reducible refine (P.out _).mono ?_; rintro e w1 ⟨rfl, rfl⟩)
        | (go_at_call 39; with_reducible refine (D.out _).mono ?_; rintro e w1 ⟨rfl, rfl⟩)
        | (go_at_call 34; with_reducible refine (N.out _).mono ?_; rintro e w1 ⟨rfl, rfl⟩))
    go_ret
    exact ⟨rfl, rfl⟩
  · rw [hr, e]
    rw [hr, g2] at P
    rw [g1] at B
    rw [h1] at D
    rw [h2] at N
    have q34 : ((s[0].toNat : Int) == 34) = true := beq_byte h3
    have B := Lib.hid B
    have P := Lib.hid P
    have D := Lib.hid D
    have N := Lib.hid N
    clear hr g1 g2 e h1 h2 h3
    go_enter Tryz.func22, Tryz.ntmps22
    go_wp2_with (first
        | (go_at_call 37; with_reducible refine (B.out _).mono ?_; rintro e w1 ⟨rfl, rfl⟩)
        | (go_at_call 38; with_reducible refine (P.out _).mono ?_; rintro e w1 ⟨rfl, rfl⟩)
        | (go_at_call 39; with_reducible refine (D.out _).mono ?_; rintro e w1 ⟨rfl, rfl⟩)
        | (go_at_call 34; with_reducible refine (N.out _).mono ?_; rintro e w1 ⟨rfl, rfl⟩))
    go_ret
    exact ⟨rfl, rfl⟩
  · rw [hr, e]
    rw [hr, g2] at P
    rw [g1] at B
    rw [h1] at D
    rw [h2] at N
    have q34 : ((s[0].toNat : Int) == 34) = false := bne_byte h3
    have B := Lib.hid B
    have P := Lib.hid P
    have D := Lib.hid D
    have N := Lib.hid N
    clear hr g1 g2 e h1 h2 h3
    go_enter Tryz.func22, Tryz.ntmps22
    go_wp2_with (first
        | (go_at_call 37; with_reducible refine (B.out _).mono ?_; rintro e w1 ⟨rfl, rfl⟩)
        | (go_at_call 38; with_reducible refine (P.out _).mono ?_; rintro e w1 ⟨rfl, rfl⟩)
        | (go_at_call 39; with_reducible refine (D.out _).mono ?_; rintro e w1 ⟨rfl, rfl⟩)
        | (go_at_call 34; with_reducible refine (N.out _).mono ?_; rintro e w1 ⟨rfl, rfl⟩))
    go_ret
    exact ⟨rfl, rfl⟩
theorem begins_any (s : ByteArray) (w : World) : Calls Tryz.prog 22 #[.string s] w fun e w' => e = .returned (.int .i64 (kindL s.data.toList)) ∧ w' = w := by
  by_cases h0 : 0 < s.size
  · exact begins_cons s w h0
  · obtain rfl : s = ⟨#[]⟩ := ByteArray.ext (Array.eq_empty_of_size_eq_zero (by have : s.data.size = s.size := rfl; omega))
    exact begins_nil w
end Go.Proofs.YteoccfmhpakplaaGreatDoor
