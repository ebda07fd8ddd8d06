/- The contract of the document's own reading of a number (tallowref01.Parse): at every text it answers what parseV and parseE say, as num.Parse does. The world stays as it is. -/
import Derived.Test.YteoccfmhpakplaaGreatDoorBase
import Derived.Test.YteoccfmhpakplaaGreatDoorTextMath
import Derived.BigQuiet
import Derived.Deep.QuietTactic
namespace Go.Proofs.YteoccfmhpakplaaGreatDoor
set_option maxRecDepth 20000
open Go.RowKit

def ValIs (l : List UInt8) (k : Nat) (v : Int) : Prop := v = ((valA 0 (l.take k) : Nat) : Int)
theorem valA_lt : ∀ (l : List UInt8) (acc : Nat), l.all digitB = true → valA acc l < (acc + 1) * 10 ^ l.length
  | [], acc, _ => by rw [show valA acc [] = acc from rfl]; simp
  | c :: r, acc, ha => by
    simp only [List.all_cons, Bool.and_eq_true] at ha
    have hc := digitB_iff.1 ha.1
    have h := valA_lt r (acc * 10 + (c.toNat - 48)) ha.2
    rw [valA_cons, List.length_cons, Nat.pow_succ]
    have h2 : (acc * 10 + (c.toNat - 48) + 1) * 10 ^ r.length ≤ ((acc + 1) * 10) * 10 ^ r.length := Nat.mul_le_mul_right _ (by omega)
    rw [Nat.mul_comm (10 ^ r.length) 10, ← Nat.mul_assoc]
    omega
theorem ValIs.bounds {l : List UInt8} {k : Nat} {v : Int} (h : ValIs l k v) (ha : l.all digitB = true) (hk : k ≤ 19) : 0 ≤ v ∧ v < 10000000000000000000 := by
  unfold ValIs at h
  have h1 := valA_lt (l.take k) 0 (List.all_eq_true.2 fun x hx => List.all_eq_true.1 ha x (List.mem_of_mem_take hx))
  have h2 : 10 ^ (l.take k).length ≤ 10 ^ 19 := Nat.pow_le_pow_right (by decide) (by rw [List.length_take]; omega)
  have h3 : 10 ^ 19 = 10000000000000000000 := by decide
  omega
theorem ValIs.low {l : List UInt8} {k : Nat} {v : Int} (h : ValIs l k v) (ha : l.all digitB = true) (hk : k ≤ 18) : 0 ≤ v ∧ v < 1000000000000000000 := by
  unfold ValIs at h
  have h1 := valA_lt (l.take k) 0 (List.all_eq_true.2 fun x hx => List.all_eq_true.1 ha x (List.mem_of_mem_take hx))
  have h2 : 10 ^ (l.take k).length ≤ 10 ^ 18 := Nat.pow_le_pow_right (by decide) (by rw [List.length_take]; omega)
  have h3 : 10 ^ 18 = 1000000000000000000 := by decide
  omega
theorem ValIs.start (l : List UInt8) : ValIs l 0 0 := by unfold ValIs; simp [valA]
theorem ValIs.next {l : List UInt8} {k : Nat} {v : Int} {c : UInt8} (h : ValIs l k v) (hc : l[k]? = some c) (hd : 48 ≤ c.toNat) : ValIs l (k + 1) (10 * v + ((c.toNat : Int) - 48)) := by
  unfold ValIs at *
  rw [List.take_add_one, hc, valA_append, Option.toList_some, valA_cons, show ∀ a, valA a [] = a from fun _ => rfl]
  omega
theorem ValIs.all {l : List UInt8} {k : Nat} {v : Int} (h : ValIs l k v) (hk : l.length ≤ k) : v = ((valA 0 l : Nat) : Int) := by
  unfold ValIs at h; rw [List.take_of_length_le hk] at h; exact h
theorem val_big {l : List UInt8} (hne : l ≠ []) (ha : l.all digitB = true) (hh : l.head? ≠ some 48) (hl : 19 < l.length) : 10000000000000000000 ≤ valA 0 l := by
  match l, hne with
  | c :: r, _ =>
    simp only [List.all_cons, Bool.and_eq_true] at ha
    have hc := digitB_iff.1 ha.1
    have h48 : c.toNat ≠ 48 := fun e => hh (by rw [List.head?_cons]; exact congrArg some (UInt8.toNat_inj.1 e))
    have key : ∀ (l : List UInt8) (acc : Nat), acc * 10 ^ l.length ≤ valA acc l := by
      intro l
      induction l with
      | nil => intro acc; rw [show valA acc [] = acc from rfl]; simp
      | cons x xs ih =>
        intro acc
        rw [valA_cons, List.length_cons, Nat.pow_succ]
        have h2 := ih (acc * 10 + (x.toNat - 48))
        have h3 : (acc * 10) * 10 ^ xs.length ≤ (acc * 10 + (x.toNat - 48)) * 10 ^ xs.length := Nat.mul_le_mul_right _ (by omega)
        rw [Nat.mul_comm (10 ^ xs.length) 10, ← Nat.mul_assoc]
        omega
    have h4 := key r (0 * 10 + (c.toNat - 48))
    have h5 : 10 ^ 19 ≤ 10 ^ r.length := Nat.pow_le_pow_right (by decide) (by rw [List.length_cons] at hl; omega)
    have h6 : 10 ^ 19 = 10000000000000000000 := by decide
    have h7 : 1 * 10 ^ r.length ≤ (0 * 10 + (c.toNat - 48)) * 10 ^ r.length := Nat.mul_le_mul_right _ (by omega)
    rw [valA_cons]
    omega
def negI (v : Int) : Int := (18446744073709551616 - v) % 18446744073709551616
theorem less0_int (v : Int) (w : World) (h0 : 0 ≤ v) (h1 : v < 18446744073709551616) :
    Calls Tryz.prog 88 #[.int .u64 v] w fun e w' => e = .returned (.int .u64 (negI v)) ∧ w' = w := by
  have C := less0_any v.toNat w (by omega)
  rw [Int.toNat_of_nonneg h0] at C
  refine C.mono fun e w' h => ⟨h.1.trans (ret_int ?_), h.2⟩
  unfold negN negI; omega
theorem negI_neg {v : Int} (h0 : 0 ≤ v) (h1 : v ≤ 9223372036854775808) : wrap64 (negI v) = -v := by
  unfold wrap64 negI; omega
set_option maxHeartbeats 400000 in
theorem RParse_minus_none (s d : ByteArray) (w : World) (hs : s.size ≤ 281474976710656) (hp : 0 < s.size) (h45 : ((s[0].toNat : Int) == 45) = true) (hd : s.extract 1 s.size = d) (he : d.size = 0) :
    Calls Tryz.prog 74 #[.string s] w fun e w' => e = .returned (.tuple #[.int .i64 0, .int .i64 4]) ∧ w' = w := by
  have z : ((d.size : Int) == 0) = true := by simp [he]
  clear he
  go_enter Tryz.func74, Tryz.ntmps74
  go_wp2_with fail
  go_ret2
  exact ⟨rfl, rfl⟩
set_option maxHeartbeats 400000 in
theorem RParse_minus_nought (s d : ByteArray) (w : World) (hs : s.size ≤ 281474976710656) (hp : 0 < s.size) (h45 : ((s[0].toNat : Int) == 45) = true) (hd : s.extract 1 s.size = d) (hds : d.size ≤ 281474976710656) (hpos : 0 < d.size) (h48 : ((d[0].toNat : Int) == 48) = true) :
    Calls Tryz.prog 74 #[.string s] w fun e w' => e = .returned (.tuple #[.int .i64 0, .int .i64 4]) ∧ w' = w := by
  have z : ((d.size : Int) == 0) = false := beq_eq_false_iff_ne.2 (by omega)
  go_enter Tryz.func74, Tryz.ntmps74
  go_wp2_with fail
  all_goals go_ret2
  all_goals exact ⟨rfl, rfl⟩
set_option maxHeartbeats 1000000 in
theorem RParse_minus_digits (s d : ByteArray) (w : World) (hs : s.size ≤ 281474976710656) (hp : 0 < s.size) (h45 : ((s[0].toNat : Int) == 45) = true) (hd : s.extract 1 s.size = d) (hds : d.size ≤ 281474976710656) (hpos : 0 < d.size) (h48 : ((d[0].toNat : Int) == 48) = false) (V E : Int)
    (NO : Hid (d.data.toList.all digitB = false → (0 : Int) = V ∧ (4 : Int) = E)) (FAR : Hid (d.data.toList.all digitB = true → 19 < d.size → (0 : Int) = V ∧ (15 : Int) = E))
    (BIG : Hid (∀ v : Int, v = ((valA 0 d.data.toList : Nat) : Int) → d.data.toList.all digitB = true → 9223372036854775808 < v → (0 : Int) = V ∧ (15 : Int) = E))
    (YES : Hid (∀ v : Int, v = ((valA 0 d.data.toList : Nat) : Int) → d.data.toList.all digitB = true → v ≤ 9223372036854775808 → -v = V ∧ (0 : Int) = E)) :
    Calls Tryz.prog 74 #[.string s] w fun e w' => e = .returned (.tuple #[.int .i64 V, .int .i64 E]) ∧ w' = w := by
  have z : ((d.size : Int) == 0) = false := beq_eq_false_iff_ne.2 (by omega)
  have SZ := Lib.hid (Lib.size_eq d)
  go_enter Tryz.func74, Tryz.ntmps74
  go_wp2_with fail
  go_loop [5] (fun i => ∃ k : Nat, k ≤ d.size ∧ i = .int .i64 k ∧ Hid ((d.data.toList.take k).all digitB = true)) (fun i => d.size - (intOf i).toNat)
  case atStart => exact ⟨0, Nat.zero_le _, rfl, rfl⟩
  case round =>
    obtain ⟨k, hk, rfl, HA⟩ := hrel
    by_cases hlt : k < d.size
    · have G : Hid (d.data.toList[k]? = some d[k]) := by
        rw [Hid, List.getElem?_eq_getElem (by rw [← SZ.out]; exact hlt)]; rfl
      by_cases c1 : d[k].toNat < 48
      · have F : Hid (d.data.toList.all digitB = false) := by
          rw [Hid, List.all_eq_false]
          exact ⟨d[k], List.mem_of_getElem? G.out, by simp [digitB]; omega⟩
        go_wp2_with fail
        go_ret2
        exact ⟨ret_pair (NO.out F.out).1 (NO.out F.out).2, rfl⟩
      · by_cases c2 : 57 < d[k].toNat
        · have F : Hid (d.data.toList.all digitB = false) := by
            rw [Hid, List.all_eq_false]
            exact ⟨d[k], List.mem_of_getElem? G.out, by simp [digitB]; omega⟩
          go_wp2_with fail
          go_ret2
          exact ⟨ret_pair (NO.out F.out).1 (NO.out F.out).2, rfl⟩
        · have F : Hid ((d.data.toList.take (k + 1)).all digitB = true) := by
            rw [Hid, List.take_add_one, List.all_append, HA.out, G.out]; simp [digitB]; omega
          go_wp2_with fail
          go_round
          case rel => exact ⟨k + 1, by omega, by go_num, F⟩
          case measure => simp [intOf]; omega
    · have F : Hid (d.data.toList.all digitB = true) := by
        have := HA.out; rw [List.take_of_length_le (by rw [← SZ.out]; omega)] at this; exact this
      obtain rfl : k = d.size := by omega
      by_cases h19 : 19 < d.size
      · first
          | (exfalso; omega)
          | (go_wp2_with fail
             go_ret2
             exact ⟨ret_pair (FAR.out F.out h19).1 (FAR.out F.out h19).2, rfl⟩)
      · go_wp2_with fail
        go_loop [6, 7] (fun o i => ∃ (k : Nat) (v : Int), k ≤ d.size ∧ i = .int .i64 k ∧ o = .int .u64 v ∧ ValIs d.data.toList k v) (fun _ i => d.size - (intOf i).toNat)
        case atStart => exact ⟨0, 0, Nat.zero_le _, rfl, rfl, ValIs.start _⟩
        case round =>
          obtain ⟨j, v, hj, rfl, rfl, hv⟩ := hrel
          by_cases hlt2 : j < d.size
          · have G : Hid (d.data.toList[j]? = some d[j]) := by
              rw [Hid, List.getElem?_eq_getElem (by rw [← SZ.out]; exact hlt2)]; rfl
            have hb := hv.low F.out (by omega)
            have hb0 := hb.1
            have hb1 := hb.2
            have hc := digitB_iff.1 (List.all_eq_true.1 F.out _ (List.mem_of_getElem? G.out))
            have hc0 := hc.1
            have hc1 := hc.2
            clear hb hc
            go_wp2_with fail
            go_round
            case rel => exact ⟨j + 1, _, by omega, by go_num, rfl, hv.next G.out hc0⟩
            case measure => simp [intOf]; omega
          · obtain rfl : j = d.size := by omega
            have hb := hv.bounds F.out (by omega)
            have hb0 := hb.1
            have hb1 := hb.2
            have VA := Lib.hid (hv.all (by rw [← SZ.out]; exact Nat.le_refl _))
            clear hb hv
            by_cases hbig : 9223372036854775808 < v
            · go_wp2_with fail
              go_ret2
              exact ⟨ret_pair (BIG.out v VA.out F.out hbig).1 (BIG.out v VA.out F.out hbig).2, rfl⟩
            · have C := Lib.hid (fun w => less0_int v w hb0 (by omega))
              have N := Lib.hid (negI_neg hb0 (by omega))
              go_wp2_with (go_at_call 88; refine (C.out _).mono ?_; rintro e w' ⟨rfl, hq⟩; obtain rfl := hq.symm)
              go_ret2
              exact ⟨ret_pair (N.out.trans (YES.out v VA.out F.out (by omega)).1) (YES.out v VA.out F.out (by omega)).2, rfl⟩
set_option maxHeartbeats 400000 in
theorem RParse_plain_nought (s : ByteArray) (w : World) (hds : s.size ≤ 281474976710656) (hp : 0 < s.size) (h45 : ((s[0].toNat : Int) == 45) = false) (hpos : 0 < s.size) (h48 : ((s[0].toNat : Int) == 48) = true) (h1 : 1 < s.size) :
    Calls Tryz.prog 74 #[.string s] w fun e w' => e = .returned (.tuple #[.int .i64 0, .int .i64 4]) ∧ w' = w := by
  have z : ((s.size : Int) == 0) = false := beq_eq_false_iff_ne.2 (by omega)
  go_enter Tryz.func74, Tryz.ntmps74
  go_wp2_with fail
  all_goals go_ret2
  all_goals exact ⟨rfl, rfl⟩
set_option maxHeartbeats 1000000 in
theorem RParse_plain_digits (s : ByteArray) (w : World) (hds : s.size ≤ 281474976710656) (hp : 0 < s.size) (h45 : ((s[0].toNat : Int) == 45) = false) (hpos : 0 < s.size) (h48 : ((s[0].toNat : Int) == 48) = false ∨ (((s[0].toNat : Int) == 48) = true ∧ s.size ≤ 1)) (V E : Int)
    (NO : Hid (s.data.toList.all digitB = false → (0 : Int) = V ∧ (4 : Int) = E)) (FAR : Hid (s.data.toList.all digitB = true → 19 < s.size → (0 : Int) = V ∧ (15 : Int) = E))
    (BIG : Hid (∀ v : Int, v = ((valA 0 s.data.toList : Nat) : Int) → s.data.toList.all digitB = true → 9223372036854775808 ≤ v → (0 : Int) = V ∧ (15 : Int) = E))
    (YES : Hid (∀ v : Int, v = ((valA 0 s.data.toList : Nat) : Int) → s.data.toList.all digitB = true → v ≤ 9223372036854775807 → v = V ∧ (0 : Int) = E)) :
    Calls Tryz.prog 74 #[.string s] w fun e w' => e = .returned (.tuple #[.int .i64 V, .int .i64 E]) ∧ w' = w := by
  have z : ((s.size : Int) == 0) = false := beq_eq_false_iff_ne.2 (by omega)
  have SZ := Lib.hid (Lib.size_eq s)
  rcases h48 with h48 | ⟨h48, h1⟩
  all_goals
    go_enter Tryz.func74, Tryz.ntmps74
    go_wp2_with fail
    go_loop [5] (fun i => ∃ k : Nat, k ≤ s.size ∧ i = .int .i64 k ∧ Hid ((s.data.toList.take k).all digitB = true)) (fun i => s.size - (intOf i).toNat)
    case atStart => exact ⟨0, Nat.zero_le _, rfl, rfl⟩
    case round =>
      obtain ⟨k, hk, rfl, HA⟩ := hrel
      by_cases hlt : k < s.size
      · have G : Hid (s.data.toList[k]? = some s[k]) := by
          rw [Hid, List.getElem?_eq_getElem (by rw [← SZ.out]; exact hlt)]; rfl
        by_cases c1 : s[k].toNat < 48
        · have F : Hid (s.data.toList.all digitB = false) := by
            rw [Hid, List.all_eq_false]
            exact ⟨s[k], List.mem_of_getElem? G.out, by simp [digitB]; omega⟩
          go_wp2_with fail
          go_ret2
          exact ⟨ret_pair (NO.out F.out).1 (NO.out F.out).2, rfl⟩
        · by_cases c2 : 57 < s[k].toNat
          · have F : Hid (s.data.toList.all digitB = false) := by
              rw [Hid, List.all_eq_false]
              exact ⟨s[k], List.mem_of_getElem? G.out, by simp [digitB]; omega⟩
            go_wp2_with fail
            go_ret2
            exact ⟨ret_pair (NO.out F.out).1 (NO.out F.out).2, rfl⟩
          · have F : Hid ((s.data.toList.take (k + 1)).all digitB = true) := by
              rw [Hid, List.take_add_one, List.all_append, HA.out, G.out]; simp [digitB]; omega
            go_wp2_with fail
            go_round
            case rel => exact ⟨k + 1, by omega, by go_num, F⟩
            case measure => simp [intOf]; omega
      · have F : Hid (s.data.toList.all digitB = true) := by
          have := HA.out; rw [List.take_of_length_le (by rw [← SZ.out]; omega)] at this; exact this
        obtain rfl : k = s.size := by omega
        by_cases h19 : 19 < s.size
        · first
            | (exfalso; omega)
            | (go_wp2_with fail
               go_ret2
               exact ⟨ret_pair (FAR.out F.out h19).1 (FAR.out F.out h19).2, rfl⟩)
        · go_wp2_with fail
          go_loop [6, 7] (fun o i => ∃ (k : Nat) (v : Int), k ≤ s.size ∧ i = .int .i64 k ∧ o = .int .u64 v ∧ ValIs s.data.toList k v) (fun _ i => s.size - (intOf i).toNat)
          case atStart => exact ⟨0, 0, Nat.zero_le _, rfl, rfl, ValIs.start _⟩
          case round =>
            obtain ⟨j, v, hj, rfl, rfl, hv⟩ := hrel
            by_cases hlt2 : j < s.size
            · have G : Hid (s.data.toList[j]? = some s[j]) := by
                rw [Hid, List.getElem?_eq_getElem (by rw [← SZ.out]; exact hlt2)]; rfl
              have hb := hv.low F.out (by omega)
              have hb0 := hb.1
              have hb1 := hb.2
              have hc := digitB_iff.1 (List.all_eq_true.1 F.out _ (List.mem_of_getElem? G.out))
              have hc0 := hc.1
              have hc1 := hc.2
              clear hb hc
              go_wp2_with fail
              go_round
              case rel => exact ⟨j + 1, _, by omega, by go_num, rfl, hv.next G.out hc0⟩
              case measure => simp [intOf]; omega
            · obtain rfl : j = s.size := by omega
              have hb := hv.bounds F.out (by omega)
              have hb0 := hb.1
              have hb1 := hb.2
              have VA := Lib.hid (hv.all (by rw [← SZ.out]; exact Nat.le_refl _))
              clear hb hv
              by_cases hbig : 9223372036854775808 ≤ v
              · go_wp2_with fail
                go_ret2
                exact ⟨ret_pair (BIG.out v VA.out F.out hbig).1 (BIG.out v VA.out F.out hbig).2, rfl⟩
              · go_wp2_with fail
                go_ret2
                exact ⟨ret_pair (YES.out v VA.out F.out (by omega)).1 (YES.out v VA.out F.out (by omega)).2, rfl⟩
theorem bytes_cons {s : ByteArray} (hp : 0 < s.size) : s.data.toList = s[0] :: (s.extract 1 s.size).data.toList := by
  rw [Lib.extract_data, List.take_of_length_le (by rw [List.length_drop, ← Lib.size_eq]; omega)]
  have h0 : s.data.toList[0]? = some s[0] := by rw [List.getElem?_eq_getElem (by rw [← Lib.size_eq]; exact hp)]; rfl
  generalize s.data.toList = l at h0
  cases l with
  | nil => cases h0
  | cons c r => simp at h0; subst h0; rfl
theorem parse_bad {l : List UInt8} (h : isTextL l = false) : parseV l = 0 ∧ parseE l = 4 := by unfold parseV parseE; simp [h]
theorem isText_minus_iff {r : List UInt8} : isTextL (45 :: r) = true ↔ r ≠ [] ∧ r.all digitB = true ∧ r.head? ≠ some 48 := by
  constructor
  · intro h
    rcases isText_cases h with ⟨r', e, h1, h2, h3⟩ | ⟨h1, _⟩
    · have e := (List.cons.inj e).2; subst e; exact ⟨h1, h2, h3⟩
    · exact absurd rfl h1
  · intro h; exact isText_minus h.1 h.2.1 h.2.2
theorem isText_plain_iff {l : List UInt8} (h45 : l.head? ≠ some 45) : isTextL l = true ↔ l ≠ [] ∧ l.all digitB = true ∧ (l.head? = some 48 → l = [48]) := by
  constructor
  · intro h
    rcases isText_cases h with ⟨r', e, _⟩ | ⟨_, h2, h3, h4⟩
    · subst e; exact absurd rfl h45
    · exact ⟨h2, h3, h4⟩
  · intro h; exact isText_plain h.1 h.2.1 h.2.2
theorem not_true {b : Bool} (h : ¬ b = true) : b = false := by simpa using h
/-- tallowref01.Parse, at every text. -/
theorem RParse_any (s : ByteArray) (w : World) (hs : s.size ≤ 281474976710656) :
    Calls Tryz.prog 74 #[.string s] w fun e w' => e = .returned (.tuple #[.int .i64 (parseV s.data.toList), .int .i64 (parseE s.data.toList)]) ∧ w' = w := by
  by_cases hp : 0 < s.size
  · have hc := bytes_cons hp
    by_cases h45 : s[0].toNat = 45
    · have h45' : ((s[0].toNat : Int) == 45) = true := by simp [h45]
      have e45 : s[0] = 45 := UInt8.toNat_inj.1 h45
      obtain ⟨d, hd⟩ : ∃ d, s.extract 1 s.size = d := ⟨_, rfl⟩
      have hds : d.size ≤ 281474976710656 := by rw [← hd, ByteArray.size_extract]; omega
      rw [hd, e45] at hc
      rw [hc]
      have hsz := Lib.size_eq d
      by_cases h0 : d.size = 0
      · have hne : d.data.toList = [] := List.length_eq_zero_iff.1 (by omega)
        have q := parse_bad (not_true (fun h => (isText_minus_iff.1 h).1 hne))
        rw [q.1, q.2]
        exact RParse_minus_none s d w hs hp h45' hd h0
      · have hpd : 0 < d.size := by omega
        have hne : d.data.toList ≠ [] := fun e => h0 (by rw [hsz, e]; rfl)
        have hdc := bytes_cons hpd
        have hhd : d.data.toList.head? = some d[0] := by rw [hdc]; rfl
        by_cases h48 : d[0].toNat = 48
        · have q := parse_bad (not_true (fun h => (isText_minus_iff.1 h).2.2 (by rw [hhd]; exact congrArg some (UInt8.toNat_inj.1 h48))))
          rw [q.1, q.2]
          exact RParse_minus_nought s d w hs hp h45' hd hds hpd (by simp [h48])
        · have hh : d.data.toList.head? ≠ some 48 := fun e => h48 (by rw [hhd] at e; rw [Option.some.inj e]; rfl)
          have yes : d.data.toList.all digitB = true → isTextL (45 :: d.data.toList) = true := fun h => isText_minus_iff.2 ⟨hne, h, hh⟩
          refine RParse_minus_digits s d w hs hp h45' hd hds hpd (beq_eq_false_iff_ne.2 (by omega)) _ _ ?_ ?_ ?_ ?_
          · intro h
            have q := parse_bad (not_true (fun h2 => by rw [(isText_minus_iff.1 h2).2.1] at h; cases h))
            exact ⟨q.1.symm, q.2.symm⟩
          · intro h h19
            have := val_big hne h hh (by omega)
            unfold parseV parseE
            rw [if_pos (yes h), if_pos (yes h), parse_minus hne h, if_neg (by omega)]
            exact ⟨rfl, rfl⟩
          · intro v hv h hb
            unfold parseV parseE
            rw [if_pos (yes h), if_pos (yes h), parse_minus hne h, if_neg (by omega)]
            exact ⟨rfl, rfl⟩
          · intro v hv h hb
            unfold parseV parseE
            rw [if_pos (yes h), if_pos (yes h), parse_minus hne h, if_pos (by omega)]
            exact ⟨by rw [hv], rfl⟩
    · have h45' : ((s[0].toNat : Int) == 45) = false := beq_eq_false_iff_ne.2 (by omega)
      have hsz := Lib.size_eq s
      have hne : s.data.toList ≠ [] := by rw [hc]; simp
      have hhd : s.data.toList.head? = some s[0] := by rw [hc]; rfl
      have n45 : s.data.toList.head? ≠ some 45 := fun e => h45 (by rw [hhd] at e; rw [Option.some.inj e]; rfl)
      have iff := isText_plain_iff n45
      by_cases hbad : s[0].toNat = 48 ∧ 1 < s.size
      · have q := parse_bad (not_true (fun h => by
          have := (iff.1 h).2.2 (by rw [hhd]; exact congrArg some (UInt8.toNat_inj.1 hbad.1))
          have h1 := hbad.2
          rw [hsz, this] at h1
          simp at h1))
        rw [q.1, q.2]
        exact RParse_plain_nought s w hs hp h45' hp (by simp [hbad.1]) hbad.2
      · have hh : s.data.toList.head? = some 48 → s.data.toList = [48] := fun e => by
          rw [hhd] at e
          have e1 : s[0] = 48 := Option.some.inj e
          have e2 : s[0].toNat = 48 := by rw [e1]; rfl
          have e3 : s.size = 1 := by omega
          rw [hc, e1]
          congr 1
          apply List.length_eq_zero_iff.1
          have := congrArg List.length hc
          rw [List.length_cons] at this
          omega
        have yes : s.data.toList.all digitB = true → isTextL s.data.toList = true := fun h => iff.2 ⟨hne, h, hh⟩
        refine RParse_plain_digits s w hs hp h45' hp ?_ _ _ ?_ ?_ ?_ ?_
        · by_cases h48 : s[0].toNat = 48
          · exact Or.inr ⟨by simp [h48], by omega⟩
          · exact Or.inl (beq_eq_false_iff_ne.2 (by omega))
        · intro h
          have q := parse_bad (not_true (fun h2 => by rw [(iff.1 h2).2.1] at h; cases h))
          exact ⟨q.1.symm, q.2.symm⟩
        · intro h h19
          have hh2 : s.data.toList.head? ≠ some 48 := fun e => by have := hh e; rw [hsz, this] at h19; simp at h19
          have := val_big hne h hh2 (by omega)
          unfold parseV parseE
          rw [if_pos (yes h), if_pos (yes h), parse_plain hne h, if_neg (by omega)]
          exact ⟨rfl, rfl⟩
        · intro v hv h hb
          unfold parseV parseE
          rw [if_pos (yes h), if_pos (yes h), parse_plain hne h, if_neg (by omega)]
          exact ⟨rfl, rfl⟩
        · intro v hv h hb
          unfold parseV parseE
          rw [if_pos (yes h), if_pos (yes h), parse_plain hne h, if_pos (by omega)]
          exact ⟨by rw [hv], rfl⟩
  · have e0 : s = ⟨#[]⟩ := by
      obtain ⟨⟨l⟩⟩ := s
      cases l with
      | nil => rfl
      | cons c r => simp [ByteArray.size] at hp
    subst e0
    have q := parse_bad (l := []) (by decide)
    rw [show (ByteArray.mk #[]).data.toList = [] from rfl, q.1, q.2]
    go_enter Tryz.func74, Tryz.ntmps74
    go_wp2_with fail
    go_ret2
    exact ⟨rfl, rfl⟩
end Go.Proofs.YteoccfmhpakplaaGreatDoor
