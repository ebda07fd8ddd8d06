/- The document's own signs: how many bytes the sign has that begins at a place. -/
import Derived.Test.YteoccfmhpakplaaGreatDoorLexRefA
import Derived.Test.YteoccfmhpakplaaGreatDoorLexTokens
import Derived.RegionTactic
namespace Go.Proofs.YteoccfmhpakplaaGreatDoor
set_option maxRecDepth 20000
open Go.RowKit

def twoL : List (List UInt8) := [[47, 47], [60, 60], [62, 62], [61, 61], [126, 61], [60, 61], [62, 61]]
def onesL : List UInt8 := [43, 45, 42, 37, 38, 124, 126, 60, 62, 61, 46, 44, 40, 41, 91, 93, 123, 125, 35]
theorem signs_parts : signsL = twoL ++ ([46, 46] :: onesL.map fun c => [c]) := by decide
theorem prefix_take {t x : List UInt8} : Lib.hasPrefix t x = (t.take x.length == x) := by
  rw [Bool.eq_iff_iff, hasPrefix_iff, beq_iff_eq]
  constructor
  · rintro ⟨r, rfl⟩; simp
  · intro h; exact ⟨t.drop x.length, by rw [← List.take_append_drop x.length t, h]; simp⟩
theorem sign_two {t x : List UInt8} (h : twoL.find? (fun x => Lib.hasPrefix t x) = some x) : (signL t).length = 2 := by
  unfold signL
  rw [signs_parts, List.find?_append, h]
  have hm := List.mem_of_find?_eq_some h
  unfold twoL at hm
  simp only [List.mem_cons, List.not_mem_nil, or_false] at hm
  rcases hm with rfl | rfl | rfl | rfl | rfl | rfl | rfl <;> rfl
theorem sign_dots {t : List UInt8} (h : twoL.find? (fun x => Lib.hasPrefix t x) = none) (hd : Lib.hasPrefix t [46, 46] = true) : (signL t).length = 2 := by
  unfold signL
  rw [signs_parts, List.find?_append, h, Option.none_or, List.find?_cons, hd]; rfl
theorem ones_find {c : UInt8} {r : List UInt8} : ∀ l : List UInt8, (l.map fun c => [c]).find? (fun x => Lib.hasPrefix (c :: r) x) = if l.contains c then some [c] else none
  | [] => rfl
  | x :: l => by
    rw [List.map_cons, List.find?_cons, prefix_take, List.contains_cons]
    have e : (((c :: r).take [x].length) == [x]) = (c == x) := by
      rw [Bool.eq_iff_iff]; simp
    rw [e]
    cases hc : c == x with
    | true => rw [beq_iff_eq.1 hc]; simp
    | false => rw [ones_find l]; simp
theorem sign_one {c : UInt8} {r : List UInt8} (h : twoL.find? (fun x => Lib.hasPrefix (c :: r) x) = none) (hd : Lib.hasPrefix (c :: r) [46, 46] = false) : (signL (c :: r)).length = if onesL.contains c then 1 else 0 := by
  unfold signL
  rw [signs_parts, List.find?_append, h, Option.none_or, List.find?_cons, hd, ones_find]
  cases onesL.contains c <;> rfl
def twoT (k : Nat) : ByteArray := ⟨(twoL.getD k []).toArray⟩
theorem two_length : twoL.length = 7 := rfl
theorem twoT_list {k : Nat} (hk : k < 7) : (twoT k).data.toList = twoL[k]'hk := by
  show twoL.getD k [] = _
  rw [List.getD_eq_getElem?_getD, List.getElem?_eq_getElem (by exact hk)]; rfl
theorem two_len : ∀ x ∈ twoL, x.length = 2 := by decide
/-- The array of the call's own. -/
structure TwoAt (w wr : World) : Prop where
  cell : ∀ k, k < 7 → wr.cell? ⟨w.heap.size, k, none⟩ = some (.string (twoT k))
  below : Below w.heap.size w wr
theorem two_new (w : World) (E : TypeId) : TwoAt w (w.alloc (.cells #[.string ⟨#[47, 47]⟩, .string ⟨#[60, 60]⟩, .string ⟨#[62, 62]⟩, .string ⟨#[61, 61]⟩, .string ⟨#[126, 61]⟩, .string ⟨#[60, 61]⟩, .string ⟨#[62, 61]⟩] E)) := by
  refine ⟨fun k hk => ?_, (Below.refl _ _).alloc (Nat.le_refl _) _⟩
  have : k = 0 ∨ k = 1 ∨ k = 2 ∨ k = 3 ∨ k = 4 ∨ k = 5 ∨ k = 6 := by omega
  rcases this with rfl | rfl | rfl | rfl | rfl | rfl | rfl <;> simp [go_sem] <;> rfl
theorem TwoAt.drew {w wr : World} (h : TwoAt w wr) : TwoAt w wr.drew := ⟨h.cell, h.below.drew⟩
theorem two_size : (Tryz.prog.info? 119).map (·.size) = some 7 := by kernel_rfl
def oneT : ByteArray := ⟨#[43, 45, 42, 37, 38, 124, 126, 60, 62, 61, 46, 44, 40, 41, 91, 93, 123, 125, 35]⟩
theorem oneT_size : oneT.size = 19 := rfl
theorem oneT_list : oneT.data.toList = onesL := rfl
theorem ones_length : onesL.length = 19 := rfl
theorem oneT_at {k : Nat} (hk : k < 19) : oneT[k]'hk = onesL[k]'hk := by
  have h := byte_at (s := oneT) (k := k) hk
  have e : oneT.data.toList[k]? = some (onesL[k]'hk) := by rw [oneT_list]; exact List.getElem?_eq_getElem hk
  rw [e] at h
  exact (Option.some.inj h).symm
theorem contains_snoc {l : List UInt8} {k : Nat} {c : UInt8} (h : (l.take k).contains c = false) (hk : k < l.length) (hc : l[k] ≠ c) : (l.take (k + 1)).contains c = false := by
  rw [Bool.eq_false_iff] at *
  intro g
  rw [List.contains_iff_mem, List.take_add_one, List.getElem?_eq_getElem hk, List.mem_append] at g
  rcases g with g | g
  · exact h (List.contains_iff_mem.2 g)
  · simp at g; exact hc g.symm
theorem index_one {k : Nat} (hk : k < 19) (w : World) : (Instr.index 9 (.string oneT) (.int .i64 k)).run Tryz.prog w = .ok (.int .u8 (onesL[k]'hk).toNat) w := by
  rw [index_at oneT k hk, oneT_at hk]
/-- What is behind the pairs: a single byte's sign. -/
def OneEnd (s : ByteArray) (a : Nat) (r : Nat) : Prop := (signL (s.data.toList.drop a)).length = r
set_option maxHeartbeats 4000000 in
theorem Lsign_room (s : ByteArray) (a : Nat) (w : World) (hs : s.size ≤ 1048576) (ha : a + 2 ≤ s.size) :
    Calls Tryz.prog 55 #[.string s, .int .i64 a] w fun e w' => e = .returned (.int .i64 (signL (s.data.toList.drop a)).length) ∧ Below w.heap.size w w' := by
  have HT := Lib.hid (two_new w 119)
  have q2 : decide ((a : Int) + 2 ≤ (s.size : Int)) = true := decide_eq_true (by omega)
  obtain ⟨x, hx⟩ : ∃ x, s.extract a (a + 2) = x := ⟨_, rfl⟩
  have hxl : x.data.toList = (s.data.toList.drop a).take 2 := by
    rw [← hx, Lib.extract_data]; congr 1; omega
  have HX := Lib.hid hxl
  clear hxl
  have hcons : s.data.toList.drop a = s[a] :: s.data.toList.drop (a + 1) := drop_cons (byte_at (by omega))
  have HC := Lib.hid hcons
  clear hcons
  go_enter Tryz.func55, Tryz.ntmps55
  go_wp2_with (refine wpList_store_new rfl 119 _ _ rfl w _ _ rfl rfl rfl two_size rfl (by simp [Value.oneCell']) ?_)
  go_loopw [6] (fun i wr => ∃ k : Nat, k ≤ 7 ∧ i = .int .i64 k ∧ Hid (TwoAt w wr) ∧ Hid ((twoL.take k).find? (fun x => Lib.hasPrefix (s.data.toList.drop a) x) = none)) (fun i _ => 7 - (intOf i).toNat)
  case atStart => exact ⟨0, by omega, rfl, HT, rfl⟩
  case round =>
    obtain ⟨k, hk, rfl, HT2, hN⟩ := hrel
    clear HT
    by_cases hlt : k < 7
    · have c0 := HT2.out.cell k hlt
      have k0 : (0 : Int) ≤ (k : Int) := by omega
      have k1 : (k : Int) < (7 : Int) := by omega
      have hp : (x.toList == (twoT k).toList) = Lib.hasPrefix (s.data.toList.drop a) (twoL[k]'hlt) := by
        have hl2 := two_len _ (List.getElem_mem (show k < twoL.length from hlt))
        rw [Lib.toList_data, Lib.toList_data, twoT_list hlt, HX.out]
        generalize twoL[k]'hlt = y at hl2
        rw [prefix_take, hl2]
      cases hv : Lib.hasPrefix (s.data.toList.drop a) (twoL[k]'hlt) with
      | true =>
        rw [hv] at hp
        have E := Lib.hid (sign_two (find_hit (f := fun x => Lib.hasPrefix (s.data.toList.drop a) x) (l := twoL) hN.out hlt hv))
        generalize twoT k = t at c0 hp
        go_wp2_with fail
        go_region
        go_wp2_with fail
        go_ret
        exact ⟨ret_int (by rw [E.out]; rfl), HT2.out.drew.below⟩
      | false =>
        rw [hv] at hp
        have R := Lib.hid (find_none_snoc (f := fun x => Lib.hasPrefix (s.data.toList.drop a) x) (l := twoL) hN.out hlt hv)
        generalize twoT k = t at c0 hp
        go_wp2_with fail
        go_region
        go_wp2_with fail
        go_roundw
        case rel => exact ⟨k + 1, by omega, by go_num, HT2.out.drew, R⟩
        case measure => simp [intOf]; omega
    · obtain rfl : k = 7 := by omega
      have N : Hid (twoL.find? (fun x => Lib.hasPrefix (s.data.toList.drop a) x) = none) := by
        have h := hN.out
        rw [List.take_of_length_le (by rw [two_length]; omega)] at h
        exact h
      have hp : (x.toList == [46, 46]) = Lib.hasPrefix (s.data.toList.drop a) [46, 46] := by
        rw [Lib.toList_data, HX.out, prefix_take]; rfl
      cases hv : Lib.hasPrefix (s.data.toList.drop a) [46, 46] with
      | true =>
        rw [hv] at hp
        have E := Lib.hid (sign_dots N.out hv)
        go_wp2_with fail
        go_ret
        exact ⟨ret_int (by rw [E.out]; rfl), HT2.out.below⟩
      | false =>
        rw [hv] at hp
        have E : Hid ((signL (s.data.toList.drop a)).length = if onesL.contains s[a] then 1 else 0) := by
          have n := N.out
          rw [HC.out] at n hv
          rw [Hid, HC.out]; exact sign_one n hv
        clear hlt hN
        go_wp2_with fail
        go_loopw [8] (fun i wr => ∃ k : Nat, k ≤ 19 ∧ i = .int .i64 k ∧ Hid (TwoAt w wr) ∧ Hid ((onesL.take k).contains s[a] = false)) (fun i _ => 19 - (intOf i).toNat)
        case atStart => exact ⟨0, by omega, rfl, HT2, rfl⟩
        case round =>
          obtain ⟨k, hk, rfl, HT3, hM⟩ := hrel
          clear HT2
          by_cases hlt : k < 19
          · have i0 := index_at s a (by omega)
            have i1 := fun w => index_one hlt w
            unfold oneT at i1
            have k0 : (0 : Int) ≤ (k : Int) := by omega
            have k1 : (k : Int) < (19 : Int) := by omega
            by_cases hc : onesL[k]'hlt = s[a]
            · have q : ((s[a].toNat : Int) == ((onesL[k]'hlt).toNat : Int)) = true := beq_byte hc.symm
              have E1 : Hid ((signL (s.data.toList.drop a)).length = 1) := by
                rw [Hid, E.out, if_pos (List.contains_iff_mem.2 (hc ▸ List.getElem_mem _))]
              generalize onesL[k]'hlt = y at i1 q hc
              clear hc
              go_wp2_with fail
              go_region
              go_wp2_with fail
              go_ret
              exact ⟨ret_int (by rw [E1.out]; rfl), HT3.out.drew.below⟩
            · have q : ((s[a].toNat : Int) == ((onesL[k]'hlt).toNat : Int)) = false := bne_byte (fun e => hc e.symm)
              have R := Lib.hid (contains_snoc (l := onesL) hM.out hlt hc)
              generalize onesL[k]'hlt = y at i1 q hc
              clear hc
              go_wp2_with fail
              go_region
              go_wp2_with fail
              go_roundw
              case rel => exact ⟨k + 1, by omega, by go_num, HT3.out.drew, R⟩
              case measure => simp [intOf]; omega
          · obtain rfl : k = 19 := by omega
            have E0 : Hid ((signL (s.data.toList.drop a)).length = 0) := by
              have h := hM.out
              rw [List.take_of_length_le (by rw [ones_length]; omega)] at h
              rw [Hid, E.out, h]; rfl
            go_wp2_with fail
            go_ret
            exact ⟨ret_int (by rw [E0.out]; rfl), HT3.out.below⟩
set_option maxHeartbeats 4000000 in
theorem Lsign_last (s : ByteArray) (a : Nat) (w : World) (hs : s.size ≤ 1048576) (ha : a + 1 = s.size) :
    Calls Tryz.prog 55 #[.string s, .int .i64 a] w fun e w' => e = .returned (.int .i64 (signL (s.data.toList.drop a)).length) ∧ Below w.heap.size w w' := by
  have HT := Lib.hid (two_new w 119)
  have q2 : decide ((a : Int) + 2 ≤ (s.size : Int)) = false := decide_eq_false (by omega)
  have hcons : s.data.toList.drop a = s[a] :: s.data.toList.drop (a + 1) := drop_cons (byte_at (by omega))
  have HC := Lib.hid hcons
  clear hcons
  have hsh : ∀ x : List UInt8, x.length = 2 → Lib.hasPrefix (s.data.toList.drop a) x = false := by
    intro x hx
    rw [prefix_take, hx]
    refine beq_eq_false_iff_ne.2 fun e => ?_
    have h := congrArg List.length e
    rw [List.length_take, List.length_drop, size_toList, hx] at h
    omega
  have SH := Lib.hid hsh
  clear hsh
  go_enter Tryz.func55, Tryz.ntmps55
  go_wp2_with (refine wpList_store_new rfl 119 _ _ rfl w _ _ rfl rfl rfl two_size rfl (by simp [Value.oneCell']) ?_)
  go_loopw [6] (fun i wr => ∃ k : Nat, k ≤ 7 ∧ i = .int .i64 k ∧ Hid (TwoAt w wr) ∧ Hid ((twoL.take k).find? (fun x => Lib.hasPrefix (s.data.toList.drop a) x) = none)) (fun i _ => 7 - (intOf i).toNat)
  case atStart => exact ⟨0, by omega, rfl, HT, rfl⟩
  case round =>
    obtain ⟨k, hk, rfl, HT2, hN⟩ := hrel
    clear HT
    by_cases hlt : k < 7
    · have c0 := HT2.out.cell k hlt
      have k0 : (0 : Int) ≤ (k : Int) := by omega
      have k1 : (k : Int) < (7 : Int) := by omega
      have hv := SH.out _ (two_len _ (List.getElem_mem (show k < twoL.length from hlt)))
      have R := Lib.hid (find_none_snoc (f := fun x => Lib.hasPrefix (s.data.toList.drop a) x) (l := twoL) hN.out hlt hv)
      clear hv
      generalize twoT k = t at c0
      go_wp2_with fail
      go_region
      go_wp2_with fail
      go_roundw
      case rel => exact ⟨k + 1, by omega, by go_num, HT2.out.drew, R⟩
      case measure => simp [intOf]; omega
    · obtain rfl : k = 7 := by omega
      have N : Hid (twoL.find? (fun x => Lib.hasPrefix (s.data.toList.drop a) x) = none) := by
        have h := hN.out
        rw [List.take_of_length_le (by rw [two_length]; omega)] at h
        exact h
      have hv := SH.out [46, 46] rfl
      have E : Hid ((signL (s.data.toList.drop a)).length = if onesL.contains s[a] then 1 else 0) := by
        have n := N.out
        rw [HC.out] at n hv
        rw [Hid, HC.out]; exact sign_one n hv
      clear hlt hN
      go_wp2_with fail
      go_loopw [8] (fun i wr => ∃ k : Nat, k ≤ 19 ∧ i = .int .i64 k ∧ Hid (TwoAt w wr) ∧ Hid ((onesL.take k).contains s[a] = false)) (fun i _ => 19 - (intOf i).toNat)
      case atStart => exact ⟨0, by omega, rfl, HT2, rfl⟩
      case round =>
        obtain ⟨k, hk, rfl, HT3, hM⟩ := hrel
        clear HT2
        by_cases hlt : k < 19
        · have i0 := index_at s a (by omega)
          have i1 := fun w => index_one hlt w
          unfold oneT at i1
          have k0 : (0 : Int) ≤ (k : Int) := by omega
          have k1 : (k : Int) < (19 : Int) := by omega
          by_cases hc : onesL[k]'hlt = s[a]
          · have q : ((s[a].toNat : Int) == ((onesL[k]'hlt).toNat : Int)) = true := beq_byte hc.symm
            have E1 : Hid ((signL (s.data.toList.drop a)).length = 1) := by
              rw [Hid, E.out, if_pos (List.contains_iff_mem.2 (hc ▸ List.getElem_mem _))]
            generalize onesL[k]'hlt = y at i1 q hc
            clear hc
            go_wp2_with fail
            go_region
            go_wp2_with fail
            go_ret
            exact ⟨ret_int (by rw [E1.out]; rfl), HT3.out.drew.below⟩
          · have q : ((s[a].toNat : Int) == ((onesL[k]'hlt).toNat : Int)) = false := bne_byte (fun e => hc e.symm)
            have R := Lib.hid (contains_snoc (l := onesL) hM.out hlt hc)
            generalize onesL[k]'hlt = y at i1 q hc
            clear hc
            go_wp2_with fail
            go_region
            go_wp2_with fail
            go_roundw
            case rel => exact ⟨k + 1, by omega, by go_num, HT3.out.drew, R⟩
            case measure => simp [intOf]; omega
        · obtain rfl : k = 19 := by omega
          have E0 : Hid ((signL (s.data.toList.drop a)).length = 0) := by
            have h := hM.out
            rw [List.take_of_length_le (by rw [ones_length]; omega)] at h
            rw [Hid, E.out, h]; rfl
          go_wp2_with fail
          go_ret
          exact ⟨ret_int (by rw [E0.out]; rfl), HT3.out.below⟩
/-- tallowref04.sign. -/
theorem Lsign_any (s : ByteArray) (a : Nat) (w : World) (hs : s.size ≤ 1048576) (ha : a < s.size) :
    Calls Tryz.prog 55 #[.string s, .int .i64 a] w fun e w' => e = .returned (.int .i64 (signL (s.data.toList.drop a)).length) ∧ Below w.heap.size w w' := by
  by_cases h : a + 2 ≤ s.size
  · exact Lsign_room s a w hs h
  · exact Lsign_last s a w hs (by omega)
end Go.Proofs.YteoccfmhpakplaaGreatDoor
