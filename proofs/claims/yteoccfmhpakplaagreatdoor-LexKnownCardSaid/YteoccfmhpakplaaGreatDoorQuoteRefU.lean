/- The document's own reading of a text (tallowref03.Unquote). -/
import Derived.Test.YteoccfmhpakplaaGreatDoorBase
import Derived.Test.YteoccfmhpakplaaGreatDoorQuoteRefR
namespace Go.Proofs.YteoccfmhpakplaaGreatDoor
set_option maxRecDepth 20000
open Go.RowKit

/-- The reading under way: acc was read, the rest of t from k on is to come. -/
structure Gone (w : World) (t : ByteArray) (k : Nat) (v : Value) (acc : List UInt8) (w' : World) : Prop where
  row : Row w v acc w'
  goes : readL t.data.toList = (readL (t.data.toList.drop k)).map (acc ++ ·)
  room : acc.length ≤ k
theorem drop_extract (t : ByteArray) (k : Nat) : (t.extract k t.size).data.toList = t.data.toList.drop k := by
  rw [Lib.extract_data, List.take_of_length_le (by rw [List.length_drop, size_toList]; omega)]
theorem Gone.next {w w1 w2 : World} {t : ByteArray} {k n : Nat} {v v2 : Value} {acc : List UInt8} {c : UInt8} {o : Obj} (h : Gone w t k v acc w1) (ho : oneL (t.data.toList.drop k) = some (c, n))
    (ho2 : w2.ownsRow w.heap.size 5 1 v2 (acc.length + 1) (Lib.byteCells acc ++ [.int .u8 c.toNat])) (hg : (w1.alloc o).grownBy w2 v.ownBlock) : Gone w t (k + n) v2 (acc ++ [c]) w2 := by
  refine ⟨h.row.more (m := [c]) rfl ho2 hg, ?_, ?_⟩
  · rw [h.goes, readL_some ho, List.drop_drop]
    cases readL (t.data.toList.drop (k + n)) with
    | none => rfl
    | some s => simp
  · have := oneL_pos ho; have := h.room; rw [List.length_append]; simp only [List.length_cons, List.length_nil]; omega
theorem own_slice {w : World} {base : Nat} {e : TypeId} {v : Value} {n : Nat} {xs : List Value} (h : w.ownsRow base e 1 v n xs) : ∃ A c, v = .slice A n c := by
  rcases h.2 with ⟨rfl, rfl⟩ | ⟨g, cap, cur, rfl, _⟩
  · exact ⟨_, _, rfl⟩
  · exact ⟨_, _, rfl⟩
theorem Row.drewN {w w1 : World} {v : Value} {l : List UInt8} (h : Row w v l w1) (n : Nat) : Row w v l (w1.drewN n) := ⟨h.own, below_drewN h.below n⟩
theorem Gone.drewN {w w1 : World} {t : ByteArray} {k : Nat} {v : Value} {acc : List UInt8} (h : Gone w t k v acc w1) (n : Nat) : Gone w t k v acc (w1.drewN n) := ⟨h.row.drewN n, h.goes, h.room⟩
theorem RU_none (q : ByteArray) (w : World) (h : q.size < 2) :
    Calls Tryz.prog 76 #[.string q] w fun e w' => e = .returned (.tuple #[.string ⟨#[]⟩, .int .i64 4]) ∧ w' = w := by
  go_enter Tryz.func76, Tryz.ntmps76
  go_wp2_with fail
  go_ret2
  exact ⟨rfl, rfl⟩
theorem RU_open (q : ByteArray) (w : World) (h : 2 ≤ q.size) (x : Int) (i0 : ∀ w, (Instr.index 9 (.string q) (.int .i64 0)).run Tryz.prog w = .ok (.int .u8 x) w) (hx : (x != 34) = true) :
    Calls Tryz.prog 76 #[.string q] w fun e w' => e = .returned (.tuple #[.string ⟨#[]⟩, .int .i64 4]) ∧ w' = w := by
  have hq : decide ((q.size : Int) < 2) = false := decide_eq_false (by omega)
  go_enter Tryz.func76, Tryz.ntmps76
  go_wp2_with fail
  go_ret2
  exact ⟨rfl, rfl⟩
theorem RU_close (q : ByteArray) (w : World) (h : 2 ≤ q.size) (hs : q.size ≤ 1048576) (i0 : ∀ w, (Instr.index 9 (.string q) (.int .i64 0)).run Tryz.prog w = .ok (.int .u8 34) w)
    (hx : ((q[q.size - 1].toNat : Int) != 34) = true) :
    Calls Tryz.prog 76 #[.string q] w fun e w' => e = .returned (.tuple #[.string ⟨#[]⟩, .int .i64 4]) ∧ w' = w := by
  have hq : decide ((q.size : Int) < 2) = false := decide_eq_false (by omega)
  go_enter Tryz.func76, Tryz.ntmps76
  go_wp2_with fail
  go_ret2
  exact ⟨rfl, rfl⟩
set_option maxHeartbeats 4000000 in
theorem RU_goes (q t : ByteArray) (w : World) (h : 2 ≤ q.size) (hs : q.size ≤ 1048576) (ht : q.extract 1 (q.size - 1) = t) (hts : t.size ≤ 1048576) (S : List UInt8) (E : Int)
    (i0 : ∀ w, (Instr.index 9 (.string q) (.int .i64 0)).run Tryz.prog w = .ok (.int .u8 34) w)
    (hx : ((q[q.size - 1].toNat : Int) != 34) = false)
    (NO : Hid (readL t.data.toList = none → ([], 4) = (S, E))) (FAR : Hid (∀ s, readL t.data.toList = some s → 4096 < s.length → ([], 3) = (S, E))) (YES : Hid (∀ s, readL t.data.toList = some s → s.length ≤ 4096 → (s, 0) = (S, E))) :
    Calls Tryz.prog 76 #[.string q] w fun e w' => e = .returned (.tuple #[.string ⟨S.toArray⟩, .int .i64 E]) ∧ Below w.heap.size w w' := by
  obtain ⟨i9, hi, hz0, hz1, hz2⟩ := info_parts byte_info
  have hq : decide ((q.size : Int) < 2) = false := decide_eq_false (by omega)
  go_enter Tryz.func76, Tryz.ntmps76
  go_wp2_with fail
  clear ht i0 hx hq h hs
  go_loopw [5, 6] (fun v i wr => ∃ (k : Nat) (acc : List UInt8), k ≤ t.size ∧ i = .int .i64 k ∧ Hid (Gone w t k v acc wr)) (fun _ i _ => t.size - (intOf i).toNat)
  case atStart => exact ⟨0, [], by omega, rfl, ⟨⟨⟨by simp [Lib.byteCells], .inl ⟨rfl, rfl⟩⟩, Below.refl _ _⟩, by simp, Nat.le_refl _⟩⟩
  case round =>
    obtain ⟨k, acc, hk, rfl, hR⟩ := hrel
    by_cases hlt : k < t.size
    · have O := Lib.hid (fun w => One_any (t.extract k t.size) w)
      rw [drop_extract] at O
      cases ho : oneL (t.data.toList.drop k) with
      | none =>
        rw [ho] at O
        simp only [pairV] at O
        have FIN := Lib.hid (ret_two (NO.out (by
          rw [hR.out.goes, readL_none (fun e => by have := congrArg List.length e; rw [List.length_drop, size_toList] at this; simp at this; omega) ho]; rfl)))
        go_wp2_with (go_at_call 89; refine (O.out _).mono ?_; rintro e w1 ⟨rfl, n1, rfl⟩)
        go_ret2
        exact ⟨FIN.out, (hR.out.drewN n1).row.below⟩
      | some x =>
        obtain ⟨c, n⟩ := x
        rw [ho] at O
        simp only [pairV] at O
        have hp := oneL_pos ho
        rw [List.length_drop, size_toList] at hp
        have hn : ((n : Int) == 0) = false := beq_eq_false_iff_ne.2 (by omega)
        have hac := hR.out.room
        go_wp2_with (first
          | (go_at_call 89; refine (O.out _).mono ?_; rintro e w1 ⟨rfl, n1, rfl⟩; have hR1 := Lib.hid (hR.out.drewN n1))
          | (at_builtin; refine wpList_append_own _ rfl (.tmp 43) (.tmp 45) _ rfl w.heap.size 5 i9 _ 1 1 Tryz.underlying36 hi hz0 hz1 hz2 rfl (by decide) _ _ _ rfl (hR1.out.row.alloc _).own _ _ _ [.int .u8 c.toNat] rfl rfl (cells_new _ _ _) (by simp [Value.oneCell']) (by unfold maxLen; omega) (by omega) (by have := hR.out.row.below.size; simp; omega) ?_; intro v2 w2 hown2 hg2 _))
        have R := Lib.hid (hR1.out.next ho hown2 hg2)
        clear hown2 hg2
        go_wp2_with fail
        go_roundw
        case rel => exact ⟨k + n, _, by omega, by go_num, R⟩
        case measure => simp [intOf]; omega
    · obtain rfl : k = t.size := by omega
      have hm : readL t.data.toList = some acc := by
        rw [hR.out.goes, List.drop_eq_nil_of_le (by rw [size_toList]; omega), readL_nil]; simp
      have hac := hR.out.room
      obtain ⟨A, cp, rfl⟩ := own_slice hR.out.row.own
      by_cases hl : 4096 < acc.length
      · have FIN := Lib.hid (ret_two (FAR.out _ hm hl))
        go_wp2_with fail
        go_ret2
        exact ⟨FIN.out, hR.out.row.below⟩
      · have FIN := Lib.hid (ret_two (YES.out _ hm (by omega)))
        have C := str_of_own hR.out.row.own
        go_wp2_with fail
        go_ret2
        exact ⟨FIN.out, hR.out.row.below⟩
/-- tallowref03.Unquote. -/
theorem RUnquote_any (q : ByteArray) (w : World) (hs : q.size ≤ 1048576) :
    Calls Tryz.prog 76 #[.string q] w fun e w' => e = .returned (.tuple #[.string ⟨(unqL q.data.toList).1.toArray⟩, .int .i64 (unqL q.data.toList).2]) ∧ Below w.heap.size w w' := by
  have same : ∀ {e : Ending} {w' : World} {v : Value}, e = .returned v ∧ w' = w → e = .returned v ∧ Below w.heap.size w w' := fun h => ⟨h.1, by rw [h.2]; exact Below.refl _ _⟩
  have hl := size_toList q
  by_cases h2 : 2 ≤ q.size
  · obtain ⟨r, hr⟩ := head_at (t := q) (by omega)
    have hlast : q.data.toList.getLast? = some q[q.size - 1] := by
      rw [List.getLast?_eq_getElem?, hl]; exact byte_at (by omega)
    by_cases h0 : q[0] = 34
    · have i0 := index_is (by omega) h0
      by_cases h1 : q[q.size - 1] = 34
      · have i1 : ((q[q.size - 1].toNat : Int) != 34) = false := by rw [h1]; rfl
        have M : midL q.data.toList = some (q.extract 1 (q.size - 1)).data.toList := by
          unfold midL
          rw [if_pos ⟨by omega, by rw [hr, h0]; rfl, by rw [hlast, h1]⟩, Lib.extract_data, hl]
          congr 2
        have hts : (q.extract 1 (q.size - 1)).size ≤ 1048576 := by
          rw [← size_toList, Lib.extract_data, List.length_take]; omega
        refine RU_goes q _ w h2 hs rfl hts _ _ i0 i1 (Lib.hid fun h => ?_) (Lib.hid fun s h g => ?_) (Lib.hid fun s h g => ?_)
        · unfold unqL; rw [M, Option.bind_some, h]; rfl
        · unfold unqL; rw [M, Option.bind_some, h]
          show _ = if 4096 < s.length then ([], 3) else (s, 0)
          rw [if_pos g]
        · unfold unqL; rw [M, Option.bind_some, h]
          show _ = if 4096 < s.length then ([], 3) else (s, 0)
          rw [if_neg (by omega)]
      · have M : midL q.data.toList = none := by
          unfold midL; rw [if_neg]; rintro ⟨_, _, h⟩; rw [hlast] at h; exact h1 (Option.some.inj h)
        unfold unqL; rw [M]
        have b34 : ((q[q.size - 1].toNat : Int) == 34) = false := bne_byte h1
        exact (RU_close q w h2 hs i0 (by rw [bne, b34]; rfl)).mono fun e w' h => same h
    · have M : midL q.data.toList = none := by
        unfold midL; rw [if_neg]; rintro ⟨_, h, _⟩; rw [hr] at h; exact h0 (Option.some.inj h)
      unfold unqL; rw [M]
      have b34 : ((q[0].toNat : Int) == 34) = false := bne_byte h0
      exact (RU_open q w h2 _ (index_at q 0 (by omega)) (by rw [bne, b34]; rfl)).mono fun e w' h => same h
  · have M : midL q.data.toList = none := by
      unfold midL; rw [if_neg]; rintro ⟨h, _⟩; omega
    unfold unqL; rw [M]
    exact (RU_none q w (by omega)).mono fun e w' h => same h
end Go.Proofs.YteoccfmhpakplaaGreatDoor
