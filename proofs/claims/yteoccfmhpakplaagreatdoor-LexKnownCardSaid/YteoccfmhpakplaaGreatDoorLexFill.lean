/- The laws' own rows of bytes: so many line feeds, so many letters. -/
import Derived.Test.YteoccfmhpakplaaGreatDoorLexWorks
import Derived.OwnWalk
namespace Go.Proofs.YteoccfmhpakplaaGreatDoor
set_option maxRecDepth 20000
open Go.RowKit

/-- A row of n bytes, k of which are filled. -/
structure FillN (w wr : World) (G n k : Nat) (c : UInt8) : Prop where
  row : ∃ cs : Array Value, wr.heap[G]? = some (.cells cs 5 (0, 0)) ∧ cs.size = n ∧ ∀ j, j < k → cs[j]? = some (.int .u8 c.toNat)
  below : Below w.heap.size w wr
  low : w.heap.size ≤ G
theorem FillN.start {w wr wm : World} {n : Nat} {c : UInt8} {xs : List Value} (h : wm.ownsRow w.heap.size 5 1 (.slice (some ⟨wr.heap.size, 0, none⟩) n n) n xs) (hg : wr.grownBy wm none) (hb : Below w.heap.size w wr) : FillN w wm wr.heap.size n 0 c := by
  refine ⟨?_, hb.grown hg hb.size (fun j hj => by cases hj), hb.size⟩
  rcases h.2 with ⟨e, _⟩ | ⟨g, cap, cur, e, _, hgk, _, _, hcs, _⟩
  · cases e
  · injection e with e1 e2 e3
    injection e1 with e1
    injection e1 with e1 _
    subst e1; subst e3
    exact ⟨cur, hgk, by omega, fun j hj => by omega⟩
theorem FillN.cell {w wr : World} {G n k : Nat} {c : UInt8} (h : FillN w wr G n k c) {j : Nat} (hj : j < n) : ∃ v, wr.cell? ⟨G, j, none⟩ = some v ∧ wr.frozen? ⟨G, j, none⟩ = false := by
  obtain ⟨cs, hg, hs, _⟩ := h.row
  exact ⟨cs[j]'(by omega), by rw [Lib.cell_of_heap hg]; exact Array.getElem?_eq_getElem (by omega), Lib.frozen_of_heap hg j⟩
theorem FillN.next {w wr : World} {G n k : Nat} {c : UInt8} (h : FillN w wr G n k c) (hk : k < n) : FillN w (wr.setCell ⟨G, k, none⟩ (.int .u8 c.toNat)) G n (k + 1) c := by
  obtain ⟨cs, hg, hs, hc⟩ := h.row
  refine ⟨⟨cs.setIfInBounds k (.int .u8 c.toNat), by simp [World.setCell, Array.getElem?_modify, hg], by simp [hs], fun j hj => ?_⟩, h.below.setCell (p := ⟨G, k, none⟩) h.low _, h.low⟩
  by_cases e : j = k
  · subst e; rw [Array.getElem?_setIfInBounds_self_of_lt (by omega)]
  · rw [Array.getElem?_setIfInBounds_ne (fun x => e x.symm)]; exact hc j (by omega)
theorem FillN.done {w wr : World} {G n : Nat} {c : UInt8} (h : FillN w wr G n n c) (hn : n ≤ maxLen) : Row w (.slice (some ⟨G, 0, none⟩) n n) (List.replicate n c) wr := by
  obtain ⟨cs, hg, hs, hc⟩ := h.row
  refine ⟨?_, h.below⟩
  rw [List.length_replicate]
  refine ⟨by rw [Lib.byteCells_length, List.length_replicate, Nat.mul_one], .inr ⟨G, n, cs, rfl, h.low, hg, Nat.le_refl _, hn, by omega, ?_⟩⟩
  apply List.ext_getElem?
  intro j
  by_cases hj : j < n
  · rw [List.getElem?_take_of_lt (by omega), Array.getElem?_toList, hc j hj]
    unfold Lib.byteCells
    rw [List.getElem?_map, List.getElem?_replicate, if_pos hj]; rfl
  · rw [List.getElem?_eq_none (by rw [List.length_take]; omega), List.getElem?_eq_none (by rw [Lib.byteCells_length, List.length_replicate]; omega)]
set_option maxHeartbeats 2000000 in
theorem lines_any (n : Nat) (hn : n ≤ 255) (w : World) : Calls Tryz.prog 17 #[.int .u8 n] w fun e w' => ∃ v, e = .returned v ∧ Row w v (List.replicate n 10) w' := by
  obtain ⟨i9, hi, hz0, hz1, hz2⟩ := info_parts byte_info
  go_enter Tryz.func17, Tryz.ntmps17
  go_wp2_with (at_make; refine wpList_make_full _ rfl _ _ 36 rfl w.heap.size 5 i9 _ 1 Tryz.underlying36 hi hz0 hz1 .u8 .u8 n n n rfl rfl rfl rfl (by rw [hz2]; omega) (by unfold maxLen; omega) (Nat.le_refl _) ?_; intro wm hown hgrow; have F := Lib.hid (FillN.start (c := 10) hown hgrow (Below.refl _ _)); clear hown hgrow)
  clear hi hz0 hz1 hz2
  go_loopw [4] (fun i wr => ∃ k : Nat, k ≤ n ∧ i = .int .i64 k ∧ Hid (FillN w wr w.heap.size n k 10)) (fun i _ => n - (intOf i).toNat)
  case atStart => exact ⟨0, by omega, rfl, F⟩
  case round =>
    obtain ⟨k, hk, rfl, HF⟩ := hrel
    clear F
    by_cases hlt : k < n
    · obtain ⟨v0, c0, f0⟩ := HF.out.cell hlt
      have k0 : (0 : Int) ≤ (k : Int) := by omega
      have k1 : (k : Int) < (n : Int) := by omega
      go_wp2_with fail
      go_roundw
      case rel => exact ⟨k + 1, by omega, by go_num, HF.out.next hlt⟩
      case measure => simp [intOf]; omega
    · obtain rfl : k = n := by omega
      go_wp2_with fail
      go_ret
      exact ⟨_, rfl, HF.out.done (by unfold maxLen; omega)⟩
set_option maxHeartbeats 2000000 in
theorem many_any (n : Nat) (hn : n ≤ 1048576) (w : World) : Calls Tryz.prog 19 #[.int .i64 n] w fun e w' => ∃ v, e = .returned v ∧ Row w v (List.replicate n 97) w' := by
  obtain ⟨i9, hi, hz0, hz1, hz2⟩ := info_parts byte_info
  go_enter Tryz.func19, Tryz.ntmps19
  go_wp2_with (at_make; refine wpList_make_full _ rfl _ _ 36 rfl w.heap.size 5 i9 _ 1 Tryz.underlying36 hi hz0 hz1 .i64 .i64 n n n rfl rfl rfl rfl (by rw [hz2]; omega) (by unfold maxLen; omega) (Nat.le_refl _) ?_; intro wm hown hgrow; have F := Lib.hid (FillN.start (c := 97) hown hgrow (Below.refl _ _)); clear hown hgrow)
  clear hi hz0 hz1 hz2
  go_loopw [4] (fun i wr => ∃ k : Nat, k ≤ n ∧ i = .int .i64 k ∧ Hid (FillN w wr w.heap.size n k 97)) (fun i _ => n - (intOf i).toNat)
  case atStart => exact ⟨0, by omega, rfl, F⟩
  case round =>
    obtain ⟨k, hk, rfl, HF⟩ := hrel
    clear F
    by_cases hlt : k < n
    · obtain ⟨v0, c0, f0⟩ := HF.out.cell hlt
      have k0 : (0 : Int) ≤ (k : Int) := by omega
      have k1 : (k : Int) < (n : Int) := by omega
      go_wp2_with fail
      go_roundw
      case rel => exact ⟨k + 1, by omega, by go_num, HF.out.next hlt⟩
      case measure => simp [intOf]; omega
    · obtain rfl : k = n := by omega
      go_wp2_with fail
      go_ret
      exact ⟨_, rfl, HF.out.done (by unfold maxLen; omega)⟩
end Go.Proofs.YteoccfmhpakplaaGreatDoor
