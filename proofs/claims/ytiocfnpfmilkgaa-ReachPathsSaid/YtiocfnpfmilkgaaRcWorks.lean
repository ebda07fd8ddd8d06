/- tallowlaw11.seven and works. -/
import Derived.Test.YtiocfnpfmilkgaaRcWorksA
import Derived.Test.YtiocfnpfmilkgaaRcConc
import Derived.Test.YtiocfnpfmilkgaaRcFrom
import Derived.Test.YtiocfnpfmilkgaaRcPath
import Derived.Lib.QuietBelow
namespace Go.Proofs.Ytiocfnpfmilkgaa
set_option maxRecDepth 20000
open Go.RowKit Go.Maps

theorem ints_of_cells {w : World} {b : Nat} {xs : List Int} (h : ∀ i x, xs[i]? = some x → w.cell? ⟨b, i, none⟩ = some (.int .i64 x)) : IntsAt w (some ⟨b, 0, none⟩) xs := fun i x hx => by
  have hc := h i x hx
  exact ⟨_, rfl, World.block_lt_of_cell? w ⟨b, i, none⟩ hc, by rw [add_zero_at, Nat.zero_add]; exact hc⟩
theorem rows_of_cells {w : World} {b : Nat} {L : List (List Int)} (h : ∀ i l, L[i]? = some l → ∃ A c, w.cell? ⟨b, i, none⟩ = some (.slice A l.length c) ∧ IntsAt w A l) : RowsAt w (some ⟨b, 0, none⟩) L := fun i l hl => by
  obtain ⟨A, c, h1, h2⟩ := h i l hl
  exact ⟨_, A, c, rfl, World.block_lt_of_cell? w ⟨b, i, none⟩ h1, by rw [add_zero_at, Nat.zero_add]; exact h1, h2⟩
/-- The rows of seven, as they are laid one behind the other. -/
def sevenW (w : World) : World :=
  ((((((((w.alloc (.cells #[.int .i64 2, .int .i64 3] 3 (0, 0))).alloc (.cells #[.int .i64 4] 3 (0, 0))).alloc (.cells #[.int .i64 4] 3 (0, 0))).alloc (.cells #[.int .i64 1] 3 (0, 0))).alloc (.cells #[.int .i64 4] 3 (0, 0))).alloc (.cells #[.int .i64 0] 3 (0, 0))).alloc (.cells #[.int .i64 7] 3 (0, 0))).alloc
    (.cells #[.slice (some ⟨w.heap.size, 0, none⟩) 2 2, .slice (some ⟨w.heap.size + 1, 0, none⟩) 1 1, .slice (some ⟨w.heap.size + 1 + 1, 0, none⟩) 1 1, .slice (some ⟨w.heap.size + 1 + 1 + 1, 0, none⟩) 1 1, .slice (some ⟨w.heap.size + 1 + 1 + 1 + 1, 0, none⟩) 1 1, .slice (some ⟨w.heap.size + 1 + 1 + 1 + 1 + 1, 0, none⟩) 1 1, .slice (some ⟨w.heap.size + 1 + 1 + 1 + 1 + 1 + 1, 0, none⟩) 1 1] 44 (0, 0)))
set_option maxHeartbeats 2000000 in
theorem seven_rows (w : World) : RowsAt (sevenW w) (some ⟨w.heap.size + 1 + 1 + 1 + 1 + 1 + 1 + 1, 0, none⟩) sevenL := by
  refine rows_of_cells fun i l hl => ?_
  match i, hl with
  | 0, hl => injection hl with hl; subst hl; exact ⟨some ⟨w.heap.size, 0, none⟩, 2, by simp [sevenW, go_sem], ints_of_cells fun i x hx => by
      match i, hx with
      | 0, hx => injection hx with hx; subst hx; simp [sevenW, go_sem]
      | 1, hx => injection hx with hx; subst hx; simp [sevenW, go_sem]
      | _ + 2, hx => simp at hx⟩
  | 1, hl => injection hl with hl; subst hl; exact ⟨some ⟨w.heap.size + 1, 0, none⟩, 1, by simp [sevenW, go_sem], ints_of_cells fun i x hx => by
      match i, hx with
      | 0, hx => injection hx with hx; subst hx; simp [sevenW, go_sem]
      | _ + 1, hx => simp at hx⟩
  | 2, hl => injection hl with hl; subst hl; exact ⟨some ⟨w.heap.size + 1 + 1, 0, none⟩, 1, by simp [sevenW, go_sem], ints_of_cells fun i x hx => by
      match i, hx with
      | 0, hx => injection hx with hx; subst hx; simp [sevenW, go_sem]
      | _ + 1, hx => simp at hx⟩
  | 3, hl => injection hl with hl; subst hl; exact ⟨some ⟨w.heap.size + 1 + 1 + 1, 0, none⟩, 1, by simp [sevenW, go_sem], ints_of_cells fun i x hx => by
      match i, hx with
      | 0, hx => injection hx with hx; subst hx; simp [sevenW, go_sem]
      | _ + 1, hx => simp at hx⟩
  | 4, hl => injection hl with hl; subst hl; exact ⟨some ⟨w.heap.size + 1 + 1 + 1 + 1, 0, none⟩, 1, by simp [sevenW, go_sem], ints_of_cells fun i x hx => by
      match i, hx with
      | 0, hx => injection hx with hx; subst hx; simp [sevenW, go_sem]
      | _ + 1, hx => simp at hx⟩
  | 5, hl => injection hl with hl; subst hl; exact ⟨some ⟨w.heap.size + 1 + 1 + 1 + 1 + 1, 0, none⟩, 1, by simp [sevenW, go_sem], ints_of_cells fun i x hx => by
      match i, hx with
      | 0, hx => injection hx with hx; subst hx; simp [sevenW, go_sem]
      | _ + 1, hx => simp at hx⟩
  | 6, hl => injection hl with hl; subst hl; exact ⟨some ⟨w.heap.size + 1 + 1 + 1 + 1 + 1 + 1, 0, none⟩, 1, by simp [sevenW, go_sem], ints_of_cells fun i x hx => by
      match i, hx with
      | 0, hx => injection hx with hx; subst hx; simp [sevenW, go_sem]
      | _ + 1, hx => simp at hx⟩
  | _ + 7, hl => simp [sevenL] at hl
set_option maxHeartbeats 2000000 in
theorem seven_any (w : World) : Calls Try.prog 42 #[] w fun e w' => ∃ C k, e = .returned (gV C sevenG.length k) ∧ GAt w' C sevenG ∧ Below w.heap.size w w' := by
  have TB : Hid (∀ w0, Calls Try.prog 44 #[.slice (some ⟨w0.heap.size + 1 + 1 + 1 + 1 + 1 + 1 + 1, 0, none⟩) 7 7] (sevenW w0) fun e w' => ∃ C k, e = .returned (gV C 7 k) ∧ GAtLo (sevenW w0).heap.size w' C sevenG ∧ Below (sevenW w0).heap.size (sevenW w0) w') := fun w0 =>
    tables_any (d := 7) (seven_rows w0) (by decide) (by decide) (by decide)
  have TB2 := TB.out (w.alloc (.cells #[.slice none 0 0] 41 (0, 0)))
  have e0 : (w.alloc (.cells #[.slice none 0 0] 41 (0, 0))).heap.size = w.heap.size + 1 := by simp
  have hsz : (sevenW (w.alloc (.cells #[.slice none 0 0] 41 (0, 0)))).heap.size = w.heap.size + 9 := by unfold sevenW; simp
  have hbl : Below w.heap.size w (sevenW (w.alloc (.cells #[.slice none 0 0] 41 (0, 0)))) := by
    unfold sevenW
    refine ((((((((((Below.refl _ _).alloc ?_ _).alloc ?_ _).alloc ?_ _).alloc ?_ _).alloc ?_ _).alloc ?_ _).alloc ?_ _).alloc ?_ _).alloc ?_ _) <;> simp <;> omega
  have hc : (sevenW (w.alloc (.cells #[.slice none 0 0] 41 (0, 0)))).cell? ⟨w.heap.size, 0, none⟩ = some (.slice none 0 0) ∧ (sevenW (w.alloc (.cells #[.slice none 0 0] 41 (0, 0)))).frozen? ⟨w.heap.size, 0, none⟩ = false := by
    constructor <;> simp [sevenW, go_sem]
  have FIN : Hid (∀ e w', (∃ C k, e = Ending.returned (gV C 7 k) ∧ GAtLo (sevenW (w.alloc (.cells #[.slice none 0 0] 41 (0, 0)))).heap.size w' C sevenG ∧ Below (sevenW (w.alloc (.cells #[.slice none 0 0] 41 (0, 0)))).heap.size (sevenW (w.alloc (.cells #[.slice none 0 0] 41 (0, 0)))) w') →
      ∃ C k, e = Ending.returned (gV C 7 k) ∧ GAt (w'.setCell ⟨w.heap.size, 0, none⟩ (.slice C 7 k)) C sevenG ∧ Below w.heap.size w (w'.setCell ⟨w.heap.size, 0, none⟩ (.slice C 7 k)) ∧ w'.cell? ⟨w.heap.size, 0, none⟩ = some (.slice none 0 0) ∧ w'.frozen? ⟨w.heap.size, 0, none⟩ = false) := fun e w' ⟨C, k, h1, h2, h3⟩ =>
    ⟨C, k, h1, (h2.set (p := ⟨w.heap.size, 0, none⟩) (by show w.heap.size < _; omega) _).at, (hbl.trans (h3.mono hbl.size)).setCell (Nat.le_refl _) _, (h3.cell (p := ⟨w.heap.size, 0, none⟩) (by show w.heap.size < _; omega)).trans hc.1, (h3.frozen (p := ⟨w.heap.size, 0, none⟩) (by show w.heap.size < _; omega)).trans hc.2⟩
  have TB3 := TB2.mono FIN.out
  unfold sevenW at TB3
  rw [e0] at TB3
  have CALL := Lib.hid TB3
  clear TB TB2 TB3 FIN hc hbl hsz e0
  go_enter Try.func42, Try.ntmps42
  go_wp2_with (go_at_call 44; (with_reducible refine CALL.out.mono ?_); rintro e w1 ⟨C, k, rfl, hg, hb, y0, f0⟩; have HG := Lib.hid hg; have HB := Lib.hid hb; clear hg hb)
  refine bodyPost_ret (v := gV C 7 k) (by simp [results, Try.results42, go_sem, y0]) rfl ?_
  exact ⟨C, k, rfl, HG.out, HB.out⟩
theorem lints_at (A B : Option Addr) (c d n : Nat) (xs : List Int) (hn : n = xs.length) (w : World) (hl : n ≤ 140737488355328) (ha : IntsAt w A xs) (hb : IntsAt w B xs) :
    Calls Try.prog 41 #[.slice A n c, .slice B n d] w fun e w' => e = .returned (.bool true) ∧ Below w.heap.size w w' := by
  subst hn; exact lints_any A B c d xs w hl ha hb
theorem seven_held (m : Nat) : (heldN sevenG m).length ≤ 1048576 := by
  rcases Nat.lt_or_ge 7 m with h | h
  · rw [held_past (by show 7 < m; exact h)]; exact Nat.zero_le _
  · have : ∀ m ≤ 7, (heldN sevenG m).length ≤ 1048576 := by decide
    exact this m h
theorem lit_ints {w : World} {xs : List Int} : IntsAt (w.alloc (.cells (xs.map (Value.int .i64)).toArray 3 (0, 0))) (some ⟨w.heap.size, 0, none⟩) xs := fun i x hx =>
  ⟨_, rfl, by simp, lit_cells (l := xs.map (Value.int .i64)) i _ (by simp [hx])⟩
set_option maxHeartbeats 4000000 in
theorem works_true (w : World) : Calls Try.prog 33 #[] w fun e w' => e = .returned (.bool true) ∧ Below w.heap.size w w' := by
  have SV : Hid (∀ W, Calls Try.prog 42 #[] W fun e w' => ∃ C k, e = .returned (gV C sevenG.length k) ∧ GAt w' C sevenG ∧ Below W.heap.size W w') := seven_any
  have FR : Hid (∀ W C k B, GAt W C sevenG → PairsAt W B [(6, 2)] → Calls Try.prog 29 #[gV C sevenG.length k, .slice B 1 1] W (GivesInts [1, 2, 3, 4] W)) := fun W C k B h1 h2 => by
    have := From_any (c := k) h1 (by decide) (d := 1) (l := [(6, 2)]) (by decide) h2
    rw [seven_from] at this
    exact this
  have LO : Hid (∀ W C k B, GAt W C sevenG → PairsAt W B [(6, 2)] → Calls Try.prog 31 #[gV C sevenG.length k, .slice B 1 1] W (GivesInts [5, 7] W)) := fun W C k B h1 h2 => by
    have := Lost_any (c := k) h1 (by decide) (d := 1) (l := [(6, 2)]) (by decide) h2
    rw [seven_lost] at this
    exact this
  have PA : Hid (∀ W C k, GAt W C sevenG → Calls Try.prog 34 #[gV C sevenG.length k, vV (6, 1), iV 4] W (GivesI [1, 2, 4] W)) := fun W C k h1 => by
    have := Path_any (c := k) h1 (by decide) seven_held (6, 1) 4 (by decide) (by decide)
    rw [seven_path] at this
    exact this
  generalize sevenG = G at *
  generalize G.length = n at *
  go_enter Try.func33, Try.ntmps33
  go_wp2_with (first
    | (go_at_call 42; (with_reducible refine (SV.out w8).mono ?_); rintro e w9 ⟨C9, k9, rfl, hg, hb⟩; have G9 := Lib.hid hg; have B9 : Hid (Below w.heap.size w w9) := B8.out.trans (hb.mono B8.out.size); clear hg hb)
    | (go_at_call 43; (with_reducible refine (tab_any 1 w9).mono ?_); rintro e w10 ⟨rfl, hb⟩; have G10 := Lib.hid (G9.out.below hb); have B10 : Hid (Below w.heap.size w w10) := B9.out.trans (hb.mono B9.out.size); clear hb)
    | (go_at_call 34; (with_reducible refine (PA.out w10 C9 k9 G10.out).mono ?_); rintro e w11 ⟨A11, c11, rfl, hi, hb⟩; have I11 := Lib.hid hi; have LI11 : Hid (IntsAt (w11.alloc (.cells #[.int .i64 1, .int .i64 2, .int .i64 4] 3 (0, 0))) (some ⟨w11.heap.size, 0, none⟩) [1, 2, 4]) := lit_ints (xs := [1, 2, 4]); have B11 : Hid (Below w.heap.size w w11) := B10.out.trans (hb.mono B10.out.size); clear hi hb)
    | (go_at_call 41; (with_reducible refine (lints_at A11 (some ⟨w11.heap.size, 0, none⟩) c11 3 3 [1, 2, 4] rfl (w11.alloc _) (by decide) (I11.out.below ((Below.refl _ _).alloc (Nat.le_refl _) _)) LI11.out).mono ?_); rintro e w12 ⟨rfl, hb⟩; have B12 : Hid (Below w.heap.size w w12) := B11.out.trans ((below_box hb).mono B11.out.size); clear hb)
    | (go_at_call 42; (with_reducible refine (SV.out w4).mono ?_); rintro e w5 ⟨C5, k5, rfl, hg, hb⟩; have G5 := Lib.hid hg; have B5 : Hid (Below w.heap.size w w5) := B4.out.trans (hb.mono B4.out.size); clear hg hb)
    | (go_at_call 43; (with_reducible refine (tab_any 2 w5).mono ?_); rintro e w6 ⟨rfl, hb⟩; have G6 := Lib.hid (G5.out.below hb); have B6 : Hid (Below w.heap.size w w6) := B5.out.trans (hb.mono B5.out.size); clear hb)
    | (go_at_call 31; (with_reducible refine (LO.out (w6.alloc _) C5 k5 (some ⟨w6.heap.size, 0, none⟩) (G6.out.below ((Below.refl _ _).alloc (Nat.le_refl _) _)) (by exact lit_root)).mono ?_); rintro e w7 ⟨v7, rfl, ho, hb⟩; obtain ⟨A7, c7, rfl, hi⟩ := ints_of_own ho; have I7 := Lib.hid hi; have LI7 : Hid (IntsAt (w7.alloc (.cells #[.int .i64 5, .int .i64 7] 3 (0, 0))) (some ⟨w7.heap.size, 0, none⟩) [5, 7]) := lit_ints (xs := [5, 7]); have B7 : Hid (Below w.heap.size w w7) := B6.out.trans ((below_box hb).mono B6.out.size); clear ho hi hb)
    | (go_at_call 41; (with_reducible refine (lints_at A7 (some ⟨w7.heap.size, 0, none⟩) c7 2 2 [5, 7] rfl (w7.alloc _) (by decide) (I7.out.below ((Below.refl _ _).alloc (Nat.le_refl _) _)) LI7.out).mono ?_); rintro e w8 ⟨rfl, hb⟩; have B8 : Hid (Below w.heap.size w w8) := B7.out.trans ((below_box hb).mono B7.out.size); clear hb)
    | (go_at_call 42; (with_reducible refine (SV.out w).mono ?_); rintro e w1 ⟨C1, k1, rfl, hg, hb⟩; have G1 := Lib.hid hg; have B1 : Hid (Below w.heap.size w w1) := hb; clear hg hb)
    | (go_at_call 43; (with_reducible refine (tab_any 2 w1).mono ?_); rintro e w2 ⟨rfl, hb⟩; have G2 := Lib.hid (G1.out.below hb); have B2 : Hid (Below w.heap.size w w2) := B1.out.trans (hb.mono B1.out.size); clear hb)
    | (go_at_call 29; (with_reducible refine (FR.out (w2.alloc _) C1 k1 (some ⟨w2.heap.size, 0, none⟩) (G2.out.below ((Below.refl _ _).alloc (Nat.le_refl _) _)) (by exact lit_root)).mono ?_); rintro e w3 ⟨v3, rfl, ho, hb⟩; obtain ⟨A3, c3, rfl, hi⟩ := ints_of_own ho; have I3 := Lib.hid hi; have LI3 : Hid (IntsAt (w3.alloc (.cells #[.int .i64 1, .int .i64 2, .int .i64 3, .int .i64 4] 3 (0, 0))) (some ⟨w3.heap.size, 0, none⟩) [1, 2, 3, 4]) := lit_ints (xs := [1, 2, 3, 4]); have B3 : Hid (Below w.heap.size w w3) := B2.out.trans ((below_box hb).mono B2.out.size); clear ho hi hb)
    | (go_at_call 41; (with_reducible refine (lints_at A3 (some ⟨w3.heap.size, 0, none⟩) c3 4 4 [1, 2, 3, 4] rfl (w3.alloc _) (by decide) (I3.out.below ((Below.refl _ _).alloc (Nat.le_refl _) _)) LI3.out).mono ?_); rintro e w4 ⟨rfl, hb⟩; have B4 : Hid (Below w.heap.size w w4) := B3.out.trans ((below_box hb).mono B3.out.size); clear hb))
  go_ret
  exact ⟨rfl, B12.out⟩
end Go.Proofs.Ytiocfnpfmilkgaa
