/- The laws' own: of, ints, four. -/
import Derived.Test.YtkkdgacdajojiaaGrRefD
namespace Go.Proofs.Ytkkdgacdajojiaa
set_option maxRecDepth 20000
open Go.RowKit Go.Maps

set_option maxHeartbeats 1000000 in
theorem ints_some (a b : Addr) (c d : Nat) (xs : List Int) (w : World) (hl : xs.length ≤ 140737488355328) (ha : IntsAt w (some a) xs) (hb : IntsAt w (some b) xs) :
    Calls Try.prog 43 #[.slice (some a) xs.length c, .slice (some b) xs.length d] w fun e w' => e = .returned (.bool true) ∧ Below w.heap.size w w' := by
  have HA := Lib.hid ha
  have HB := Lib.hid hb
  clear ha hb
  go_enter Try.func43, Try.ntmps43
  go_wp2_with fail
  go_loopw [5] (fun i wr => ∃ k : Nat, k ≤ xs.length ∧ i = .int .i64 k ∧ ∃ n, wr = w.drewN n) (fun i _ => xs.length - (intOf i).toNat)
  case atStart => exact ⟨0, Nat.zero_le _, rfl, 0, rfl⟩
  case round =>
    obtain ⟨k, hk, rfl, n, rfl⟩ := hrel
    by_cases hlt : k < xs.length
    · obtain ⟨x, hx⟩ : ∃ x, xs[k]? = some x := ⟨_, List.getElem?_eq_getElem hlt⟩
      obtain ⟨a', e, _, h1⟩ := HA.out k x hx
      obtain rfl : a = a' := by injection e
      obtain ⟨b', e, _, h2⟩ := HB.out k x hx
      obtain rfl : b = b' := by injection e
      clear hx
      go_wp2_with fail
      go_quiet (fail)
      go_wp2_with fail
      go_roundw
      case rel => exact ⟨k + 1, by omega, by go_num, _, rfl⟩
      case measure => simp [intOf]; omega
    · go_wp2_with fail
      go_ret
      exact ⟨rfl, below_drewN (Below.refl _ _) _⟩
theorem ints_none (A B : Option Addr) (c d : Nat) (w : World) :
    Calls Try.prog 43 #[.slice A 0 c, .slice B 0 d] w fun e w' => e = .returned (.bool true) ∧ Below w.heap.size w w' := by
  go_enter Try.func43, Try.ntmps43
  go_wp2_with fail
  go_loopw [5] (fun i wr => i = .int .i64 0 ∧ wr = w) (fun i _ => 0)
  case atStart => exact ⟨rfl, rfl⟩
  case round =>
    obtain ⟨rfl, hq⟩ := hrel
    obtain rfl := hq.symm
    go_wp2_with fail
    go_ret
    exact ⟨rfl, Below.refl _ _⟩
/-- tallowlaw10.ints, at two lists that are alike. -/
theorem ints_any (A B : Option Addr) (c d : Nat) (xs : List Int) (w : World) (hl : xs.length ≤ 140737488355328) (ha : IntsAt w A xs) (hb : IntsAt w B xs) :
    Calls Try.prog 43 #[.slice A xs.length c, .slice B xs.length d] w fun e w' => e = .returned (.bool true) ∧ Below w.heap.size w w' := by
  match xs, ha, hb with
  | [], ha, hb => exact ints_none A B c d w
  | x :: r, ha, hb =>
    obtain ⟨a, rfl, _⟩ := ha 0 x rfl
    obtain ⟨b, rfl, _⟩ := hb 0 x rfl
    exact ints_some a b c d _ w hl ha hb
theorem of_any (k n : Int) (w : World) : Calls Try.prog 44 #[iV k, iV n] w fun e w' => e = .returned (vV (k, n)) ∧ Below w.heap.size w w' := by
  go_enter Try.func44, Try.ntmps44
  go_wp2
  refine bodyPost_ret (v := vV (k, n)) (by simp [results, Try.results44, go_sem]) rfl ⟨rfl, ?_⟩
  exact (Below.refl _ _).alloc (Nat.le_refl _) _
theorem heap_set_ne (w : World) (a : Addr) (v : Value) {k : Nat} (h : k ≠ a.block) : (w.setCell a v).heap[k]? = w.heap[k]? := by
  simp [World.setCell, Array.getElem?_modify, Ne.symm h]
def emptyT : ByteArray := ⟨#[]⟩
def fourL : List OB := [⟨5, 2, [], ⟨#[97]⟩, 0⟩, ⟨6, 1, [(5, 1), (6, 2), (3, 7)], ⟨#[]⟩, 0⟩, ⟨0, 0, [], ⟨#[]⟩, 0⟩, ⟨9, 0, [(5, 1)], ⟨#[]⟩, 0⟩]
set_option maxHeartbeats 2000000 in
theorem four_any (w : World) : Calls Try.prog 45 #[] w fun e w' => (∃ b s t : Nat, e = .returned (gV (some ⟨b, 0, none⟩) 4 4) ∧ b < w'.heap.size ∧ w.heap.size ≤ b ∧ w.heap.size ≤ s ∧
    w'.heap[b]? = some (.cells #[iV 5, iV 2, .slice none 0 0, .string ⟨#[97]⟩, iV 0, iV 6, iV 1, .slice (some ⟨s, 0, none⟩) 3 3, .string ⟨#[]⟩, iV 0, iV 0, iV 0, .slice none 0 0, .string ⟨#[]⟩, iV 0, iV 9, iV 0, .slice (some ⟨t, 0, none⟩) 1 1, .string ⟨#[]⟩, iV 0] 56 (0, 0)) ∧
    w'.heap[s]? = some (.cells #[iV 5, iV 1, iV 6, iV 2, iV 3, iV 7] 24 (0, 0)) ∧ w'.heap[t]? = some (.cells #[iV 5, iV 1] 24 (0, 0))) ∧ Below w.heap.size w w' := by
  go_enter Try.func45, Try.ntmps45
  go_upto_region 1 with fail
  refine at_world (S := fun W => Below w.heap.size w W ∧ W.cell? ⟨w.heap.size, 0, none⟩ = some (.slice none 0 0) ∧ W.frozen? ⟨w.heap.size, 0, none⟩ = false ∧ w.heap.size < W.heap.size) ⟨(Below.refl _ _).alloc (Nat.le_refl _) _, by simp [go_sem], by simp [go_sem], by simp⟩ (fun V HV => ?_)
  obtain ⟨hV, c0, f0, zV⟩ := HV
  have BV := Lib.hid hV
  have BB := Lib.hid (Below.refl V.heap.size V)
  have VB : Hid (w.heap.size ≤ V.heap.size) := Nat.le_of_lt zV
  clear hV
  obtain ⟨b0, hb0⟩ : ∃ b0, b0 = w.heap.size := ⟨_, rfl⟩
  rw [← hb0] at c0 f0 zV ⊢
  have HB0 := Lib.hid hb0
  clear hb0
  go_wp2_with (first
    | (go_at_call 44; refine (of_any 5 1 (w3.alloc _)).mono ?_; rintro e w4 ⟨rfl, hb⟩; have H4 := Lib.hid hb; have B4 := Lib.hid ((B3.out.alloc B3.out.size _).trans (hb.mono (B3.out.alloc B3.out.size _).size)); have c4 := (B4.out.cell (p := ⟨b0, 0, none⟩) zV).trans c0; have f4 := (B4.out.frozen (p := ⟨b0, 0, none⟩) zV).trans f0; have z4 : b0 < w4.heap.size := Nat.lt_of_lt_of_le zV B4.out.size; clear hb)
    | (go_at_call 44; (with_reducible refine (of_any 5 1 _).mono ?_); rintro e w1 ⟨rfl, hb⟩; have B1 := Lib.hid hb; clear hb)
    | (go_at_call 44; (with_reducible refine (of_any 6 2 _).mono ?_); rintro e w2 ⟨rfl, hb⟩; have B2 := Lib.hid (B1.out.trans (hb.mono B1.out.size)); clear hb)
    | (go_at_call 44; (with_reducible refine (of_any 3 7 _).mono ?_); rintro e w3 ⟨rfl, hb⟩; have B3 := Lib.hid (B2.out.trans (hb.mono B2.out.size)); clear hb))
  refine bodyPost_ret (v := gV (some ⟨w4.heap.size + 1, 0, none⟩) 4 4) (by simp [results, Try.results45, go_sem, z4, c4]) rfl ?_
  have hsz : w.heap.size ≤ w3.heap.size := Nat.le_trans VB.out B3.out.size
  have hs34 : w3.heap.size < w4.heap.size := by have := H4.out.size; simp at this; omega
  have hb0 := HB0.out
  generalize hX : w4.setCell ⟨b0, 0, none⟩ (.slice (some ⟨w4.heap.size + 1, 0, none⟩) 4 4) = X
  have sX : X.heap.size = w4.heap.size := by rw [← hX]; simp
  have hX3 : X.heap[w3.heap.size]? = some (.cells #[iV 5, iV 1, iV 6, iV 2, iV 3, iV 7] 24 (0, 0)) := by
    rw [← hX, heap_set_ne _ _ _ (by show w3.heap.size ≠ b0; have := B3.out.size; omega)]
    exact (H4.out.block _ (by simp)).trans (Go.MapKept.heap_alloc w3 _).1
  have BX : Below w.heap.size w X := by
    rw [← hX]
    exact (BV.out.trans (B4.out.mono BV.out.size)).setCell (by show w.heap.size ≤ b0; omega) _
  refine ⟨⟨w4.heap.size + 1, w3.heap.size, w4.heap.size, rfl, by simp [sX], by omega, hsz, ?_, ?_, ?_⟩, ?_⟩
  · rw [← sX]
    exact (show _ = _ by rw [show X.heap.size + 1 = (X.alloc (.cells #[iV 5, iV 1] 24 (0, 0))).heap.size by simp]; exact (Go.MapKept.heap_alloc _ _).1)
  · rw [Below.heap_alloc _ _ _ (by simp [sX]; omega), Below.heap_alloc _ _ _ (by rw [sX]; omega)]
    exact hX3
  · rw [Below.heap_alloc _ _ _ (by simp [sX]), ← sX]
    exact (Go.MapKept.heap_alloc X _).1
  · exact (BX.alloc BX.size _).alloc (BX.alloc BX.size _).size _
end Go.Proofs.Ytkkdgacdajojiaa
