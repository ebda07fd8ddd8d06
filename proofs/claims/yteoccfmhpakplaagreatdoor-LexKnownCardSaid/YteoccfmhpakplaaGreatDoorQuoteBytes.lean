/- quote.bytesOfLetters: the map of the letters, turned round, whatever order the range tells its entries in. -/
import Derived.Test.YteoccfmhpakplaaGreatDoorBase
import Derived.Test.YteoccfmhpakplaaGreatDoorQuoteMaps
namespace Go.Proofs.YteoccfmhpakplaaGreatDoor
set_option maxRecDepth 20000
open Go.RowKit Go.Maps

/-- What the new map holds of those letters whose bytes are no longer to come. -/
def halfF (left : Lit → Bool) (y : UInt8) : Option UInt8 := match byteO y with
  | some x => if left (kB x) then none else some x
  | none => none
theorem half_start {D : DataW Unit} (h : IsFun D letterO) (y : UInt8) : (fun _ => none) y = halfF (has D) y := by
  unfold halfF
  cases hb : byteO y with
  | none => rfl
  | some x => simp only []; rw [(h.some_ (byte_letter hb)).1, if_pos rfl]
theorem half_step {left : Lit → Bool} {x c : UInt8} (h : letterO x = some c) (y : UInt8) : putF (halfF left) c x y = halfF (fun z => left z && !z.sameKey (kB x)) y := by
  unfold putF halfF
  by_cases e : y = c
  · subst e
    rw [if_pos rfl, letter_byte h]
    simp only [kB_same]
    simp
  · rw [if_neg e]
    cases hb : byteO y with
    | none => rfl
    | some z =>
      simp only [kB_same]
      have : z ≠ x := fun e2 => by
        subst e2
        have h1 := byte_letter hb
        rw [h, Option.some.injEq] at h1
        exact e h1.symm
      have h2 : (z == x) = false := beq_eq_false_iff_ne.2 this
      rw [h2]; simp
theorem half_end {left : Lit → Bool} (h : ∀ k, left k = false) (y : UInt8) : halfF left y = byteO y := by
  unfold halfF
  cases byteO y with
  | none => rfl
  | some x => simp only []; rw [h, if_neg (by decide)]
theorem letters_fun : IsFun (((((DataW.map []).put (kB 10) (vB 110)).put (kB 9) (vB 116)).put (kB 92) (vB 92)).put (kB 34) (vB 34)) letterO := by
  have m0 : IsMap (.map [] : DataW Unit) := isMap_empty
  have m1 := m0.put (kB 10) (vB 110)
  have m2 := m1.put (kB 9) (vB 116)
  have m3 := m2.put (kB 92) (vB 92)
  exact ((((isFun_empty.put m0 10 110).put m1 9 116).put m2 92 92).put m3 34 34).of_eq letters_eq
/-- quote.lettersOfBytes, as a function. -/
theorem letters_dict (w : World) :
    Calls Tryz.prog 28 #[] w fun e w' => e = .returned (.map (some w.heap.size)) ∧ DictAt w' w.heap.size letterO ∧ Below w.heap.size w w' :=
  (letters_any w).mono fun _ _ h => ⟨h.1, ⟨4, _, Nat.le_refl _, h.2.1, letters_fun⟩, h.2.2⟩
set_option maxHeartbeats 1000000 in
/-- quote.bytesOfLetters. -/
theorem bytes_dict (w : World) :
    Calls Tryz.prog 69 #[] w fun e w' => e = .returned (.map (some w.heap.size)) ∧ DictAt w' w.heap.size byteO ∧ Below w.heap.size w w' := by
  have hmm := @run_makeMap Tryz.prog
  have e1 : (w.alloc (.map #[] 0)).heap.size = w.heap.size + 1 := by simp
  have L := letters_any (w.alloc (.map #[] 0))
  rw [e1] at L
  have F := letters_fun
  generalize hD : (((((DataW.map []).put (kB 10) (vB 110)).put (kB 9) (vB 116)).put (kB 92) (vB 92)).put (kB 34) (vB 34)) = D0 at L F
  clear hD
  go_enter Tryz.func69, Tryz.ntmps69
  go_wp2_with (go_at_call 28; refine L.mono ?_)
  rintro e w1 ⟨rfl, hD0, hb0⟩
  have ho0 : w1.ownsMap Tryz.prog 5 (plainElem (H := Unit) Tryz.prog 5) w.heap.size 0 (.map []) := by
    obtain ⟨es, clock, he, r⟩ := World.ownsMap_made (H := Unit) w Tryz.prog 5 (plainElem Tryz.prog 5)
    exact ⟨es, clock, (hb0.block _ (by simp)).trans he, r⟩
  have hbw : Below w.heap.size w w1 := below_box (by rw [e1]; exact hb0)
  have hs1 : w.heap.size + 2 ≤ w1.heap.size := hD0.lt
  go_wp2_with (at_range; refine wpList_range_own _ rfl _ 62 rfl 5 5 keyed Tryz.underlying62 _ (w.heap.size + 1) 4 _ rfl hD0 ?_; intro w2 hrg0 hg0 hs0)
  go_frame
  have hsz : Maps.size D0 ≤ 4 := hD0.size_le
  have hout0 := ho0.kept hg0 (by simp)
  have hbw2 : Below w.heap.size w w2 := hbw.grown hg0 hbw.size (fun j hj => by cases hj)
  go_loopw [7] (fun _ wr => ∃ (left : Lit → Bool) (cnt n : Nat) (Dout : DataW Unit), wr.ranges Tryz.prog 5 (plainElem Tryz.prog 5) (w.heap.size + 1) w1.heap.size 4 D0 left cnt ∧ n + cnt ≤ 4 ∧
      wr.ownsMap Tryz.prog 5 (plainElem Tryz.prog 5) w.heap.size n Dout ∧ IsFun Dout (halfF left) ∧ Below w.heap.size w wr)
    (fun _ wr => wr.rangeLeft (w.heap.size + 1) w1.heap.size)
  case atStart => exact ⟨_, _, 0, .map [], hrg0, by omega, hout0, isFun_empty.of_eq (half_start F), hbw2⟩
  case round =>
    obtain ⟨left, cnt, n, Dout, hrg, hcs, hout, hA, hnx⟩ := hrel
    go_wp2_with (at_next; refine wpList_next_ranges_ii _ rfl _ rfl 5 5 .u8 .u8 keyed Tryz.underlying5 Tryz.underlying5 (w.heap.size + 1) w1.heap.size 4 _ _ _ rfl hrg ?_ ?_)
    · intro hc0 hl0
      go_wp2_with fail
      go_ret
      exact ⟨rfl, ⟨n, Dout, by omega, hout, hA.of_eq (half_end hl0)⟩, hnx⟩
    · intro x c w3 cnt1 hwx hwc hlx hat hrg1 hlt hg1 hs3 hen
      obtain ⟨x, rfl⟩ := byte_of_wf hwx
      have hl : ∃ y, letterO x = some y ∧ c = (y.toNat : Int) := by
        cases hx : letterO x with
        | none =>
          have h1 := (F.none_ hx).2 .nil
          rw [hat] at h1
          cases h1
        | some y =>
          have h1 := (F.some_ hx).2 .nil
          rw [hat] at h1
          simp only [vB, DataW.lit.injEq, Lit.int.injEq, true_and] at h1
          exact ⟨y, rfl, h1⟩
      obtain ⟨y, hy, rfl⟩ := hl
      have hout1 := hout.kept hg1 (fun e => by have := Option.some.inj e; omega)
      go_wp2_with (at_mapUpdate; refine wpList_mapUpdate_own _ rfl _ _ _ 62 rfl 5 5 keyed Tryz.underlying62 _ w.heap.size n _ rfl hout1 (by unfold maxLen; omega) _ _ _ rfl rfl (keyOf_int_mk Tryz.underlying5 hwc) _ [] (plainElem_int Tryz.underlying5 hwx) ?_; intro w4 hout2 hg2; go_frame)
      have hrg2 := hrg1.kept hg2 (fun e => by have := Option.some.inj e; omega) (fun e => by have := Option.some.inj e; omega)
      go_roundw
      case rel =>
        exact ⟨_, cnt1, n + 1, _, hrg2, by omega, hout2, (hA.put hout.isMap y x).of_eq (half_step hy),
          (hnx.grown hg1 hnx.size (fun j hj => by cases hj; omega)).grown hg2 (by have := hnx.size; omega) (fun j hj => by cases hj; exact Nat.le_refl _)⟩
      case measure => rw [hrg2.left_eq, hrg.left_eq]; exact hlt
end Go.Proofs.YteoccfmhpakplaaGreatDoor
