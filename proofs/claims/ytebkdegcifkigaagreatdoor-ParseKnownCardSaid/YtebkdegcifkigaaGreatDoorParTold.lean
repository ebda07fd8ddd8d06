/- told: is a source refused with this fault; kinds: of statements. -/
import Derived.Test.YtebkdegcifkigaaGreatDoorParExpr
import Derived.BigQuiet
namespace Go.Proofs.YtebkdegcifkigaaGreatDoor.P5
set_option maxRecDepth 20000
open Go.RowKit Go.Maps

/-- The world behind errors.As: the target points to the fault; the rest is as it was. -/
theorem target_at {w w4 : World} {b : Nat} {c l : Int} (hb : b < w.heap.size) (h0 : w.cell? ⟨b, 0, none⟩ = some (iV c)) (h1 : w.cell? ⟨b, 1, none⟩ = some (iV l))
    (hb4 : Below (w.alloc (.cells #[.pointer none] 59)).heap.size (w.alloc (.cells #[.pointer none] 59)) w4) :
    (w4.setCell ⟨w.heap.size, 0, none⟩ (pV b)).cell? ⟨w.heap.size, 0, none⟩ = some (pV b) ∧ (w4.setCell ⟨w.heap.size, 0, none⟩ (pV b)).cell? ⟨b, 0, none⟩ = some (iV c) ∧ (w4.setCell ⟨w.heap.size, 0, none⟩ (pV b)).cell? ⟨b, 1, none⟩ = some (iV l) ∧ Below w.heap.size w (w4.setCell ⟨w.heap.size, 0, none⟩ (pV b)) := by
  have hs : (w.alloc (.cells #[.pointer none] 59)).heap.size = w.heap.size + 1 := by simp
  have look : ∀ p : Addr, p.block < w.heap.size + 1 → w4.cell? p = (w.alloc (.cells #[.pointer none] 59)).cell? p := fun p hp => hb4.cell (by rw [hs]; exact hp)
  refine ⟨?_, ?_, ?_, ?_⟩
  · have := look ⟨w.heap.size, 0, none⟩ (by show w.heap.size < _; omega)
    simp [go_sem] at this
    simp [go_sem, this]
  · rw [cell_set_block (by omega), look ⟨b, 0, none⟩ (by show b < _; omega), World.cell?_alloc_lt _ _ ⟨b, 0, none⟩ hb]; exact h0
  · rw [cell_set_block (by omega), look ⟨b, 1, none⟩ (by show b < _; omega), World.cell?_alloc_lt _ _ ⟨b, 1, none⟩ hb]; exact h1
  · exact (((Below.refl _ _).alloc (Nat.le_refl _) _).trans (hb4.mono (by rw [hs]; omega))).setCell (p := ⟨w.heap.size, 0, none⟩) (by show w.heap.size ≤ w.heap.size; omega) _
set_option maxHeartbeats 8000000 in
/-- told: whatever number and line are asked for. -/
theorem told_any (n : Nat) (hn : n ≤ 1099511627776) (s : ByteArray) (c' : Int) (l' : Nat) (c l : Int) (r : Bool) (h : sourceF n s.data.toList = .bad c' l') (hr : ((c' == c) && ((l' : Int) == l)) = r) (w : World) (hE : Env4 w) :
    Calls Tryz.prog 19 #[.string s, iV c, iV l] w fun e w' => e = .returned (.bool r) ∧ Below w.heap.size w w' := by
  have hP := Parse_all n hn s w hE (by rw [h]; intro h; cases h)
  rw [h] at hP
  replace hP := Lib.hid hP
  replace hE := Lib.hid hE
  clear h
  obtain ⟨k, hk⟩ : ∃ k, (c' == c) = k := ⟨_, rfl⟩
  obtain ⟨m, hm⟩ : ∃ m, ((l' : Int) == l) = m := ⟨_, rfl⟩
  rw [hk, hm] at hr
  have FIN := Lib.hid hr
  clear hr
  cases k <;> cases m <;>
  · go_enter Tryz.func19, Tryz.ntmps19
    go_wp2_with (first
      | (go_at_call 8; (with_reducible refine hP.out.mono ?_); rintro e w1 ⟨hb, b, rfl, hb1, hf⟩; have TA := Lib.hid (fun w4 hb4 => target_at (w := w1) (w4 := w4) hf.lt hf.1 hf.2 hb4); have B := Lib.hid hb; have eW : Hid (ErrTypeAt (w1.alloc (.cells #[.pointer none] 59))) := (hE.out.below (hb.alloc hb.size _)).err; have tW : Hid ((w1.alloc (.cells #[.pointer none] 59)).cell? ⟨w1.heap.size, 0, none⟩ = some (.pointer none)) := (by show _ = _; simp [go_sem]); have fW : Hid ((w1.alloc (.cells #[.pointer none] 59)).frozen? ⟨w1.heap.size, 0, none⟩ = false) := (by show _ = _; simp [go_sem]); clear hb hb1 hf)
      | (go_at_call 30; refine (As_fault ⟨b, 0, none⟩ ⟨w1.heap.size, 0, none⟩ (.pointer none) _ eW.out tW.out fW.out).mono ?_; rintro e w5 ⟨rfl, w4, hb4, rfl⟩; obtain ⟨g0, p0, p1, hB5⟩ := TA.out _ hb4; generalize w4.setCell ⟨w1.heap.size, 0, none⟩ (.pointer (some ⟨b, 0, none⟩)) = w5 at g0 p0 p1 hB5 ⊢; have B5 := Lib.hid (B.out.trans (hB5.mono B.out.size)); clear hb4 hB5))
    go_ret
    exact ⟨congrArg (fun x => Ending.returned (.bool x)) FIN.out, B5.out⟩
/-- Statements of these kinds. -/
def KAt (w : World) (A : Option Addr) (ks : List Int) : Prop :=
  ∀ (j : Nat) (k : Int), ks[j]? = some k → ∃ a g, A = some ⟨a, 0, none⟩ ∧ a < w.heap.size ∧ g < w.heap.size ∧ w.cell? ⟨a, j, none⟩ = some (pV g) ∧ w.cell? ⟨g, 0, none⟩ = some (iV k)
theorem KAt.below {w w' : World} {A : Option Addr} {ks : List Int} (h : KAt w A ks) (hb : Below w.heap.size w w') : KAt w' A ks := by
  intro j k hk
  obtain ⟨a, g, e, ha, hg, h1, h2⟩ := h j k hk
  exact ⟨a, g, e, Nat.lt_of_lt_of_le ha hb.size, Nat.lt_of_lt_of_le hg hb.size, (hb.cell (p := ⟨a, j, none⟩) ha).trans h1, (hb.cell (p := ⟨g, 0, none⟩) hg).trans h2⟩
set_option maxHeartbeats 8000000 in
theorem kinds_any (ks : List Int) (n : Nat) (hn : n = ks.length) (hs : n ≤ 1000000) (A : Option Addr) (c b : Nat) (w : World) (hA : KAt w A ks) (hW : ∀ (j : Nat) (k : Int), ks[j]? = some k → w.cell? ⟨b, j, none⟩ = some (iV k)) :
    Calls Tryz.prog 18 #[.slice A n c, .slice (some ⟨b, 0, none⟩) n n] w fun e w' => e = .returned (.bool true) ∧ ∃ m, w' = w.drewN m := by
  replace hA := Lib.hid hA
  replace hW := Lib.hid hW
  replace hn := Lib.hid hn
  have hnn : ((n : Int) != (n : Int)) = false := by simp
  go_enter Tryz.func18, Tryz.ntmps18
  go_wp2_with fail
  go_loopw [5] (fun i wr => ∃ k m : Nat, k ≤ n ∧ i = iV k ∧ wr = w.drewN m) (fun i _ => n - (intOf i).toNat)
  case atStart => exact ⟨0, 0, Nat.zero_le _, rfl, rfl⟩
  case round =>
    obtain ⟨k, m, hk, rfl, rfl⟩ := hrel
    by_cases hlt : k < n
    · obtain ⟨x, hx⟩ : ∃ x, ks[k]? = some x := ⟨_, List.getElem?_eq_getElem (by rw [← hn.out]; exact hlt)⟩
      obtain ⟨a, g, rfl, _, _, q1, q2⟩ := hA.out k x hx
      have q3 := hW.out k x hx
      have k0 : (0 : Int) ≤ (k : Int) := by omega
      have k1 : (k : Int) < (n : Int) := by omega
      have hxx : (x != x) = false := by simp
      clear hx
      go_wp2_with fail
      go_quiet (fail)
      go_wp2_with fail
      go_roundw
      case rel => exact ⟨k + 1, _, by omega, by go_num, rfl⟩
      case measure => simp [intOf]; omega
    · obtain rfl : k = n := by omega
      go_wp2_with fail
      go_ret
      exact ⟨rfl, m, rfl⟩
end Go.Proofs.YtebkdegcifkigaaGreatDoor.P5
