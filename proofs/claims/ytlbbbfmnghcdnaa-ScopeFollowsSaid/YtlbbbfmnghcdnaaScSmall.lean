/- What a call of the walk leaves; fail, begin, newFunction, value's and expr's small helpers. -/
import Derived.Test.YtlbbbfmnghcdnaaScState
import Derived.Defers
import Derived.RegionTactic
import Derived.WalkMore
namespace Go.Proofs.Ytlbbbfmnghcdnaa
set_option maxRecDepth 20000
open Go.RowKit Go.Maps

/-- A fault in memory. -/
def FaultAt (w : World) (b : Nat) (c : Int) (l : Int) : Prop := w.cell? ⟨b, 0, none⟩ = some (iV c) ∧ w.cell? ⟨b, 1, none⟩ = some (iV l)
theorem FaultAt.keep {w w' : World} {b : Nat} {c l : Int} (h : FaultAt w b c l) (hb : w'.heap[b]? = w.heap[b]?) : FaultAt w' b c l :=
  ⟨(World.cell?_of_block (a := ⟨b, 0, none⟩) hb).trans h.1, (World.cell?_of_block (a := ⟨b, 1, none⟩) hb).trans h.2⟩
abbrev panicV (b : Nat) : Ending := .panicked [{ v := .iface 67 (pV b), recovered := false }]
/-- The functions stay where they lie. -/
def Same (N : Nat) (G G' : Nat → Gh) : Prop := ∀ n, n < N → (G' n).b = (G n).b
theorem Same.refl (N : Nat) (G : Nat → Gh) : Same N G G := fun _ _ => rfl
/-- The end by a fault. -/
def BadS (T : Own) (w : World) (c l : Int) (e : Ending) (w' : World) : Prop :=
  ∃ b T', e = panicV b ∧ w.heap.size ≤ b ∧ FaultAt w' b c l ∧ Turn (fun _ => True) T w T' w'
/-- What a call of the walk leaves. -/
def EndsV (N : Nat) (T : Own) (lo p : Nat) (G : Nat → Gh) (r : ResS) (w : World) (V : Own → (Nat → Gh) → World → Value → Prop) (e : Ending) (w' : World) : Prop :=
  match r with
  | .out => False
  | .bad c l => BadS T w c l e w'
  | .ok st => ∃ v T' G' vn, e = .returned v ∧ V T' G' w' v ∧ WAt w' T' lo p G' vn st ∧ Turn (fun _ => True) T w T' w' ∧ Same N G G'
abbrev EndsS (N : Nat) (T : Own) (lo p : Nat) (G : Nat → Gh) (r : ResS) (w : World) (e : Ending) (w' : World) : Prop := EndsV N T lo p G r w (fun _ _ _ v => v = .tuple #[]) e w'
theorem BadS.after {T T1 : Own} {w w1 w' : World} {c l : Int} {e : Ending} (h : BadS T1 w1 c l e w') (ht : Turn (fun _ => True) T w T1 w1) : BadS T w c l e w' := by
  obtain ⟨b, T', rfl, hb, hf, hp⟩ := h
  exact ⟨b, T', rfl, Nat.le_trans ht.size hb, hf, ht.trans hp⟩
theorem bindS_done {r : ResS} {f : StS → ResS} (h : r.bind f ≠ .out) : r ≠ .out := fun e => h (by rw [e]; rfl)
theorem bindS_ok (s : StS) (f : StS → ResS) : (ResS.ok s).bind f = f s := rfl
theorem bindS_bad (c l : Int) (f : StS → ResS) : (ResS.bad c l).bind f = .bad c l := rfl
theorem Same.trans {N M : Nat} {G0 G1 G2 : Nat → Gh} (h : Same N G0 G1) (k : Same M G1 G2) (hM : N ≤ M) : Same N G0 G2 := fun n hn => (k n (Nat.lt_of_lt_of_le hn hM)).trans (h n hn)
theorem fail_any (c l : Int) (w : World) : Calls Try.prog 48 #[iV c, iV l] w fun e w' => e = panicV w.heap.size ∧ w' = w.alloc (.cells #[iV c, iV l] 124) := by
  go_enter Try.func48, Try.ntmps48
  go_wp2
  exact ⟨rfl, rfl, rfl⟩
theorem bad_new (T : Own) (w : World) (c l : Int) (Y : TypeId) : BadS T w c l (panicV w.heap.size) (w.alloc (.cells #[iV c, iV l] Y)) :=
  ⟨w.heap.size, T, rfl, Nat.le_refl _, ⟨by simp [go_sem], by simp [go_sem]⟩, (Turn.refl _ _ _).alloc _ fun _ _ => rfl⟩
theorem WAt.part {w : World} {T : Own} {lo p : Nat} {G : Nat → Gh} {vn : Value} {st : StS} (h : WAt w T lo p G vn st) (hp : st.parts < 65536) : WAt (w.setCell ⟨p, 2, none⟩ (iV ((st.parts : Int) + 1))) T lo p G vn { st with parts := st.parts + 1 } := by
  have B : ∀ k t, T k = some t → t ≠ .walk → (w.setCell ⟨p, 2, none⟩ (iV ((st.parts : Int) + 1))).heap[k]? = w.heap[k]? := fun k t h1 h2 => Below.heap_setCell _ _ _ _ (show k ≠ p from fun e => by subst e; rw [h.tag] at h1; injection h1 with h1; exact h2 h1.symm)
  refine ⟨h.tag, (cell_set_other (by decide) _).trans h.c0, (cell_set_other (by decide) _).trans h.c1, by rw [World.cell?_setCell_same _ _ _ h.c2]; simp, warm_set h.warm _ _, h.rn.keep fun k _ h1 => ⟨B k _ h1 (by simp), rfl⟩,
    fun n f hn => (h.fn n f hn).keep fun k t _ h1 h2 => ⟨B k t h1 (by rintro rfl; cases h2), rfl⟩, fun pre n rest e => ?_, h.sorted, by have := h.base; simpa [World.setCell] using this, h.old, fun k hk => h.fresh k (by simpa [World.setCell] using hk), by show st.parts + 1 ≤ 65536; omega, h.many⟩
  obtain ⟨h1, h2⟩ := h.chain pre n rest e
  obtain ⟨f, hf⟩ : ∃ f, st.fns[n]? = some f := ⟨_, List.getElem?_eq_getElem h1⟩
  exact ⟨h1, (World.cell?_of_block (a := ⟨(G n).b, 3, none⟩) (B _ _ (h.fn n f hf).hd.tb (by simp))).trans h2⟩
theorem WAt.turn_p {w : World} {T : Own} {lo p : Nat} {G : Nat → Gh} {vn : Value} {st : StS} (h : WAt w T lo p G vn st) (i : Nat) (v : Value) : Turn (fun _ => True) T w T (w.setCell ⟨p, i, none⟩ v) := (Turn.refl _ _ _).setCell (fun _ => ⟨_, h.tag, trivial⟩) _
theorem begin_any {N : Nat} {w : World} {T : Own} {lo p : Nat} {G : Nat → Gh} {vn : Value} {st : StS} (h : WAt w T lo p G vn st) (l : Int) : Calls Try.prog 49 #[pV p, iV l] w (EndsS N T lo p G (beginS l st) w) := by
  have c2 := h.c2
  have f2 := h.warm 2
  have hpl := h.p_lt
  have hparts := h.parts
  unfold beginS
  by_cases hk : st.parts = 65536
  · rw [if_pos hk]
    have F := Lib.hid (fail_any 3 l w)
    have B := Lib.hid (bad_new T w 3 l 124)
    have hq : ((st.parts : Int) == 65536) = true := by rw [hk]; rfl
    generalize st.parts = pp at *
    clear h hk
    go_enter Try.func49, Try.ntmps49
    go_wp2_with (first
      | (go_at_call 48; with_reducible refine F.out.mono ?_; rintro e w2 ⟨rfl, rfl⟩))
    exact ⟨rfl, B.out⟩
  · rw [if_neg hk]
    have P := Lib.hid (h.part (by omega))
    have Q := Lib.hid (h.turn_p 2 (iV ((st.parts : Int) + 1)))
    have hq : ((st.parts : Int) == 65536) = false := beq_eq_false_iff_ne.2 (by omega)
    generalize st.parts = pp at *
    clear h hk
    go_enter Try.func49, Try.ntmps49
    go_wp2
    refine bodyPost_end (results_none rfl _ _ _) rfl ?_
    exact ⟨_, T, G, vn, rfl, rfl, P.out, Q.out, Same.refl _ _⟩
end Go.Proofs.Ytlbbbfmnghcdnaa
