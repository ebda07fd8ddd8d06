/- The document's own 'Same' at two lists of the same tokens. -/
import Derived.Test.YteoccfmhpakplaaGreatDoorLexTold
import Derived.Deep.AppendLies
namespace Go.Proofs.YteoccfmhpakplaaGreatDoor
set_option maxRecDepth 20000
open Go.RowKit

theorem tokCells_at : ∀ (l : List Tok) (k : Nat) (t : Tok), l[k]? = some t → (tokCells l)[k * 4]? = some (.int .i64 t.kind) ∧ (tokCells l)[k * 4 + 1]? = some (.string ⟨t.text.toArray⟩) ∧ (tokCells l)[k * 4 + 2]? = some (.int .i64 t.num) ∧ (tokCells l)[k * 4 + 3]? = some (.int .i64 t.line)
  | [], k, t, h => by simp at h
  | x :: r, 0, t, h => by
    simp at h; subst h
    exact ⟨rfl, rfl, rfl, rfl⟩
  | x :: r, k + 1, t, h => by
    have := tokCells_at r k t (by simpa using h)
    have e : ∀ j, (tokCells (x :: r))[(k + 1) * 4 + j]? = (tokCells r)[k * 4 + j]? := by
      intro j
      rw [show (k + 1) * 4 + j = (k * 4 + j) + 1 + 1 + 1 + 1 by omega]; rfl
    exact ⟨(e 0).trans this.1, (e 1).trans this.2.1, (e 2).trans this.2.2.1, (e 3).trans this.2.2.2⟩
/-- A slice's cells hold those tokens. -/
structure TokAt (w : World) (A : Option Addr) (l : List Tok) : Prop where
  at_ : ∀ k t, l[k]? = some t → ∃ g, A = some ⟨g, 0, none⟩ ∧ g < w.heap.size ∧ w.cell? ⟨g, k * 4, none⟩ = some (.int .i64 t.kind) ∧ w.cell? ⟨g, k * 4 + 1, none⟩ = some (.string ⟨t.text.toArray⟩) ∧ w.cell? ⟨g, k * 4 + 2, none⟩ = some (.int .i64 t.num) ∧ w.cell? ⟨g, k * 4 + 3, none⟩ = some (.int .i64 t.line)
theorem TokRow.form {B : Nat} {v : Value} {l : List Tok} {w : World} (h : TokRow B v l w) : ∃ A c, v = .slice A l.length c ∧ TokAt w A l := by
  by_cases hn : 0 < l.length
  · obtain ⟨g, cap, hv, _, hlt⟩ := h.own.form hn
    subst hv
    have hc := h.own.cells (g := g) rfl
    have e : ∀ j, (⟨g, 0, none⟩ : Addr).add j = ⟨g, j, none⟩ := fun j => by unfold Addr.add; split <;> simp_all
    refine ⟨_, _, rfl, ⟨fun k t hk => ?_⟩⟩
    obtain ⟨c0, c1, c2, c3⟩ := tokCells_at l k t hk
    exact ⟨g, rfl, hlt, by have := hc _ _ c0; rwa [e] at this, by have := hc _ _ c1; rwa [e] at this, by have := hc _ _ c2; rwa [e] at this, by have := hc _ _ c3; rwa [e] at this⟩
  · have hl : l = [] := List.length_eq_zero_iff.1 (by omega)
    subst hl
    rcases h.own.2 with ⟨rfl, _⟩ | ⟨g, cap, cur, rfl, _⟩
    · exact ⟨_, _, rfl, ⟨fun k t hk => by simp at hk⟩⟩
    · exact ⟨_, _, rfl, ⟨fun k t hk => by simp at hk⟩⟩
theorem TokAt.below {w w' : World} {A : Option Addr} {l : List Tok} (h : TokAt w A l) (hb : Below w.heap.size w w') : TokAt w' A l := by
  refine ⟨fun k t hk => ?_⟩
  obtain ⟨g, e, hl, c0, c1, c2, c3⟩ := h.at_ k t hk
  exact ⟨g, e, Nat.lt_of_lt_of_le hl hb.size, (hb.cell (p := ⟨g, k * 4, none⟩) hl).trans c0, (hb.cell (p := ⟨g, k * 4 + 1, none⟩) hl).trans c1, (hb.cell (p := ⟨g, k * 4 + 2, none⟩) hl).trans c2, (hb.cell (p := ⟨g, k * 4 + 3, none⟩) hl).trans c3⟩
theorem TokRow.below {B : Nat} {v : Value} {l : List Tok} {w w' : World} (h : TokRow B v l w) (hb : Below w.heap.size w w') : TokRow B v l w' := ⟨own_below h.own hb⟩
set_option maxHeartbeats 4000000 in
/-- Same. -/
theorem Same_any (A B : Option Addr) (ca cb : Nat) (l : List Tok) (w : World) (hl : l.length ≤ 1048576) (hA : TokAt w A l) (hB : TokAt w B l) :
    Calls Tryz.prog 12 #[.slice A l.length ca, .slice B l.length cb] w fun e w' => e = .returned (.bool true) ∧ Below w.heap.size w w' := by
  have HA := Lib.hid hA
  have HB := Lib.hid hB
  clear hA hB
  go_enter Tryz.func12, Tryz.ntmps12
  go_wp2_with fail
  go_loopw [5] (fun i wr => ∃ k : Nat, i = .int .i64 k ∧ k ≤ l.length ∧ Hid (Below w.heap.size w wr)) (fun i _ => l.length - (intOf i).toNat)
  case atStart => exact ⟨0, rfl, by omega, Below.refl _ _⟩
  case round =>
    obtain ⟨k, rfl, hk, hb⟩ := hrel
    by_cases hlt : k < l.length
    · obtain ⟨t, ht⟩ : ∃ t, l[k]? = some t := ⟨_, List.getElem?_eq_getElem hlt⟩
      obtain ⟨g, rfl, _, a0, a1, a2, a3⟩ := (HA.out.below hb.out).at_ k t ht
      obtain ⟨g', rfl, _, b0, b1, b2, b3⟩ := (HB.out.below hb.out).at_ k t ht
      clear ht
      generalize t.kind = kd at *
      generalize (⟨t.text.toArray⟩ : ByteArray) = tx at *
      generalize t.num = nm at *
      generalize t.line = ln at *
      have hd : (tx.toList == tx.toList) = true := by simp
      have k0 : (0 : Int) ≤ (k : Int) := by omega
      have k1 : (k : Int) < (l.length : Int) := by omega
      go_wp2_with fail
      go_region
      go_wp2_with fail
      go_roundw
      case rel => exact ⟨k + 1, by go_num, by omega, hb.out.drew⟩
      case measure => simp [intOf]; omega
    · obtain rfl : k = l.length := by omega
      go_wp2_with fail
      go_ret
      exact ⟨rfl, hb.out⟩
end Go.Proofs.YteoccfmhpakplaaGreatDoor
