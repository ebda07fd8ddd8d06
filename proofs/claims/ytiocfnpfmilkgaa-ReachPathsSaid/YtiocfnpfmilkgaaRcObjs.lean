/- An own row of objects that grows by one at a time. No walk. -/
import Derived.Test.YtiocfnpfmilkgaaRcOwn
namespace Go.Proofs.Ytiocfnpfmilkgaa
set_option maxRecDepth 20000
open Go.RowKit Go.Maps

structure ObjsJ (w : World) (b3 : Nat) (h : List OB) (v : Value) (sl : Nat → Option Addr × Nat) : Prop where
  cell : w.cell? ⟨b3, 0, none⟩ = some v
  fz : w.frozen? ⟨b3, 0, none⟩ = false
  row : w.ownsRow (b3 + 1) 52 5 v h.length (cellsG sl 0 h)
  slots : ∀ i o, h[i]? = some o → SlotsAt w o (sl i).1 ∧ ∀ a, (sl i).1 = some a → b3 < a.block ∧ a.block < w.heap.size ∧ v.ownBlock ≠ some a.block
theorem ObjsJ.lt {w : World} {b3 : Nat} {h : List OB} {v : Value} {sl : Nat → Option Addr × Nat} (H : ObjsJ w b3 h v sl) : b3 < w.heap.size := World.block_lt_of_cell? w _ H.cell
theorem ObjsJ.below {w w' : World} {b3 : Nat} {h : List OB} {v : Value} {sl : Nat → Option Addr × Nat} (H : ObjsJ w b3 h v sl) (hb : Below w.heap.size w w') : ObjsJ w' b3 h v sl :=
  ⟨(hb.cell (p := ⟨b3, 0, none⟩) H.lt).trans H.cell, (hb.frozen (p := ⟨b3, 0, none⟩) H.lt).trans H.fz, own_below H.row hb, fun i o ho => ⟨(H.slots i o ho).1.below hb, fun a ha => by
    obtain ⟨h1, h2, h3⟩ := (H.slots i o ho).2 a ha
    exact ⟨h1, Nat.lt_of_lt_of_le h2 hb.size, h3⟩⟩⟩
theorem ObjsJ.push {w w5 : World} {b3 vc : Nat} {h : List OB} {o : OB} {v v'' : Value} {vA : Option Addr} {sl : Nat → Option Addr × Nat} {O4 : Obj} (H : ObjsJ w b3 h v sl) (hs : SlotsAt w o vA) (hA : ∀ a, vA = some a → b3 < a.block ∧ a.block < w.heap.size ∧ v.ownBlock ≠ some a.block)
    (h5 : w5.ownsRow (b3 + 1) 52 5 v'' (h.length + 1) (cellsG sl 0 h ++ [iV o.kind, iV o.count, .slice vA o.slots.length vc, .string o.text, iV o.mark])) (g5 : (w.alloc O4).grownBy w5 v.ownBlock)
    (at5 : v''.ownBlock = v.ownBlock ∨ v''.ownBlock = some (w.alloc O4).heap.size) :
    ObjsJ (w5.setCell ⟨b3, 0, none⟩ v'') b3 (h ++ [o]) v'' (fun i => if i = h.length then (vA, vc) else sl i) ∧ Frm (fun x => b3 ≤ x) w (w5.setCell ⟨b3, 0, none⟩ v'') := by
  have l3 := H.lt
  have sz5 : w.heap.size + 1 ≤ w5.heap.size := by have := g5.size; simpa using this
  have hv := H.row.lt
  have k3 : w5.heap[b3]? = w.heap[b3]? := (g5.block b3 (by simp; omega) (fun e => by have := (hv b3 e.symm).1; omega)).trans (Below.heap_alloc _ _ _ l3)
  have keep5 : ∀ j, j < w.heap.size → some j ≠ v.ownBlock → j ≠ b3 → (w5.setCell ⟨b3, 0, none⟩ v'').heap[j]? = w.heap[j]? := fun j hj h3 h4 =>
    (Below.heap_setCell _ _ _ _ h4).trans ((g5.block j (by simp; omega) h3).trans (Below.heap_alloc _ _ _ hj))
  have hnew5 : ∀ y, v''.ownBlock = some y → y < w5.heap.size ∧ b3 + 1 ≤ y := fun y hy => ⟨(h5.lt y hy).2, (h5.lt y hy).1⟩
  have hlast : ∀ a : Addr, b3 < a.block ∧ a.block < w.heap.size ∧ v.ownBlock ≠ some a.block → b3 < a.block ∧ a.block < (w5.setCell ⟨b3, 0, none⟩ v'').heap.size ∧ v''.ownBlock ≠ some a.block := fun a ⟨q1, q2, q3⟩ => ⟨q1, by simp; omega, fun e => by
    rcases at5 with h | h
    · rw [h] at e; exact q3 e
    · rw [h] at e; injection e with e; simp at e; omega⟩
  refine ⟨⟨World.cell?_setCell_same _ _ _ ((World.cell?_of_block (w := w) (a := ⟨b3, 0, none⟩) k3).trans H.cell), by rw [World.frozen?_setCell]; exact (World.frozen?_of_block (w := w) (a := ⟨b3, 0, none⟩) k3).trans H.fz, ?_, ?_⟩, ?_⟩
  · rw [cellsG_snoc, cellsG_congr (sl' := sl) (fun i _ hi => if_neg (by omega)), Nat.zero_add, List.length_append]
    simp only [if_true]
    exact h5.kept (w' := w5.setCell ⟨b3, 0, none⟩ v'') (row := some b3) ⟨rfl, rfl, rfl, by simp [World.setCell], fun i _ hne => Below.heap_setCell _ _ _ _ (by rintro rfl; exact hne rfl)⟩ (Or.inr fun e => by have := (hnew5 b3 e).2; omega)
  · intro i p hp2
    by_cases hi : i = h.length
    · subst hi
      rw [List.getElem?_append_right (Nat.le_refl _), Nat.sub_self] at hp2
      injection hp2 with hp2
      subst hp2
      simp only [if_true]
      exact ⟨slots_keep hs (fun a ha => by obtain ⟨q1, q2, q3⟩ := hA a ha; exact keep5 _ q2 (fun e => q3 e.symm) (by omega)) (by simp; omega), fun a ha => hlast a (hA a ha)⟩
    · have hik : i < h.length := by
        have := (List.getElem?_eq_some_iff.1 hp2).1
        simp at this
        omega
      rw [List.getElem?_append_left hik] at hp2
      obtain ⟨hs, hsa⟩ := H.slots i p hp2
      simp only [if_neg hi]
      exact ⟨slots_keep hs (fun a ha => by obtain ⟨q1, q2, q3⟩ := hsa a ha; exact keep5 _ q2 (fun e => q3 e.symm) (by omega)) (by simp; omega), fun a ha => hlast a (hsa a ha)⟩
  · refine ⟨g5.os, g5.tape, g5.output, by simp; omega, fun j hj hn => keep5 j hj (fun e => ?_) (by omega)⟩
    have := (hv j e.symm).1
    omega
theorem ObjsJ.graph {w : World} {b2 b3 zc : Nat} {h : List OB} {zA : Option Addr} {sl : Nat → Option Addr × Nat} {x : Value} (H : ObjsJ w b3 h (.slice zA h.length zc) sl) (hb : b2 < b3) : GAtLo b3 (w.setCell ⟨b2, 0, none⟩ x) zA h := by
  have hkeep : ∀ j, b3 ≤ j → (w.setCell ⟨b2, 0, none⟩ x).heap[j]? = w.heap[j]? := fun j hj => Below.heap_setCell _ _ _ _ (show j ≠ b2 by omega)
  have hrow := H.row
  intro i o ho
  have hi := (List.getElem?_eq_some_iff.1 ho).1
  obtain ⟨hs, hsa⟩ := H.slots i o ho
  rcases hrow.2 with ⟨_, h1⟩ | ⟨gb, cap, cur, e, h1, h2, h3, h4, h5, h6⟩
  · omega
  · injection e with e1 _ _
    subst e1
    have hl : gb < w.heap.size := (Array.getElem?_eq_some_iff.1 h2).1
    obtain ⟨d0, d1, d2, d3, d4⟩ := cellsG_at sl 0 h i o ho
    rw [Nat.zero_add] at d2
    have hc : ∀ t u, (cellsG sl 0 h)[i * 5 + t]? = some u → (w.setCell ⟨b2, 0, none⟩ x).cell? ⟨gb, i * 5 + t, none⟩ = some u := fun t u hu => by
      have := hrow.cells (g := gb) rfl _ _ hu
      rw [add_zero_at, Nat.zero_add] at this
      exact (World.cell?_of_block (w := w) (a := ⟨gb, i * 5 + t, none⟩) (hkeep gb (by omega))).trans this
    have ea : (⟨gb, 0, none⟩ : Addr).add (i * 5) = ⟨gb, i * 5, none⟩ := by rw [add_zero_at, Nat.zero_add]
    refine ⟨⟨gb, 0, none⟩, (sl i).1, (sl i).2, rfl, by simpa using hl, ?_, slots_keep hs (fun a ha => hkeep _ (by have := (hsa a ha).1; omega)) (by simp), by show b3 ≤ gb; omega, fun a ha => by have := (hsa a ha).1; omega⟩
    rw [ea]
    exact ⟨hc 0 _ d0, hc 1 _ d1, hc 2 _ d2, hc 3 _ d3, hc 4 _ d4⟩
/-- What the law's tables makes of a row of numbers. -/
def tabS : List Int → Int × List (Int × Int) → Int × List (Int × Int)
  | [], s => s
  | x :: r, s => tabS r (if x = 0 then (0, []) else (s.1, s.2 ++ [(6, x)]))
def tabO (row : List Int) : OB := ⟨(tabS row (6, [])).1, 0, (tabS row (6, [])).2, ⟨#[]⟩, 0⟩
def tabG (L : List (List Int)) : List OB := L.map tabO
theorem tabS_snoc : ∀ (row : List Int) (x : Int) (s : Int × List (Int × Int)), tabS (row ++ [x]) s = (if x = 0 then (0, []) else ((tabS row s).1, (tabS row s).2 ++ [(6, x)]))
  | [], _, _ => rfl
  | _ :: r, x, _ => tabS_snoc r x _
theorem tabS_len : ∀ (row : List Int) (s : Int × List (Int × Int)), (tabS row s).2.length ≤ row.length + s.2.length
  | [], _ => by simp [tabS]
  | y :: r, s => by
    have := tabS_len r (if y = 0 then (0, []) else (s.1, s.2 ++ [(6, y)]))
    simp only [tabS, List.length_cons]
    by_cases e : y = 0
    · rw [if_pos e] at this ⊢; simp at this; omega
    · rw [if_neg e] at this ⊢; simp at this; omega
/-- The slice's cells hold slices of numbers. -/
def RowsAt (w : World) (B : Option Addr) (L : List (List Int)) : Prop :=
  ∀ i l, L[i]? = some l → ∃ ad A c, B = some ad ∧ ad.block < w.heap.size ∧ w.cell? (ad.add i) = some (.slice A l.length c) ∧ IntsAt w A l
theorem RowsAt.below {w w' : World} {B : Option Addr} {L : List (List Int)} (h : RowsAt w B L) (hb : Below w.heap.size w w') : RowsAt w' B L := by
  intro i l hl
  obtain ⟨ad, A, c, e, h1, h2, h3⟩ := h i l hl
  exact ⟨ad, A, c, e, Nat.lt_of_lt_of_le h1 hb.size, (hb.cell (by rw [Go.ChangeShapes.block_add]; exact h1)).trans h2, h3.below hb⟩
end Go.Proofs.Ytiocfnpfmilkgaa
