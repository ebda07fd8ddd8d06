/- own, as the laws call it: its result laid into the law's own cell; lists of numbers; cells that are held. -/
import Derived.Test.YtiocfnpfmilkgaaRcWorks
import Derived.Test.YtiocfnpfmilkgaaRcLawM
namespace Go.Proofs.Ytiocfnpfmilkgaa
set_option maxRecDepth 20000
open Go.RowKit Go.Maps Go.ChangeShapes

theorem own_boxed {w : World} {A : Option Addr} {c : Nat} {g : List OB} (hg : GAtC w A g) (hn : g.length * 64 ≤ 140737488355328) :
    Calls Try.prog 27 #[gV A g.length c] (w.alloc (.cells #[.slice A g.length c] 41 (0, 0))) fun e w1 => ∃ C k, e = .returned (gV C (ownG g).length k) ∧
      (GAt (w1.setCell ⟨w.heap.size, 0, none⟩ (.slice C (ownG g).length k)) C (ownG g) ∧ Below w.heap.size w (w1.setCell ⟨w.heap.size, 0, none⟩ (.slice C (ownG g).length k)) ∧ (w1.setCell ⟨w.heap.size, 0, none⟩ (.slice C (ownG g).length k)).cell? ⟨w.heap.size, 0, none⟩ = some (.slice C (ownG g).length k)) ∧
      w1.cell? ⟨w.heap.size, 0, none⟩ = some (.slice A g.length c) ∧ w1.frozen? ⟨w.heap.size, 0, none⟩ = false := by
  have hs : (w.alloc (.cells #[.slice A g.length c] 41 (0, 0))).heap.size = w.heap.size + 1 := by simp
  refine (own_any (c := c) (hg.below ((Below.refl _ _).alloc (Nat.le_refl _) _)) hn).mono ?_
  rintro e w1 ⟨C, k, rfl, h1, h2⟩
  have hlt : w.heap.size < w1.heap.size := by have := h2.size; omega
  have c0 : w1.cell? ⟨w.heap.size, 0, none⟩ = some (.slice A g.length c) := boxed h2 (j := 0) rfl
  have f0 : w1.frozen? ⟨w.heap.size, 0, none⟩ = false := (h2.frozen (p := ⟨w.heap.size, 0, none⟩) (by show w.heap.size < _; omega)).trans (by simp [go_sem])
  refine ⟨C, k, rfl, ⟨(h1.set (p := ⟨w.heap.size, 0, none⟩) (by show w.heap.size < _; omega) _).at, (below_box h2).setCell (Nat.le_refl _) _, World.cell?_setCell_same _ _ _ c0⟩, c0, f0⟩
theorem has_at {W : World} {A : Option Addr} {c : Nat} {xs : List Int} (h : IntsAt W A xs) (n : Nat) (hn : n = xs.length) (hl : n ≤ 140737488355328) (x : Int) (b : Bool) (hx : decide (x ∈ xs) = b) :
    Calls Try.prog 38 #[.slice A n c, iV x] W fun e w' => e = .returned (.bool b) ∧ w' = W := by
  subst hn hx
  exact has_any hl h x
theorem held_keepP {w0 w1 w2 : World} {p q r : Addr} {v x y : Value} (h : ∀ W, Below w0.heap.size w0 W → W.cell? p = some v ∧ W.cell? q = some x ∧ W.cell? r = some y) (hs : w1.cell? p = some v ∧ w1.cell? q = some x ∧ w1.cell? r = some y ∧ Below w0.heap.size w0 w1) (hb : Below w1.heap.size w1 w2) : w2.cell? p = some v ∧ w2.cell? q = some x ∧ w2.cell? r = some y ∧ Below w0.heap.size w0 w2 :=
  have h2 := h _ (hs.2.2.2.trans (hb.mono hs.2.2.2.size))
  ⟨h2.1, h2.2.1, h2.2.2, hs.2.2.2.trans (hb.mono hs.2.2.2.size)⟩
end Go.Proofs.Ytiocfnpfmilkgaa
