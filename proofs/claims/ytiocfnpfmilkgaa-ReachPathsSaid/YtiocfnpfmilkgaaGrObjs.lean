/- The cells of objects, their slots' rows by name. -/
import Derived.Test.YtiocfnpfmilkgaaGrState
import Derived.Maps.AppendAt
namespace Go.Proofs.Ytiocfnpfmilkgaa
set_option maxRecDepth 20000
open Go.RowKit Go.Maps

/-- The cells of objects, their slots' rows by name. -/
def cellsG (sl : Nat → Option Addr × Nat) : Nat → List OB → List Value
  | _, [] => []
  | k, o :: r => iV o.kind :: iV o.count :: .slice (sl k).1 o.slots.length (sl k).2 :: .string o.text :: iV o.mark :: cellsG sl (k + 1) r
theorem cellsG_len (sl : Nat → Option Addr × Nat) : ∀ (k : Nat) (g : List OB), (cellsG sl k g).length = g.length * 5
  | _, [] => rfl
  | k, o :: r => by simp only [cellsG, List.length_cons, cellsG_len sl (k + 1) r]; omega
theorem cellsG_at (sl : Nat → Option Addr × Nat) : ∀ (k : Nat) (g : List OB) (i : Nat) (o : OB), g[i]? = some o →
    (cellsG sl k g)[i * 5]? = some (iV o.kind) ∧ (cellsG sl k g)[i * 5 + 1]? = some (iV o.count) ∧ (cellsG sl k g)[i * 5 + 2]? = some (.slice (sl (k + i)).1 o.slots.length (sl (k + i)).2) ∧ (cellsG sl k g)[i * 5 + 3]? = some (.string o.text) ∧ (cellsG sl k g)[i * 5 + 4]? = some (iV o.mark)
  | k, [], i, o, h => by simp at h
  | k, o :: r, 0, p, h => by injection h with h; subst h; exact ⟨rfl, rfl, rfl, rfl, rfl⟩
  | k, o :: r, i + 1, p, h => by
    have := cellsG_at sl (k + 1) r i p (by simpa using h)
    rw [show k + 1 + i = k + (i + 1) by omega] at this
    have e : ∀ t, (cellsG sl k (o :: r))[(i + 1) * 5 + t]? = (cellsG sl (k + 1) r)[i * 5 + t]? := fun t => by
      rw [show (i + 1) * 5 + t = (i * 5 + t) + 5 by omega]
      rfl
    exact ⟨(e 0).trans this.1, (e 1).trans this.2.1, (e 2).trans this.2.2.1, (e 3).trans this.2.2.2.1, (e 4).trans this.2.2.2.2⟩
end Go.Proofs.Ytiocfnpfmilkgaa
