/- Values and changes that come in; a law's list is cut. -/
import Derived.Test.YtkkdgacdajojiaaBase
import Derived.Test.YtkkdgacdajojiaaDiTable
import Derived.Test.YtkkdgacdajojiaaLawPost
import Derived.Deep.SlicePairs
namespace Go.Proofs.Ytkkdgacdajojiaa
set_option maxRecDepth 20000
set_option maxRecDepth 20000
open Go.ChangeShapes Go.WideShapes Go.ChangeAt Go.RowKit

theorem valCells : Try.prog.cellsOf 24 = 2 := by kernel_rfl
theorem wf_of {k n : Int} (h1 : (Lit.int .i64 k).wf = true) (h2 : (Lit.int .i64 n).wf = true) : wfP (k, n) := ⟨of_wf_i64 h1, of_wf_i64 h2⟩
section
variable {H : Type} {enc : TypeId × Value → H} {w : World} {base : Nat} {spare : Nat → Bool} {held : Bool}
theorem val_cells {k : Nat} {v0 v1 : Value} {y : DataW H × List MemPlace} (h : DataW.trod enc Try.prog w base spare held k 24 [v0, v1] = some y) : ∃ p : VV, wfP p ∧ v0 = iV p.1 ∧ v1 = iV p.2 := by
  obtain ⟨xs, m, _, _, _, hxl, hf⟩ := DataW.trod_struct Try.underlying24 h
  match xs, hxl with
  | [y0, y1], _ =>
    have g0 := hf 0 _ rfl
    have g1 := hf 1 _ rfl
    have c0 : Try.prog.cellsOf 3 = 1 := by kernel_rfl
    have c1 : Try.prog.cellsOf 2 = 1 := by kernel_rfl
    simp [c0, c1] at g0 g1
    obtain ⟨a, e0, _, w0⟩ := DataW.trod_int Try.underlying3 g0
    obtain ⟨b, e1, _, w1⟩ := DataW.trod_int Try.underlying2 g1
    injection e0 with e0
    injection e1 with e1
    exact ⟨(a, b), wf_of w0 w1, e0, e1⟩
/-- A value that comes in. -/
theorem open_val {r : Reach} {b0 : Nat} {v : Value} {d : DataW H} {p : List MemPlace} (hv : Value.okWide Try.prog w r b0 24 v) (h : DataW.Trod enc Try.prog w base spare held 24 v d p) :
    ∃ k : VV, v = vV k ∧ wfP k := by
  obtain ⟨cs, rfl, hsz⟩ := okWide_struct Try.underlying24 hv
  obtain ⟨c0, c1, rfl⟩ := Joins.array2 (hsz.trans valCells)
  obtain ⟨fuel, hf⟩ := h
  obtain ⟨q, hq, e0, e1⟩ := val_cells (v0 := c0) (v1 := c1) (by simpa [Value.cells] using hf)
  exact ⟨q, by rw [e0, e1], hq⟩
end
end Go.Proofs.Ytkkdgacdajojiaa
