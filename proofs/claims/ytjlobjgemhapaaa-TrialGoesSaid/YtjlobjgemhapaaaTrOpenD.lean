/- A graph that comes in: one with no objects at all has no room. -/
import Derived.Test.YtjlobjgemhapaaaTrOpen
namespace Go.Proofs.Ytjlobjgemhapaaa
set_option maxRecDepth 20000
open Go.ChangeShapes Go.WideShapes Go.ChangeAt Go.RowKit

section
variable {H : Type} {enc : TypeId × Value → H} {w : World} {base : Nat} {spare : Nat → Bool} {held : Bool}
theorem none_room {fuel n c : Nat} {x : DataW H × List MemPlace} (h : DataW.trod enc Try.prog w base spare held fuel 22 [.slice none n c] = some x) : c = 0 := by
  rcases Go.Deep.open_slice Try.underlying22 h with ⟨e, _⟩ | ⟨a, len, cap, m, n, D, Pl, e, _⟩
  · injection e with e
    injection e
  · injection e with e
    injection e with e
    cases e
/-- A graph that comes in. -/
theorem open_graph_d {r : Reach} {b0 : Nat} {v : Value} {d : DataW H} {p : List MemPlace} (hv : Value.okWide Try.prog w r b0 24 v) (h : DataW.Trod enc Try.prog w base spare held 24 v d p) (hsz : ∀ n ∈ d.weights Try.prog 24, n ≤ reachBytes) :
    ∃ (A : Option Addr) (c : Nat) (g : List OB), v = .agg #[.slice A g.length c] ∧ (A = none → c = 0) ∧ GAtC w A g ∧ g.length * 64 ≤ 140737488351232 := by
  obtain ⟨A, c, g, rfl, hg, hl⟩ := open_graph_c hv h hsz
  refine ⟨A, c, g, rfl, ?_, hg, hl⟩
  rintro rfl
  obtain ⟨fuel, hf⟩ := h
  obtain ⟨xs, k, _, hx, hcl, hxl, hff⟩ := DataW.trod_struct Try.underlying24 hf
  match xs, hxl with
  | [y0], _ =>
    have g0 := hff 0 _ rfl
    have c1 : Try.prog.cellsOf 22 = 1 := by kernel_rfl
    simp [c1, Value.cells] at g0
    exact none_room g0
end
end Go.Proofs.Ytjlobjgemhapaaa
