/- Values and changes that come in; a law's list is cut. -/
import Derived.Test.YtjlakolgaableaaRDiTable
import Derived.Test.YtjlakolgaableaaRLawPost
import Derived.Deep.SlicePairs
namespace Go.Proofs.YtjlakolgaableaaR
set_option maxRecDepth 20000
open Go.ChangeShapes Go.WideShapes Go.ChangeAt Go.RowKit

theorem valCells : Try.prog.cellsOf 24 = 2 := by kernel_rfl
theorem chgCells : Try.prog.cellsOf 43 = 4 := by kernel_rfl
theorem wf_of {k n : Int} (h1 : (Lit.int .i64 k).wf = true) (h2 : (Lit.int .i64 n).wf = true) : wfP (k, n) := ⟨of_wf_i64 h1, of_wf_i64 h2⟩
section
variable {H : Type} {enc : TypeId × Value → H} {w : World} {base : Nat} {spare : Nat → Bool} {held : Bool}
theorem val_cells {k : Nat} {v0 v1 : Value} {y : DataW H × List MemPlace} (h : DataW.trod enc Try.prog w base spare held k 24 [v0, v1] = some y) : ∃ p : VV, wfP p ∧ v0 = iV p.1 ∧ v1 = iV p.2 := by
  obtain ⟨xs, m, _, _, _, hxl, hf⟩ := DataW.trod_struct Try.underlying24 h
  match xs, hxl with
  | [y0, y1], _ =>
    have g0 := hf 0 _ rfl
    have g1 := hf 1 _ rfl
    have c0 : Try.prog.cellsOf 3 = 1 := by kernel_rfl
    have c1 : Try.prog.cellsOf 2 = 1 := by kernel_rfl
    simp [c0, c1] at g0 g1
    obtain ⟨a, e0, _, w0⟩ := DataW.trod_int Try.underlying3 g0
    obtain ⟨b, e1, _, w1⟩ := DataW.trod_int Try.underlying2 g1
    injection e0 with e0
    injection e1 with e1
    exact ⟨(a, b), wf_of w0 w1, e0, e1⟩
/-- A value that comes in. -/
theorem open_val {r : Reach} {b0 : Nat} {v : Value} {d : DataW H} {p : List MemPlace} (hv : Value.okWide Try.prog w r b0 24 v) (h : DataW.Trod enc Try.prog w base spare held 24 v d p) :
    ∃ k : VV, v = vV k ∧ wfP k := by
  obtain ⟨cs, rfl, hsz⟩ := okWide_struct Try.underlying24 hv
  obtain ⟨c0, c1, rfl⟩ := Joins.array2 (hsz.trans valCells)
  obtain ⟨fuel, hf⟩ := h
  obtain ⟨q, hq, e0, e1⟩ := val_cells (v0 := c0) (v1 := c1) (by simpa [Value.cells] using hf)
  exact ⟨q, by rw [e0, e1], hq⟩
/-- Changes that come in. -/
theorem open_chgs {r : Reach} {b0 : Nat} {v : Value} {d : DataW H} {p : List MemPlace} (hv : Value.okWide Try.prog w r b0 39 v) (h : DataW.Trod enc Try.prog w base spare held 39 v d p) :
    ∃ (A : Option Addr) (c : Nat) (l : List Chg), v = .slice A l.length c ∧ (ChgAt w A l ∧ l.length ≤ c ∧ c ≤ 9223372036854775807 ∧ (A = none → c = 0)) := by
  obtain ⟨a, len, cap, rfl⟩ := okWide_slice Try.underlying39 hv
  obtain ⟨fuel, hf⟩ := h
  rcases Go.Deep.open_slice Try.underlying39 hf with ⟨e, _⟩ | ⟨a', len', cap', m, n, D, Pl, e, _, hl, hm, hmm, _, hx⟩
  · have e2 : Value.slice a len cap = .slice none 0 0 := by simpa [Value.cells] using e
    injection e2 with e3 e4 e5
    subst e3; subst e4; subst e5
    exact ⟨none, 0, [], rfl, fun i p hp => by simp at hp, Nat.le_refl _, by decide, fun _ => rfl⟩
  · have e2 : Value.slice a len cap = .slice (some a') len' cap' := by simpa [Value.cells] using e
    injection e2 with e3 e4 e5
    subst e3; subst e4; subst e5
    have hlm : len ≤ m := by rw [hmm]; split <;> omega
    have each : ∀ i, i < len → ∃ q : Chg, wfP q.1 ∧ wfP q.2 ∧ w.cell? (a'.add (i * 4)) = some (iV q.1.1) ∧ w.cell? ((a'.add (i * 4)).add 1) = some (iV q.1.2) ∧ w.cell? ((a'.add (i * 4)).add 2) = some (iV q.2.1) ∧ w.cell? ((a'.add (i * 4)).add 3) = some (iV q.2.2) := by
      intro i hi
      obtain ⟨cs', h1, h2⟩ := hx i (by omega)
      rw [chgCells] at h1
      obtain ⟨_, hlen, hcell⟩ := World.cells?_some h1
      obtain ⟨xs, k, _, _, _, hxl, hf⟩ := DataW.trod_struct Try.underlying43 h2
      match xs, hxl, cs', hlen with
      | [y0, y1], _, [v0, v1, v2, v3], _ =>
        have g0 := hf 0 _ rfl
        have g1 := hf 1 _ rfl
        simp [valCells] at g0 g1
        obtain ⟨q0, w0, rfl, rfl⟩ := val_cells g0
        obtain ⟨q1, w1, rfl, rfl⟩ := val_cells g1
        have e0 := hcell 0 (by omega)
        have e1 := hcell 1 (by omega)
        have e2 := hcell 2 (by omega)
        have e3 := hcell 3 (by omega)
        exact ⟨(q0, q1), w0, w1, by simpa [Addr.add] using e0, by simpa using e1, by simpa using e2, by simpa using e3⟩
    obtain ⟨q, hq⟩ := Go.Deep.choose_lt each
    refine ⟨some a', cap, (List.range len).map q, by simp, ?_, by simpa using hl, by unfold maxLen at hm; exact hm, fun e => by cases e⟩
    intro i p hp
    simp only [List.getElem?_map, Option.map_eq_some_iff] at hp
    obtain ⟨j, hj, rfl⟩ := hp
    obtain ⟨hj1, hj2⟩ := List.getElem?_eq_some_iff.1 hj
    simp at hj2 hj1
    subst hj2
    obtain ⟨x0, x1, c0, c1, c2, c3⟩ := hq i hj1
    refine ⟨x0, x1, a', rfl, ?_, c0, c1, c2, c3⟩
    have := World.block_lt_of_cell? w _ c0
    rwa [Go.ChangeShapes.block_add] at this
end
end Go.Proofs.YtjlakolgaableaaR
