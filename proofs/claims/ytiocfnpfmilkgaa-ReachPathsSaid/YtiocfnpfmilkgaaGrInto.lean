/- graph.Into. -/
import Derived.Test.YtiocfnpfmilkgaaBase
import Derived.Test.YtiocfnpfmilkgaaGrCount
import Derived.Laws.MakeOwn
import Derived.Laws.Tables
namespace Go.Proofs.Ytiocfnpfmilkgaa
set_option maxRecDepth 20000
set_option maxRecDepth 20000
open Go.RowKit Go.Maps

/-- Numbers, in memory that was there or that the call made. -/
def GivesI (l : List Int) (w : World) (e : Ending) (w' : World) : Prop := ∃ A c, e = .returned (.slice A l.length c) ∧ IntsAt w' A l ∧ Below w.heap.size w w'
theorem GivesI.of {l : List Int} {w w' : World} {e : Ending} (h : GivesInts l w e w') : GivesI l w e w' := by
  obtain ⟨v, rfl, ho, hb⟩ := h
  obtain ⟨A, c, rfl, hi⟩ := ints_of_own ho
  exact ⟨A, c, rfl, hi, hb⟩
/-- A row of n numbers, of which the first are l. -/
structure RowI (w : World) (b n : Nat) (l : List Int) : Prop where
  cur : ∃ cs : Array Value, w.heap[b]? = some (.cells cs 3 (0, 0)) ∧ cs.size = n ∧ ∀ (i : Nat) x, l[i]? = some x → cs[i]? = some (.int .i64 x)
  le : l.length ≤ n
theorem RowI.keep {w w' : World} {b n : Nat} {l : List Int} (h : RowI w b n l) (hb : w'.heap[b]? = w.heap[b]?) : RowI w' b n l := by
  obtain ⟨⟨cs, h1, h2⟩, h3⟩ := h
  exact ⟨⟨cs, hb.trans h1, h2⟩, h3⟩
theorem RowI.made (w : World) (n : Nat) (z : Array Value) : RowI (w.alloc (.cells (madeCells z n) 3 (0, 0))) w.heap.size n [] := ⟨⟨_, (Go.MapKept.heap_alloc w _).1, size_madeCells _ _, fun i x h => by simp at h⟩, by simp⟩
theorem RowI.lt {w : World} {b n : Nat} {l : List Int} (h : RowI w b n l) : b < w.heap.size := by
  obtain ⟨⟨cs, h1, h2⟩, h3⟩ := h
  exact (Array.getElem?_eq_some_iff.1 h1).1
theorem RowI.cell {w : World} {b n : Nat} {l : List Int} (h : RowI w b n l) {k : Nat} (hk : k < n) : (∃ v, w.cell? ⟨b, k, none⟩ = some v) ∧ w.frozen? ⟨b, k, none⟩ = false := by
  obtain ⟨⟨cs, h1, h2, h4⟩, h3⟩ := h
  subst h2
  exact ⟨⟨cs[k], by simp [World.cell?, h1, hk]⟩, by simp [World.frozen?, h1]⟩
theorem RowI.set {w : World} {b n : Nat} {l : List Int} (h : RowI w b n l) (hk : l.length < n) (x : Int) {k : Nat} (e : k = l.length) : RowI (w.setCell ⟨b, k, none⟩ (.int .i64 x)) b n (l ++ [x]) ∧ w.grownBy (w.setCell ⟨b, k, none⟩ (.int .i64 x)) (some b) := by
  obtain ⟨⟨cs, h1, h2, h4⟩, h3⟩ := h
  subst e
  rw [setCell_eq_setRow w b l.length cs _ _ _ h1]
  refine ⟨⟨⟨_, setRow_heap w b _ _ _ _ h1, by simpa using h2, fun i y hy => ?_⟩, by simp; omega⟩, ⟨rfl, rfl, rfl, by simp [World.setRow], fun i _ hne => setRow_other w b i _ (fun e => hne (by rw [e]))⟩⟩
  by_cases hi : i < l.length
  · rw [List.getElem?_append_left hi] at hy
    rw [Array.getElem?_setIfInBounds_ne (by omega)]
    exact h4 i y hy
  · have hl := (List.getElem?_eq_some_iff.1 hy).1
    simp at hl
    have : i = l.length := by omega
    subst this
    rw [List.getElem?_append_right (Nat.le_refl _)] at hy
    simp at hy
    subst hy
    rw [Array.getElem?_setIfInBounds_self_of_lt (by omega)]
theorem RowI.ints {w : World} {b n : Nat} {l : List Int} (h : RowI w b n l) : IntsAt w (some ⟨b, 0, none⟩) l := by
  intro i x hx
  have hl := h.lt
  obtain ⟨⟨cs, h1, h2, h4⟩, h3⟩ := h
  have e : (⟨b, 0, none⟩ : Addr).add i = ⟨b, i, none⟩ := by unfold Addr.add; split <;> simp_all
  exact ⟨_, rfl, hl, by rw [e]; simp [World.cell?, h1, h4 i x hx]⟩

def intoL (g : List OB) : List Int := if checkB g then (List.range g.length).map (fun (i : Nat) => cntF (allRefs g) ((i : Int) + 1)) else []
theorem run_make_ints (n : Nat) (hn : n ≤ 35184372088832) (w : World) : (Instr.makeSlice 44 (.int .i64 (n : Int)) (.int .i64 (n : Int))).run Try.prog w = .ok (.slice (some ⟨w.heap.size, 0, none⟩) n n) (w.alloc (.cells (madeCells #[.int .i64 0] n) 3 (0, 0))) := by
  obtain ⟨i0, hi, hz0, hz1, hz2⟩ := info_parts int_info
  have := run_make (P := Try.prog) w 44 3 i0 _ Try.underlying44 hi hz0 .i64 .i64 (n : Int) (n : Int) (by omega) (by omega) (by rw [hz2]; omega) (by omega)
  rw [hz1] at this
  simpa [Value.cells] using this
end Go.Proofs.Ytiocfnpfmilkgaa
