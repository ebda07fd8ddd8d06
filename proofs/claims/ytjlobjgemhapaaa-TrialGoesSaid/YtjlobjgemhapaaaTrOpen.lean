/- A list of numbers that comes in, with what room it has. -/
import Derived.Test.YtjlobjgemhapaaaRcOpen
import Derived.Test.YtjlobjgemhapaaaOldV
namespace Go.Proofs.Ytjlobjgemhapaaa
set_option maxRecDepth 20000
open Go.ChangeShapes Go.WideShapes Go.ChangeAt Go.RowKit

section
variable {H : Type} {enc : TypeId × Value → H} {w : World} {base : Nat} {spare : Nat → Bool} {held : Bool}
theorem intCells : Try.prog.cellsOf 3 = 1 := by kernel_rfl
theorem intBytes : Try.prog.bytesOf 3 = 8 := by kernel_rfl
theorem ints_trod_c {fuel : Nat} {v : Value} {x : DataW H × List MemPlace} (h : DataW.trod enc Try.prog w base spare held fuel 25 [v] = some x) (hsz : ∀ n ∈ x.1.weights Try.prog 25, n ≤ reachBytes) :
    ∃ (A : Option Addr) (c : Nat) (l : List Int), v = .slice A l.length c ∧ l.length ≤ c ∧ IntsAt w A l ∧ l.length * 8 ≤ 140737488351232 ∧ ∀ p ∈ l, wf64 p := by
  rcases Go.Deep.open_slice Try.underlying25 h with ⟨e, _⟩ | ⟨a, len, cap, m, n, D, Pl, e, _, hl, hm, hmm, hx0, hx⟩
  · injection e with e
    subst e
    exact ⟨none, 0, [], rfl, Nat.le_refl _, fun i p hp => by simp at hp, by simp, by simp⟩
  · injection e with e
    subst e
    have hlm : len ≤ m := by rw [hmm]; split <;> omega
    have each : ∀ i, i < len → ∃ q : Int, wf64 q ∧ w.cell? (a.add i) = some (iV q) := by
      intro i hi
      obtain ⟨cs', h1, h2⟩ := hx i (by omega)
      rw [intCells] at h1
      obtain ⟨_, hlen, hcell⟩ := World.cells?_some h1
      match cs', hlen with
      | [v0], _ =>
        obtain ⟨p0, e0, _, w0⟩ := DataW.trod_int Try.underlying3 h2
        injection e0 with e0
        subst e0
        have k0 := hcell 0 (by omega)
        exact ⟨p0, of_wf_i64 w0, by simpa [Addr.add] using k0⟩
    obtain ⟨q, hq⟩ := Go.Deep.choose_lt each
    refine ⟨some a, cap, (List.range len).map q, by simp, by simpa using hl, ?_, ?_, ?_⟩
    · intro i p hp
      simp only [List.getElem?_map, Option.map_eq_some_iff] at hp
      obtain ⟨j, hj, rfl⟩ := hp
      obtain ⟨hj1, hj2⟩ := List.getElem?_eq_some_iff.1 hj
      simp at hj2 hj1
      subst hj2
      obtain ⟨_, k0⟩ := hq i hj1
      refine ⟨a, rfl, ?_, k0⟩
      have := World.block_lt_of_cell? w _ k0
      rwa [Go.ChangeShapes.block_add] at this
    · subst hx0
      have := hsz ((((List.range len).map D).length + ((List.range (m - len)).map fun j => D (len + j)).length) * Try.prog.bytesOf 3) (by simp [DataW.weights, Try.underlying25])
      rw [intBytes, reach_n] at this
      simp only [List.length_map, List.length_range] at this ⊢
      omega
    · intro p hp
      obtain ⟨j, hj, rfl⟩ := List.mem_map.1 hp
      exact (hq j (by simpa using hj)).1
theorem open_ints_c {r : Reach} {b0 : Nat} {v : Value} {d : DataW H} {p : List MemPlace} (hv : Value.okWide Try.prog w r b0 25 v) (h : DataW.Trod enc Try.prog w base spare held 25 v d p) (hsz : ∀ n ∈ d.weights Try.prog 25, n ≤ reachBytes) :
    ∃ (A : Option Addr) (c : Nat) (l : List Int), v = .slice A l.length c ∧ l.length ≤ c ∧ (IntsAt w A l ∧ ∀ x ∈ l, wf64 x) ∧ l.length * 8 ≤ 140737488351232 := by
  obtain ⟨a, len, cap, rfl⟩ := okWide_slice Try.underlying25 hv
  obtain ⟨fuel, hf⟩ := h
  obtain ⟨A, c, l, e, hk, hp, hl, hw⟩ := ints_trod_c (v := .slice a len cap) (by simpa [Value.cells] using hf) hsz
  exact ⟨A, c, l, e, hk, ⟨hp, hw⟩, hl⟩
end
theorem ints_take {w : World} {A : Option Addr} {l : List Int} (h : IntsAt w A l) (n : Nat) : IntsAt w A (l.take n) := fun i p hp => by
  have hi : i < (l.take n).length := (List.getElem?_eq_some_iff.1 hp).1
  rw [List.length_take] at hi
  rw [List.getElem?_take_of_lt (by omega)] at hp
  exact h i p hp
end Go.Proofs.Ytjlobjgemhapaaa
