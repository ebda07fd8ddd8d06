/- A law's list cut; times. -/
import Derived.Test.YtkkdgacdajojiaaBase
import Derived.Test.YtkkdgacdajojiaaDiOpen
namespace Go.Proofs.Ytkkdgacdajojiaa
set_option maxRecDepth 20000
set_option maxRecDepth 20000
open Go.RowKit Go.Maps Go.Sort Go.BigFrame


def IntsAt (w : World) (A : Option Addr) (xs : List Int) : Prop :=
  ∀ (i : Nat) x, xs[i]? = some x → ∃ ad, A = some ad ∧ ad.block < w.heap.size ∧ w.cell? (ad.add i) = some (.int .i64 x)
theorem IntsAt.below {w w' : World} {A : Option Addr} {xs : List Int} (h : IntsAt w A xs) (hb : Below w.heap.size w w') : IntsAt w' A xs := by
  intro i x hx
  obtain ⟨ad, e, hl, hc⟩ := h i x hx
  exact ⟨ad, e, Nat.lt_of_lt_of_le hl hb.size, (hb.cell (by rw [Go.ChangeShapes.block_add]; exact hl)).trans hc⟩
theorem ints_of_own {w : World} {base : Nat} {v : Value} {xs : List Int} (h : w.ownsRow base 3 1 v xs.length (xs.map (Value.int .i64))) : ∃ A c, v = .slice A xs.length c ∧ IntsAt w A xs := by
  have h0 := h
  rcases h.2 with ⟨rfl, h1⟩ | ⟨g, cap, cur, rfl, _, hg, _⟩
  · have : xs = [] := List.length_eq_zero_iff.1 h1
    subst this
    exact ⟨none, 0, rfl, fun i x hx => by simp at hx⟩
  · refine ⟨some ⟨g, 0, none⟩, cap, rfl, fun i x hx => ⟨_, rfl, (Array.getElem?_eq_some_iff.1 hg).1, ?_⟩⟩
    exact h0.cells rfl i _ (by simp [hx])
/-- Refs, of a slice of values. -/
theorem refs_sl {w : World} {v : Value} {l : List VV} (h : SlV w v l) (hl : l.length ≤ 1073741824) : Calls Try.prog 42 #[v] w fun e w' => ∃ A c, e = .returned (.slice A (refsL l).length c) ∧ IntsAt w' A (refsL l) ∧ Below w.heap.size w w' := by
  obtain ⟨A, c, rfl, hp⟩ := h.pairs
  refine (Refs_any A c l w (by omega) hp).mono ?_
  rintro e w' ⟨v, rfl, ho, hb⟩
  obtain ⟨A1, c1, rfl, hi⟩ := ints_of_own ho
  exact ⟨A1, c1, rfl, hi, hb⟩
end Go.Proofs.Ytkkdgacdajojiaa
