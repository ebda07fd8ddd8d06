/- graph.count: how often each number stands in slots, and in more. -/
import Derived.Test.YtiocfnpfmilkgaaBase
import Derived.Test.YtiocfnpfmilkgaaGrWhich
namespace Go.Proofs.Ytiocfnpfmilkgaa
set_option maxRecDepth 20000
set_option maxRecDepth 20000
open Go.RowKit Go.Maps

theorem refs_values {A : Option Addr} {c : Nat} {l : List (Int × Int)} {w : World} (hl : l.length * 16 ≤ 140737488355328) (h : PairsAt w A l) :
    Calls Try.prog 39 #[.slice A l.length c] w fun e w' => ∃ A' c', e = .returned (.slice A' (refsL l).length c') ∧ (∀ (i : Nat) x, (refsL l)[i]? = some x → ∃ ad, A' = some ad ∧ w.heap.size ≤ ad.block ∧ ad.block < w'.heap.size ∧ w'.cell? (ad.add i) = some (.int .i64 x)) ∧ Below w.heap.size w w' := by
  refine (Refs_any A c l w hl h).mono ?_
  rintro e w' ⟨v, rfl, ho, hb⟩
  have h0 := ho
  rcases ho.2 with ⟨rfl, h1⟩ | ⟨g, cap, cur, rfl, hg1, hg, _⟩
  · refine ⟨none, 0, by rw [h1], fun i x hx => ?_, hb⟩
    rw [List.length_eq_zero_iff.1 h1] at hx; simp at hx
  · refine ⟨some ⟨g, 0, none⟩, cap, rfl, fun i x hx => ⟨_, rfl, hg1, (Array.getElem?_eq_some_iff.1 hg).1, h0.cells rfl i _ (by simp [hx])⟩, hb⟩
theorem grown_trans {a b c : World} {r : Option Nat} (h : a.grownBy b r) (k : b.grownBy c r) : a.grownBy c r :=
  ⟨k.os.trans h.os, k.tape.trans h.tape, k.output.trans h.output, Nat.le_trans h.size k.size, fun i hi hne => (k.block i (Nat.lt_of_lt_of_le hi h.size) hne).trans (h.block i hi hne)⟩
theorem grown_below {a b : World} {r : Option Nat} (h : Below a.heap.size a b) : a.grownBy b r := ⟨h.os, h.tape, h.output, h.size, fun k hk _ => h.block k hk⟩
end Go.Proofs.Ytiocfnpfmilkgaa
