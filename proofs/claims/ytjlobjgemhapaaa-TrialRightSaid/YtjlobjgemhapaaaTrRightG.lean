/- tallowlaw12.right, whatever graph comes in: a graph that may be read, like it, whose counts are made right. -/
import Derived.Test.YtjlobjgemhapaaaTrRightF
namespace Go.Proofs.Ytjlobjgemhapaaa.trRight
set_option maxRecDepth 20000
open Go.ChangeShapes Go.WideShapes Go.ChangeAt Go.RowKit Go.Maps Go.Sort

theorem right_any {A : Option Addr} {c : Nat} {g : List OB} {B : Option Addr} {d : Nat} {more : List (Int × Int)} (hA : A = none → c = 0) (hn : g.length ≤ 900) (hb1 : (g.map fun o => o.slots.length).sum ≤ 1048576) (hb2 : more.length ≤ 1048576) (hc : checkB g = true) {w : World} (hg : GAt w A g) (hB : PairsAt w B more) :
    Calls Try.prog 19 #[gV A g.length c, .slice B more.length d] w fun e w' => ∃ Ah ch h, e = .returned (gV Ah g.length ch) ∧ h.length = g.length ∧ GAt w' Ah h ∧ StO g (refsL more) g.length h ∧ (Ah = none → ch = 0) ∧ Below w.heap.size w w' := by
  by_cases hne : g = []
  · subst hne
    refine (right_none hb2 hA hB).mono ?_
    rintro e w' ⟨rfl, hb⟩
    refine ⟨none, 0, [], rfl, rfl, fun i o ho => by simp at ho, ⟨?_, fun i p _ hp => by simp at hp⟩, fun _ => rfl, hb⟩
    exact (StO.start [] (refsL more)).like
  · refine (right_some hn hb1 hb2 hc hne hg hB).mono ?_
    rintro e w' ⟨b, cap, h, rfl, h1, h2, h3, _, hb⟩
    exact ⟨_, cap, h, rfl, h1, h2.graph hb, h3, (fun e => by cases e), hb⟩
/-- .. and what follows for its counts. -/
theorem right_up {g h : List OB} {R : List Int} {n : Nat} (hc : checkB g = true) (hs : ∀ o ∈ g, o.slots.length ≤ 2000) (e : h.length = n) (H : StO g R n h) : checkB h = true ∧ (∀ o ∈ h, o.slots.length ≤ 2000) ∧ ∀ (i : Nat) p, h[i]? = some p → p.kind ≠ 0 → p.count = ((allRefs h).count ((i : Int) + 1) : Int) + (R.count ((i : Int) + 1) : Int) := by
  have hall : ∀ (i : Nat) p, h[i]? = some p → p.kind ≠ 0 → p.count = ((allRefs h).count ((i : Int) + 1) : Int) + (R.count ((i : Int) + 1) : Int) := fun i p hp hk => by
    rw [H.like.refs]
    exact H.done i p (by have := (List.getElem?_eq_some_iff.1 hp).1; omega) hp hk
  refine ⟨H.like.check hc fun i p hp hk => by rw [hall i p hp hk]; omega, fun o ho => ?_, hall⟩
  obtain ⟨i, hi⟩ := List.getElem?_of_mem ho
  obtain ⟨o', ho', -, e2, -⟩ := H.like.at hi
  rw [e2]
  exact hs o' (List.mem_of_getElem? ho')
end Go.Proofs.Ytjlobjgemhapaaa.trRight
