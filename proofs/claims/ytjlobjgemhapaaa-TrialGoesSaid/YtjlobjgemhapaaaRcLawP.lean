/- Plain words on From and Lost: who is in them (the first part of RcLawM, for laws that want no more). No walk. -/
import Derived.Test.YtjlobjgemhapaaaOldS
namespace Go.Proofs.Ytjlobjgemhapaaa
set_option maxRecDepth 20000

theorem which_rise (p : Nat → OB → Bool) (g : List OB) : (whichL p g).Pairwise (· < ·) := by
  unfold whichL
  rw [List.pairwise_map]
  refine List.Pairwise.filter _ (List.pairwise_iff_getElem.2 fun i j hi hj hij => ?_)
  rw [List.getElem_zipIdx, List.getElem_zipIdx]
  simp only
  omega
theorem which_mem {p : Nat → OB → Bool} {g : List OB} {m : Nat} : m ∈ whichL p g ↔ ∃ k o, m = k + 1 ∧ g[k]? = some o ∧ p m o = true := by
  unfold whichL
  rw [List.mem_map]
  constructor
  · rintro ⟨⟨o, k⟩, h, rfl⟩
    obtain ⟨h1, h2⟩ := List.mem_filter.1 h
    exact ⟨k, o, rfl, List.mem_zipIdx_iff_getElem?.1 h1, h2⟩
  · rintro ⟨k, o, rfl, h1, h2⟩
    exact ⟨(o, k), List.mem_filter.2 ⟨List.mem_zipIdx_iff_getElem?.2 h1, h2⟩, rfl⟩
theorem which_has {p : Nat → OB → Bool} {g : List OB} {k : Nat} {o : OB} (h : g[k]? = some o) : k + 1 ∈ whichL p g ↔ p (k + 1) o = true := by
  rw [which_mem]
  constructor
  · rintro ⟨j, o', e, h1, h2⟩
    obtain rfl : k = j := by omega
    rw [h] at h1; injection h1 with h1; subst h1; exact h2
  · intro h2; exact ⟨k, o, rfl, h, h2⟩
theorem ints_mem {l : List Nat} {m : Int} : m ∈ intsOf l ↔ ∃ n : Nat, m = n ∧ n ∈ l := by
  unfold intsOf
  rw [List.mem_map]
  constructor
  · rintro ⟨n, h, rfl⟩; exact ⟨n, rfl, h⟩
  · rintro ⟨n, rfl, h⟩; exact ⟨n, h, rfl⟩
theorem ints_has {l : List Nat} {n : Nat} : (n : Int) ∈ intsOf l ↔ n ∈ l := by
  rw [ints_mem]
  constructor
  · rintro ⟨m, e, h⟩; obtain rfl : n = m := by omega
    exact h
  · intro h; exact ⟨n, rfl, h⟩
theorem ints_rise {l : List Nat} (h : l.Pairwise (· < ·)) : (intsOf l).Pairwise (· < ·) := by
  unfold intsOf
  rw [List.pairwise_map]
  exact h.imp (fun h => by omega)
theorem from_rise (g : List OB) (l : List (Int × Int)) (can : Bool) : (intsOf (fromL g l can)).Pairwise (· < ·) := by
  refine ints_rise ?_
  unfold fromL; split
  · exact which_rise _ _
  · exact List.Pairwise.nil
theorem from_len (g : List OB) (l : List (Int × Int)) (can : Bool) : (intsOf (fromL g l can)).length ≤ g.length := by
  rw [intsOf_len]
  unfold fromL; split
  · exact which_len _ _
  · exact Nat.zero_le _
theorem from_has {g : List OB} (hc : checkB g = true) {l : List (Int × Int)} {can : Bool} {m : Nat} : m ∈ fromL g l can ↔ thereN g m = true ∧ reachB g (objsN g l) m = can := by
  unfold fromL
  rw [hc, if_pos rfl, which_mem]
  constructor
  · rintro ⟨k, o, rfl, h1, h2⟩
    rw [there_succ, h1]
    simpa using h2
  · rintro ⟨h1, h2⟩
    obtain ⟨k, rfl⟩ : ∃ k, m = k + 1 := ⟨m - 1, by have := (there_le h1).1; omega⟩
    rw [there_succ] at h1
    cases ho : g[k]? with
    | none => rw [ho] at h1; cases h1
    | some o => rw [ho] at h1; exact ⟨k, o, rfl, ho, by simp only at h1; rw [h1, h2]; simp⟩
theorem from_dec {g : List OB} (hc : checkB g = true) (l : List (Int × Int)) (can : Bool) {k : Nat} {o : OB} (h : g[k]? = some o) : decide ((k : Int) + 1 ∈ intsOf (fromL g l can)) = (o.kind != 0 && (reachB g (objsN g l) (k + 1) == can)) := by
  rw [Bool.eq_iff_iff, decide_eq_true_iff, show (k : Int) + 1 = ((k + 1 : Nat) : Int) by omega, ints_has, from_has hc, there_succ, h, Bool.and_eq_true, beq_iff_eq]
end Go.Proofs.Ytjlobjgemhapaaa
