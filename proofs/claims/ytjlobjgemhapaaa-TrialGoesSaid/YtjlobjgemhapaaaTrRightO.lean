/- TrialRight, plain: white is what was seen and is lost. -/
import Derived.Test.YtjlobjgemhapaaaTrRightN
import Derived.Test.YtjlobjgemhapaaaRcLawP
namespace Go.Proofs.Ytjlobjgemhapaaa
set_option maxRecDepth 20000

theorem white_lost {g : List OB} (hg : checkB g = true) (hn : g.length ≤ 900) {R : List Int} (hc : ∀ (i : Nat) p, g[i]? = some p → p.kind ≠ 0 → p.count = ((allRefs g).count ((i : Int) + 1) : Int) + (R.count ((i : Int) + 1) : Int)) {l : List Int}
    (hT : ((seenL g l).flatMap (heldG g)).length ≤ 4194304) (k : Nat) :
    (k : Int) + 1 ∈ whiteL g l ↔ (k : Int) + 1 ∈ seenL g l ∧ (k : Int) + 1 ∈ intsOf (fromL g (rootsV g (seenL g l) R g.length) false) := by
  rw [white_right hg hn hc hT (rootsV_objs hg hn)]
  refine and_congr_right fun h => ?_
  obtain ⟨j, o, e, ho, h5⟩ := looks_iff.1 (seen_ok h).2
  obtain rfl : k = j := by omega
  have := from_dec hg (rootsV g (seenL g l) R g.length) false ho
  rw [← decide_eq_true_iff (p := (k : Int) + 1 ∈ _), this, show (o.kind != 0) = true by simpa using (show o.kind ≠ 0 by omega)]
  simp
theorem white_le {g : List OB} {l : List Int} {x : Int} (hn : g.length ≤ 900) (h : x ∈ whiteL g l) : 1 ≤ x ∧ x < (g.length : Int) + 1 := by
  have := looks_range (seen_ok ((white_mem hn).1 h).1).2
  omega
theorem white_len (g : List OB) (l : List Int) : (whiteL g l).length ≤ g.length := by
  unfold whiteL whiteU
  rw [(sortI_perm _).length_eq]
  exact Nat.le_trans (List.length_filter_le _ _) (seen_len g l)
theorem seen_total {g : List OB} (hs : ∀ o ∈ g, o.slots.length ≤ 2000) (hn : g.length ≤ 900) (l : List Int) : ((seenL g l).flatMap (heldG g)).length ≤ 4194304 := by
  have one : ∀ n, (heldG g n).length ≤ 2000 := fun n => by
    unfold heldG
    split
    · rename_i o ho
      have := hs o (List.mem_of_getElem? ho)
      unfold heldS
      rw [List.length_map]
      exact Nat.le_trans (List.length_filter_le _ _) this
    · exact Nat.zero_le _
  have key : ∀ S : List Int, (S.flatMap (heldG g)).length ≤ S.length * 2000 := by
    intro S
    induction S with
    | nil => simp
    | cons x r ih =>
      have := one x
      rw [List.flatMap_cons, List.length_append, List.length_cons, Nat.succ_mul]
      omega
  have h1 := key (seenL g l)
  have h2 := seen_len g l
  omega
end Go.Proofs.Ytjlobjgemhapaaa
