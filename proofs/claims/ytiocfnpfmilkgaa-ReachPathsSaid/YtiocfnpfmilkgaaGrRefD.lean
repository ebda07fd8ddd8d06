/- The document's own: Exact, Holders. -/
import Derived.Test.YtiocfnpfmilkgaaBase
import Derived.Test.YtiocfnpfmilkgaaGrRefC
namespace Go.Proofs.Ytiocfnpfmilkgaa
set_option maxRecDepth 20000
set_option maxRecDepth 20000
open Go.RowKit Go.Maps

theorem cnt_more (L M : List Int) (x : Int) : wrap64 (cntF L x + (M.count x : Nat)) = cntF (L ++ M) x := by
  unfold cntF
  rw [List.count_append, w64_add]
  simp
theorem holds_count (n : Int) (o : OB) : holdsB n o = decide (0 < (refsL o.slots).count n) := by
  rw [Bool.eq_iff_iff, decide_eq_true_iff, List.count_pos_iff]
  unfold holdsB refsL
  rw [List.any_eq_true, List.mem_map]
  constructor
  · rintro ⟨v, hv, h⟩
    rw [Bool.and_eq_true, beq_iff_eq] at h
    exact ⟨v, List.mem_filter.2 ⟨hv, h.1⟩, h.2⟩
  · rintro ⟨v, hv, rfl⟩
    obtain ⟨h1, h2⟩ := List.mem_filter.1 hv
    exact ⟨v, h1, by rw [Bool.and_eq_true]; exact ⟨h2, by simp⟩⟩
end Go.Proofs.Ytiocfnpfmilkgaa
