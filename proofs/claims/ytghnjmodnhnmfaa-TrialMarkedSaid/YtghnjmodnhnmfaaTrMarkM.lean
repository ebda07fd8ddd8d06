/- Plain words on who is gone and who is marked: gone ones' holders, order, marks. No walk. -/
import Derived.Test.YtghnjmodnhnmfaaTrWorks
import Derived.Test.YtghnjmodnhnmfaaGrExact
namespace Go.Proofs.Ytghnjmodnhnmfaa
set_option maxRecDepth 20000
open Go.RowKit Go.Maps Go.Sort Go.Shelf

theorem gone_has {g : List OB} (hn : g.length ≤ 900) {l : List Int} {n : Int} : n ∈ goneL g l ↔ n ∈ whitesL g l ∧ n ∉ keptL g l := by
  unfold goneL
  have hk : (keptL g l).length ≤ g.length := nums_short (kept_fol g hn l).1 fun x hx => looks_range (((whites_spec g l).2 x).1 (kept_white g hn l hx)).2
  rw [List.mem_filter, cnt_zero (by omega), decide_eq_true_iff]
theorem gone_rise (g : List OB) (l : List Int) : (goneL g l).Pairwise (· < ·) := (whites_spec g l).1.filter _
theorem gone_in {g : List OB} (hn : g.length ≤ 900) {l : List Int} {n : Int} (h : n ∈ goneL g l) : n ∈ l ∧ looksB g n = true := ((whites_spec g l).2 n).1 ((gone_has hn).1 h).1
theorem marks_has {g : List OB} {l : List Int} {n : Int} : n ∈ markS g (marksL g l) ↔ n ∈ whitesL g l ∧ 0 < markG g n := by
  unfold markS marksL
  rw [(List.mergeSort_perm _ _).mem_iff, List.mem_filter]
  simp
theorem marks_kept {g : List OB} (hn : g.length ≤ 900) {l : List Int} {n : Int} (h : n ∈ markS g (marksL g l)) : n ∈ keptL g l := by
  obtain ⟨h1, h2⟩ := marks_has.1 h
  refine ((kept_fol g hn l).2 n).2 (.root (List.mem_filter.2 ⟨h1, by simpa using h2⟩) ?_)
  have hl := whites_len g l
  rw [named_iff (by omega)]
  exact decide_eq_true h1
theorem gone_unmarked {g : List OB} (hn : g.length ≤ 900) {l : List Int} {n : Int} (h : n ∈ goneL g l) : n ∉ markS g (marksL g l) := fun h2 => ((gone_has hn).1 h).2 (marks_kept hn h2)
theorem marks_fall (g : List OB) (l : List Int) : (markS g (marksL g l)).Pairwise fun x y => markG g y ≤ markG g x := by
  have := List.pairwise_mergeSort (leM_trans g) (leM_total g) (marksL g l)
  refine this.imp fun h => ?_
  unfold leM at h
  simp only [decide_eq_true_eq] at h
  omega
theorem marks_len (g : List OB) (l : List Int) : (markS g (marksL g l)).length ≤ g.length := by
  unfold markS marksL
  rw [List.length_mergeSort]
  exact Nat.le_trans (List.length_filter_le _ _) (whites_len g l)
theorem gone_len (g : List OB) (l : List Int) : (goneL g l).length ≤ g.length := Nat.le_trans (List.length_filter_le _ _) (whites_len g l)
/-- Who holds one that is gone, and was told, is gone too, or a string. -/
theorem holder_gone {g : List OB} (hg : checkB g = true) (hn : g.length ≤ 900) {l : List Int} {n h : Int} (hgn : n ∈ goneL g l) (hh : h ∈ holdersL g n) (hl : h ∈ l) (hng : h ∉ goneL g l) :
    ∃ (k : Nat) (o : OB), h = (k : Int) + 1 ∧ g[k]? = some o ∧ ¬ 5 < o.kind := by
  unfold holdersL at hh
  rw [if_pos hg] at hh
  unfold intsOf whichL at hh
  rw [List.map_map] at hh
  obtain ⟨⟨o, k⟩, hm, rfl⟩ := List.mem_map.1 hh
  obtain ⟨h1, h2⟩ := List.mem_filter.1 hm
  have ho : g[k]? = some o := List.mem_zipIdx_iff_getElem?.1 h1
  simp only [Function.comp] at hl hng h2 ⊢
  have e : (((k + 1 : Nat) : Int)) = (k : Int) + 1 := by omega
  rw [e] at hl hng ⊢
  refine ⟨k, o, rfl, ho, fun h5 => hng ?_⟩
  have hw : (k : Int) + 1 ∈ whitesL g l := ((whites_spec g l).2 _).2 ⟨hl, by rw [looks_at ho]; exact decide_eq_true h5⟩
  refine (gone_has hn).2 ⟨hw, fun hk => ?_⟩
  obtain ⟨g1, g2⟩ := (gone_has hn).1 hgn
  refine g2 (((kept_fol g hn l).2 n).2 (.step (((kept_fol g hn l).2 _).1 hk) ?_ ?_))
  · rw [heldG_at ho, heldS_refs hg (List.mem_of_getElem? ho), List.mem_filter]
    refine ⟨?_, (((whites_spec g l).2 n).1 g1).2⟩
    unfold holdsB at h2
    obtain ⟨v, hv, hv2⟩ := List.any_eq_true.1 h2
    rw [Bool.and_eq_true, beq_iff_eq] at hv2
    unfold refsL
    exact List.mem_map.2 ⟨v, List.mem_filter.2 ⟨hv, hv2.1⟩, hv2.2⟩
  · have hl := whites_len g l
    rw [named_iff (by omega)]
    exact decide_eq_true g1
theorem holders_len (g : List OB) (n : Int) : (holdersL g n).length ≤ g.length := by
  unfold holdersL
  split
  · rw [intsOf_len]; exact which_len _ _
  · exact Nat.zero_le _
theorem holders_range {g : List OB} {n h : Int} (hh : h ∈ holdersL g n) : 1 ≤ h ∧ h ≤ g.length := by
  unfold holdersL at hh
  split at hh
  · unfold intsOf whichL at hh
    rw [List.map_map] at hh
    obtain ⟨⟨o, k⟩, hm, rfl⟩ := List.mem_map.1 hh
    have := (List.getElem?_eq_some_iff.1 (List.mem_zipIdx_iff_getElem?.1 (List.mem_filter.1 hm).1)).1
    simp only [Function.comp]
    omega
  · cases hh
end Go.Proofs.Ytghnjmodnhnmfaa
