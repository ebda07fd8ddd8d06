/- The chain's trees may be resolved: lists are of what they should be, texts are short, there are few of them. -/
import Derived.Test.YtlbbbfmnghcdnaaScGen
import Derived.Test.YtlbbbfmnghcdnaaScLetter
namespace Go.Proofs.Ytlbbbfmnghcdnaa
set_option maxRecDepth 20000
open Go.RowKit Go.Maps

theorem isSt_lv (c : Nat → Nat) (d : Nat) : ∀ t, ∀ x ∈ lvC c d t, isSt x = true
  | 0, x, h => by
    rw [lvC, List.mem_append] at h
    rcases h with h | h
    · exact isSt_locs _ _ x h
    · exact isSt_uses _ _ _ x h
  | t + 1, x, h => by
    rw [lvC, List.mem_append] at h
    rcases h with h | h
    · exact isSt_locs _ _ x h
    · simp at h; subst h; rfl
theorem wf_locs (n : Nat) : ∀ k, ∀ x ∈ locsC n k, wfT x
  | 0, x, h => by simp [locsC] at h
  | k + 1, x, h => by
    rw [locsC, List.mem_append] at h
    rcases h with h | h
    · exact wf_locs n k x h
    · simp at h; subst h
      simp [locT, wfT, stsB, letB]
theorem wf_uses (c : Nat → Nat) (d : Nat) : ∀ k, ∀ x ∈ usesC c d k, wfT x
  | 0, x, h => by simp [usesC] at h
  | k + 1, x, h => by
    rw [usesC, List.mem_append] at h
    rcases h with h | h
    · exact wf_uses c d k x h
    · simp at h; subst h
      simp [backT, nmT, wfT, stsB, exsB, textC, letB]
theorem wf_lv (c : Nat → Nat) (d : Nat) : ∀ t, ∀ x ∈ lvC c d t, wfT x
  | 0, x, h => by
    rw [lvC, List.mem_append] at h
    rcases h with h | h
    · exact wf_locs _ _ x h
    · exact wf_uses _ _ _ x h
  | t + 1, x, h => by
    rw [lvC, List.mem_append] at h
    rcases h with h | h
    · exact wf_locs _ _ x h
    · simp at h; subst h
      have a := wf_list _ (wf_lv c d t)
      have b := sts_list _ (isSt_lv c d t)
      simp [backT, funT, wfT, stsB, exsB, treeL, a, b]
theorem sz_locs (n : Nat) : ∀ k, szT (treeL (locsC n k)) = 2 * k
  | 0 => rfl
  | k + 1 => by
    rw [locsC, sz_append, sz_locs n k]
    show 2 * k + 2 = _
    omega
theorem sz_uses (c : Nat → Nat) (d : Nat) : ∀ k, szT (treeL (usesC c d k)) = 3 * k
  | 0 => rfl
  | k + 1 => by
    rw [usesC, sz_append, sz_uses c d k]
    show 3 * k + 3 = _
    omega
theorem sz_lv {c : Nat → Nat} {d : Nat} (hc : ∀ n, c n ≤ 4) : ∀ t, szT (treeL (lvC c d t)) ≤ 8 + 12 * d + 20 * t
  | 0 => by
    have := posC_small hc d
    have := hc (d - 1)
    rw [lvC, sz_append, sz_locs, sz_uses]; omega
  | t + 1 => by
    have ih := sz_lv (d := d) hc t
    have := hc (d - 2 - t)
    have e : szT (treeL [backT (funT [] (lvC c d t))]) = szT (treeL (lvC c d t)) + 3 := by
      simp only [treeL, backT, funT, szT, List.map_nil]; omega
    rw [lvC, sz_append, sz_locs, e]; omega
theorem resolve_chain {c : Nat → Nat} {d : Nat} (hc : ∀ n, c n ≤ 4) (hd : d ≤ 6) (h0 : 0 < d) (w : World) {v : Value} (h : SlB w (treeL (lvC c d (d - 1))) v) : Calls Try.prog 9 #[v] w fun e w' => Below w.heap.size w w' ∧
    ∃ v, e = .returned (.tuple #[v, .nilIface]) ∧ ScsAt w' v ((List.range d).map (fnC c d (posC c d) (posC c d))) := by
  obtain ⟨p, hr⟩ := chain_res hc hd h0
  have C := Resolve_any w _ v h (wf_list _ (wf_lv c d _)) (sts_list _ (isSt_lv c d _)) (Nat.le_trans (sz_lv hc _) (by omega)) (by rw [hr]; intro e; cases e)
  rw [hr] at C
  exact C
end Go.Proofs.Ytlbbbfmnghcdnaa
