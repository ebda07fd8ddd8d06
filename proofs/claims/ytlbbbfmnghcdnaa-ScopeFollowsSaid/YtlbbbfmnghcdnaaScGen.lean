/- Lists of trees: well formed, of statements, how many parts. -/
import Derived.Test.YtlbbbfmnghcdnaaScNestP
namespace Go.Proofs.Ytlbbbfmnghcdnaa
set_option maxRecDepth 20000
open Go.RowKit Go.Maps

theorem wf_list : ∀ l : List Tree, (∀ x ∈ l, wfT x) → wfT (treeL l)
  | [], _ => trivial
  | x :: r, h => ⟨h x (by simp), wf_list r fun y hy => h y (by simp [hy])⟩
theorem sts_list : ∀ l : List Tree, (∀ x ∈ l, isSt x = true) → stsB (treeL l) = true
  | [], _ => rfl
  | x :: r, h => by
    have hx := h x (by simp)
    have ih := sts_list r fun y hy => h y (by simp [hy])
    cases x <;> simp [isSt] at hx
    exact ih
theorem sz_append : ∀ a b : List Tree, szT (treeL (a ++ b)) = szT (treeL a) + szT (treeL b)
  | [], b => by simp [treeL, szT]
  | x :: r, b => by
    show szT x + szT (treeL (r ++ b)) + 1 = szT x + szT (treeL r) + 1 + szT (treeL b)
    rw [sz_append r b]; omega
end Go.Proofs.Ytlbbbfmnghcdnaa
