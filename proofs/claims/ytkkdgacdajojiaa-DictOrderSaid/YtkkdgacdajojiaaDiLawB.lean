/- Appends and stores of the laws' own lists and cells. -/
import Derived.Test.YtkkdgacdajojiaaBase
import Derived.Test.YtkkdgacdajojiaaDiLawA
namespace Go.Proofs.Ytkkdgacdajojiaa
set_option maxRecDepth 20000
set_option maxRecDepth 20000
open Go.RowKit Go.Maps Go.Sort Go.BigFrame

theorem step_append_vals {ops : Array Oper} {o : Oper} {a : Act} {w : World} {K : Act → World → Prop} {Q : Exit → Act → World → Prop} {E : Prop} (hgd : o.guard = none) (s x : Operand)
    (ho : o.op = .call { callee := .builtin .append, args := #[s, x], argTypes := #[22, 22] }) (base : Nat) (v : Value) (L : List VV) (hs : a.eval s = v) (hown : OwnV w base v L)
    (ad : Addr) (m cx : Nat) (hx : a.eval x = .slice (some ad) m cx) (G : List VV) (hm : m = G.length) (hnew : ∀ j u, (cellsV G)[j]? = some u → w.cell? (ad.add j) = some u) (hwf : ∀ y ∈ G, wfP y) (hlen : L.length + G.length ≤ 1073741824) (hbase : base ≤ w.heap.size)
    (h : ∀ v' w', Hid (OwnV w' base v' (L ++ G)) → Hid (w.grownBy w' v.ownBlock) → K (a.put o.dst v') w') :
    if Region.wanted o (yielded ops a.tmps) = true then Oper.wp Try.prog o a w K Q else E := by
  have hw : Region.wanted o (yielded ops a.tmps) = true := by simp [Region.wanted, hgd]
  rw [if_pos hw]
  obtain ⟨i0, hi0, hz0, hz1, hz2⟩ := info_parts val_info
  refine wp_append_own _ s x 22 ho base 24 i0 _ 2 16 Try.underlying22 hi0 hz0 hz1 hz2 rfl (by decide) v L.length _ hs hown.1 ad m cx (cellsV G) hx (by rw [cellsV_len]; omega) hnew (fun u hu => cellsV_one G u hu) (by unfold maxLen; omega) (by omega) hbase ?_
  intro v' w' h1 h2 _
  refine h v' w' ⟨?_, fun y hy => ?_⟩ h2
  · rw [cellsV_append, List.length_append, ← hm]; exact h1
  · rcases List.mem_append.1 hy with hy | hy
    · exact hown.2 y hy
    · exact hwf y hy
/-- An own list, as long as its block stays. -/
theorem OwnV.keep {w w' : World} {base : Nat} {v : Value} {l : List VV} (h : OwnV w base v l) (hk : ∀ g, v.ownBlock = some g → w'.heap[g]? = w.heap[g]?) : OwnV w' base v l := by
  obtain ⟨⟨h1, h2⟩, h3⟩ := h
  refine ⟨⟨h1, ?_⟩, h3⟩
  rcases h2 with h2 | ⟨g, cap, cur, rfl, hb, hg, hr⟩
  · exact .inl h2
  · exact .inr ⟨g, cap, cur, rfl, hb, (hk g rfl).trans hg, hr⟩
theorem set_two {w : World} {g : Nat} {p q x y : Value} {T : TypeId} (h : w.heap[g]? = some (.cells #[p, q] T (0, 0))) :
    ((w.setCell ⟨g, 0, none⟩ x).setCell ⟨g, 1, none⟩ y).heap[g]? = some (.cells #[x, y] T (0, 0)) ∧ (∀ i, i ≠ g → ((w.setCell ⟨g, 0, none⟩ x).setCell ⟨g, 1, none⟩ y).heap[i]? = w.heap[i]?) := by
  have e1 : (w.setCell ⟨g, 0, none⟩ x).heap[g]? = some (.cells #[x, q] T (0, 0)) := by
    rw [setCell_eq_setRow w g 0 #[p, q] T (0, 0) x h, setRow_heap w g _ _ _ _ h]; rfl
  refine ⟨?_, fun i hi => heap_set2 w x y hi⟩
  rw [setCell_eq_setRow _ g 1 #[x, q] T (0, 0) y e1, setRow_heap _ g _ _ _ _ e1]; rfl
end Go.Proofs.Ytkkdgacdajojiaa
