/- What the law's walk reads of the chain's scopes, cell by cell. -/
import Derived.Test.YtlbbbfmnghcdnaaScChainB
namespace Go.Proofs.Ytlbbbfmnghcdnaa
set_option maxRecDepth 20000
open Go.RowKit Go.Maps

structure FnCells (w : World) (b : Nat) (c : Nat → Nat) (d n : Nat) : Prop where
  us : n + 1 = d → ∃ U cu, w.cell? ⟨b, n * 3, none⟩ = some (.slice U (posC c d) cu) ∧ ∀ i, i < posC c d → ∃ g, U = some ⟨g, 0, none⟩ ∧ w.cell? ⟨g, i * 3, none⟩ = some (iV (useE c d i).at_) ∧ w.cell? ⟨g, i * 3 + 1, none⟩ = some (iV (useE c d i).index) ∧ w.cell? ⟨g, i * 3 + 2, none⟩ = some (.bool false)
  ds : ∃ D cd, w.cell? ⟨b, n * 3 + 1, none⟩ = some (.slice D (c n) cd) ∧ ∀ k, k < c n → ∃ g, D = some ⟨g, 0, none⟩ ∧ w.cell? ⟨g, k * 2, none⟩ = some (iV k) ∧ w.cell? ⟨g, k * 2 + 1, none⟩ = some (.bool (decide (n + 1 < d)))
  ps : ∃ P cp, w.cell? ⟨b, n * 3 + 2, none⟩ = some (.slice P (posC c n) cp) ∧ ∀ i, i < posC c n → ∃ g, P = some ⟨g, 0, none⟩ ∧ w.cell? ⟨g, i * 2, none⟩ = some (.bool (upE c d n i).loc) ∧ w.cell? ⟨g, i * 2 + 1, none⟩ = some (iV (upE c d n i).index)
theorem chain_cells {w : World} {v : Value} {c : Nat → Nat} {d : Nat} (h0 : 0 < d) (h : ScsAt w v ((List.range d).map (fnC c d (posC c d) (posC c d)))) :
    ∃ b cc, v = .slice (some ⟨b, 0, none⟩) d cc ∧ ∀ n, n < d → FnCells w b c d n := by
  obtain ⟨ts, hl, ⟨A, cc, rfl, hr⟩, hel⟩ := h
  rw [List.length_map, List.length_range] at hl
  rw [List.length_map, List.length_range]
  have tl : ∀ n, n < d → ∃ u x p, ts[n]? = some (u, x, p) := fun n hn => ⟨_, _, _, List.getElem?_eq_getElem (by omega)⟩
  have trl : ∀ t, (tripV t).length = 3 := fun t => rfl
  obtain ⟨b, rfl⟩ : ∃ b, A = some ⟨b, 0, none⟩ := by
    obtain ⟨u, x, p, ht⟩ := tl 0 h0
    obtain ⟨b, hb, _⟩ := hr (0 * 3 + 0) u ((flat_get (f := tripV) (m := 3) trl ts 0 0 _ ht (by decide)).trans rfl)
    exact ⟨b, hb⟩
  have cell : ∀ n k t x, ts[n]? = some t → k < 3 → (tripV t)[k]? = some x → w.cell? ⟨b, n * 3 + k, none⟩ = some x := fun n k t x ht hk hx => by
    obtain ⟨b', e, hc⟩ := hr (n * 3 + k) x ((flat_get (f := tripV) (m := 3) trl ts n k _ ht hk).trans hx)
    cases e; exact hc
  refine ⟨b, cc, rfl, fun n hn => ?_⟩
  obtain ⟨u, x, p, ht⟩ := tl n hn
  have E := hel n _ (fnC c d (posC c d) (posC c d) n) ht (by simp [hn])
  have hpos := posC_le c (show n ≤ d by omega)
  have hpos1 : n + 1 ≤ d → posC c n + c n ≤ posC c d := fun h => posC_le c h
  refine ⟨fun hnd => ?_, ?_, ?_⟩
  · obtain ⟨U, cu, hU, hu⟩ := E.u
    have hlu : (fnC c d (posC c d) (posC c d) n).uses = (List.range (posC c d)).map (useE c d) := by simp [fnC, hnd]
    change u = _ at hU
    rw [hlu] at hU
    rw [List.length_map, List.length_range] at hU
    subst hU
    refine ⟨U, cu, cell n 0 _ _ ht (by decide) rfl, fun i hi => ?_⟩
    have hx : ((fnC c d (posC c d) (posC c d) n).uses)[i]? = some (useE c d i) := by rw [hlu]; simp [hi]
    have hbx : boxedOf (fnC c d (posC c d) (posC c d) n).locals (useE c d i).own = false := by
      have hnlt : ¬ n + 1 < d := by omega
      unfold boxedOf useE
      split
      · rename_i k hk
        by_cases hk2 : k < c n
        · rw [loc_get hk2, locC]; simp [hnlt]
        · rw [List.getD_eq_getElem?_getD, List.getElem?_eq_none (by simp [fnC]; omega)]; rfl
      · rfl
    have U0 := hu (i * 3 + 0) _ ((flat_get (f := useR _) (m := 3) (fun _ => rfl) _ i 0 _ hx (by decide)).trans rfl)
    have U1 := hu (i * 3 + 1) _ ((flat_get (f := useR _) (m := 3) (fun _ => rfl) _ i 1 _ hx (by decide)).trans rfl)
    have U2 := hu (i * 3 + 2) (.bool false) ((flat_get (f := useR _) (m := 3) (fun _ => rfl) _ i 2 _ hx (by decide)).trans (by rw [useR, hbx]; rfl))
    obtain ⟨g, rfl, u0⟩ := U0
    obtain ⟨g1, e1, u1⟩ := U1
    cases e1
    obtain ⟨g2, e2, u2⟩ := U2
    cases e2
    exact ⟨g, rfl, u0, u1, u2⟩
  · obtain ⟨D, cd, hD, hd⟩ := E.d
    have hll : (fnC c d (posC c d) (posC c d) n).locals = (List.range (c n)).map (locC c d (posC c d) n) := rfl
    change x = _ at hD
    rw [hll, List.length_map, List.length_range] at hD
    subst hD
    refine ⟨D, cd, cell n 1 _ _ ht (by decide) rfl, fun k hk => ?_⟩
    have hx : ((fnC c d (posC c d) (posC c d) n).locals)[k]? = some (locC c d (posC c d) n k) := by rw [hll]; simp [hk]
    have hbx : (locC c d (posC c d) n k).boxed = decide (n + 1 < d) := by
      simp only [locC, decide_eq_decide]
      constructor
      · exact fun h => h.1
      · intro h; exact ⟨h, by have := hpos1 (by omega); omega⟩
    have D0 := hd (k * 2 + 0) _ ((flat_get (f := declR) (m := 2) (fun _ => rfl) _ k 0 _ hx (by decide)).trans rfl)
    have D1 := hd (k * 2 + 1) _ ((flat_get (f := declR) (m := 2) (fun _ => rfl) _ k 1 _ hx (by decide)).trans rfl)
    rw [hbx] at D1
    obtain ⟨g, rfl, d0⟩ := D0
    obtain ⟨g1, e1, d1⟩ := D1
    cases e1
    exact ⟨g, rfl, d0, d1⟩
  · obtain ⟨P, cp, hP, hp⟩ := E.p
    have hlp : (fnC c d (posC c d) (posC c d) n).ups = (List.range (posC c n)).map (upE c d n) := by
      show (List.range (min (posC c d) (posC c n))).map _ = _
      rw [Nat.min_eq_right hpos]
    change p = _ at hP
    rw [hlp, List.length_map, List.length_range] at hP
    subst hP
    refine ⟨P, cp, cell n 2 _ _ ht (by decide) rfl, fun i hi => ?_⟩
    have hx : ((fnC c d (posC c d) (posC c d) n).ups)[i]? = some (upE c d n i) := by rw [hlp]; simp [hi]
    have P0 := hp (i * 2 + 0) _ ((flat_get (f := upC) (m := 2) (fun _ => rfl) _ i 0 _ hx (by decide)).trans rfl)
    have P1 := hp (i * 2 + 1) _ ((flat_get (f := upC) (m := 2) (fun _ => rfl) _ i 1 _ hx (by decide)).trans rfl)
    obtain ⟨g, rfl, p0⟩ := P0
    obtain ⟨g1, e1, p1⟩ := P1
    cases e1
    exact ⟨g, rfl, p0, p1⟩
theorem FnCells.below {w w' : World} {b : Nat} {c : Nat → Nat} {d n : Nat} (h : FnCells w b c d n) (hb : Below w.heap.size w w') : FnCells w' b c d n := by
  refine ⟨fun e => ?_, ?_, ?_⟩
  · obtain ⟨U, cu, h1, h2⟩ := h.us e
    exact ⟨U, cu, below_cell hb h1, fun i hi => by obtain ⟨g, e, a, b, c⟩ := h2 i hi; exact ⟨g, e, below_cell hb a, below_cell hb b, below_cell hb c⟩⟩
  · obtain ⟨U, cu, h1, h2⟩ := h.ds
    exact ⟨U, cu, below_cell hb h1, fun i hi => by obtain ⟨g, e, a, b⟩ := h2 i hi; exact ⟨g, e, below_cell hb a, below_cell hb b⟩⟩
  · obtain ⟨U, cu, h1, h2⟩ := h.ps
    exact ⟨U, cu, below_cell hb h1, fun i hi => by obtain ⟨g, e, a, b⟩ := h2 i hi; exact ⟨g, e, below_cell hb a, below_cell hb b⟩⟩
/-- The chain's bytes, Resolve of no tree. -/
theorem resolve_nil (w : World) {v : Value} (h : SlB w (treeL []) v) : Calls Try.prog 9 #[v] w fun e w' => Below w.heap.size w w' ∧ ∃ A cc, e = .returned (.tuple #[.slice A 1 cc, .nilIface]) := by
  have hr : resolveS (treeL []) = .ok ⟨[FnS.new], [], 0⟩ := by kernel_rfl
  have C := Resolve_any w _ v h (by simp [treeL, wfT]) rfl (by decide) (by rw [hr]; intro e; cases e)
  rw [hr] at C
  refine C.mono fun e w' ⟨hb, v, he, ts, hl, ⟨A, cc, hv, _⟩, _⟩ => ⟨hb, A, cc, by rw [he, hv]; rfl⟩
end Go.Proofs.Ytlbbbfmnghcdnaa
