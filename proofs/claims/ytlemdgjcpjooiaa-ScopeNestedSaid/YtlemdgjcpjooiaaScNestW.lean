/- nested's trees may be resolved; and what the scope's cells hold. -/
import Derived.Test.YtlemdgjcpjooiaaScNestB
import Derived.Test.YtlemdgjcpjooiaaScNestP
namespace Go.Proofs.Ytlemdgjcpjooiaa
set_option maxRecDepth 20000
open Go.RowKit Go.Maps

theorem wf_list : ∀ l : List Tree, (∀ x ∈ l, wfT x) → wfT (treeL l)
  | [], _ => trivial
  | x :: r, h => ⟨h x (by simp), wf_list r fun y hy => h y (by simp [hy])⟩
theorem sts_list : ∀ l : List Tree, (∀ x ∈ l, isSt x = true) → stsB (treeL l) = true
  | [], _ => rfl
  | x :: r, h => by
    have hx := h x (by simp)
    have ih := sts_list r fun y hy => h y (by simp [hy])
    cases x <;> simp [isSt] at hx
    exact ih
theorem wf_nestB : ∀ n, ∀ x ∈ nestB n, wfT x
  | 0, x, h => by simp [nestB] at h
  | n + 1, x, h => by
    rw [nestB, List.mem_append] at h
    rcases h with h | h
    · exact wf_nestB n x h
    · simp at h
      rcases h with rfl | rfl
      · simp [locT, wfT, stsB]
      · simp [callT, nmT, wfT, stsB, exsB]
theorem wf_do {l : List Tree} (h : ∀ x ∈ l, wfT x) (hs : ∀ x ∈ l, isSt x = true) : wfT (doT l) := ⟨by simp, trivial, trivial, trivial, wf_list l h, trivial, sts_list l hs, rfl⟩
theorem wf_nestT : ∀ (l : List Nat) (f : Nat), ∀ x ∈ (nestT l f).1, wfT x
  | [], _, x, h => by simp [nestT] at h
  | k :: r, f, x, h => by
    rw [nestT] at h
    split at h
    · simp at h
      rcases h with rfl | rfl
      · exact wf_do (wf_nestB _) (isSt_nestB _)
      · exact wf_do (wf_nestT r f) (isSt_nestT r f)
    · simp at h
      rcases h with h | rfl
      · exact wf_nestB _ x h
      · exact wf_do (wf_nestT r _) (isSt_nestT r _)
theorem sz_append : ∀ a b : List Tree, szT (treeL (a ++ b)) = szT (treeL a) + szT (treeL b)
  | [], b => by simp [treeL, szT]
  | x :: r, b => by
    show szT x + szT (treeL (r ++ b)) + 1 = szT x + szT (treeL r) + 1 + szT (treeL b)
    rw [sz_append r b]; omega
theorem sz_nestB : ∀ n, szT (treeL (nestB n)) = 6 * n
  | 0 => rfl
  | n + 1 => by
    rw [nestB, sz_append, sz_nestB n]
    show 6 * n + 6 = _
    omega
theorem sz_do (l : List Tree) : szT (treeL [doT l]) = szT (treeL l) + 2 := by
  show 0 + 0 + 0 + szT (treeL l) + 0 + 1 + 0 + 1 = _
  omega
theorem sz_nestT : ∀ (l : List Nat) (f : Nat), szT (treeL (nestT l f).1) ≤ 30 * l.length
  | [], _ => Nat.le_refl _
  | k :: r, f => by
    have m4 : k % 4 < 4 := Nat.mod_lt _ (by decide)
    have h1 := sz_nestT r f
    have h2 := sz_nestT r (f + k % 4)
    rw [nestT, List.length_cons]
    split
    · show szT (treeL ([doT (nestB (k % 4))] ++ [doT (nestT r f).1])) ≤ _
      rw [sz_append, sz_do, sz_do, sz_nestB]; omega
    · show szT (treeL (nestB (k % 4) ++ [doT (nestT r (f + k % 4)).1])) ≤ _
      rw [sz_append, sz_do, sz_nestB]; omega
/-- What the law reads: so many declarations, so many uses, of these registers. -/
theorem nest_cells {w : World} {v : Value} {f : FnS} {ws : List Nat} (h : ScsAt w v [f]) (hm : MoreF FnS.new f ws) :
    ∃ b c U cu D cd P np cp, v = .slice (some ⟨b, 0, none⟩) 1 c ∧ w.cell? ⟨b, 0, none⟩ = some (.slice U ws.length cu) ∧ w.cell? ⟨b, 1, none⟩ = some (.slice D ws.length cd) ∧ w.cell? ⟨b, 2, none⟩ = some (.slice P np cp) ∧
      ∀ (i r : Nat), ws[i]? = some r → ∃ gu gd, U = some ⟨gu, 0, none⟩ ∧ D = some ⟨gd, 0, none⟩ ∧
        w.cell? ⟨gu, i * 3, none⟩ = some (iV 1) ∧ w.cell? ⟨gu, i * 3 + 1, none⟩ = some (iV r) ∧ w.cell? ⟨gu, i * 3 + 2, none⟩ = some (.bool false) ∧
        w.cell? ⟨gd, i * 2, none⟩ = some (iV r) ∧ w.cell? ⟨gd, i * 2 + 1, none⟩ = some (.bool false) := by
  obtain ⟨ts, hl, hr, hel⟩ := h
  rcases ts with _ | ⟨⟨u, d, p⟩, _ | ⟨_, _⟩⟩
  · simp at hl
  · have E := hel 0 _ _ rfl rfl
    obtain ⟨b, c, rfl, hb⟩ := reads_cons (x := u) (xs := [d, p]) hr
    have L := hm.lens
    have l1 : f.locals.length = ws.length := by have := L.1; simpa [FnS.new] using this
    have l2 : f.uses.length = ws.length := by have := L.2; simpa [FnS.new] using this
    obtain ⟨U, cu, hU, hu⟩ := E.u
    obtain ⟨D, cd, hD, hd⟩ := E.d
    obtain ⟨P, cp, hP, _⟩ := E.p
    rw [l2] at hU
    rw [l1] at hD
    change u = _ at hU
    change d = _ at hD
    change p = _ at hP
    subst hU hD hP
    refine ⟨b, c, U, cu, D, cd, P, _, cp, rfl, hb 0 _ rfl, hb 1 _ rfl, hb 2 _ rfl, fun i r hi => ?_⟩
    have hlt : i < ws.length := (List.getElem?_eq_some_iff.1 hi).1
    have hloc : f.locals = ws.map fun r => (⟨[97], r, false⟩ : LocS) := by have := hm.locals; simpa [FnS.new] using this
    obtain ⟨us, hus, husm⟩ := hm.uses
    have hus' : f.uses = us := by simpa [FnS.new] using hus
    subst hus'
    obtain ⟨x, hx⟩ : ∃ x, f.uses[i]? = some x := ⟨_, List.getElem?_eq_getElem (by omega)⟩
    have hx2 : (x.at_, x.index) = (1, r) := by
      have := congrArg (fun l => l[i]?) husm
      simp only [List.getElem?_map, hx, hi, Option.map_some] at this
      exact Option.some.inj this
    have hbx : boxedOf f.locals x.own = false := by
      unfold boxedOf
      cases x.own with
      | none => rfl
      | some k =>
        simp only []
        rw [hloc]
        by_cases hk : k < ws.length
        · simp [List.getD_eq_getElem?_getD, hk]
        · rw [List.getD_eq_getElem?_getD, List.getElem?_eq_none (by simp; omega)]; rfl
    have hux : useR f.locals x = [iV 1, iV r, .bool false] := by
      unfold useR
      rw [hbx]
      injection hx2 with e1 e2
      rw [e1, e2]; rfl
    have hlx : f.locals[i]? = some ⟨[97], r, false⟩ := by rw [hloc, List.getElem?_map, hi]; rfl
    have U0 := hu (i * 3 + 0) _ ((flat_get (f := useR f.locals) (m := 3) (fun _ => rfl) f.uses i 0 x hx (by decide)).trans (by rw [hux]; rfl))
    have U1 := hu (i * 3 + 1) _ ((flat_get (f := useR f.locals) (m := 3) (fun _ => rfl) f.uses i 1 x hx (by decide)).trans (by rw [hux]; rfl))
    have U2 := hu (i * 3 + 2) _ ((flat_get (f := useR f.locals) (m := 3) (fun _ => rfl) f.uses i 2 x hx (by decide)).trans (by rw [hux]; rfl))
    have D0 := hd (i * 2 + 0) _ ((flat_get (f := declR) (m := 2) (fun _ => rfl) f.locals i 0 _ hlx (by decide)).trans rfl)
    have D1 := hd (i * 2 + 1) _ ((flat_get (f := declR) (m := 2) (fun _ => rfl) f.locals i 1 _ hlx (by decide)).trans rfl)
    obtain ⟨gu, rfl, u0⟩ := U0
    obtain ⟨gd, rfl, d0⟩ := D0
    obtain ⟨g1, e1, u1⟩ := U1
    cases e1
    obtain ⟨g2, e2, u2⟩ := U2
    cases e2
    obtain ⟨g3, e3, d1⟩ := D1
    cases e3
    exact ⟨gu, gd, rfl, rfl, u0, u1, u2, d0, d1⟩
  · simp at hl
theorem resolve_nest (l : List Nat) (hl : l.length ≤ 20) (w : World) {v : Value} (h : SlB w (treeL (nestT l 0).1) v) : Calls Try.prog 6 #[v] w fun e w' => Below w.heap.size w w' ∧
    ∃ v f, e = .returned (.tuple #[v, .nilIface]) ∧ ScsAt w' v [f] ∧ MoreF FnS.new f (nestT l 0).2 := by
  obtain ⟨f, p, hr, hm⟩ := nest_res l hl
  have C := Resolve_any w _ v h (wf_list _ (wf_nestT l 0)) (sts_list _ (isSt_nestT l 0)) (Nat.le_trans (sz_nestT l 0) (by omega)) (by rw [hr]; intro e; cases e)
  rw [hr] at C
  exact C.mono fun e w' ⟨hb, v, he, hs⟩ => ⟨hb, v, f, he, hs, hm⟩
theorem NestX.slB {w : World} {vb vw : Value} {lo : Nat} {ts : List Tree} {ns : List Nat} {xs : List Value} (h : NestX lo w vb vw ts ns xs) : SlB w (treeL ts) vb := Sl.keep (fun _ hg => ⟨hg.2, rfl⟩) h.sl
end Go.Proofs.Ytlemdgjcpjooiaa
