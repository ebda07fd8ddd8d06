/- What the resolver says of the chain, whole: as a plain fact. -/
import Derived.Test.YtlbbbfmnghcdnaaScChainP
namespace Go.Proofs.Ytlbbbfmnghcdnaa
set_option maxRecDepth 20000
open Go.RowKit Go.Maps

def locsC (n : Nat) : Nat → List Tree
  | 0 => []
  | k + 1 => locsC n k ++ [locT (letB (5 * n + k))]
def usesC (c : Nat → Nat) (d : Nat) : Nat → List Tree
  | 0 => []
  | j + 1 => usesC c d j ++ [backT (nmT (textC c d j))]
/-- Level d - 1 - t: its locals, and the function within it. -/
def lvC (c : Nat → Nat) (d : Nat) : Nat → List Tree
  | 0 => locsC (d - 1) (c (d - 1)) ++ usesC c d (posC c d)
  | t + 1 => locsC (d - 2 - t) (c (d - 2 - t)) ++ [backT (funT [] (lvC c d t))]
theorem isSt_locs (n : Nat) : ∀ k, ∀ x ∈ locsC n k, isSt x = true
  | 0, x, h => by simp [locsC] at h
  | k + 1, x, h => by
    rw [locsC, List.mem_append] at h
    rcases h with h | h
    · exact isSt_locs n k x h
    · simp at h; subst h; rfl
theorem isSt_uses (c : Nat → Nat) (d : Nat) : ∀ k, ∀ x ∈ usesC c d k, isSt x = true
  | 0, x, h => by simp [usesC] at h
  | k + 1, x, h => by
    rw [usesC, List.mem_append] at h
    rcases h with h | h
    · exact isSt_uses c d k x h
    · simp at h; subst h; rfl
theorem begin_ok {fns : List FnS} {s : List Nat} {q : Nat} (l : Int) (h : q < 65536) : beginS l ⟨fns, s, q⟩ = .ok ⟨fns, s, q + 1⟩ := by
  unfold beginS; rw [if_neg (by simp; omega)]
theorem modify_last {A : List FnS} {f : FnS} (g : FnS → FnS) : (A ++ [f]).modify A.length g = A ++ [g f] := by
  apply List.ext_getElem?
  intro i
  rw [List.getElem?_modify]
  by_cases hi : i < A.length
  · have e : ¬ A.length = i := by omega
    simp [List.getElem?_append_left hi, e]
  · rw [List.getElem?_append_right (by omega), List.getElem?_append_right (by omega)]
    by_cases e : i = A.length
    · subst e; simp
    · rw [List.getElem?_eq_none (by simp; omega), List.getElem?_eq_none (by simp; omega)]; rfl
theorem loc_any {A : List FnS} {f : FnS} {r : List Nat} {p : Nat} (s : List UInt8) (hp : p < 65536) (hf : f.full.length < 100) (hl : f.locals.length < 1048576) :
    goS (locT s) ⟨A ++ [f], A.length :: r, p⟩ = .ok ⟨A ++ [f.declare s], A.length :: r, p + 1⟩ := by
  have e : (StS.fn ⟨A ++ [f], A.length :: r, p + 1⟩) = f := by simp [StS.fn, StS.cur]
  have h2 : declareS s 0 ⟨A ++ [f], A.length :: r, p + 1⟩ = .ok ⟨A ++ [f.declare s], A.length :: r, p + 1⟩ := by
    unfold declareS
    rw [e, if_neg (by omega), if_neg (by omega)]
    show ResS.ok ⟨(A ++ [f]).modify A.length _, _, _⟩ = _
    rw [modify_last]
  unfold locT goS
  rw [begin_ok _ hp, bindS_ok, if_pos rfl]
  exact h2
def fnP (n k : Nat) : FnS := ⟨(List.range k).map fun i => ⟨letB (5 * n + i), i, false⟩, List.range k, [], []⟩
theorem fnP_more (n k : Nat) : (fnP n k).declare (letB (5 * n + k)) = fnP n (k + 1) := by
  simp [fnP, FnS.declare, List.range_succ]
theorem locs_go {A : List FnS} {r : List Nat} (n : Nat) : ∀ (k p : Nat), p + k < 65536 → k ≤ 4 → goS (treeL (locsC n k)) ⟨A ++ [fnP n 0], A.length :: r, p⟩ = .ok ⟨A ++ [fnP n k], A.length :: r, p + k⟩
  | 0, p, _, _ => rfl
  | k + 1, p, hp, hk => by
    rw [locsC, goS_append _ _ _ (isSt_locs n k), locs_go n k p (by omega) (by omega), bindS_ok, goS_one rfl, loc_any _ (by omega) (by simp [fnP]; omega) (by simp [fnP]; omega), fnP_more]
    rfl
theorem fnP_fnC (c : Nat → Nat) (d n : Nat) : fnP n (c n) = fnC c d 0 0 n := by
  simp [fnP, fnC, locC]
theorem uses_go {c : Nat → Nat} {d e : Nat} (hc : ∀ n, c n ≤ 4) (hd : d ≤ 6) (he : e + 1 = d) : ∀ (j p : Nat), p + 2 * j < 65536 → j ≤ posC c d →
    goS (treeL (usesC c d j)) ⟨(List.range d).map (fnC c d 0 0), stk e, p⟩ = .ok ⟨(List.range d).map (fnC c d j j), stk e, p + 2 * j⟩
  | 0, p, _, _ => rfl
  | j + 1, p, hp, hj => by
    have h1 : goS (nmT (textC c d j)) ⟨(List.range d).map (fnC c d j j), stk e, p + 2 * j + 1⟩ = .ok ⟨(List.range d).map (fnC c d (j + 1) (j + 1)), stk e, p + 2 * j + 1 + 1⟩ := by
      unfold nmT goS
      rw [begin_ok _ (by omega), bindS_ok, if_pos rfl]
      exact use_step hc hd he (by omega) 0
    rw [usesC, goS_append _ _ _ (isSt_uses c d j), uses_go hc hd he j p (by omega) (by omega), bindS_ok, goS_one rfl]
    unfold backT
    rw [goS, begin_ok _ (by omega), bindS_ok, if_neg (by decide), if_neg (by decide), if_neg (by decide), if_pos rfl]
    exact h1
theorem range_last (c : Nat → Nat) (d n : Nat) : (List.range n).map (fnC c d 0 0) ++ [fnP n (c n)] = (List.range (n + 1)).map (fnC c d 0 0) := by
  rw [fnP_fnC c d, List.range_succ, List.map_append]; rfl
theorem fun_go {l : List Tree} {fns fns' : List FnS} {s : List Nat} {p p' : Nat} (hf : fns.length < 256) (hp : p + 2 < 65536) (h : goS (treeL l) ⟨fns ++ [FnS.new], fns.length :: s, p + 2⟩ = .ok ⟨fns', fns.length :: s, p'⟩) :
    goS (backT (funT [] l)) ⟨fns, s, p⟩ = .ok ⟨fns', s, p'⟩ := by
  have h1 : goS (funT [] l) ⟨fns, s, p + 1⟩ = .ok ⟨fns', s, p'⟩ := by
    unfold funT
    rw [goS, begin_ok _ (by omega), bindS_ok, if_neg (by decide), if_neg (by decide), if_pos rfl, if_neg (by decide), if_neg (by show ¬ (fns.length = 256 ∨ 20 < 0); omega), if_neg (by decide)]
    show ((goS (treeL l) ⟨fns ++ [FnS.new], fns.length :: s, p + 2⟩)).bind leaveS = _
    rw [h]; rfl
  unfold backT
  rw [goS, begin_ok _ (by omega), bindS_ok, if_neg (by decide), if_neg (by decide), if_neg (by decide), if_pos rfl]
  exact h1
theorem stk_eq (c : Nat → Nat) (d n : Nat) : ∃ r, stk n = ((List.range n).map (fnC c d 0 0)).length :: r := by
  obtain ⟨r, hr⟩ := stk_cons n
  exact ⟨r, by simp [hr]⟩
theorem lv_go {c : Nat → Nat} {d : Nat} (hc : ∀ n, c n ≤ 4) (hd : d ≤ 6) : ∀ (t i p : Nat), i + t + 1 = d → p + 10 * t < 1000 →
    ∃ p', goS (treeL (lvC c d t)) ⟨(List.range i).map (fnC c d 0 0) ++ [FnS.new], stk i, p⟩ = .ok ⟨(List.range d).map (fnC c d (posC c d) (posC c d)), stk i, p'⟩
  | 0, i, p, hi, hp => by
    obtain ⟨r, hr⟩ := stk_eq c d i
    have hps := posC_small hc d
    have hci := hc i
    have hl := locs_go (A := (List.range i).map (fnC c d 0 0)) (r := r) i (c i) p (by omega) hci
    have hu := uses_go hc hd (e := i) (by omega) (posC c d) (p + c i) (by omega) (Nat.le_refl _)
    refine ⟨p + c i + 2 * posC c d, ?_⟩
    rw [lvC, show d - 1 = i by omega, goS_append _ _ _ (isSt_locs i _), hr]
    have e0 : (FnS.new : FnS) = fnP i 0 := rfl
    rw [e0, hl, bindS_ok, range_last, ← hr, show i + 1 = d by omega]
    exact hu
  | t + 1, i, p, hi, hp => by
    obtain ⟨r, hr⟩ := stk_eq c d i
    have hci := hc i
    have hl := locs_go (A := (List.range i).map (fnC c d 0 0)) (r := r) i (c i) p (by omega) hci
    obtain ⟨p', ih⟩ := lv_go hc hd t (i + 1) (p + c i + 2) (by omega) (by omega)
    refine ⟨p', ?_⟩
    rw [lvC, show d - 2 - t = i by omega, goS_append _ _ _ (isSt_locs i _), hr]
    have e0 : (FnS.new : FnS) = fnP i 0 := rfl
    rw [e0, hl, bindS_ok, range_last, ← hr, goS_one rfl]
    have hlen : ((List.range (i + 1)).map (fnC c d 0 0)).length = i + 1 := by simp
    refine fun_go (by rw [hlen]; omega) (by omega) ?_
    rw [hlen]
    exact ih
/-- All that Resolve says of the chain. -/
theorem chain_res {c : Nat → Nat} {d : Nat} (hc : ∀ n, c n ≤ 4) (hd : d ≤ 6) (h0 : 0 < d) : ∃ p, resolveS (treeL (lvC c d (d - 1))) = .ok ⟨(List.range d).map (fnC c d (posC c d) (posC c d)), [], p⟩ := by
  obtain ⟨p, h⟩ := lv_go hc hd (d - 1) 0 0 (by omega) (by omega)
  refine ⟨p, ?_⟩
  have h' : goS (treeL (lvC c d (d - 1))) startS = .ok ⟨(List.range d).map (fnC c d (posC c d) (posC c d)), [0], p⟩ := h
  unfold resolveS
  rw [h']; rfl
end Go.Proofs.Ytlbbbfmnghcdnaa
