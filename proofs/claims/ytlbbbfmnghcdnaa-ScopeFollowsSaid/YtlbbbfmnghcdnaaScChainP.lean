/- What the resolver says of the chain's innermost uses: as a plain fact. Functions 0 .. d-1 within one another, function i with c i locals; names in the order of their owners. -/
import Derived.Test.YtlbbbfmnghcdnaaScNestP
namespace Go.Proofs.Ytlbbbfmnghcdnaa
set_option maxRecDepth 20000
open Go.RowKit Go.Maps

def letB (n : Nat) : List UInt8 := [118, 97 + UInt8.ofNat (n / 26 % 26), 97 + UInt8.ofNat (n % 26)]
theorem letB_inj : ∀ a, a < 30 → ∀ b, b < 30 → letB a = letB b → a = b := by decide
/-- How many names are owned by the functions ahead of function n. -/
def posC (c : Nat → Nat) : Nat → Nat
  | 0 => 0
  | n + 1 => posC c n + c n
/-- The owner of name j, and its register: the search from function n on. -/
def ownC (c : Nat → Nat) : Nat → Nat → Nat → Nat × Nat
  | 0, n, j => (n, j)
  | f + 1, n, j => if j < c n then (n, j) else ownC c f (n + 1) (j - c n)
theorem posC_le (c : Nat → Nat) {a b : Nat} (h : a ≤ b) : posC c a ≤ posC c b := by
  induction h with
  | refl => exact Nat.le_refl _
  | step _ ih => exact Nat.le_trans ih (by rw [posC]; omega)
theorem ownC_pos (c : Nat → Nat) : ∀ (f n j d : Nat), n + f = d → j + posC c n < posC c d → (ownC c f n j).1 < d ∧ n ≤ (ownC c f n j).1 ∧ (ownC c f n j).2 < c (ownC c f n j).1 ∧ posC c (ownC c f n j).1 + (ownC c f n j).2 = posC c n + j
  | 0, n, j, d, h, hj => by
    have : n = d := by omega
    subst this; omega
  | f + 1, n, j, d, h, hj => by
    rw [ownC]
    split
    · rename_i hlt
      exact ⟨by omega, by simp, hlt, rfl⟩
    · rename_i hge
      have e : posC c (n + 1) = posC c n + c n := rfl
      obtain ⟨h1, h2, h3, h4⟩ := ownC_pos c f (n + 1) (j - c n) d (by omega) (by omega)
      exact ⟨h1, by omega, h3, by omega⟩
section
variable (c : Nat → Nat) (d : Nat)
def nameC (j : Nat) : Nat × Nat := ownC c d 0 j
def textC (j : Nat) : List UInt8 := letB (5 * (nameC c d j).1 + (nameC c d j).2)
def upE (n i : Nat) : UpS := ⟨decide ((nameC c d i).1 + 1 = n), if (nameC c d i).1 + 1 = n then (nameC c d i).2 else i, textC c d i⟩
def useE (i : Nat) : UseS := if (nameC c d i).1 + 1 = d then ⟨1, (nameC c d i).2, some (nameC c d i).2⟩ else ⟨2, i, none⟩
def locC (j n k : Nat) : LocS := ⟨letB (5 * n + k), k, decide (n + 1 < d ∧ posC c n + k < j)⟩
/-- Function n when j names are bound and u of them used. -/
def fnC (j u n : Nat) : FnS := ⟨(List.range (c n)).map (locC c d j n), List.range (c n), if n + 1 = d then (List.range u).map (useE c d) else [], (List.range (min j (posC c n))).map (upE c d n)⟩
end
def stk : Nat → List Nat
  | 0 => [0]
  | n + 1 => (n + 1) :: stk n
theorem modify_range {α : Type} (d n : Nat) (f : Nat → α) (g : α → α) : ((List.range d).map f).modify n g = (List.range d).map fun m => if m = n then g (f m) else f m := by
  apply List.ext_getElem?
  intro i
  rw [List.getElem?_modify, List.getElem?_map, List.getElem?_map]
  by_cases hi : i < d
  · rw [List.getElem?_range hi]
    by_cases e : n = i
    · subst e; simp
    · have e' : ¬ i = n := fun h => e h.symm
      simp [e, e']
  · rw [List.getElem?_eq_none (by simp; omega)]
    simp
theorem getD_range {α : Type} [Inhabited α] (d n : Nat) (f : Nat → α) (h : n < d) : ((List.range d).map f).getD n default = f n := by
  simp [List.getD_eq_getElem?_getD, h]
/-- A name that none of these locals has. -/
theorem named_none {ls : List LocS} {s : List UInt8} : ∀ (l : List Nat), (∀ i ∈ l, (ls.getD i default).name ≠ s) → namedIn ls s l = none
  | [], _ => rfl
  | i :: r, h => by
    rw [namedIn, named_none r fun k hk => h k (by simp [hk]), if_neg (h i (by simp))]
theorem named_some {ls : List LocS} {s : List UInt8} {k : Nat} : ∀ (l : List Nat), k ∈ l → (ls.getD k default).name = s → (∀ i ∈ l, i ≠ k → (ls.getD i default).name ≠ s) → namedIn ls s l = some k
  | [], h, _, _ => by simp at h
  | i :: r, h, hk, ho => by
    rw [namedIn]
    by_cases hr : k ∈ r
    · rw [named_some r hr hk fun j hj => ho j (by simp [hj])]
    · have hi : k = i := by simpa [hr] using h
      subst hi
      rw [named_none r fun j hj => ho j (by simp [hj]) (fun e => hr (e ▸ hj)), if_pos hk]
theorem place_none {s : List UInt8} : ∀ (l : List UpS), (∀ u ∈ l, u.name ≠ s) → placeIn s l = none
  | [], _ => rfl
  | u :: r, h => by
    rw [placeIn, if_neg (h u (by simp)), place_none r fun v hv => h v (by simp [hv])]; rfl
section
variable {c : Nat → Nat} {d : Nat}
theorem name_at (_ : d ≤ 6) {j : Nat} (hj : j < posC c d) : (nameC c d j).1 < d ∧ (nameC c d j).2 < c (nameC c d j).1 ∧ posC c (nameC c d j).1 + (nameC c d j).2 = j := by
  obtain ⟨h1, _, h3, h4⟩ := ownC_pos c d 0 j d (by omega) (by simpa [posC] using hj)
  exact ⟨h1, h3, by rw [nameC, h4]; simp [posC]⟩
theorem text_eq (hc : ∀ n, c n ≤ 4) (hd : d ≤ 6) {j n k : Nat} (hj : j < posC c d) (hn : n < d) (hk : k < c n) (h : letB (5 * n + k) = textC c d j) : n = (nameC c d j).1 ∧ k = (nameC c d j).2 := by
  obtain ⟨h1, h2, _⟩ := name_at hd hj
  have a := hc n
  have b := hc (nameC c d j).1
  have := letB_inj _ (by omega) _ (by omega) h
  omega
theorem text_inj (hc : ∀ n, c n ≤ 4) (hd : d ≤ 6) {i j : Nat} (hi : i < posC c d) (hj : j < posC c d) (h : textC c d i = textC c d j) : i = j := by
  obtain ⟨h1, h2, h3⟩ := name_at hd hi
  obtain ⟨_, _, h4⟩ := name_at hd hj
  obtain ⟨e1, e2⟩ := text_eq hc hd hj h1 h2 h
  rw [e1, e2] at h3
  omega
theorem loc_get {c : Nat → Nat} {d : Nat} {j n k : Nat} (hk : k < c n) (u : Nat) : ((fnC c d j u n).locals.getD k default) = locC c d j n k := by
  simp [fnC, List.getD_eq_getElem?_getD, hk]
theorem named_own (hc : ∀ n, c n ≤ 4) (hd : d ≤ 6) {j : Nat} (hj : j < posC c d) (i u : Nat) : (fnC c d i u (nameC c d j).1).named (textC c d j) = some (nameC c d j).2 := by
  obtain ⟨h1, h2, _⟩ := name_at hd hj
  refine named_some _ (by simpa [fnC] using h2) (by rw [loc_get h2]; rfl) fun k hk hne => ?_
  have hk' : k < c (nameC c d j).1 := by simpa [fnC] using hk
  rw [loc_get hk']
  exact fun e => hne (text_eq hc hd hj h1 hk' e).2
theorem named_far (hc : ∀ n, c n ≤ 4) (hd : d ≤ 6) {j n : Nat} (hj : j < posC c d) (hn : n < d) (hne : n ≠ (nameC c d j).1) (i u : Nat) : (fnC c d i u n).named (textC c d j) = none := by
  refine named_none _ fun k hk => ?_
  have hk' : k < c n := by simpa [fnC] using hk
  rw [loc_get hk']
  exact fun e => hne (text_eq hc hd hj hn hk' e).1
theorem place_far (hc : ∀ n, c n ≤ 4) (hd : d ≤ 6) {j n : Nat} (hj : j < posC c d) (u : Nat) : placeIn (textC c d j) (fnC c d j u n).ups = none := by
  refine place_none _ fun x hx => ?_
  obtain ⟨i, hi, rfl⟩ := List.mem_map.1 hx
  have hi' : i < j := by have := List.mem_range.1 hi; omega
  exact fun e => by have := text_inj hc hd (by omega) hj e; omega
theorem posC_small (hc : ∀ n, c n ≤ 4) : ∀ n, posC c n ≤ 4 * n
  | 0 => Nat.le_refl _
  | n + 1 => by have := posC_small hc n; have := hc n; rw [posC]; omega
theorem ups_len {j u n : Nat} : (fnC c d j u n).ups.length = min j (posC c n) := by simp [fnC]
theorem box_fn (hd : d ≤ 6) {j u : Nat} (hj : j < posC c d) (ho : (nameC c d j).1 + 1 < d) : (fnC c d j u (nameC c d j).1).box (nameC c d j).2 = fnC c d (j + 1) u (nameC c d j).1 := by
  obtain ⟨h1, h2, h3⟩ := name_at hd hj
  generalize (nameC c d j).1 = o at *
  generalize (nameC c d j).2 = k at *
  have e1 : ((List.range (c o)).map (locC c d j o)).modify k (fun l => { l with boxed := true }) = (List.range (c o)).map (locC c d (j + 1) o) := by
    rw [modify_range]
    refine List.map_congr_left fun m hm => ?_
    by_cases e : m = k
    · subst e
      rw [if_pos rfl]
      simp [locC]; omega
    · rw [if_neg e]
      simp only [locC, LocS.mk.injEq, true_and, decide_eq_decide]
      omega
  have e2 : min j (posC c o) = min (j + 1) (posC c o) := by omega
  simp only [FnS.box, boxL, fnC, e1, e2]
theorem up_fn (hd : d ≤ 6) {j u n : Nat} (hj : j < posC c d) (hn : (nameC c d j).1 < n) : (fnC c d j u n).addUp (upE c d n j) = fnC c d (j + 1) u n := by
  obtain ⟨h1, h2, h3⟩ := name_at hd hj
  have hp : posC c ((nameC c d j).1 + 1) ≤ posC c n := posC_le c hn
  rw [posC] at hp
  have e1 : (List.range (c n)).map (locC c d j n) = (List.range (c n)).map (locC c d (j + 1) n) := by
    refine List.map_congr_left fun m _ => ?_
    simp only [locC, LocS.mk.injEq, true_and, decide_eq_decide]
    omega
  have e2 : (List.range (min (j + 1) (posC c n))).map (upE c d n) = (List.range (min j (posC c n))).map (upE c d n) ++ [upE c d n j] := by
    rw [show min (j + 1) (posC c n) = j + 1 by omega, show min j (posC c n) = j by omega, List.range_succ, List.map_append]
    rfl
  simp only [FnS.addUp, fnC, e1, e2]
theorem stk_cons : ∀ n, ∃ r, stk n = n :: r
  | 0 => ⟨[], rfl⟩
  | n + 1 => ⟨stk n, rfl⟩
/-- All functions while name j is looked for, from its owner up to function n. -/
def midC (c : Nat → Nat) (d j u n : Nat) : List FnS := (List.range d).map fun m => if (nameC c d j).1 ≤ m ∧ m ≤ n then fnC c d (j + 1) u m else fnC c d j u m
theorem find_named {s : List UInt8} {l : Int} {n : Nat} {rest : List Nat} {fns : List FnS} {i : Nat} (h : (fns.getD n default).named s = some i) : findS s l (n :: rest) fns = .ok fns ⟨1, ((fns.getD n default).locals.getD i default).reg, some i⟩ := by
  rw [findS.eq_def]; simp only [h]
theorem find_out {s : List UInt8} {l : Int} {n m : Nat} {rest : List Nat} {fns fns' : List FnS} {u : UseS} (h : (fns.getD n default).named s = none) (hp : placeIn s (fns.getD n default).ups = none) (hr : findS s l (m :: rest) fns = .ok fns' u) (hu : u.at_ ≠ 3) (hl : (fns.getD n default).ups.length ≠ 60) :
    findS s l (n :: m :: rest) fns = .ok ((outerBox fns' u.own (m :: rest)).modify n fun f => f.addUp ⟨u.own.isSome, u.index, s⟩) ⟨2, (fns.getD n default).ups.length, none⟩ := by
  rw [findS.eq_def]; simp only [h, hp, hr]; rw [if_neg hu, if_neg hl]
theorem find_own (hc : ∀ n, c n ≤ 4) (hd : d ≤ 6) {j u : Nat} (hj : j < posC c d) (l : Int) : findS (textC c d j) l (stk (nameC c d j).1) ((List.range d).map (fnC c d j u)) = .ok ((List.range d).map (fnC c d j u)) ⟨1, (nameC c d j).2, some (nameC c d j).2⟩ := by
  obtain ⟨h1, h2, h3⟩ := name_at hd hj
  obtain ⟨r, hr⟩ := stk_cons (nameC c d j).1
  have hg := getD_range d (nameC c d j).1 (fnC c d j u) h1
  rw [hr, find_named (i := (nameC c d j).2) (by rw [hg]; exact named_own hc hd hj _ _), hg, loc_get h2]
  rfl
theorem find_up (hc : ∀ n, c n ≤ 4) (hd : d ≤ 6) {j u : Nat} (hj : j < posC c d) (l : Int) : ∀ t, (nameC c d j).1 + t + 1 < d →
    findS (textC c d j) l (stk ((nameC c d j).1 + t + 1)) ((List.range d).map (fnC c d j u)) = .ok (midC c d j u ((nameC c d j).1 + t + 1)) ⟨2, j, none⟩ := by
  intro t
  induction t with
  | zero =>
    intro hn
    obtain ⟨h1, h2, h3⟩ := name_at hd hj
    have hp := posC_small hc ((nameC c d j).1 + 0 + 1)
    have hp2 : posC c ((nameC c d j).1 + 0 + 1) = posC c (nameC c d j).1 + c (nameC c d j).1 := rfl
    obtain ⟨r, hr⟩ := stk_cons (nameC c d j).1
    have hown := find_own hc hd (u := u) hj l
    have hl : (fnC c d j u ((nameC c d j).1 + 0 + 1)).ups.length = j := by rw [ups_len]; omega
    show findS _ l (((nameC c d j).1 + 0 + 1) :: stk (nameC c d j).1) _ = _
    have hg := getD_range d _ (fnC c d j u) hn
    rw [hr] at hown ⊢
    rw [find_out (by rw [hg]; exact named_far hc hd hj hn (by omega) _ _) (by rw [hg]; exact place_far hc hd hj _) hown (show (1 : Nat) ≠ 3 by decide) (by rw [hg, hl]; omega), hg, hl]
    refine congrArg (fun x => FindS.ok x _) ?_
    simp only [outerBox]
    rw [modify_range, modify_range]
    refine List.map_congr_left fun m hm => ?_
    have hm' := List.mem_range.1 hm
    have hb := box_fn hd (u := u) hj (by omega)
    have hu := up_fn hd (u := u) (n := (nameC c d j).1 + 0 + 1) hj (by omega)
    have hue : upE c d ((nameC c d j).1 + 0 + 1) j = ⟨true, (nameC c d j).2, textC c d j⟩ := by simp [upE]
    rw [hue] at hu
    by_cases e1 : m = (nameC c d j).1 + 0 + 1
    · subst e1
      rw [if_pos rfl, if_neg (by omega), if_pos ⟨by omega, by omega⟩]
      exact hu
    · rw [if_neg e1]
      by_cases e2 : m = (nameC c d j).1
      · subst e2
        rw [if_pos rfl, if_pos ⟨by omega, by omega⟩]
        exact hb
      · rw [if_neg e2, if_neg (by omega)]
  | succ t ih =>
    intro hn
    obtain ⟨h1, h2, h3⟩ := name_at hd hj
    have ih := ih (by omega)
    have hp := posC_small hc ((nameC c d j).1 + (t + 1) + 1)
    have hp2 := posC_le c (show (nameC c d j).1 + 1 ≤ (nameC c d j).1 + (t + 1) + 1 by omega)
    rw [posC] at hp2
    have hl : (fnC c d j u ((nameC c d j).1 + (t + 1) + 1)).ups.length = j := by rw [ups_len]; omega
    obtain ⟨r, hr⟩ := stk_cons ((nameC c d j).1 + t + 1)
    show findS _ l (((nameC c d j).1 + (t + 1) + 1) :: stk ((nameC c d j).1 + t + 1)) _ = _
    have hg := getD_range d _ (fnC c d j u) hn
    rw [hr] at ih ⊢
    rw [find_out (by rw [hg]; exact named_far hc hd hj hn (by omega) _ _) (by rw [hg]; exact place_far hc hd hj _) ih (show (2 : Nat) ≠ 3 by decide) (by rw [hg, hl]; omega), hg, hl]
    refine congrArg (fun x => FindS.ok x _) ?_
    simp only [outerBox, midC]
    rw [modify_range]
    refine List.map_congr_left fun m hm => ?_
    have hm' := List.mem_range.1 hm
    have hu := up_fn hd (u := u) (n := (nameC c d j).1 + (t + 1) + 1) hj (by omega)
    have hue : upE c d ((nameC c d j).1 + (t + 1) + 1) j = ⟨false, j, textC c d j⟩ := by simp [upE]
    rw [hue] at hu
    by_cases e1 : m = (nameC c d j).1 + (t + 1) + 1
    · subst e1
      rw [if_pos rfl, if_neg (by omega), if_pos ⟨by omega, by omega⟩]
      exact hu
    · rw [if_neg e1]
      by_cases e2 : (nameC c d j).1 ≤ m ∧ m ≤ (nameC c d j).1 + t + 1
      · rw [if_pos e2, if_pos ⟨e2.1, by omega⟩]
      · rw [if_neg e2, if_neg (by omega)]
theorem fn_uses {j u u' m : Nat} (hm : m + 1 ≠ d) : fnC c d j u m = fnC c d j u' m := by simp [fnC, hm]
/-- What does not come to name j is not changed by it. -/
theorem fn_same {j u m : Nat} (h : ∀ k, k < c m → m + 1 < d → posC c m + k < j ∨ j < posC c m + k) (hp : posC c m ≤ j) : fnC c d j u m = fnC c d (j + 1) u m := by
  have e1 : (List.range (c m)).map (locC c d j m) = (List.range (c m)).map (locC c d (j + 1) m) := by
    refine List.map_congr_left fun k hk => ?_
    have hk' := List.mem_range.1 hk
    simp only [locC, LocS.mk.injEq, true_and, decide_eq_decide]
    constructor
    · exact fun ⟨a, b⟩ => ⟨a, by omega⟩
    · intro ⟨a, b⟩
      have := h k hk' a
      exact ⟨a, by omega⟩
  have e2 : min j (posC c m) = min (j + 1) (posC c m) := by omega
  simp only [fnC, e1, e2]
theorem fn_use {j i m : Nat} (hm : m + 1 = d) : (fnC c d j i m).addUse (useE c d i) = fnC c d j (i + 1) m := by
  simp only [FnS.addUse, fnC, if_pos hm, List.range_succ, List.map_append]
  rfl
theorem use_step (hc : ∀ n, c n ≤ 4) (hd : d ≤ 6) {j e p : Nat} (he : e + 1 = d) (hj : j < posC c d) (l : Int) :
    useS (textC c d j) l ⟨(List.range d).map (fnC c d j j), stk e, p⟩ = .ok ⟨(List.range d).map (fnC c d (j + 1) (j + 1)), stk e, p⟩ := by
  obtain ⟨h1, h2, h3⟩ := name_at hd hj
  obtain ⟨r, hr⟩ := stk_cons e
  have hcur : (StS.cur ⟨(List.range d).map (fnC c d j j), stk e, p⟩) = e := by rw [hr]; rfl
  have hfn : (StS.fn ⟨(List.range d).map (fnC c d j j), stk e, p⟩) = fnC c d j j e := by
    unfold StS.fn; rw [hcur]; exact getD_range d e _ (by omega)
  have hpos := posC_small hc d
  have hul : (fnC c d j j e).uses.length = j := by simp [fnC, he]
  have old : ∀ m, m < (nameC c d j).1 → fnC c d j j m = fnC c d (j + 1) j m := fun m hm => by
    have a := posC_le c (show m + 1 ≤ (nameC c d j).1 by omega)
    rw [posC] at a
    exact fn_same (fun k hk _ => by omega) (by omega)
  unfold useS
  rw [hfn, hul, if_neg (by omega)]
  by_cases ho : (nameC c d j).1 = e
  · have hf := find_own hc hd (u := j) hj l
    rw [ho] at hf
    rw [hf]
    have hu : (⟨1, (nameC c d j).2, some (nameC c d j).2⟩ : UseS) = useE c d j := by rw [useE, ho, if_pos he]
    simp only [hcur]
    refine congrArg ResS.ok (congrArg (fun x => (⟨x, stk e, p⟩ : StS)) ?_)
    rw [modify_range, hu]
    refine List.map_congr_left fun m hm => ?_
    have hm' := List.mem_range.1 hm
    by_cases e1 : m = e
    · subst e1
      rw [if_pos rfl, fn_use he]
      exact fn_same (fun k _ h => by omega) (by rw [← ho]; omega)
    · rw [if_neg e1, old m (by omega)]
      exact fn_uses (by omega)
  · obtain ⟨t, ht⟩ : ∃ t, e = (nameC c d j).1 + t + 1 := ⟨e - (nameC c d j).1 - 1, by omega⟩
    have hf := find_up hc hd (u := j) hj l t (by omega)
    rw [← ht] at hf
    rw [hf]
    have hu : (⟨2, j, none⟩ : UseS) = useE c d j := by rw [useE, if_neg (by omega)]
    simp only [hcur]
    refine congrArg ResS.ok (congrArg (fun x => (⟨x, stk e, p⟩ : StS)) ?_)
    rw [midC, modify_range, hu]
    refine List.map_congr_left fun m hm => ?_
    have hm' := List.mem_range.1 hm
    by_cases e1 : m = e
    · subst e1
      rw [if_pos rfl, if_pos ⟨by omega, Nat.le_refl _⟩, fn_use he]
    · rw [if_neg e1]
      by_cases e2 : (nameC c d j).1 ≤ m
      · rw [if_pos ⟨e2, by omega⟩]
        exact fn_uses (by omega)
      · rw [if_neg (fun h => e2 h.1), old m (by omega)]
        exact fn_uses (by omega)
end
end Go.Proofs.Ytlbbbfmnghcdnaa
