/- Plain words on ways: what stands in one, and that none is shorter by a holder. No walk. -/
import Derived.Test.YtiocfnpfmilkgaaRcLawM
import Derived.Test.YtiocfnpfmilkgaaGrRefD
namespace Go.Proofs.Ytiocfnpfmilkgaa
set_option maxRecDepth 20000

theorem way_props {g : List OB} (hg : checkB g = true) {b : Nat} {f : Nat → Nat} (hf : Dist g b f) : ∀ (k a : Nat), f a = k + 1 →
    (∀ i x, (wayL g f k a)[i]? = some x → f x = k + 1 - i) ∧ (∀ i x y, (wayL g f k a)[i]? = some x → (wayL g f k a)[i + 1]? = some y → y ∈ heldN g x)
  | 0, a, ha => by
    refine ⟨fun i x hx => ?_, fun i x y hx hy => ?_⟩
    · cases i with
      | zero => simp [wayL] at hx; subst hx; omega
      | succ i => simp [wayL] at hx
    · simp [wayL] at hy
  | k + 1, a, ha => by
    obtain ⟨n1, n2⟩ := near_next hg hf (k := k) ha
    obtain ⟨p1, p2⟩ := way_props hg hf k _ n2
    refine ⟨fun i x hx => ?_, fun i x y hx hy => ?_⟩
    · cases i with
      | zero => simp [wayL] at hx; subst hx; omega
      | succ i =>
        simp only [wayL, List.getElem?_cons_succ] at hx
        have := p1 i x hx
        omega
    · cases i with
      | zero =>
        simp only [wayL, List.getElem?_cons_zero, List.getElem?_cons_succ] at hx hy
        injection hx with hx; subst hx
        have h0 : (wayL g f k (minN (nearN g f a)))[0]? = some (minN (nearN g f a)) := by cases k <;> rfl
        rw [h0] at hy; injection hy with hy; subst hy
        exact n1
      | succ i =>
        simp only [wayL, List.getElem?_cons_succ] at hx hy
        exact p2 i x y hx hy
theorem path_parts {g : List OB} {r : Int × Int} {m : Int} (h : pathI g r m ≠ []) : ∃ a b : Nat, checkB g = true ∧ m = (b : Int) ∧ thereN g b = true ∧ objsN g [r] = [a] ∧ r.2 = (a : Int) ∧ distF g b a ≠ 0 ∧ pathI g r m = wayL g (distF g b) (distF g b a - 1) a := by
  unfold pathI at h ⊢
  split at h
  case isFalse => exact absurd rfl h
  case isTrue h1 =>
    rw [if_pos h1]
    unfold pathL at h ⊢
    split at h
    case isFalse => exact absurd rfl h
    case isTrue h2 =>
      rw [if_pos h2]
      rw [Bool.and_eq_true] at h2
      rcases objs_one g r with h3 | ⟨a, h3, _⟩
      · rw [h3] at h; exact absurd rfl h
      · rw [h3] at h ⊢
        simp only at h ⊢
        split at h
        case isTrue => exact absurd rfl h
        case isFalse h4 =>
          refine ⟨a, m.toNat, h2.1, by omega, h2.2, rfl, ?_, h4, by rw [if_neg h4]⟩
          have hm : a ∈ objsN g [r] := by rw [h3]; simp
          obtain ⟨q1, _⟩ := List.mem_filter.1 hm
          obtain ⟨x, hx, rfl⟩ := List.mem_map.1 q1
          have hr := refs_range hx
          have : x = r.2 := by
            unfold refsL at hx
            obtain ⟨p, hp, rfl⟩ := List.mem_map.1 hx
            have := (List.mem_filter.1 hp).1
            simp at this; rw [this]
          omega
theorem path_none {g : List OB} {r : Int × Int} {m : Int} (h : pathI g r m = []) : ¬ m ∈ intsOf (fromL g [r] true) := by
  intro hm
  obtain ⟨n, rfl, hn⟩ := ints_mem.1 hm
  cases hc : checkB g with
  | false => unfold fromL at hn; rw [hc] at hn; simp at hn
  | true =>
    obtain ⟨h1, h2⟩ := (from_has hc).1 hn
    rw [reachB_iff] at h2
    obtain ⟨a, ha, h3⟩ := reach_one h2
    have hl := objs_len g [r]
    have e : objsN g [r] = [a] := by
      rcases objs_one g r with h4 | ⟨a', h4, _⟩
      · rw [h4] at ha; cases ha
      · rw [h4] at ha ⊢; simp at ha; rw [ha]
    rw [(path_some hc h1 e h3).1] at h
    have := congrArg List.length h
    rw [wayL_len] at this
    simp at this
theorem held_iff {g : List OB} {j : Nat} {o : OB} (ho : g[j]? = some o) {y : Nat} : (y : Int) ∈ refsL o.slots ↔ y ∈ heldN g (j + 1) := by
  rw [held_succ, ho]
  constructor
  · intro h; exact List.mem_map.2 ⟨_, h, by simp⟩
  · intro h
    obtain ⟨x, hx, rfl⟩ := List.mem_map.1 h
    have := refs_range hx
    rw [show ((x.toNat : Nat) : Int) = x by omega]; exact hx
theorem path_facts {g : List OB} {r : Int × Int} {m : Int} (h : pathI g r m ≠ []) :
    (intsOf (pathI g r m))[0]? = some r.2 ∧ (∃ l : Nat, l + 1 = (intsOf (pathI g r m)).length ∧ (intsOf (pathI g r m))[l]? = some m) ∧ m ∈ intsOf (fromL g [r] true) ∧
    (intsOf (pathI g r m)).length ≤ g.length ∧
    ∀ i k x y, i < k → (intsOf (pathI g r m))[i]? = some x → (intsOf (pathI g r m))[k]? = some y → (x == y) = false ∧ ∃ (j : Nat) (o : OB), x - 1 = (j : Int) ∧ g[j]? = some o ∧ decide (y ∈ refsL o.slots) = decide (k = i + 1) := by
  obtain ⟨a, b, hc, rfl, hb, hO, hr, hd, hP⟩ := path_parts h
  obtain ⟨k, hk⟩ : ∃ k, distF g b a = k + 1 := ⟨distF g b a - 1, by omega⟩
  have hD := dist_is g b
  obtain ⟨p1, p2⟩ := way_props hc hD k a hk
  rw [hk, Nat.add_sub_cancel] at hP
  have hlen : (pathI g r (b : Int)).length = k + 1 := by rw [hP, wayL_len]
  rw [← hP] at p1 p2
  have h0 : (pathI g r (b : Int))[0]? = some a := by rw [hP]; cases k <;> rfl
  have hget : ∀ i x, (intsOf (pathI g r (b : Int)))[i]? = some x → ∃ n : Nat, x = (n : Int) ∧ (pathI g r (b : Int))[i]? = some n := fun i x hx => by
    unfold intsOf at hx
    rw [List.getElem?_map, Option.map_eq_some_iff] at hx
    obtain ⟨n, h1, rfl⟩ := hx
    exact ⟨n, rfl, h1⟩
  refine ⟨by unfold intsOf; rw [List.getElem?_map, h0, hr]; rfl, ⟨k, by rw [intsOf_len, hlen], ?_⟩, ?_, ?_, ?_⟩
  · obtain ⟨x, hx⟩ : ∃ x, (pathI g r (b : Int))[k]? = some x := ⟨_, List.getElem?_eq_getElem (by omega)⟩
    have := p1 k x hx
    have hxb : x = b := hD.one (by omega)
    unfold intsOf
    rw [List.getElem?_map, hx, hxb]; rfl
  · rw [ints_has, from_has hc, reachB_iff]
    refine ⟨hb, ?_⟩
    rw [hO]
    exact (hD.way a hd).reach
  · rw [intsOf_len, hlen, ← hk]
    exact hD.le hc hb a
  · intro i q x y hiq hx hy
    obtain ⟨nx, rfl, hx2⟩ := hget i x hx
    obtain ⟨ny, rfl, hy2⟩ := hget q y hy
    have fx := p1 i nx hx2
    have fy := p1 q ny hy2
    have hq : q < k + 1 := by have := (List.getElem?_eq_some_iff.1 hy2).1; omega
    refine ⟨?_, ?_⟩
    · rw [beq_eq_false_iff_ne]
      intro e
      obtain rfl : nx = ny := by omega
      omega
    · have ht := hD.there hc hb (a := nx) (by omega)
      obtain ⟨j, rfl⟩ : ∃ j, nx = j + 1 := ⟨nx - 1, by have := (there_le ht).1; omega⟩
      have hj := ht
      rw [there_succ] at hj
      cases ho : g[j]? with
      | none => rw [ho] at hj; cases hj
      | some o =>
        refine ⟨j, o, by omega, ho, ?_⟩
        rw [Bool.eq_iff_iff, decide_eq_true_iff, decide_eq_true_iff, held_iff ho]
        constructor
        · intro hh
          have := hD.held hh (by omega)
          omega
        · rintro rfl
          exact p2 i _ _ hx2 hy2
theorem holds_mem {n : Int} {o : OB} (h : holdsB n o = true) : n ∈ refsL o.slots := by
  rw [holds_count, decide_eq_true_iff, List.count_pos_iff] at h
  exact h
theorem path_holder {g : List OB} {r : Int × Int} {m x : Int} (h : pathI g r m ≠ []) (hx : x ∈ holdersL g m) : 1 ≤ x ∧ x ≤ g.length ∧ (0 < (intsOf (pathI g r x)).length → (intsOf (pathI g r m)).length ≤ (intsOf (pathI g r x)).length + 1) := by
  obtain ⟨a, b, hc, rfl, hb, hO, hr, hd, hP⟩ := path_parts h
  unfold holdersL at hx
  rw [hc, if_pos rfl] at hx
  obtain ⟨n, rfl, hn⟩ := ints_mem.1 hx
  obtain ⟨q, o, rfl, ho, hh⟩ := which_mem.1 hn
  have hq := (List.getElem?_eq_some_iff.1 ho).1
  refine ⟨by omega, by omega, fun hp => ?_⟩
  rw [intsOf_len] at hp
  have hne : pathI g r ((q + 1 : Nat) : Int) ≠ [] := by intro e; rw [e] at hp; simp at hp
  obtain ⟨a', b', _, eb, hb', hO', _, hd', hP'⟩ := path_parts hne
  obtain rfl : q + 1 = b' := by omega
  have ea : a = a' := by rw [hO] at hO'; injection hO'
  subst ea
  have hbh : b ∈ heldN g (q + 1) := (held_iff ho).1 (holds_mem hh)
  have hw := ((dist_is g (q + 1)).way a hd').more hbh
  have := ((dist_is g b).least a _ hw).2
  rw [intsOf_len, intsOf_len, hP, hP', wayL_len, wayL_len]
  omega
end Go.Proofs.Ytiocfnpfmilkgaa
