/- Plain words on From, Lost and Path: who is in them, how many, and what the roots and the slots lead to. No walk. -/
import Derived.Test.YtiocfnpfmilkgaaRcOwn
import Derived.Test.YtiocfnpfmilkgaaRcFrom
import Derived.Test.YtiocfnpfmilkgaaRcPath
namespace Go.Proofs.Ytiocfnpfmilkgaa
set_option maxRecDepth 20000

theorem which_rise (p : Nat → OB → Bool) (g : List OB) : (whichL p g).Pairwise (· < ·) := by
  unfold whichL
  rw [List.pairwise_map]
  refine List.Pairwise.filter _ (List.pairwise_iff_getElem.2 fun i j hi hj hij => ?_)
  rw [List.getElem_zipIdx, List.getElem_zipIdx]
  simp only
  omega
theorem which_mem {p : Nat → OB → Bool} {g : List OB} {m : Nat} : m ∈ whichL p g ↔ ∃ k o, m = k + 1 ∧ g[k]? = some o ∧ p m o = true := by
  unfold whichL
  rw [List.mem_map]
  constructor
  · rintro ⟨⟨o, k⟩, h, rfl⟩
    obtain ⟨h1, h2⟩ := List.mem_filter.1 h
    exact ⟨k, o, rfl, List.mem_zipIdx_iff_getElem?.1 h1, h2⟩
  · rintro ⟨k, o, rfl, h1, h2⟩
    exact ⟨(o, k), List.mem_filter.2 ⟨List.mem_zipIdx_iff_getElem?.2 h1, h2⟩, rfl⟩
theorem which_has {p : Nat → OB → Bool} {g : List OB} {k : Nat} {o : OB} (h : g[k]? = some o) : k + 1 ∈ whichL p g ↔ p (k + 1) o = true := by
  rw [which_mem]
  constructor
  · rintro ⟨j, o', e, h1, h2⟩
    obtain rfl : k = j := by omega
    rw [h] at h1; injection h1 with h1; subst h1; exact h2
  · intro h2; exact ⟨k, o, rfl, h, h2⟩
theorem ints_mem {l : List Nat} {m : Int} : m ∈ intsOf l ↔ ∃ n : Nat, m = n ∧ n ∈ l := by
  unfold intsOf
  rw [List.mem_map]
  constructor
  · rintro ⟨n, h, rfl⟩; exact ⟨n, rfl, h⟩
  · rintro ⟨n, rfl, h⟩; exact ⟨n, h, rfl⟩
theorem ints_has {l : List Nat} {n : Nat} : (n : Int) ∈ intsOf l ↔ n ∈ l := by
  rw [ints_mem]
  constructor
  · rintro ⟨m, e, h⟩; obtain rfl : n = m := by omega
    exact h
  · intro h; exact ⟨n, rfl, h⟩
theorem ints_rise {l : List Nat} (h : l.Pairwise (· < ·)) : (intsOf l).Pairwise (· < ·) := by
  unfold intsOf
  rw [List.pairwise_map]
  exact h.imp (fun h => by omega)
theorem from_rise (g : List OB) (l : List (Int × Int)) (can : Bool) : (intsOf (fromL g l can)).Pairwise (· < ·) := by
  refine ints_rise ?_
  unfold fromL; split
  · exact which_rise _ _
  · exact List.Pairwise.nil
theorem from_len (g : List OB) (l : List (Int × Int)) (can : Bool) : (intsOf (fromL g l can)).length ≤ g.length := by
  rw [intsOf_len]
  unfold fromL; split
  · exact which_len _ _
  · exact Nat.zero_le _
theorem from_has {g : List OB} (hc : checkB g = true) {l : List (Int × Int)} {can : Bool} {m : Nat} : m ∈ fromL g l can ↔ thereN g m = true ∧ reachB g (objsN g l) m = can := by
  unfold fromL
  rw [hc, if_pos rfl, which_mem]
  constructor
  · rintro ⟨k, o, rfl, h1, h2⟩
    rw [there_succ, h1]
    simpa using h2
  · rintro ⟨h1, h2⟩
    obtain ⟨k, rfl⟩ : ∃ k, m = k + 1 := ⟨m - 1, by have := (there_le h1).1; omega⟩
    rw [there_succ] at h1
    cases ho : g[k]? with
    | none => rw [ho] at h1; cases h1
    | some o => rw [ho] at h1; exact ⟨k, o, rfl, ho, by simp only at h1; rw [h1, h2]; simp⟩
theorem from_dec {g : List OB} (hc : checkB g = true) (l : List (Int × Int)) (can : Bool) {k : Nat} {o : OB} (h : g[k]? = some o) : decide ((k : Int) + 1 ∈ intsOf (fromL g l can)) = (o.kind != 0 && (reachB g (objsN g l) (k + 1) == can)) := by
  rw [Bool.eq_iff_iff, decide_eq_true_iff, show (k : Int) + 1 = ((k + 1 : Nat) : Int) by omega, ints_has, from_has hc, there_succ, h, Bool.and_eq_true, beq_iff_eq]
theorem which_split (p q : Nat → OB → Bool) (g : List OB) : ∀ k, k ≤ g.length → (whichL p (g.take k)).length = (whichL (fun m o => p m o && (q m o == true)) (g.take k)).length + (whichL (fun m o => p m o && (q m o == false)) (g.take k)).length
  | 0, _ => by simp [whichL]
  | k + 1, hk => by
    have ih := which_split p q g k (by omega)
    obtain ⟨o, ho⟩ : ∃ o, g[k]? = some o := ⟨_, List.getElem?_eq_getElem (by omega)⟩
    rw [which_snoc ho, which_snoc ho, which_snoc ho]
    simp only [List.length_append]
    generalize (whichL p (g.take k)).length = a at *
    generalize (whichL (fun m o => p m o && (q m o == true)) (g.take k)).length = b at *
    generalize (whichL (fun m o => p m o && (q m o == false)) (g.take k)).length = c at *
    cases p (k + 1) o <;> cases q (k + 1) o <;> simp <;> omega
/-- How many of the first k are there. -/
def ctN (g : List OB) (k : Nat) : Nat := (whichL (fun _ o => o.kind != 0) (g.take k)).length
theorem ct_snoc {g : List OB} {k : Nat} {o : OB} (h : g[k]? = some o) : ctN g (k + 1) = ctN g k + if (o.kind != 0) = true then 1 else 0 := by
  unfold ctN
  rw [which_snoc h, List.length_append]
  split <;> rfl
theorem ct_le (g : List OB) (k : Nat) : ctN g k ≤ k := Nat.le_trans (which_len _ _) (List.length_take_le _ _)
theorem ct_full {g : List OB} (hc : checkB g = true) (l : List (Int × Int)) : ctN g g.length = (intsOf (fromL g l true)).length + (intsOf (fromL g l false)).length := by
  rw [intsOf_len, intsOf_len]
  unfold ctN fromL
  rw [hc, if_pos rfl, if_pos rfl, which_split _ (fun m _ => reachB g (objsN g l) m) g g.length (Nat.le_refl _), List.take_of_length_le (Nat.le_refl _)]
theorem at_nat {g : List OB} {x : Int} (h1 : 1 ≤ x) {o : OB} (h : g[(x - 1).toNat]? = some o) : ∃ k : Nat, x = (k : Int) + 1 ∧ g[k]? = some o := ⟨(x - 1).toNat, by omega, h⟩
theorem from_start {g : List OB} (hc : checkB g = true) {l : List (Int × Int)} {x : Int} (hx : x ∈ refsL l) {o : OB} (h : g[(x - 1).toNat]? = some o) (hk : o.kind ≠ 0) : x ∈ intsOf (fromL g l true) := by
  obtain ⟨k, e, ho⟩ := at_nat (refs_range hx).1 h
  have ht : thereN g (k + 1) = true := by rw [there_succ, ho]; simpa using hk
  rw [e, show (k : Int) + 1 = ((k + 1 : Nat) : Int) by omega, ints_has, from_has hc, reachB_iff]
  refine ⟨ht, .root ?_⟩
  unfold objsN
  exact List.mem_filter.2 ⟨List.mem_map.2 ⟨x, hx, by omega⟩, ht⟩
theorem from_at {g : List OB} (hc : checkB g = true) {l : List (Int × Int)} {m : Int} (h : m ∈ intsOf (fromL g l true)) : ∃ (k : Nat) (o : OB), m = (k : Int) + 1 ∧ g[k]? = some o ∧ ∀ x ∈ refsL o.slots, x ∈ intsOf (fromL g l true) := by
  obtain ⟨n, rfl, hn⟩ := ints_mem.1 h
  obtain ⟨ht, hr⟩ := (from_has hc).1 hn
  rw [reachB_iff] at hr
  obtain ⟨k, rfl⟩ : ∃ k, n = k + 1 := ⟨n - 1, by have := (there_le ht).1; omega⟩
  rw [there_succ] at ht
  cases ho : g[k]? with
  | none => rw [ho] at ht; cases ht
  | some o =>
    refine ⟨k, o, by omega, ho, fun x hx => ?_⟩
    have hh : x.toNat ∈ heldN g (k + 1) := by rw [held_succ, ho]; exact List.mem_map.2 ⟨x, hx, rfl⟩
    have := refs_range hx
    rw [show x = ((x.toNat : Nat) : Int) by omega, ints_has, from_has hc, reachB_iff]
    exact ⟨held_there hc hh, .step hr hh⟩
theorem reach_one {g : List OB} {S : List Nat} {m : Nat} (h : Rch g S m) : ∃ r ∈ S, Rch g [r] m := by
  induction h with
  | root h => exact ⟨_, h, .root (by simp)⟩
  | step _ hx ih => obtain ⟨r, hr, h⟩ := ih; exact ⟨r, hr, .step h hx⟩
theorem refs_single {k n : Int} (h : refB k n = true) : refsL [(k, n)] = [n] := by simp [refsL, h]
theorem path_some {g : List OB} (hc : checkB g = true) {r : Int × Int} {a b : Nat} (hb : thereN g b = true) (hr : objsN g [r] = [a]) (h : Rch g [a] b) : pathI g r (b : Int) = wayL g (distF g b) (distF g b a - 1) a ∧ distF g b a ≠ 0 := by
  obtain ⟨k, hk⟩ := way_of_reach h
  have hd := ((dist_is g b).least a k hk).1
  refine ⟨?_, hd⟩
  unfold pathI pathL
  rw [if_pos (by have := (there_le hb).1; omega), Int.toNat_natCast, hc, hb, hr]
  simp [hd]
theorem from_led {g : List OB} (hc : checkB g = true) {l : List (Int × Int)} {m : Int} (h : m ∈ intsOf (fromL g l true)) : ∃ (i : Nat) (s : Int), (refsL l)[i]? = some s ∧ 0 < (pathI g (6, s) m).length := by
  obtain ⟨n, rfl, hn⟩ := ints_mem.1 h
  obtain ⟨ht, hr⟩ := (from_has hc).1 hn
  rw [reachB_iff] at hr
  obtain ⟨r, hS, hr⟩ := reach_one hr
  obtain ⟨h1, h2⟩ := List.mem_filter.1 hS
  obtain ⟨s, hs, rfl⟩ := List.mem_map.1 h1
  obtain ⟨i, hi⟩ := List.getElem?_of_mem hs
  have hrg := refs_range hs
  refine ⟨i, s, hi, ?_⟩
  have e : objsN g [(6, s)] = [s.toNat] := by
    unfold objsN
    rw [refs_single (refB_iff.2 ⟨mayB_iff.2 (by omega), by omega⟩)]
    simp [h2]
  rw [(path_some hc ht e hr).1, wayL_len]
  omega
theorem own_held (g : List OB) (m : Nat) : (heldN (ownG g) m).length ≤ 1048576 := by
  cases m with
  | zero => exact Nat.zero_le _
  | succ k =>
    rw [held_succ]
    cases h : (ownG g)[k]? with
    | none => exact Nat.zero_le _
    | some o =>
      have h1 := own_slots (List.mem_of_getElem? h)
      have h2 := refsL_len o.slots
      simp only [List.length_map]
      omega
end Go.Proofs.Ytiocfnpfmilkgaa
