/- Plain words on graphs: what may be, who holds whom, how often. No walk, no program. -/
import Derived.Test.YtghnjmodnhnmfaaBase
import Derived.Test.YtghnjmodnhnmfaaValRefs
namespace Go.Proofs.Ytghnjmodnhnmfaa
set_option maxRecDepth 20000
set_option maxRecDepth 20000

/-- An object. -/
structure OB where
  kind : Int
  count : Int
  slots : List (Int × Int)
  text : ByteArray
  mark : Int
def thereB (g : List OB) (v : Int × Int) : Bool := match g[(v.2 - 1).toNat]? with
  | some o => o.kind == v.1
  | none => false
def slotB (g : List OB) (v : Int × Int) : Bool := mayB v.1 v.2 && !(v.1 == 0) && (!refB v.1 v.2 || thereB g v)
def kindOk (o : OB) : Bool := o.kind == 0 || (decide (5 ≤ o.kind) && decide (o.kind ≤ 9))
def numOk (o : OB) : Bool := if o.kind = 0 then o.count == 0 && o.mark == 0 else decide (0 ≤ o.count) && decide (-1 ≤ o.mark)
def textOk (o : OB) : Bool := o.kind == 5 || o.text.toList.isEmpty
def slotsOk (g : List OB) (o : OB) : Bool := if o.kind = 0 ∨ o.kind = 5 then decide (o.slots.length = 0) else o.slots.all (slotB g)
def objOk (g : List OB) (o : OB) : Bool := kindOk o && numOk o && textOk o && slotsOk g o
def checkB (g : List OB) : Bool := g.all (objOk g)

/-- The numbers of the objects of which p says yes. -/
def whichL (p : Nat → OB → Bool) (g : List OB) : List Nat := (g.zipIdx.filter fun x => p (x.2 + 1) x.1).map fun x => x.2 + 1
theorem which_snoc {p : Nat → OB → Bool} {g : List OB} {k : Nat} {o : OB} (h : g[k]? = some o) : whichL p (g.take (k + 1)) = whichL p (g.take k) ++ if p (k + 1) o then [k + 1] else [] := by
  have hk : k < g.length := (List.getElem?_eq_some_iff.1 h).1
  have hl : (g.take k).length = k := by rw [List.length_take]; omega
  unfold whichL
  rw [List.take_add_one, h, List.zipIdx_append, List.filter_append, List.map_append]
  congr 1
  simp only [Option.toList_some, List.zipIdx_cons, List.zipIdx_nil, hl, Nat.zero_add, List.filter_cons, List.filter_nil]
  split <;> simp
theorem which_snoc_yes {p : Nat → OB → Bool} {g : List OB} {k : Nat} {o : OB} (h : g[k]? = some o) (hp : p (k + 1) o = true) : whichL p (g.take (k + 1)) = whichL p (g.take k) ++ [k + 1] := by
  rw [which_snoc h, if_pos hp]
theorem which_snoc_no {p : Nat → OB → Bool} {g : List OB} {k : Nat} {o : OB} (h : g[k]? = some o) (hp : p (k + 1) o = false) : whichL p (g.take (k + 1)) = whichL p (g.take k) := by
  rw [which_snoc h, hp]; simp
theorem which_len (p : Nat → OB → Bool) (g : List OB) : (whichL p g).length ≤ g.length := by
  unfold whichL; rw [List.length_map]; exact Nat.le_trans (List.length_filter_le _ _) (by simp)
theorem which_all {p : Nat → OB → Bool} {g : List OB} : (whichL p g).length = g.length ↔ ∀ k o, g[k]? = some o → p (k + 1) o = true := by
  unfold whichL
  rw [List.length_map]
  have e : g.zipIdx.length = g.length := List.length_zipIdx
  rw [← e, List.length_filter_eq_length_iff]
  constructor
  · intro h k o hk
    exact h (o, k) (List.mem_zipIdx_iff_getElem?.2 hk)
  · rintro h ⟨o, k⟩ hx
    exact h k o (List.mem_zipIdx_iff_getElem?.1 hx)
theorem which_congr {p q : Nat → OB → Bool} {g : List OB} (h : ∀ k o, g[k]? = some o → p (k + 1) o = q (k + 1) o) : whichL p g = whichL q g := by
  unfold whichL
  rw [List.filter_congr]
  rintro ⟨o, k⟩ hx
  exact h k o (List.mem_zipIdx_iff_getElem?.1 hx)
theorem which_check {g : List OB} : ((whichL (fun _ o => objOk g o) g).length = g.length) ↔ checkB g = true := by
  rw [which_all]
  unfold checkB
  rw [List.all_eq_true]
  constructor
  · intro h o ho
    obtain ⟨k, hk⟩ := List.getElem?_of_mem ho
    exact h k o hk
  · intro h k o hk
    exact h o (List.mem_of_getElem? hk)

/-- All that slots hold, one by one. -/
def allRefs (g : List OB) : List Int := g.flatMap fun o => refsL o.slots
theorem allRefs_snoc {g : List OB} {k : Nat} {o : OB} (h : g[k]? = some o) : allRefs (g.take (k + 1)) = allRefs (g.take k) ++ refsL o.slots := by
  unfold allRefs; rw [List.take_add_one, h]; simp
theorem refs_range {l : List (Int × Int)} {x : Int} (h : x ∈ refsL l) : 1 ≤ x ∧ x ≤ 2147483647 := by
  unfold refsL at h
  obtain ⟨p, hp, rfl⟩ := List.mem_map.1 h
  obtain ⟨_, hr⟩ := List.mem_filter.1 hp
  have := refB_iff.1 hr
  have := mayB_iff.1 this.1
  omega
theorem all_range {g : List OB} {x : Int} (h : x ∈ allRefs g) : 1 ≤ x ∧ x ≤ 2147483647 := by
  unfold allRefs at h
  obtain ⟨o, _, ho⟩ := List.mem_flatMap.1 h
  exact refs_range ho
/-- What slots hold is there, of a graph that may be. -/
theorem refs_there {g : List OB} (hg : checkB g = true) {o : OB} (ho : o ∈ g) {x : Int} (hx : x ∈ refsL o.slots) : ∃ y, g[(x - 1).toNat]? = some y ∧ 5 ≤ y.kind := by
  unfold checkB at hg
  have h := List.all_eq_true.1 hg o ho
  simp only [objOk, Bool.and_eq_true] at h
  obtain ⟨⟨⟨_, _⟩, _⟩, hs⟩ := h
  unfold refsL at hx
  obtain ⟨p, hp, rfl⟩ := List.mem_map.1 hx
  obtain ⟨hm, hr⟩ := List.mem_filter.1 hp
  unfold slotsOk at hs
  split at hs
  · have : o.slots = [] := List.length_eq_zero_iff.1 (by simpa using hs)
    rw [this] at hm; cases hm
  · have h2 := List.all_eq_true.1 hs p hm
    simp only [slotB, Bool.and_eq_true, Bool.or_eq_true] at h2
    obtain ⟨_, h3⟩ := h2
    rcases h3 with h3 | h3
    · rw [hr] at h3; cases h3
    · unfold thereB at h3
      cases hy : g[(p.2 - 1).toNat]? with
      | none => rw [hy] at h3; cases h3
      | some y =>
        rw [hy] at h3
        refine ⟨y, rfl, ?_⟩
        have := (refB_iff.1 hr).2
        have e : y.kind = p.1 := by simpa using h3
        omega
theorem all_there {g : List OB} (hg : checkB g = true) {x : Int} (hx : x ∈ allRefs g) : 1 ≤ x ∧ ∃ y, g[(x - 1).toNat]? = some y ∧ 5 ≤ y.kind := by
  have h1 := (all_range hx).1
  unfold allRefs at hx
  obtain ⟨o, ho, hx⟩ := List.mem_flatMap.1 hx
  exact ⟨h1, refs_there hg ho hx⟩
/-- Numbers that all lie from 1 to n: how often each is there, all together, is how many there are. -/
theorem sum_counts : ∀ (n : Nat) (l : List Int), (∀ x ∈ l, 1 ≤ x ∧ x ≤ n) → ((List.range n).map fun (i : Nat) => l.count ((i : Int) + 1)).sum = l.length
  | 0, l, h => by
    cases l with
    | nil => rfl
    | cons x r => have := h x (by simp); omega
  | n + 1, l, h => by
    have ih := sum_counts n (l.filter fun x => decide (x ≠ (n : Int) + 1)) (fun x hx => by
      obtain ⟨h1, h2⟩ := List.mem_filter.1 hx
      have := h x h1
      have : x ≠ (n : Int) + 1 := by simpa using h2
      omega)
    rw [List.range_succ, List.map_append, List.sum_append]
    have e : ((List.range n).map fun (i : Nat) => l.count ((i : Int) + 1)) = (List.range n).map fun (i : Nat) => (l.filter fun x => decide (x ≠ (n : Int) + 1)).count ((i : Int) + 1) := by
      refine List.map_congr_left fun i hi => ?_
      have hi := List.mem_range.1 hi
      rw [List.count_filter]
      simp; omega
    rw [e, ih]
    have : l.countP (fun x => decide (x ≠ (n : Int) + 1)) + l.count ((n : Int) + 1) = l.length := by
      have := List.length_eq_countP_add_countP (fun x => decide (x ≠ (n : Int) + 1)) (l := l)
      rw [this]
      congr 1
      unfold List.count
      refine List.countP_congr fun x _ => ?_
      simp
    rw [← List.countP_eq_length_filter]
    simpa using this
end Go.Proofs.Ytghnjmodnhnmfaa
