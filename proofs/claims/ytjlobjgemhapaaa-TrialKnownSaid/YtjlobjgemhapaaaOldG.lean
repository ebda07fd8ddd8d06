/- GrMath: Plain words on graphs: what may be, who holds whom, how often. No walk, no program. | GrMap: A map from numbers to numbers that the program counts in, as a plain function; its keys are objects' numbers, so it has room. No walk. | GrState: A graph in memory; what is asked of an object, and of a value, by a function that is handed in. No walk. | GrFunc: slices.ContainsFunc, at values and at functions that ask. | GrAsk: What may be of an object: kindMay, numbersMay, textMay, slotsMay and what these ask. | GrWhich: graph.which and Check. | GrCount: graph.count: how often each number stands in slots, and in more. | GrInto: graph.Into. | GrExact: graph.Exact and Holders. -/
import Derived.Test.YtjlobjgemhapaaaOldV
import Derived.Test.YtjlobjgemhapaaaOldV
import Derived.Maps.OwnSet
import Derived.Deep.LoopGhost
import Derived.Shelf.Abstract
import Derived.Deep.RegionHeld3
import Derived.Deep.QuietTactic
import Derived.BigQuiet
import Derived.Laws.EntriesVeiled
import Derived.Test.YtjlobjgemhapaaaOldV
import Derived.Deep.AppendLies
import Derived.RegionTactic
import Derived.Deep.DeepCutAuto
import Derived.Laws.MakeOwn
import Derived.Laws.Tables
namespace Go.Proofs.Ytjlobjgemhapaaa
set_option maxRecDepth 20000
set_option maxRecDepth 20000

/-- An object. -/
structure OB where
  kind : Int
  count : Int
  slots : List (Int × Int)
  text : ByteArray
  mark : Int
def thereB (g : List OB) (v : Int × Int) : Bool := match g[(v.2 - 1).toNat]? with
  | some o => o.kind == v.1
  | none => false
def slotB (g : List OB) (v : Int × Int) : Bool := mayB v.1 v.2 && !(v.1 == 0) && (!refB v.1 v.2 || thereB g v)
def kindOk (o : OB) : Bool := o.kind == 0 || (decide (5 ≤ o.kind) && decide (o.kind ≤ 9))
def numOk (o : OB) : Bool := if o.kind = 0 then o.count == 0 && o.mark == 0 else decide (0 ≤ o.count) && decide (-1 ≤ o.mark)
def textOk (o : OB) : Bool := o.kind == 5 || o.text.toList.isEmpty
def slotsOk (g : List OB) (o : OB) : Bool := if o.kind = 0 ∨ o.kind = 5 then decide (o.slots.length = 0) else o.slots.all (slotB g)
def objOk (g : List OB) (o : OB) : Bool := kindOk o && numOk o && textOk o && slotsOk g o
def checkB (g : List OB) : Bool := g.all (objOk g)

/-- The numbers of the objects of which p says yes. -/
def whichL (p : Nat → OB → Bool) (g : List OB) : List Nat := (g.zipIdx.filter fun x => p (x.2 + 1) x.1).map fun x => x.2 + 1
theorem which_snoc {p : Nat → OB → Bool} {g : List OB} {k : Nat} {o : OB} (h : g[k]? = some o) : whichL p (g.take (k + 1)) = whichL p (g.take k) ++ if p (k + 1) o then [k + 1] else [] := by
  have hk : k < g.length := (List.getElem?_eq_some_iff.1 h).1
  have hl : (g.take k).length = k := by rw [List.length_take]; omega
  unfold whichL
  rw [List.take_add_one, h, List.zipIdx_append, List.filter_append, List.map_append]
  congr 1
  simp only [Option.toList_some, List.zipIdx_cons, List.zipIdx_nil, hl, Nat.zero_add, List.filter_cons, List.filter_nil]
  split <;> simp
theorem which_snoc_yes {p : Nat → OB → Bool} {g : List OB} {k : Nat} {o : OB} (h : g[k]? = some o) (hp : p (k + 1) o = true) : whichL p (g.take (k + 1)) = whichL p (g.take k) ++ [k + 1] := by
  rw [which_snoc h, if_pos hp]
theorem which_snoc_no {p : Nat → OB → Bool} {g : List OB} {k : Nat} {o : OB} (h : g[k]? = some o) (hp : p (k + 1) o = false) : whichL p (g.take (k + 1)) = whichL p (g.take k) := by
  rw [which_snoc h, hp]; simp
theorem which_len (p : Nat → OB → Bool) (g : List OB) : (whichL p g).length ≤ g.length := by
  unfold whichL; rw [List.length_map]; exact Nat.le_trans (List.length_filter_le _ _) (by simp)
theorem which_all {p : Nat → OB → Bool} {g : List OB} : (whichL p g).length = g.length ↔ ∀ k o, g[k]? = some o → p (k + 1) o = true := by
  unfold whichL
  rw [List.length_map]
  have e : g.zipIdx.length = g.length := List.length_zipIdx
  rw [← e, List.length_filter_eq_length_iff]
  constructor
  · intro h k o hk
    exact h (o, k) (List.mem_zipIdx_iff_getElem?.2 hk)
  · rintro h ⟨o, k⟩ hx
    exact h k o (List.mem_zipIdx_iff_getElem?.1 hx)
theorem which_congr {p q : Nat → OB → Bool} {g : List OB} (h : ∀ k o, g[k]? = some o → p (k + 1) o = q (k + 1) o) : whichL p g = whichL q g := by
  unfold whichL
  rw [List.filter_congr]
  rintro ⟨o, k⟩ hx
  exact h k o (List.mem_zipIdx_iff_getElem?.1 hx)
theorem which_check {g : List OB} : ((whichL (fun _ o => objOk g o) g).length = g.length) ↔ checkB g = true := by
  rw [which_all]
  unfold checkB
  rw [List.all_eq_true]
  constructor
  · intro h o ho
    obtain ⟨k, hk⟩ := List.getElem?_of_mem ho
    exact h k o hk
  · intro h k o hk
    exact h o (List.mem_of_getElem? hk)

/-- All that slots hold, one by one. -/
def allRefs (g : List OB) : List Int := g.flatMap fun o => refsL o.slots
theorem allRefs_snoc {g : List OB} {k : Nat} {o : OB} (h : g[k]? = some o) : allRefs (g.take (k + 1)) = allRefs (g.take k) ++ refsL o.slots := by
  unfold allRefs; rw [List.take_add_one, h]; simp
theorem refs_range {l : List (Int × Int)} {x : Int} (h : x ∈ refsL l) : 1 ≤ x ∧ x ≤ 2147483647 := by
  unfold refsL at h
  obtain ⟨p, hp, rfl⟩ := List.mem_map.1 h
  obtain ⟨_, hr⟩ := List.mem_filter.1 hp
  have := refB_iff.1 hr
  have := mayB_iff.1 this.1
  omega
theorem all_range {g : List OB} {x : Int} (h : x ∈ allRefs g) : 1 ≤ x ∧ x ≤ 2147483647 := by
  unfold allRefs at h
  obtain ⟨o, _, ho⟩ := List.mem_flatMap.1 h
  exact refs_range ho
/-- What slots hold is there, of a graph that may be. -/
theorem refs_there {g : List OB} (hg : checkB g = true) {o : OB} (ho : o ∈ g) {x : Int} (hx : x ∈ refsL o.slots) : ∃ y, g[(x - 1).toNat]? = some y ∧ 5 ≤ y.kind := by
  unfold checkB at hg
  have h := List.all_eq_true.1 hg o ho
  simp only [objOk, Bool.and_eq_true] at h
  obtain ⟨⟨⟨_, _⟩, _⟩, hs⟩ := h
  unfold refsL at hx
  obtain ⟨p, hp, rfl⟩ := List.mem_map.1 hx
  obtain ⟨hm, hr⟩ := List.mem_filter.1 hp
  unfold slotsOk at hs
  split at hs
  · have : o.slots = [] := List.length_eq_zero_iff.1 (by simpa using hs)
    rw [this] at hm; cases hm
  · have h2 := List.all_eq_true.1 hs p hm
    simp only [slotB, Bool.and_eq_true, Bool.or_eq_true] at h2
    obtain ⟨_, h3⟩ := h2
    rcases h3 with h3 | h3
    · rw [hr] at h3; cases h3
    · unfold thereB at h3
      cases hy : g[(p.2 - 1).toNat]? with
      | none => rw [hy] at h3; cases h3
      | some y =>
        rw [hy] at h3
        refine ⟨y, rfl, ?_⟩
        have := (refB_iff.1 hr).2
        have e : y.kind = p.1 := by simpa using h3
        omega
theorem all_there {g : List OB} (hg : checkB g = true) {x : Int} (hx : x ∈ allRefs g) : 1 ≤ x ∧ ∃ y, g[(x - 1).toNat]? = some y ∧ 5 ≤ y.kind := by
  have h1 := (all_range hx).1
  unfold allRefs at hx
  obtain ⟨o, ho, hx⟩ := List.mem_flatMap.1 hx
  exact ⟨h1, refs_there hg ho hx⟩
/-- Numbers that all lie from 1 to n: how often each is there, all together, is how many there are. -/
theorem sum_counts : ∀ (n : Nat) (l : List Int), (∀ x ∈ l, 1 ≤ x ∧ x ≤ n) → ((List.range n).map fun (i : Nat) => l.count ((i : Int) + 1)).sum = l.length
  | 0, l, h => by
    cases l with
    | nil => rfl
    | cons x r => have := h x (by simp); omega
  | n + 1, l, h => by
    have ih := sum_counts n (l.filter fun x => decide (x ≠ (n : Int) + 1)) (fun x hx => by
      obtain ⟨h1, h2⟩ := List.mem_filter.1 hx
      have := h x h1
      have : x ≠ (n : Int) + 1 := by simpa using h2
      omega)
    rw [List.range_succ, List.map_append, List.sum_append]
    have e : ((List.range n).map fun (i : Nat) => l.count ((i : Int) + 1)) = (List.range n).map fun (i : Nat) => (l.filter fun x => decide (x ≠ (n : Int) + 1)).count ((i : Int) + 1) := by
      refine List.map_congr_left fun i hi => ?_
      have hi := List.mem_range.1 hi
      rw [List.count_filter]
      simp; omega
    rw [e, ih]
    have : l.countP (fun x => decide (x ≠ (n : Int) + 1)) + l.count ((n : Int) + 1) = l.length := by
      have := List.length_eq_countP_add_countP (fun x => decide (x ≠ (n : Int) + 1)) (l := l)
      rw [this]
      congr 1
      unfold List.count
      refine List.countP_congr fun x _ => ?_
      simp
    rw [← List.countP_eq_length_filter]
    simpa using this
end Go.Proofs.Ytjlobjgemhapaaa
namespace Go.Proofs.Ytjlobjgemhapaaa
set_option maxRecDepth 20000
set_option maxRecDepth 20000
open Go.RowKit Go.Maps

theorem keyedI : Keyed Try.prog 3 := int_keyed Try.underlying3
def wf64 (n : Int) : Prop := -9223372036854775808 ≤ n ∧ n ≤ 9223372036854775807
theorem wf_int {n : Int} (h : wf64 n) : (Lit.int .i64 n).wf = true := WalkArith.wf_i64 h
def kI (n : Int) : Lit := .int .i64 n
theorem kI_key (n : Int) : WideAt.IsKeyLit (kI n) := trivial
theorem keyI {n : Int} (h : wf64 n) : keyOf Try.prog 3 (.int .i64 n) = some (kI n) := keyOf_int_mk Try.underlying3 (wf_int h)
theorem zeroI (w : World) : (zeroValue 3).run Try.prog w = .ok (.int .i64 0) w := by kernel_rfl
def goodKey : Lit → Bool
  | .int .i64 n => decide (1 ≤ n) && decide (n ≤ 2147483647)
  | _ => false
def InR (D : DataW Unit) : Prop := ∀ es, D = .map es → es.any (fun p => !goodKey p.1) = false
theorem goodKey_iff {l : Lit} (h : goodKey l = true) : ∃ n : Int, l = .int .i64 n ∧ 1 ≤ n ∧ n ≤ 2147483647 := by
  unfold goodKey at h
  split at h
  · exact ⟨_, rfl, by simpa using h⟩
  · cases h
theorem nodup_short : ∀ (m : Nat) (l : List Nat), l.Pairwise (· ≠ ·) → (∀ x ∈ l, x < m) → l.length ≤ m
  | 0, [], _, _ => Nat.le_refl _
  | 0, x :: r, _, h => absurd (h x (by simp)) (by omega)
  | m + 1, l, hn, h => by
    have h1 : (l.filter fun x => decide (x ≠ m)).length ≤ m := nodup_short m _ (hn.filter _) (fun x hx => by
      obtain ⟨a, b⟩ := List.mem_filter.1 hx
      have := h x a
      have : x ≠ m := by simpa using b
      omega)
    have h2 : l.length ≤ (l.filter fun x => decide (x ≠ m)).length + 1 := by
      clear h1 h
      induction l with
      | nil => simp
      | cons y r ih =>
        obtain ⟨hy, hr⟩ := List.pairwise_cons.1 hn
        by_cases e : y = m
        · subst e
          rw [List.filter_cons_of_neg (by simp), List.filter_eq_self.2 (fun x hx => by simpa using (hy x hx).symm)]
          simp
        · rw [List.filter_cons_of_pos (by simpa using e)]
          have := ih hr
          simp only [List.length_cons]; omega
    omega
theorem inR_size {D : DataW Unit} (ht : Tidy D) (h : InR D) : Maps.size D ≤ 2147483648 := by
  obtain ⟨es, rfl, hp⟩ := ht
  have hg := h es rfl
  rw [List.any_eq_false] at hg
  have hk : ∀ p ∈ es, ∃ n : Int, p.1 = .int .i64 n ∧ 1 ≤ n ∧ n ≤ 2147483647 := fun p hp => goodKey_iff (by simpa using hg p hp)
  let num : Lit × DataW Unit → Nat := fun p => match p.1 with | .int _ n => n.toNat | _ => 0
  have := nodup_short 2147483648 (es.map num) (by
    rw [List.pairwise_map]
    refine hp.imp_of_mem (fun {p q} hp hq hne => ?_)
    obtain ⟨n, e1, h1, h2⟩ := hk p hp
    obtain ⟨m, e2, h3, h4⟩ := hk q hq
    intro e
    apply hne
    simp only [num, e1, e2] at e
    rw [e1, e2]
    have : n = m := by omega
    rw [this]) (fun x hx => by
    obtain ⟨p, hp, rfl⟩ := List.mem_map.1 hx
    obtain ⟨n, e1, h1, h2⟩ := hk p hp
    simp only [num, e1]
    omega)
  simpa [size_eq] using this
theorem inR_put {D : DataW Unit} (hm : IsMap D) (h : InR D) {k : Int} (h1 : 1 ≤ k) (h2 : k ≤ 2147483647) (d : DataW Unit) : InR (D.put (kI k) d) := by
  obtain ⟨es, rfl⟩ := hm
  intro es' e
  have e2 : (DataW.map es : DataW Unit).put (kI k) d = .map (DataW.insert (kI k, d) (es.filter fun p => !p.1.sameKey (kI k))) := rfl
  rw [e2] at e
  injection e with e
  subst e
  rw [any_insert]
  have hg := h es rfl
  have g1 : goodKey (kI k) = true := by simp [goodKey, kI, h1, h2]
  simp only [g1, Bool.not_true, Bool.false_or]
  rw [List.any_eq_false] at hg ⊢
  intro p hp
  exact hg p (List.mem_filter.1 hp).1

/-- Block m is a map that holds f. -/
def IsFunI (D : DataW Unit) (f : Int → Int) : Prop := ∀ n, wf64 n → D.atKey (kI n) (.lit (.int .i64 0)) = .lit (.int .i64 (f n))
def MapI (w : World) (m : Nat) (f : Int → Int) : Prop :=
  ∃ D : DataW Unit, w.ownsMap Try.prog 3 (plainElem Try.prog 3) m 2147483648 D ∧ IsFunI D f ∧ InR D
theorem MapI.keep {w w' : World} {m : Nat} {f : Int → Int} (h : MapI w m f) (hb : w'.heap[m]? = w.heap[m]?) : MapI w' m f := by
  obtain ⟨D, ⟨es, clock, he, r⟩, h2⟩ := h
  exact ⟨D, ⟨es, clock, hb.trans he, r⟩, h2⟩
theorem MapI.lt {w : World} {m : Nat} {f : Int → Int} (h : MapI w m f) : m < w.heap.size := by
  obtain ⟨D, ⟨es, clock, he, r⟩, h2⟩ := h
  rcases Nat.lt_or_ge m w.heap.size with h1 | h1
  · exact h1
  · rw [Array.getElem?_eq_none h1] at he; cases he
theorem MapI.made (w : World) : MapI (w.alloc (.map #[] 0)) w.heap.size (fun _ => 0) := ⟨_, (World.ownsMap_made _ _ _ _).mono (Nat.zero_le _), fun _ _ => rfl, fun es e => by injection e with e; subst e; rfl⟩
def putI (f : Int → Int) (k x : Int) : Int → Int := fun v => if v = k then x else f v
theorem MapI.congr {w : World} {m : Nat} {f g : Int → Int} (h : MapI w m f) (e : ∀ v, wf64 v → f v = g v) : MapI w m g := by
  obtain ⟨D, ho, hf, hr⟩ := h
  exact ⟨D, ho, fun v hv => by rw [← e v hv]; exact hf v hv, hr⟩
theorem MapI.run_put {w : World} {m : Nat} {f : Int → Int} (h : MapI w m f) {k : Int} (h1 : 1 ≤ k) (h2 : k ≤ 2147483647) {x : Int} (hx : wf64 x) :
    ∃ w', (Instr.mapUpdate 58 (.map (some m)) (.int .i64 k) (.int .i64 x)).run Try.prog w = .ok () w' ∧ MapI w' m (putI f k x) ∧ w.grownBy w' (some m) := by
  obtain ⟨D, ho, hf, hr⟩ := h
  have hk : wf64 k := ⟨by omega, by omega⟩
  obtain ⟨w', hrun, r1, r2⟩ := ho.update keyedI Try.underlying58 (by unfold maxLen; omega) (keyI hk) (plainElem_int Try.underlying3 (wf_int hx))
  have hR := inR_put ho.isMap hr h1 h2 (.lit (.int .i64 x))
  have hs := inR_size (r1.tidy keyedI) hR
  refine ⟨w', hrun, ⟨_, ?_, fun v hv => ?_, hR⟩, r2⟩
  · obtain ⟨es, clock, hb, F, hn, hD⟩ := r1
    refine ⟨es, clock, hb, F, ?_, hD⟩
    rw [hD, size_eq, length_read] at hs
    exact hs
  · unfold putI
    by_cases e : v = k
    · subst e
      rw [if_pos rfl]
      exact atKey_put_same ho.isMap (kI_key v) _ _
    · have hne : kI v ≠ kI k := fun h => e (by injection h)
      rw [if_neg e]
      exact (atKey_put_other hne _ _).trans (hf v hv)
theorem MapI.run_get {w : World} {m : Nat} {f : Int → Int} (h : MapI w m f) {k : Int} (hk : wf64 k) :
    (Instr.lookup 58 (.map (some m)) (.int .i64 k) false).run Try.prog w = .ok (.int .i64 (f k)) w := by
  obtain ⟨D, ho, hf, _⟩ := h
  obtain ⟨c, hrun, hc, _⟩ := ho.lookup_int keyedI Try.underlying58 Try.underlying3 (zeroI w) (keyI hk)
  rw [hf k hk] at hc
  injection hc with hc
  injection hc with _ hc
  rw [hrun, hc]

/-! How often each number of a list is there, as 64 bits hold it. -/
def cntF (l : List Int) : Int → Int := fun x => wrap64 (l.count x : Nat)
theorem w64_wf (n : Int) : wf64 (wrap64 n) := by unfold wrap64 wf64; omega
theorem w64_id {n : Int} (h : wf64 n) : wrap64 n = n := by unfold wrap64; unfold wf64 at h; omega
theorem w64_add (a b : Int) : wrap64 (wrap64 a + b) = wrap64 (a + b) := by unfold wrap64; omega
theorem w64_add2 (a b : Int) : wrap64 (wrap64 a + wrap64 b) = wrap64 (a + b) := by unfold wrap64; omega
theorem cntF_snoc (l : List Int) (x v : Int) : putI (cntF l) x (wrap64 (cntF l x + 1)) v = cntF (l ++ [x]) v := by
  unfold putI cntF
  by_cases e : v = x
  · subst e
    rw [if_pos rfl, w64_add, List.count_append]
    simp
  · rw [if_neg e, List.count_append]
    have : List.count v [x] = 0 := by
      rw [List.count_eq_zero]
      simpa using e
    rw [this]
    rfl
end Go.Proofs.Ytjlobjgemhapaaa
namespace Go.Proofs.Ytjlobjgemhapaaa
set_option maxRecDepth 20000
set_option maxRecDepth 20000
open Go.RowKit Go.Maps

abbrev iV (n : Int) : Value := .int .i64 n
abbrev vV (v : Int × Int) : Value := .agg #[.int .i64 v.1, .int .i64 v.2]
abbrev bV (b : Nat) : Value := .pointer (some ⟨b, 0, none⟩)
abbrev oV (o : OB) (A : Option Addr) (c : Nat) : Value := .agg #[iV o.kind, iV o.count, .slice A o.slots.length c, .string o.text, iV o.mark]
abbrev gV (A : Option Addr) (n c : Nat) : Value := .agg #[.slice A n c]
def SlotsAt (w : World) (o : OB) (A : Option Addr) : Prop := PairsAt w A o.slots ∧ o.slots.length * 16 ≤ 140737488355328
theorem SlotsAt.below {w w' : World} {o : OB} {A : Option Addr} (h : SlotsAt w o A) (hb : Below w.heap.size w w') : SlotsAt w' o A := ⟨pairs_below h.1 hb, h.2⟩
def CellsAt (w : World) (a : Addr) (o : OB) (A : Option Addr) (c : Nat) : Prop :=
  w.cell? a = some (iV o.kind) ∧ w.cell? ⟨a.block, a.off + 1, none⟩ = some (iV o.count) ∧ w.cell? ⟨a.block, a.off + 2, none⟩ = some (.slice A o.slots.length c) ∧ w.cell? ⟨a.block, a.off + 3, none⟩ = some (.string o.text) ∧ w.cell? ⟨a.block, a.off + 4, none⟩ = some (iV o.mark)
theorem CellsAt.below {w w' : World} {a : Addr} {o : OB} {A : Option Addr} {c : Nat} (h : CellsAt w a o A c) (ha : a.block < w.heap.size) (hb : Below w.heap.size w w') : CellsAt w' a o A c := by
  obtain ⟨h0, h1, h2, h3, h4⟩ := h
  have k : ∀ j, w'.cell? ⟨a.block, a.off + j, none⟩ = w.cell? ⟨a.block, a.off + j, none⟩ := fun j => hb.cell (p := ⟨a.block, a.off + j, none⟩) ha
  exact ⟨(hb.cell (p := a) ha).trans h0, (k 1).trans h1, (k 2).trans h2, (k 3).trans h3, (k 4).trans h4⟩
/-- The slice's cells hold the objects g. -/
def GAt (w : World) (A : Option Addr) (g : List OB) : Prop :=
  ∀ i o, g[i]? = some o → ∃ a sA sc, A = some a ∧ a.block < w.heap.size ∧ CellsAt w (a.add (i * 5)) o sA sc ∧ SlotsAt w o sA
theorem GAt.below {w w' : World} {A : Option Addr} {g : List OB} (h : GAt w A g) (hb : Below w.heap.size w w') : GAt w' A g := by
  intro i o ho
  obtain ⟨a, sA, sc, e, hl, hc, hs⟩ := h i o ho
  exact ⟨a, sA, sc, e, Nat.lt_of_lt_of_le hl hb.size, hc.below (by rw [Go.ChangeShapes.block_add]; exact hl) hb, hs.below hb⟩
/-- f says of an object's number and the object what p says. -/
def AskAt (w : World) (f : Value) (p : Nat → OB → Bool) : Prop :=
  ∃ g lb, f = .func (.func g) #[] lb ∧ (∀ args w, (callFunc g args).run Try.prog w = .ok (.enter g args) w) ∧
    ∀ (W : World) (n : Nat) (o : OB) (A : Option Addr) (c : Nat), Below w.heap.size w W → SlotsAt W o A → n ≤ 4611686018427387904 →
      Calls Try.prog g (#[iV n, oV o A c] ++ lb) W fun e w' => e = .returned (.bool (p n o)) ∧ Below W.heap.size W w'
theorem AskAt.below {w w' : World} {f : Value} {p : Nat → OB → Bool} (h : AskAt w f p) (hb : Below w.heap.size w w') : AskAt w' f p := by
  obtain ⟨g, lb, e, h1, h2⟩ := h
  exact ⟨g, lb, e, h1, fun W n o A c hW => h2 W n o A c (hb.trans (hW.mono hb.size))⟩
/-- The slice's cells hold functions that say what ps say. -/
def AsksAt (w : World) (A : Option Addr) (ps : List (Nat → OB → Bool)) : Prop :=
  ∀ i p, ps[i]? = some p → ∃ a f, A = some a ∧ a.block < w.heap.size ∧ w.cell? (a.add i) = some f ∧ AskAt w f p
theorem AsksAt.below {w w' : World} {A : Option Addr} {ps : List (Nat → OB → Bool)} (h : AsksAt w A ps) (hb : Below w.heap.size w w') : AsksAt w' A ps := by
  intro i p hp
  obtain ⟨a, f, e, hl, hc, hs⟩ := h i p hp
  exact ⟨a, f, e, Nat.lt_of_lt_of_le hl hb.size, (hb.cell (by rw [Go.ChangeShapes.block_add]; exact hl)).trans hc, hs.below hb⟩
/-- f says of a value what p says. -/
def ValAsk (w : World) (f : Value) (p : Int × Int → Bool) : Prop :=
  ∃ g lb, f = .func (.func g) #[] lb ∧ (∀ args w, (callFunc g args).run Try.prog w = .ok (.enter g args) w) ∧
    ∀ (W : World) (v : Int × Int), Below w.heap.size w W → Calls Try.prog g (#[vV v] ++ lb) W fun e w' => e = .returned (.bool (p v)) ∧ Below W.heap.size W w'
theorem ValAsk.below {w w' : World} {f : Value} {p : Int × Int → Bool} (h : ValAsk w f p) (hb : Below w.heap.size w w') : ValAsk w' f p := by
  obtain ⟨g, lb, e, h1, h2⟩ := h
  exact ⟨g, lb, e, h1, fun W v hW => h2 W v (hb.trans (hW.mono hb.size))⟩
/-- A slice of values, or of what else, that is not read. -/
def askAll (ps : List (Nat → OB → Bool)) : Nat → OB → Bool := fun n o => ps.all fun p => p n o
end Go.Proofs.Ytjlobjgemhapaaa
namespace Go.Proofs.Ytjlobjgemhapaaa
set_option maxRecDepth 20000
set_option maxRecDepth 20000
open Go.RowKit Go.Maps

set_option maxHeartbeats 1000000 in
theorem IndexV_any {w : World} {A : Option Addr} {c : Nat} {l : List (Int × Int)} (hl : l.length ≤ 140737488355328) (h : PairsAt w A l) {f : Value} {p : Int × Int → Bool} (hf : ValAsk w f p) :
    Calls Try.prog 152 #[.slice A l.length c, f] w fun e w' => (∃ z : Int, e = .returned (iV z) ∧ decide (0 ≤ z) = l.any p) ∧ Below w.heap.size w w' := by
  obtain ⟨g, lb, rfl, eg, hf⟩ := hf
  have H := Lib.hid h
  have HF := Lib.hid hf
  have hN : Hid (∀ k v, l[k]? = some v → p v = true → l.any p = true) := fun k v hv hp => List.any_eq_true.2 ⟨v, List.mem_of_getElem? hv, hp⟩
  have hM : Hid ((∀ k v, k < l.length → l[k]? = some v → p v = false) → l.any p = false) := fun hh => List.any_eq_false.2 (fun v hv => by
    obtain ⟨k, hk⟩ := List.getElem?_of_mem hv
    have := hh k v (List.getElem?_eq_some_iff.1 hk).1 hk
    simp [this])
  have GET : Hid (∀ i, i < l.length → ∃ p, l[i]? = some p) := fun i hi => ⟨_, List.getElem?_eq_getElem hi⟩
  clear h hf
  generalize hn : l.length = n at *
  clear hn
  go_enter Try.func152, Try.ntmps152
  go_wp2
  go_loopg [5, 8] n (fun gg _ s8 wr => ∃ k : Nat, k ≤ n ∧ n - k ≤ gg ∧ s8 = .int .i64 k ∧ Hid (Below w.heap.size w wr) ∧ Hid (∀ j v, j < k → l[j]? = some v → p v = false))
  case atStart => exact ⟨0, Nat.zero_le _, by omega, rfl, Below.refl _ w, fun j v hj => absurd hj (Nat.not_lt_zero _)⟩
  case round =>
    obtain ⟨k, hk, hg, rfl, B, I⟩ := hrel
    by_cases hlt : k < n
    · obtain ⟨v, hv⟩ := GET.out k hlt
      obtain ⟨a, e, hal, hc0, hc1⟩ := H.out k v hv
      subst e
      have d0 := (B.out.cell (by rw [Go.ChangeShapes.block_add]; exact hal)).trans hc0
      have d1 := (B.out.cell (by rw [Go.ChangeShapes.block_add, Go.ChangeShapes.block_add]; exact hal)).trans hc1
      rw [add_one] at d1
      have hcall := HF.out wr v B.out
      have HV := Lib.hid hv
      clear hc0 hc1 hv
      cases hq : p v with
      | true =>
        rw [hq] at hcall
        have HQ := Lib.hid hq
        clear hq
        go_wp2_with (go_at_fn g; refine hcall.mono ?_; rintro e w' ⟨rfl, hb'⟩; have B1 := Lib.hid hb'; clear hb')
        go_ret
        exact ⟨⟨_, rfl, by rw [hN.out k v HV.out HQ.out]; simp⟩, B.out.trans (B1.out.mono B.out.size)⟩
      | false =>
        rw [hq] at hcall
        have HQ := Lib.hid hq
        clear hq
        go_wp2_with (go_at_fn g; refine hcall.mono ?_; rintro e w' ⟨rfl, hb'⟩; have B1 := Lib.hid hb'; clear hb')
        go_roundg (n - (k + 1))
        case measure => omega
        case rel =>
          have I2 : Hid (∀ j u, j < k + 1 → l[j]? = some u → p u = false) := fun j u hj hu => by
            by_cases e : j = k
            · subst e
              rw [HV.out] at hu; injection hu with hu; subst hu; exact HQ.out
            · exact I.out j u (by omega) hu
          exact ⟨k + 1, by omega, by omega, by go_num, B.out.trans (B1.out.mono B.out.size), I2⟩
    · have hkn : k = n := by omega
      subst hkn
      go_wp2
      go_ret
      exact ⟨⟨_, rfl, by rw [hM.out (fun j v hj => I.out j v hj)]; rfl⟩, B.out⟩
theorem ContainsV_any {w : World} {A : Option Addr} {c : Nat} {l : List (Int × Int)} (hl : l.length ≤ 140737488355328) (h : PairsAt w A l) {f : Value} {p : Int × Int → Bool} (hf : ValAsk w f p) :
    Calls Try.prog 101 #[.slice A l.length c, f] w fun e w' => e = .returned (.bool (l.any p)) ∧ Below w.heap.size w w' := by
  have C := Lib.hid (IndexV_any (c := c) hl h hf)
  clear h hf hl
  generalize l.any p = y at *
  generalize l.length = n at *
  go_enter Try.func101, Try.ntmps101
  go_wp2_with (go_at_call 152; (with_reducible refine C.out.mono ?_); rintro e w1 ⟨⟨z, rfl, hz⟩, hb⟩)
  go_ret
  exact ⟨by subst hz; rfl, hb⟩

/-! which's own closure, and what asks it. -/
set_option maxHeartbeats 1000000 in
theorem no_any {w : World} {f : Value} {p : Nat → OB → Bool} (hf : AskAt w f p) (bi bo : Nat) (i : Nat) (hi : i < 4611686018427387904) (o : OB) (A : Option Addr) (c : Nat) (h0 : w.cell? ⟨bi, 0, none⟩ = some (iV i)) (h1 : CellsAt w ⟨bo, 0, none⟩ o A c) (h2 : SlotsAt w o A) :
    Calls Try.prog 95 #[f, bV bi, bV bo] w fun e w' => e = .returned (.bool (!p (i + 1) o)) ∧ Below w.heap.size w w' := by
  obtain ⟨g, lb, rfl, eg, hf⟩ := hf
  have hcall := hf w (i + 1) o A c (Below.refl _ _) h2 (by omega)
  obtain ⟨c0, c1, c2, c3, c4⟩ := h1
  simp only [Nat.zero_add] at c1 c2 c3 c4
  have hi2 : ((i + 1 : Nat) : Int) = (i : Int) + 1 := by omega
  unfold iV at hcall
  rw [hi2] at hcall
  clear hf h2 hi2
  go_enter Try.func95, Try.ntmps95
  go_wp2_with (go_at_fn g; refine hcall.mono ?_; rintro e w' ⟨rfl, hb'⟩)
  go_ret
  exact ⟨rfl, hb'⟩
set_option maxHeartbeats 1000000 in
theorem IndexA_any {w : World} {B : Option Addr} {d : Nat} {ps : List (Nat → OB → Bool)} (hl : ps.length ≤ 140737488355328) (h : AsksAt w B ps) (bi bo : Nat) (hbi : bi < w.heap.size) (hbo : bo < w.heap.size) (i : Nat) (hi : i < 4611686018427387904) (o : OB) (A : Option Addr) (c : Nat)
    (h0 : w.cell? ⟨bi, 0, none⟩ = some (iV i)) (h1 : CellsAt w ⟨bo, 0, none⟩ o A c) (h2 : SlotsAt w o A) :
    Calls Try.prog 150 #[.slice B ps.length d, .func (.func 95) #[] #[bV bi, bV bo]] w fun e w' => (∃ z : Int, e = .returned (iV z) ∧ decide (0 ≤ z) = !askAll ps (i + 1) o) ∧ Below w.heap.size w w' := by
  have H := Lib.hid h
  have C : Hid (∀ W f p, Below w.heap.size w W → AskAt W f p → Calls Try.prog 95 #[f, bV bi, bV bo] W fun e w' => e = .returned (.bool (!p (i + 1) o)) ∧ Below W.heap.size W w') := fun W f p hW hf =>
    no_any hf bi bo i hi o A c ((hW.cell (p := ⟨bi, 0, none⟩) hbi).trans h0) (h1.below (a := ⟨bo, 0, none⟩) hbo hW) (h2.below hW)
  have hN : Hid (∀ (k : Nat) p, ps[k]? = some p → p (i + 1) o = false → askAll ps (i + 1) o = false) := fun k p hv hp => by
    unfold askAll
    rw [List.all_eq_false]
    exact ⟨p, List.mem_of_getElem? hv, by simp [hp]⟩
  have hM : Hid ((∀ k p, k < ps.length → ps[k]? = some p → p (i + 1) o = true) → askAll ps (i + 1) o = true) := fun hh => List.all_eq_true.2 (fun v hv => by
    obtain ⟨k, hk⟩ := List.getElem?_of_mem hv
    exact hh k v (List.getElem?_eq_some_iff.1 hk).1 hk)
  have GET : Hid (∀ i, i < ps.length → ∃ p, ps[i]? = some p) := fun i hi => ⟨_, List.getElem?_eq_getElem hi⟩
  clear h h0 h1 h2 hi hbi hbo
  generalize askAll ps (i + 1) o = y at *
  generalize hn : ps.length = n at *
  clear hn
  go_enter Try.func150, Try.ntmps150
  go_wp2
  go_loopg [5, 8] n (fun gg _ s8 wr => ∃ k : Nat, k ≤ n ∧ n - k ≤ gg ∧ s8 = .int .i64 k ∧ Hid (Below w.heap.size w wr) ∧ Hid (∀ j v, j < k → ps[j]? = some v → v (i + 1) o = true))
  case atStart => exact ⟨0, Nat.zero_le _, by omega, rfl, Below.refl _ w, fun j v hj => absurd hj (Nat.not_lt_zero _)⟩
  case round =>
    obtain ⟨k, hk, hg, rfl, B, I⟩ := hrel
    by_cases hlt : k < n
    · obtain ⟨v, hv⟩ := GET.out k hlt
      obtain ⟨a, f, e, hal, hc0, hask⟩ := H.out k v hv
      subst e
      have d0 := (B.out.cell (by rw [Go.ChangeShapes.block_add]; exact hal)).trans hc0
      have hcall := C.out wr f v B.out (hask.below B.out)
      have HV := Lib.hid hv
      clear hc0 hv hask
      cases hq : v (i + 1) o with
      | false =>
        rw [hq] at hcall
        have HQ := Lib.hid hq
        clear hq
        go_wp2_with (go_at_call 95; (with_reducible refine hcall.mono ?_); rintro e w' ⟨rfl, hb'⟩; have B1 := Lib.hid hb'; clear hb')
        go_ret
        exact ⟨⟨_, rfl, by rw [hN.out k v HV.out HQ.out]; simp⟩, B.out.trans (B1.out.mono B.out.size)⟩
      | true =>
        rw [hq] at hcall
        have HQ := Lib.hid hq
        clear hq
        go_wp2_with (go_at_call 95; (with_reducible refine hcall.mono ?_); rintro e w' ⟨rfl, hb'⟩; have B1 := Lib.hid hb'; clear hb')
        go_roundg (n - (k + 1))
        case measure => omega
        case rel =>
          have I2 : Hid (∀ j u, j < k + 1 → ps[j]? = some u → u (i + 1) o = true) := fun j u hj hu => by
            by_cases e : j = k
            · subst e
              rw [HV.out] at hu; injection hu with hu; subst hu; exact HQ.out
            · exact I.out j u (by omega) hu
          exact ⟨k + 1, by omega, by omega, by go_num, B.out.trans (B1.out.mono B.out.size), I2⟩
    · have hkn : k = n := by omega
      subst hkn
      go_wp2
      go_ret
      exact ⟨⟨_, rfl, by rw [hM.out (fun j v hj => I.out j v hj)]; rfl⟩, B.out⟩
theorem ContainsA_any {w : World} {B : Option Addr} {d : Nat} {ps : List (Nat → OB → Bool)} (hl : ps.length ≤ 140737488355328) (h : AsksAt w B ps) (bi bo : Nat) (hbi : bi < w.heap.size) (hbo : bo < w.heap.size) (i : Nat) (hi : i < 4611686018427387904) (o : OB) (A : Option Addr) (c : Nat)
    (h0 : w.cell? ⟨bi, 0, none⟩ = some (iV i)) (h1 : CellsAt w ⟨bo, 0, none⟩ o A c) (h2 : SlotsAt w o A) :
    Calls Try.prog 96 #[.slice B ps.length d, .func (.func 95) #[] #[bV bi, bV bo]] w fun e w' => e = .returned (.bool (!askAll ps (i + 1) o)) ∧ Below w.heap.size w w' := by
  have C := Lib.hid (IndexA_any (d := d) hl h bi bo hbi hbo i hi o A c h0 h1 h2)
  clear h hl h0 h1 h2 hbi hbo hi
  generalize (!askAll ps (i + 1) o) = y at *
  generalize ps.length = n at *
  go_enter Try.func96, Try.ntmps96
  go_wp2_with (go_at_call 150; (with_reducible refine C.out.mono ?_); rintro e w1 ⟨⟨z, rfl, hz⟩, hb⟩)
  go_ret
  exact ⟨by subst hz; rfl, hb⟩
end Go.Proofs.Ytjlobjgemhapaaa
namespace Go.Proofs.Ytjlobjgemhapaaa
set_option maxRecDepth 20000
set_option maxRecDepth 20000
open Go.RowKit Go.Maps

theorem kindMay_any (n : Int) (o : OB) (A : Option Addr) (c : Nat) (w : World) : Calls Try.prog 57 #[iV n, oV o A c] w fun e w' => e = .returned (.bool (kindOk o)) ∧ Below w.heap.size w w' := by
  obtain ⟨k, co, s, t, m⟩ := o
  by_cases h0 : k = 0
  · subst h0
    go_enter Try.func57, Try.ntmps57
    go_wp2
    go_ret
    exact ⟨rfl, (Below.refl _ _).alloc (Nat.le_refl _) _⟩
  · have e0 := not_eq h0
    by_cases h1 : 5 ≤ k
    · rw [show kindOk ⟨k, co, s, t, m⟩ = decide (k ≤ 9) by simp [kindOk, h0, h1]]
      clear h0
      go_enter Try.func57, Try.ntmps57
      go_wp2
      go_ret
      exact ⟨rfl, (Below.refl _ _).alloc (Nat.le_refl _) _⟩
    · rw [show kindOk ⟨k, co, s, t, m⟩ = false by simp [kindOk, h0, h1]]
      clear h0
      go_enter Try.func57, Try.ntmps57
      go_wp2
      go_ret
      exact ⟨rfl, (Below.refl _ _).alloc (Nat.le_refl _) _⟩
theorem numbersMay_any (n : Int) (o : OB) (A : Option Addr) (c : Nat) (w : World) : Calls Try.prog 58 #[iV n, oV o A c] w fun e w' => e = .returned (.bool (numOk o)) ∧ Below w.heap.size w w' := by
  obtain ⟨k, co, s, t, m⟩ := o
  by_cases h0 : k = 0
  · subst h0
    by_cases h1 : co = 0
    · subst h1
      rw [show numOk ⟨0, 0, s, t, m⟩ = (m == 0) by simp [numOk]]
      go_enter Try.func58, Try.ntmps58
      go_wp2
      go_ret
      exact ⟨rfl, (Below.refl _ _).alloc (Nat.le_refl _) _⟩
    · rw [show numOk ⟨0, co, s, t, m⟩ = false by simp [numOk, h1]]
      have e1 := not_eq h1
      clear h1
      go_enter Try.func58, Try.ntmps58
      go_wp2
      go_ret
      exact ⟨rfl, (Below.refl _ _).alloc (Nat.le_refl _) _⟩
  · have e0 := not_eq h0
    by_cases h1 : 0 ≤ co
    · rw [show numOk ⟨k, co, s, t, m⟩ = decide (-1 ≤ m) by simp [numOk, h0, h1]]
      clear h0
      go_enter Try.func58, Try.ntmps58
      go_wp2
      go_ret
      exact ⟨rfl, (Below.refl _ _).alloc (Nat.le_refl _) _⟩
    · rw [show numOk ⟨k, co, s, t, m⟩ = false by simp [numOk, h0, h1]]
      clear h0
      go_enter Try.func58, Try.ntmps58
      go_wp2
      go_ret
      exact ⟨rfl, (Below.refl _ _).alloc (Nat.le_refl _) _⟩
theorem textMay_any (n : Int) (o : OB) (A : Option Addr) (c : Nat) (w : World) : Calls Try.prog 59 #[iV n, oV o A c] w fun e w' => e = .returned (.bool (textOk o)) ∧ Below w.heap.size w w' := by
  obtain ⟨k, co, s, t, m⟩ := o
  by_cases h0 : k = 5
  · subst h0
    go_enter Try.func59, Try.ntmps59
    go_wp2
    go_ret
    exact ⟨rfl, (Below.refl _ _).alloc (Nat.le_refl _) _⟩
  · have e0 := not_eq h0
    rw [show textOk ⟨k, co, s, t, m⟩ = t.toList.isEmpty by simp [textOk, h0]]
    clear h0
    go_enter Try.func59, Try.ntmps59
    go_wp2
    go_ret
    exact ⟨rfl, (Below.refl _ _).alloc (Nat.le_refl _) _⟩
theorem there_in {g : List OB} {j : Nat} {o : OB} (h : g[j]? = some o) (k : Int) : thereB g (k, (j : Int) + 1) = (o.kind == k) := by
  unfold thereB
  simp only [Int.add_sub_cancel, Int.toNat_natCast, h]
theorem there_out {g : List OB} {j : Nat} (h : g.length ≤ j) (k : Int) : thereB g (k, (j : Int) + 1) = false := by
  unfold thereB
  simp only [Int.add_sub_cancel, Int.toNat_natCast, List.getElem?_eq_none h]
set_option maxHeartbeats 1000000 in
theorem there_any {w : World} {A : Option Addr} {c : Nat} {g : List OB} (hg : GAt w A g) (k : Int) (j : Nat) (hj : j ≤ 2147483647) :
    Calls Try.prog 99 #[gV A g.length c, vV (k, (j : Int) + 1)] w fun e w' => e = .returned (.bool (thereB g (k, (j : Int) + 1))) ∧ Below w.heap.size w w' := by
  by_cases hlt : j < g.length
  · obtain ⟨o, ho⟩ : ∃ o, g[j]? = some o := ⟨_, List.getElem?_eq_getElem hlt⟩
    rw [there_in ho]
    obtain ⟨a, sA, sc, rfl, hl, hc, hs⟩ := hg j o ho
    have d0 := hc.1
    have hl2 : (a.add (j * 5)).block < w.heap.size := by rw [Go.ChangeShapes.block_add]; exact hl
    clear hg ho hs hc
    generalize g.length = n at *
    have e1 : decide ((j : Int) + 1 ≤ (n : Int)) = true := by simp; omega
    have e2 : decide ((j : Int) < 0) = false := by simp
    have e3 : decide ((n : Int) ≤ (j : Int)) = false := by simp; omega
    go_enter Try.func99, Try.ntmps99
    go_wp2
    go_quiet (fail)
    go_wp2_with fail
    go_ret
    exact ⟨rfl, below_drewN (((Below.refl _ _).alloc (Nat.le_refl _) _).alloc (by simp) _) _⟩
  · rw [there_out (by omega)]
    clear hg
    generalize g.length = n at *
    have e1 : decide ((j : Int) + 1 ≤ (n : Int)) = false := by simp; omega
    go_enter Try.func99, Try.ntmps99
    go_wp2
    go_quiet (fail)
    go_wp2_with fail
    go_ret
    exact ⟨rfl, below_drewN (((Below.refl _ _).alloc (Nat.le_refl _) _).alloc (by simp) _) _⟩
theorem slotB_ref {g : List OB} {v : Int × Int} (hr : refB v.1 v.2 = true) : slotB g v = thereB g v := by
  have h := refB_iff.1 hr
  have h0 : (v.1 == 0) = false := not_eq (by omega)
  simp [slotB, h.1, h0, hr]
set_option maxHeartbeats 2000000 in
theorem mayNot_any {w : World} {A : Option Addr} {c : Nat} {g : List OB} (hg : GAt w A g) (bg : Nat) (hbl : bg < w.heap.size) (hbg : w.cell? ⟨bg, 0, none⟩ = some (.slice A g.length c)) (v : Int × Int) :
    Calls Try.prog 97 #[vV v, bV bg] w fun e w' => e = .returned (.bool (!slotB g v)) ∧ Below w.heap.size w w' := by
  obtain ⟨k, m⟩ := v
  have CM := Lib.hid (May_any k m)
  cases hm : mayB k m with
  | false =>
    rw [show slotB g (k, m) = false by simp [slotB, hm]]
    rw [hm] at CM
    clear hm hg hbg
    go_enter Try.func97, Try.ntmps97
    go_wp2_with (go_at_call 98; (with_reducible refine (CM.out _).mono ?_); rintro e w1 ⟨rfl, hb⟩; have c0 := boxed hb (j := 0) rfl; have c1 := boxed hb (j := 1) rfl; have B1 := Lib.hid (below_box hb); clear hb)
    go_ret
    exact ⟨rfl, B1.out⟩
  | true =>
    rw [hm] at CM
    by_cases k0 : k = 0
    · subst k0
      rw [show slotB g (0, m) = false by simp [slotB]]
      clear hm hg hbg
      go_enter Try.func97, Try.ntmps97
      go_wp2_with (go_at_call 98; (with_reducible refine (CM.out _).mono ?_); rintro e w1 ⟨rfl, hb⟩; have c0 := boxed hb (j := 0) rfl; have c1 := boxed hb (j := 1) rfl; have B1 := Lib.hid (below_box hb); clear hb)
      go_ret
      exact ⟨rfl, B1.out⟩
    · have e0 := not_eq k0
      have CR := Lib.hid (Ref_any k m)
      cases hr : refB k m with
      | false =>
        rw [show slotB g (k, m) = true by simp [slotB, hm, e0, hr]]
        rw [hr] at CR
        clear hm hr hg k0 hbg
        go_enter Try.func97, Try.ntmps97
        go_wp2_with (first
          | (go_at_call 98; (with_reducible refine (CM.out _).mono ?_); rintro e w1 ⟨rfl, hb⟩; have c0 := boxed hb (j := 0) rfl; have c1 := boxed hb (j := 1) rfl; have B1 := Lib.hid (below_box hb); clear hb)
          | (go_at_call 62; (with_reducible refine (CR.out _).mono ?_); rintro e w2 ⟨rfl, hb⟩; have B2 := Lib.hid hb; clear hb))
        go_ret
        exact ⟨rfl, B1.out.trans (B2.out.mono B1.out.size)⟩
      | true =>
        rw [slotB_ref (v := (k, m)) hr]
        rw [hr] at CR
        have hm2 := mayB_iff.1 hm
        have hr2 := (refB_iff.1 hr).2
        obtain ⟨j, rfl⟩ : ∃ j : Nat, m = (j : Int) + 1 := ⟨(m - 1).toNat, by omega⟩
        have hj : j ≤ 2147483647 := by omega
        have CT : Hid (∀ W, Below w.heap.size w W → Calls Try.prog 99 #[gV A g.length c, vV (k, (j : Int) + 1)] W fun e w' => e = .returned (.bool (thereB g (k, (j : Int) + 1))) ∧ Below W.heap.size W w') := fun W hW => there_any (hg.below hW) k j hj
        clear hm hr hm2 hr2 hg k0 hj
        generalize thereB g (k, (j : Int) + 1) = y at *
        generalize g.length = n at *
        go_enter Try.func97, Try.ntmps97
        go_wp2_with (first
          | (go_at_call 98; (with_reducible refine (CM.out _).mono ?_); rintro e w1 ⟨rfl, hb⟩; have c0 := boxed hb (j := 0) rfl; have c1 := boxed hb (j := 1) rfl; have z1 : w.heap.size < w1.heap.size := (by have := hb.size; simp at this; omega); have B1 := Lib.hid (below_box hb); clear hb)
          | (go_at_call 62; (with_reducible refine (CR.out _).mono ?_); rintro e w2 ⟨rfl, hb⟩; have d0 := (hb.cell (p := ⟨w.heap.size, 0, none⟩) z1).trans c0; have d1 := (hb.cell (p := ⟨w.heap.size, 1, none⟩) z1).trans c1; have B2 := Lib.hid (B1.out.trans (hb.mono B1.out.size)); have dg := (B2.out.cell (p := ⟨bg, 0, none⟩) hbl).trans hbg; clear hb)
          | (go_at_call 99; (with_reducible refine (CT.out _ B2.out).mono ?_); rintro e w3 ⟨rfl, hb⟩; have B3 := Lib.hid hb; clear hb))
        go_ret
        exact ⟨by cases y <;> rfl, B2.out.trans (B3.out.mono B2.out.size)⟩
theorem hmf2 : ∀ (fn : Fn) (first cap : Array Value) (w : World), (Instr.makeFunc fn first cap).run Try.prog w = .ok (.func fn first cap) w := fun _ _ _ _ => rfl
set_option maxHeartbeats 2000000 in
/-- The function that slotsMay answers. -/
theorem slots2_any {w : World} {g : List OB} (bf : Nat) (f : Value) (hf : ValAsk w f fun v => !slotB g v) (hbf : w.cell? ⟨bf, 0, none⟩ = some f) (hbl : bf < w.heap.size) (n : Int) (o : OB) (A : Option Addr) (c : Nat) (hs : SlotsAt w o A) :
    Calls Try.prog 100 #[iV n, oV o A c, bV bf] w fun e w' => e = .returned (.bool (slotsOk g o)) ∧ Below w.heap.size w w' := by
  have CV : Hid (∀ W, Below w.heap.size w W → Calls Try.prog 101 #[.slice A o.slots.length c, f] W fun e w' => e = .returned (.bool (o.slots.any fun v => !slotB g v)) ∧ Below W.heap.size W w') := fun W hW =>
    ContainsV_any (by have := hs.2; omega) (hs.below hW).1 (hf.below hW)
  have S : Hid (slotsOk g o = if o.kind = 0 ∨ o.kind = 5 then decide (o.slots.length = 0) else !(o.slots.any fun v => !slotB g v)) := by
    show slotsOk g o = _
    unfold slotsOk
    congr 1
    rw [List.not_any_eq_all_not]
    simp
  rw [S.out]
  clear hf hs S
  obtain ⟨k, co, s, t, m⟩ := o
  simp only at CV ⊢
  generalize (s.any fun v => !slotB g v) = y at *
  have EL : Hid (decide (s.length = 0) = ((s.length : Int) == 0)) := show _ = _ by cases s <;> simp <;> omega
  by_cases k0 : k = 0
  · subst k0
    rw [if_pos (.inl rfl), EL.out]
    go_enter Try.func100, Try.ntmps100
    go_wp2_with fail
    go_ret
    exact ⟨rfl, (Below.refl _ _).alloc (Nat.le_refl _) _⟩
  · have e0 := not_eq k0
    by_cases k5 : k = 5
    · subst k5
      rw [if_pos (.inr rfl), EL.out]
      clear k0 e0
      go_enter Try.func100, Try.ntmps100
      go_wp2_with fail
      go_ret
      exact ⟨rfl, (Below.refl _ _).alloc (Nat.le_refl _) _⟩
    · have e5 := not_eq k5
      rw [if_neg (fun h => h.elim k0 k5)]
      clear k0 k5 EL
      go_enter Try.func100, Try.ntmps100
      go_wp2_with (go_at_call 101; (with_reducible refine (CV.out _ ((Below.refl _ _).alloc (Nat.le_refl _) _)).mono ?_); rintro e w1 ⟨rfl, hb⟩; have B1 := Lib.hid (below_box hb); clear hb)
      go_ret
      exact ⟨rfl, B1.out⟩
theorem ask_of (w : World) (f : Nat) (lb : Array Value) (p : Nat → OB → Bool) (he : ∀ args w, (callFunc f args).run Try.prog w = .ok (.enter f args) w)
    (h : ∀ (W : World) (n : Nat) (o : OB) (A : Option Addr) (c : Nat), Below w.heap.size w W → SlotsAt W o A → n ≤ 4611686018427387904 → Calls Try.prog f (#[iV n, oV o A c] ++ lb) W fun e w' => e = .returned (.bool (p n o)) ∧ Below W.heap.size W w') : AskAt w (.func (.func f) #[] lb) p := ⟨f, lb, rfl, he, h⟩
/-- The four that Check asks. -/
theorem ask_kind (w : World) : AskAt w (.func (.func 57) #[] #[]) fun _ o => kindOk o := ask_of _ _ _ _ (enters_of Try.func57 (by kernel_rfl) rfl) fun W n o A c _ _ _ => kindMay_any n o A c W
theorem ask_numbers (w : World) : AskAt w (.func (.func 58) #[] #[]) fun _ o => numOk o := ask_of _ _ _ _ (enters_of Try.func58 (by kernel_rfl) rfl) fun W n o A c _ _ _ => numbersMay_any n o A c W
theorem ask_text (w : World) : AskAt w (.func (.func 59) #[] #[]) fun _ o => textOk o := ask_of _ _ _ _ (enters_of Try.func59 (by kernel_rfl) rfl) fun W n o A c _ _ _ => textMay_any n o A c W
set_option maxHeartbeats 2000000 in
theorem slotsMay_any {w : World} {A : Option Addr} {c : Nat} {g : List OB} (hg : GAt w A g) :
    Calls Try.prog 60 #[gV A g.length c] w fun e w' => ∃ f, e = .returned f ∧ AskAt w' f (fun _ o => slotsOk g o) ∧ Below w.heap.size w w' := by
  have hmf := hmf2
  have G := Lib.hid hg
  clear hg
  go_enter Try.func60, Try.ntmps60
  go_wp2_with fail
  go_ret
  have B0 : Below w.heap.size w (w.alloc (.cells #[.slice A g.length c] 24 (0, 0))) := (Below.refl _ _).alloc (Nat.le_refl _) _
  have B1 : Below w.heap.size w ((w.alloc (.cells #[.slice A g.length c] 24 (0, 0))).alloc (.cells #[.func (.func 97) #[] #[bV w.heap.size]] 73 (0, 0))) := B0.alloc (by simp) _
  refine ⟨_, rfl, ask_of _ _ _ _ (enters_of Try.func100 (by kernel_rfl) rfl) (fun W n o sA sc hW hs _ => ?_), B1⟩
  have hB := B1.trans (hW.mono (by simp; omega))
  refine slots2_any (w.heap.size + 1) (.func (.func 97) #[] #[bV w.heap.size]) ⟨_, _, rfl, enters_of Try.func97 (by kernel_rfl) rfl, fun W2 v h2 => ?_⟩ ?_ ?_ n o sA sc hs
  · exact mayNot_any (c := c) (G.out.below (hB.trans (h2.mono hB.size))) w.heap.size (by have := hW.size; have := h2.size; simp at *; omega) ((h2.cell (p := ⟨w.heap.size, 0, none⟩) (by have := hW.size; simp at *; omega)).trans ((hW.cell (p := ⟨w.heap.size, 0, none⟩) (by simp; omega)).trans (by simp [go_sem]))) v
  · exact (hW.cell (p := ⟨w.heap.size + 1, 0, none⟩) (by simp)).trans (by simp [go_sem])
  · have := hW.size; simp at this; omega
end Go.Proofs.Ytjlobjgemhapaaa
namespace Go.Proofs.Ytjlobjgemhapaaa
set_option maxRecDepth 20000
set_option maxRecDepth 20000
open Go.RowKit Go.Maps

def intsOf (l : List Nat) : List Int := l.map fun (n : Nat) => (n : Int)
theorem intsOf_snoc {l : List Nat} {n : Nat} : intsOf (l ++ [n]) = intsOf l ++ [(n : Int)] := by simp [intsOf]
set_option maxHeartbeats 2000000 in
theorem which_any {w : World} {A : Option Addr} {c : Nat} {g : List OB} (hg : GAt w A g) (hn : g.length * 64 ≤ 140737488355328) {B : Option Addr} {d : Nat} {ps : List (Nat → OB → Bool)} (hps : AsksAt w B ps) (hl : ps.length ≤ 140737488355328) :
    Calls Try.prog 56 #[gV A g.length c, .slice B ps.length d] w (GivesInts (intsOf (whichL (askAll ps) g)) w) := by
  obtain ⟨i0, hi, hz0, hz1, hz2⟩ := info_parts int_info
  have hmf := hmf2
  have G := Lib.hid hg
  have AS := Lib.hid hps
  have LEN : Hid (∀ k, (intsOf (whichL (askAll ps) (g.take k))).length ≤ k) := fun k => by
    unfold intsOf; rw [List.length_map]
    exact Nat.le_trans (which_len _ _) (List.length_take_le _ _)
  have GET : Hid (∀ i, i < g.length → ∃ p, g[i]? = some p) := fun i hi => ⟨_, List.getElem?_eq_getElem hi⟩
  have FULL : Hid (g.take g.length = g) := List.take_of_length_le (Nat.le_refl _)
  have CO : Hid (∀ W, AsksAt W B ps → ∀ (bi bo : Nat), bi < W.heap.size → bo < W.heap.size → ∀ (i : Nat), i < 4611686018427387904 → ∀ (o : OB) (A : Option Addr) (c : Nat), W.cell? ⟨bi, 0, none⟩ = some (iV i) → CellsAt W ⟨bo, 0, none⟩ o A c → SlotsAt W o A →
    Calls Try.prog 96 #[.slice B ps.length d, .func (.func 95) #[] #[bV bi, bV bo]] W fun e w' => e = .returned (.bool (!askAll ps (i + 1) o)) ∧ Below W.heap.size W w') := fun W h bi bo h1 h2 i hi o A c h3 h4 h5 => ContainsA_any hl h bi bo h1 h2 i hi o A c h3 h4 h5
  clear hg hps hl
  generalize hlen : g.length = n at *
  clear hlen
  go_enter Try.func56, Try.ntmps56
  go_wp2_with fail
  go_loopw [5, 12] (fun v i wr => ∃ k : Nat, k ≤ n ∧ i = .int .i64 k ∧ wr.ownsRow w.heap.size 3 1 v (intsOf (whichL (askAll ps) (g.take k))).length ((intsOf (whichL (askAll ps) (g.take k))).map (Value.int .i64)) ∧ Below w.heap.size w wr) (fun _ i _ => n - (intOf i).toNat)
  case atStart => exact ⟨0, Nat.zero_le _, rfl, World.ownsRow_nil _ _ _ _, (Below.refl _ _).alloc (Nat.le_refl _) _⟩
  case round =>
    obtain ⟨k, hk, rfl, hown, hb⟩ := hrel
    by_cases hlt : k < n
    · obtain ⟨o, ho⟩ := GET.out k hlt
      obtain ⟨a, sA, sc, e, hal, hc, hs⟩ := (G.out.below hb) k o ho
      subst e
      obtain ⟨c0, c1, c2, c3, c4⟩ := hc
      have O := Lib.hid hown
      have BB := Lib.hid hb
      have HO := Lib.hid ho
      have HS := Lib.hid hs
      have hl2 : (a.add (k * 5)).block < wr.heap.size := by rw [Go.ChangeShapes.block_add]; exact hal
      clear hown hb ho hs
      have ED := Lib.hid (which_snoc (p := askAll ps) HO.out)
      have L1 := LEN.out k
      have CALL : Hid (∀ (oo : Obj), oo = .cells #[iV o.kind, iV o.count, .slice sA o.slots.length sc, .string o.text, iV o.mark] 38 (0, 0) → Calls Try.prog 96 #[.slice B ps.length d, .func (.func 95) #[] #[bV wr.heap.size, bV (wr.heap.size + 1)]] ((wr.alloc (.cells #[.int .i64 k] 3 (0, 0))).alloc oo)
          fun e w' => e = .returned (.bool (!askAll ps (k + 1) o)) ∧ Below wr.heap.size wr w' ∧ w'.cell? ⟨wr.heap.size, 0, none⟩ = some (.int .i64 k)) := fun oo he => by
        subst he
        have b1 : Below wr.heap.size wr (wr.alloc (.cells #[.int .i64 k] 3 (0, 0))) := (Below.refl _ _).alloc (Nat.le_refl _) _
        have b2 := b1.alloc (by simp) (.cells #[iV o.kind, iV o.count, .slice sA o.slots.length sc, .string o.text, iV o.mark] 38 (0, 0))
        refine (CO.out _ ((AS.out.below (BB.out)).below b2) wr.heap.size (wr.heap.size + 1) (by simp; omega) (by simp) k (by omega) o sA sc (by simp [go_sem]) ⟨by simp [go_sem], by simp [go_sem], by simp [go_sem], by simp [go_sem], by simp [go_sem]⟩ (HS.out.below b2)).mono ?_
        rintro e w' ⟨h1, h2⟩
        exact ⟨h1, b2.trans (h2.mono (by simp; omega)), (h2.cell (p := ⟨wr.heap.size, 0, none⟩) (by simp; omega)).trans (by simp [go_sem])⟩
      cases hq : askAll ps (k + 1) o with
      | true =>
        rw [hq] at CALL ED
        simp only [if_true] at ED
        clear hq
        go_wp2_with (first
          | (go_at_call 96; refine (CALL.out _ rfl).mono ?_; rintro e w1 ⟨rfl, hb1, hc0⟩; have B1 := Lib.hid hb1; clear hb1)
          | (at_builtin; refine wpList_append_own _ rfl (.tmp 22) (.tmp 25) _ rfl w.heap.size 3 i0 _ 1 8 Try.underlying25 hi hz0 hz1 hz2 rfl (by decide) _ _ _ rfl ((own_below O.out B1.out).alloc _) ⟨w1.heap.size, 0, none⟩ 1 1 [.int .i64 ((k : Int) + 1)] rfl rfl one_cell (by simp [Value.oneCell']) (by unfold maxLen; omega) (by omega) (by have := BB.out.size; have := B1.out.size; simp; omega) ?_; intro v' w2 hown2 hg2 _))
        have E1 : Hid (intsOf (whichL (askAll ps) (g.take (k + 1))) = intsOf (whichL (askAll ps) (g.take k)) ++ [(k : Int) + 1]) := show _ = _ by rw [ED.out, intsOf_snoc]; rfl
        have R := refs_step (own_below O.out B1.out) (BB.out.trans (B1.out.mono BB.out.size)) hown2 hg2 E1.out
        clear hown2 hg2
        go_roundw
        case rel => exact ⟨k + 1, by omega, by go_num, R.1, R.2⟩
        case measure => simp [intOf]; omega
      | false =>
        rw [hq] at CALL ED
        have E1 : Hid (intsOf (whichL (askAll ps) (g.take (k + 1))) = intsOf (whichL (askAll ps) (g.take k))) := show _ = _ by rw [ED.out]; simp
        clear hq
        go_wp2_with (go_at_call 96; refine (CALL.out _ rfl).mono ?_; rintro e w1 ⟨rfl, hb1, hc0⟩; have B1 := Lib.hid hb1; clear hb1)
        go_roundw
        case rel => exact ⟨k + 1, by omega, by go_num, by rw [E1.out]; exact own_below O.out B1.out, BB.out.trans (B1.out.mono BB.out.size)⟩
        case measure => simp [intOf]; omega
    · have O := Lib.hid hown
      have BB := Lib.hid hb
      have hkn : k = n := by omega
      clear hown hb
      go_wp2_with fail
      go_ret
      refine ⟨_, rfl, ?_, BB.out⟩
      have := O.out
      rw [hkn, FULL.out] at this
      exact this
theorem at_world {P : Program} {c : Code} {Q : Exit → Act → World → Prop} {a : Act} {W : World} (S : World → Prop) (hS : S W) (h : ∀ W', S W' → Code.wp P c Q a W') : Code.wp P c Q a W := h W hS
theorem held_keep {w0 w1 w2 : World} {p : Addr} {v : Value} (h : ∀ W, Below w0.heap.size w0 W → W.cell? p = some v) (hs : w1.cell? p = some v ∧ Below w0.heap.size w0 w1) (hb : Below w1.heap.size w1 w2) : w2.cell? p = some v ∧ Below w0.heap.size w0 w2 :=
  ⟨h _ (hs.2.trans (hb.mono hs.2.size)), hs.2.trans (hb.mono hs.2.size)⟩
theorem intsOf_len (l : List Nat) : (intsOf l).length = l.length := by simp [intsOf]
set_option maxHeartbeats 2000000 in
theorem Check_any {w : World} {A : Option Addr} {c : Nat} {g : List OB} (hg : GAt w A g) (hn : g.length * 64 ≤ 140737488355328) :
    Calls Try.prog 18 #[gV A g.length c] w fun e w' => e = .returned (.bool (checkB g)) ∧ Below w.heap.size w w' := by
  have G := Lib.hid hg
  have SM : Hid (∀ W, Below w.heap.size w W → Calls Try.prog 60 #[gV A g.length c] W fun e w' => ∃ f, e = .returned f ∧ AskAt w' f (fun _ o => slotsOk g o) ∧ Below W.heap.size W w') := fun W hW => slotsMay_any (hg.below hW)
  have WH : Hid (∀ W f b, Below w.heap.size w W → AskAt W f (fun _ o => slotsOk g o) → b < W.heap.size → W.cell? ⟨b, 0, none⟩ = some (.func (.func 57) #[] #[]) → W.cell? ⟨b, 1, none⟩ = some (.func (.func 58) #[] #[]) → W.cell? ⟨b, 2, none⟩ = some (.func (.func 59) #[] #[]) → W.cell? ⟨b, 3, none⟩ = some f →
    Calls Try.prog 56 #[gV A g.length c, .slice (some ⟨b, 0, none⟩) 4 4] W fun e w' => ∃ A' n' c', e = .returned (.slice A' n' c') ∧ ((n' : Int) == (g.length : Int)) = checkB g ∧ Below W.heap.size W w') := fun W f b hW hf hb h0 h1 h2 h3 => by
    have := which_any (c := c) (d := 4) (hg.below hW) hn (B := some ⟨b, 0, none⟩) (ps := [fun _ o => kindOk o, fun _ o => numOk o, fun _ o => textOk o, fun _ o => slotsOk g o]) (fun i p hp => by
      match i, hp with
      | 0, hp => injection hp with hp; subst hp; exact ⟨_, _, rfl, hb, by simpa [Addr.add] using h0, ask_kind W⟩
      | 1, hp => injection hp with hp; subst hp; exact ⟨_, _, rfl, hb, by simpa [Addr.add] using h1, ask_numbers W⟩
      | 2, hp => injection hp with hp; subst hp; exact ⟨_, _, rfl, hb, by simpa [Addr.add] using h2, ask_text W⟩
      | 3, hp => injection hp with hp; subst hp; exact ⟨_, _, rfl, hb, by simpa [Addr.add] using h3, hf⟩
      | j + 4, hp => simp at hp) (by simp)
    refine this.mono ?_
    rintro e w' ⟨v, rfl, ho, hb⟩
    have e4 : askAll [fun _ o => kindOk o, fun _ o => numOk o, fun _ o => textOk o, fun _ o => slotsOk g o] = fun _ o => objOk g o := by
      funext _ o
      simp [askAll, objOk, Bool.and_assoc]
    rw [e4] at ho
    obtain ⟨A', c', rfl, _⟩ := ints_of_own ho
    refine ⟨A', _, c', rfl, ?_, hb⟩
    rw [intsOf_len]
    have := which_check (g := g)
    cases hq : checkB g with
    | true => rw [this.2 hq]; simp
    | false =>
      have h3 : ¬ (whichL (fun _ o => objOk g o) g).length = g.length := fun h => by rw [this.1 h] at hq; cases hq
      rw [beq_eq_false_iff_ne]; omega
  clear hg
  generalize checkB g = y at *
  generalize g.length = n at *
  go_enter Try.func18, Try.ntmps18
  go_upto_region 1 with fail
  refine at_world (S := fun W => Below w.heap.size w W ∧ W.cell? ⟨w.heap.size, 0, none⟩ = some (.slice A n c) ∧ w.heap.size < W.heap.size) ⟨(Below.refl _ _).alloc (Nat.le_refl _) _, by simp [go_sem], by simp⟩ (fun V HV => ?_)
  obtain ⟨hV, h0, hlt⟩ := HV
  have BV := Lib.hid hV
  clear hV
  obtain ⟨b0, hb0⟩ : ∃ b0, b0 = w.heap.size := ⟨_, rfl⟩
  rw [← hb0] at h0 hlt ⊢
  clear hb0
  have CX : Hid (∀ W, Below V.heap.size V W → W.cell? ⟨b0, 0, none⟩ = some (.slice A n c)) := fun W hW => (hW.cell (p := ⟨b0, 0, none⟩) hlt).trans h0
  go_region_held3 (fun w' => w'.cell? ⟨b0, 0, none⟩ = some (.slice A n c) ∧ Below V.heap.size V w') (first | exact ⟨h0, (Below.refl _ _).drew⟩ | exact held_keep (fun W => CX.out W) (by assumption) (by assumption) | exact held_keep (fun W => CX.out W) (by assumption) ((Below.refl _ _).alloc (Nat.le_refl _) _))
    (first
    | (go_at_call 60; (with_reducible refine (SM.out _ (by exact BV.out.trans ((by assumption : _ ∧ Below V.heap.size V _).2.mono BV.out.size))).mono ?_); rintro e w1 ⟨f, rfl, hask, hb⟩; have hf := hask; obtain ⟨gg, lb, ef, he1, he2⟩ := hf; subst ef; clear he1 he2)
    | (go_at_call 56; (with_reducible refine (WH.out _ (.func (.func gg) #[] lb) w1.heap.size (by exact BV.out.trans ((by assumption : _ ∧ Below V.heap.size V _).2.mono BV.out.size)) (by exact hask.below ((Below.refl _ _).alloc (Nat.le_refl _) _)) (by simp) (by simp [go_sem]) (by simp [go_sem]) (by simp [go_sem]) (by simp [go_sem])).mono ?_); rintro e w2 ⟨A', n', c', rfl, hq, hb⟩))
  go_wp2_with fail
  go_ret
  exact ⟨rfl, BV.out.trans ((by assumption : _ ∧ Below V.heap.size V w2).2.mono BV.out.size)⟩
end Go.Proofs.Ytjlobjgemhapaaa
namespace Go.Proofs.Ytjlobjgemhapaaa
set_option maxRecDepth 20000
set_option maxRecDepth 20000
open Go.RowKit Go.Maps

theorem refs_values {A : Option Addr} {c : Nat} {l : List (Int × Int)} {w : World} (hl : l.length * 16 ≤ 140737488355328) (h : PairsAt w A l) :
    Calls Try.prog 20 #[.slice A l.length c] w fun e w' => ∃ A' c', e = .returned (.slice A' (refsL l).length c') ∧ (∀ (i : Nat) x, (refsL l)[i]? = some x → ∃ ad, A' = some ad ∧ w.heap.size ≤ ad.block ∧ ad.block < w'.heap.size ∧ w'.cell? (ad.add i) = some (.int .i64 x)) ∧ Below w.heap.size w w' := by
  refine (Refs_any A c l w hl h).mono ?_
  rintro e w' ⟨v, rfl, ho, hb⟩
  have h0 := ho
  rcases ho.2 with ⟨rfl, h1⟩ | ⟨g, cap, cur, rfl, hg1, hg, _⟩
  · refine ⟨none, 0, by rw [h1], fun i x hx => ?_, hb⟩
    rw [List.length_eq_zero_iff.1 h1] at hx; simp at hx
  · refine ⟨some ⟨g, 0, none⟩, cap, rfl, fun i x hx => ⟨_, rfl, hg1, (Array.getElem?_eq_some_iff.1 hg).1, h0.cells rfl i _ (by simp [hx])⟩, hb⟩
theorem grown_trans {a b c : World} {r : Option Nat} (h : a.grownBy b r) (k : b.grownBy c r) : a.grownBy c r :=
  ⟨k.os.trans h.os, k.tape.trans h.tape, k.output.trans h.output, Nat.le_trans h.size k.size, fun i hi hne => (k.block i (Nat.lt_of_lt_of_le hi h.size) hne).trans (h.block i hi hne)⟩
theorem grown_below {a b : World} {r : Option Nat} (h : Below a.heap.size a b) : a.grownBy b r := ⟨h.os, h.tape, h.output, h.size, fun k hk _ => h.block k hk⟩
set_option maxHeartbeats 2000000 in
theorem add_any {w : World} {A : Option Addr} {c : Nat} {l : List (Int × Int)} (hl : l.length * 16 ≤ 140737488355328) (h : PairsAt w A l) (bm mb : Nat) (hbm : w.cell? ⟨bm, 0, none⟩ = some (.map (some mb))) (hne : bm ≠ mb) (L : List Int) (hm : MapI w mb (cntF L)) :
    Calls Try.prog 153 #[.slice A l.length c, bV bm] w fun e w' => e = .returned (.tuple #[]) ∧ MapI w' mb (cntF (L ++ refsL l)) ∧ w.grownBy w' (some mb) := by
  have HR := Lib.hid (refs_values (c := c) hl h)
  have RG : Hid (∀ x, x ∈ refsL l → 1 ≤ x ∧ x ≤ 2147483647) := fun x hx => refs_range hx
  have LN := refsL_len l
  have hbl : bm < w.heap.size := World.block_lt_of_cell? w _ hbm
  have HM := Lib.hid hm
  have hml := hm.lt
  clear h hm
  generalize refsL l = X at *
  obtain ⟨n, hn⟩ : ∃ n, n = X.length := ⟨_, rfl⟩
  rw [← hn] at HR LN
  have GET : Hid (∀ i, i < n → ∃ p, X[i]? = some p) := fun i hi => ⟨_, List.getElem?_eq_getElem (by omega)⟩
  have FULL : Hid (X.take n = X) := List.take_of_length_le (by omega)
  clear hn
  go_enter Try.func153, Try.ntmps153
  go_wp2_with (go_at_call 20; refine HR.out.mono ?_; rintro e w1 ⟨A1, c1, rfl, hi, hb⟩; have I1 := Lib.hid hi; have B1 := Lib.hid hb; clear hi hb)
  go_loopw [8] (fun i wr => ∃ k : Nat, k ≤ n ∧ i = .int .i64 k ∧ Hid (MapI wr mb (cntF (L ++ X.take k))) ∧ Hid (w1.grownBy wr (some mb))) (fun i _ => n - (intOf i).toNat)
  case atStart => exact ⟨0, Nat.zero_le _, rfl, (show MapI _ _ _ from by rw [List.take_zero, List.append_nil]; exact HM.out.keep (B1.out.block _ hml)), ⟨rfl, rfl, rfl, Nat.le_refl _, fun _ _ _ => rfl⟩⟩
  case round =>
    obtain ⟨k, hk, rfl, M, GW⟩ := hrel
    by_cases hlt : k < n
    · obtain ⟨x, hx⟩ := GET.out k hlt
      obtain ⟨ad, e, hge, hal, hc⟩ := I1.out k x hx
      subst e
      have d0 : wr.cell? (ad.add k) = some (.int .i64 x) := (GW.out.cell hc (by rw [Go.ChangeShapes.block_add]; intro e; injection e with e; omega))
      have dm : wr.cell? ⟨bm, 0, none⟩ = some (.map (some mb)) := GW.out.cell ((B1.out.cell (p := ⟨bm, 0, none⟩) hbl).trans hbm) (by simpa using hne)
      have hr := RG.out x (List.mem_of_getElem? hx)
      have HX := Lib.hid hx
      have HRG := Lib.hid hr
      have hget := M.out.run_get (k := x) ⟨by omega, by omega⟩
      obtain ⟨y, hy⟩ : ∃ y, y = cntF (L ++ X.take k) x := ⟨_, rfl⟩
      rw [← hy] at hget
      obtain ⟨w', hput, hM', hG'⟩ := M.out.run_put hr.1 hr.2 (w64_wf (y + 1))
      have HM' := Lib.hid hM'
      have HG' := Lib.hid hG'
      have HY := Lib.hid hy
      clear hx hc hr hM' hG' hy
      have FS : Hid (∀ v, wf64 v → putI (cntF (L ++ X.take k)) x (wrap64 (y + 1)) v = cntF (L ++ X.take (k + 1)) v) := fun v _ => by
        rw [HY.out, cntF_snoc, List.take_add_one, HX.out, List.append_assoc]; rfl
      go_wp2_with fail
      go_roundw
      case rel => exact ⟨k + 1, by omega, by go_num, HM'.out.congr FS.out, grown_trans GW.out HG'.out⟩
      case measure => simp [intOf]; omega
    · have hkn : k = n := by omega
      rw [hkn, FULL.out] at M
      clear hkn
      go_wp2_with fail
      refine bodyPost_end (results_none rfl _ _ _) rfl ?_
      exact ⟨rfl, M.out, grown_trans (grown_below B1.out) GW.out⟩
set_option maxHeartbeats 2000000 in
theorem count_any {w : World} {A : Option Addr} {c : Nat} {g : List OB} (hg : GAt w A g) (hn : g.length * 64 ≤ 140737488355328) {B : Option Addr} {d : Nat} {more : List (Int × Int)} (hB : PairsAt w B more) (hl : more.length * 16 ≤ 140737488355328) :
    Calls Try.prog 102 #[gV A g.length c, .slice B more.length d] w fun e w' => ∃ mb, e = .returned (.map (some mb)) ∧ MapI w' mb (cntF (allRefs g ++ refsL more)) ∧ w.heap.size ≤ mb ∧ Below w.heap.size w w' := by
  have hmf := hmf2
  have G := Lib.hid hg
  have BM := Lib.hid hB
  have AD : Hid (∀ W o sA sc bm mb L, SlotsAt W o sA → W.cell? ⟨bm, 0, none⟩ = some (.map (some mb)) → bm ≠ mb → MapI W mb (cntF L) → Calls Try.prog 153 #[.slice sA o.slots.length sc, bV bm] W fun e w' => e = .returned (.tuple #[]) ∧ MapI w' mb (cntF (L ++ refsL o.slots)) ∧ W.grownBy w' (some mb)) :=
    fun W o sA sc bm mb L hs h1 h2 h3 => add_any hs.2 hs.1 bm mb h1 h2 L h3
  have AM : Hid (∀ W bm mb L, PairsAt W B more → W.cell? ⟨bm, 0, none⟩ = some (.map (some mb)) → bm ≠ mb → MapI W mb (cntF L) → Calls Try.prog 153 #[.slice B more.length d, bV bm] W fun e w' => e = .returned (.tuple #[]) ∧ MapI w' mb (cntF (L ++ refsL more)) ∧ W.grownBy w' (some mb)) :=
    fun W bm mb L hs h1 h2 h3 => add_any hl hs bm mb h1 h2 L h3
  have GET : Hid (∀ i, i < g.length → ∃ p, g[i]? = some p) := fun i hi => ⟨_, List.getElem?_eq_getElem hi⟩
  have FULL : Hid (g.take g.length = g) := List.take_of_length_le (Nat.le_refl _)
  clear hg hB hl
  generalize hlen : g.length = n at *
  clear hlen
  have hmm := @run_makeMap Try.prog
  go_enter Try.func102, Try.ntmps102
  go_wp2_with fail
  go_loopw [14] (fun i wr => ∃ k : Nat, k ≤ n ∧ i = .int .i64 k ∧ Hid (MapI wr (w.heap.size + 1) (cntF (allRefs (g.take k)))) ∧ Hid (Below w.heap.size w wr) ∧ w.heap.size + 1 + 1 < wr.heap.size ∧ wr.cell? ⟨w.heap.size + 1 + 1, 0, none⟩ = some (.map (some (w.heap.size + 1)))) (fun i _ => n - (intOf i).toNat)
  case atStart =>
    have b1 : Below w.heap.size w (w.alloc (.cells #[.slice A n c] 24 (0, 0))) := (Below.refl _ _).alloc (Nat.le_refl _) _
    have m1 := MapI.made (w.alloc (.cells #[.slice A n c] 24 (0, 0)))
    have e1 : (w.alloc (.cells #[.slice A n c] 24 (0, 0))).heap.size = w.heap.size + 1 := by simp
    rw [e1] at m1
    have m2 : MapI _ _ (cntF (allRefs (g.take 0))) := m1.congr (fun _ _ => by simp [cntF, allRefs, wrap64])
    exact ⟨0, Nat.zero_le _, rfl, (show MapI _ _ _ from m2.keep (Below.heap_alloc _ _ _ (by simp))), (show Below _ _ _ from (b1.alloc b1.size _).alloc (by simp; omega) _), by simp, by simp [go_sem]⟩
  case round =>
    obtain ⟨k, hk, rfl, M, BB, hsz, hcb⟩ := hrel
    by_cases hlt : k < n
    · obtain ⟨o, ho⟩ := GET.out k hlt
      obtain ⟨a, sA, sc, e, hal, hc, hs⟩ := (G.out.below BB.out) k o ho
      subst e
      obtain ⟨c0, c1, c2, c3, c4⟩ := hc
      have HS := Lib.hid hs
      have ED : Hid (allRefs (g.take (k + 1)) = allRefs (g.take k) ++ refsL o.slots) := allRefs_snoc ho
      have hl2 : (a.add (k * 5)).block < wr.heap.size := by rw [Go.ChangeShapes.block_add]; exact hal
      clear ho hs
      have CALL : Hid (∀ (oo : Obj), Calls Try.prog 153 #[.slice sA o.slots.length sc, bV (w.heap.size + 1 + 1)] (wr.alloc oo) fun e w' => e = .returned (.tuple #[]) ∧ MapI w' (w.heap.size + 1) (cntF (allRefs (g.take (k + 1)))) ∧ (wr.alloc oo).grownBy w' (some (w.heap.size + 1))) := fun oo => by
        have b2 : Below wr.heap.size wr (wr.alloc oo) := (Below.refl _ _).alloc (Nat.le_refl _) _
        rw [ED.out]
        exact AD.out _ o sA sc _ _ _ (HS.out.below b2) ((b2.cell (p := ⟨w.heap.size + 1 + 1, 0, none⟩) hsz).trans hcb) (by omega) (M.out.keep (b2.block _ M.out.lt))
      go_wp2_with (go_at_call 153; refine (CALL.out _).mono ?_; rintro e w1 ⟨rfl, hM, hG⟩; have M1 := Lib.hid hM; have G1 := Lib.hid hG; clear hM hG)
      have B2 : Hid (Below w.heap.size w w1) := (BB.out.alloc BB.out.size _).grown G1.out (by have := BB.out.size; simp; omega) fun k hk => by injection hk with hk; omega
      have z1 : wr.heap.size < w1.heap.size := by have := G1.out.size; simp at this; omega
      have c1' : w1.cell? ⟨w.heap.size + 1 + 1, 0, none⟩ = some (.map (some (w.heap.size + 1))) := G1.out.cell (((Below.refl _ _).alloc (Nat.le_refl _) _ : Below wr.heap.size wr (wr.alloc _)).cell (p := ⟨w.heap.size + 1 + 1, 0, none⟩) hsz |>.trans hcb) (by simp)
      go_roundw
      case rel => exact ⟨k + 1, by omega, by go_num, M1, B2, by omega, c1'⟩
      case measure => simp [intOf]; omega
    · have hkn : k = n := by omega
      rw [hkn, FULL.out] at M
      have CALL := Lib.hid (AM.out wr (w.heap.size + 1 + 1) (w.heap.size + 1) _ (pairs_below BM.out BB.out) hcb (by omega) M.out)
      clear hkn M
      go_wp2_with (go_at_call 153; refine CALL.out.mono ?_; rintro e w1 ⟨rfl, hM, hG⟩; have M1 := Lib.hid hM; have c1' : w1.cell? ⟨w.heap.size + 1 + 1, 0, none⟩ = some (.map (some (w.heap.size + 1))) := hG.cell hcb (by simp); have B2 : Hid (Below w.heap.size w w1) := BB.out.grown hG BB.out.size fun k hk => (by injection hk with hk; omega); clear hM hG)
      go_ret
      exact ⟨_, rfl, M1.out, by omega, B2.out⟩
end Go.Proofs.Ytjlobjgemhapaaa
namespace Go.Proofs.Ytjlobjgemhapaaa
set_option maxRecDepth 20000
set_option maxRecDepth 20000
open Go.RowKit Go.Maps

/-- Numbers, in memory that was there or that the call made. -/
def GivesI (l : List Int) (w : World) (e : Ending) (w' : World) : Prop := ∃ A c, e = .returned (.slice A l.length c) ∧ IntsAt w' A l ∧ Below w.heap.size w w'
theorem GivesI.of {l : List Int} {w w' : World} {e : Ending} (h : GivesInts l w e w') : GivesI l w e w' := by
  obtain ⟨v, rfl, ho, hb⟩ := h
  obtain ⟨A, c, rfl, hi⟩ := ints_of_own ho
  exact ⟨A, c, rfl, hi, hb⟩
/-- A row of n numbers, of which the first are l. -/
structure RowI (w : World) (b n : Nat) (l : List Int) : Prop where
  cur : ∃ cs : Array Value, w.heap[b]? = some (.cells cs 3 (0, 0)) ∧ cs.size = n ∧ ∀ (i : Nat) x, l[i]? = some x → cs[i]? = some (.int .i64 x)
  le : l.length ≤ n
theorem RowI.keep {w w' : World} {b n : Nat} {l : List Int} (h : RowI w b n l) (hb : w'.heap[b]? = w.heap[b]?) : RowI w' b n l := by
  obtain ⟨⟨cs, h1, h2⟩, h3⟩ := h
  exact ⟨⟨cs, hb.trans h1, h2⟩, h3⟩
theorem RowI.made (w : World) (n : Nat) (z : Array Value) : RowI (w.alloc (.cells (madeCells z n) 3 (0, 0))) w.heap.size n [] := ⟨⟨_, (Go.MapKept.heap_alloc w _).1, size_madeCells _ _, fun i x h => by simp at h⟩, by simp⟩
theorem RowI.lt {w : World} {b n : Nat} {l : List Int} (h : RowI w b n l) : b < w.heap.size := by
  obtain ⟨⟨cs, h1, h2⟩, h3⟩ := h
  exact (Array.getElem?_eq_some_iff.1 h1).1
theorem RowI.cell {w : World} {b n : Nat} {l : List Int} (h : RowI w b n l) {k : Nat} (hk : k < n) : (∃ v, w.cell? ⟨b, k, none⟩ = some v) ∧ w.frozen? ⟨b, k, none⟩ = false := by
  obtain ⟨⟨cs, h1, h2, h4⟩, h3⟩ := h
  subst h2
  exact ⟨⟨cs[k], by simp [World.cell?, h1, hk]⟩, by simp [World.frozen?, h1]⟩
theorem RowI.set {w : World} {b n : Nat} {l : List Int} (h : RowI w b n l) (hk : l.length < n) (x : Int) {k : Nat} (e : k = l.length) : RowI (w.setCell ⟨b, k, none⟩ (.int .i64 x)) b n (l ++ [x]) ∧ w.grownBy (w.setCell ⟨b, k, none⟩ (.int .i64 x)) (some b) := by
  obtain ⟨⟨cs, h1, h2, h4⟩, h3⟩ := h
  subst e
  rw [setCell_eq_setRow w b l.length cs _ _ _ h1]
  refine ⟨⟨⟨_, setRow_heap w b _ _ _ _ h1, by simpa using h2, fun i y hy => ?_⟩, by simp; omega⟩, ⟨rfl, rfl, rfl, by simp [World.setRow], fun i _ hne => setRow_other w b i _ (fun e => hne (by rw [e]))⟩⟩
  by_cases hi : i < l.length
  · rw [List.getElem?_append_left hi] at hy
    rw [Array.getElem?_setIfInBounds_ne (by omega)]
    exact h4 i y hy
  · have hl := (List.getElem?_eq_some_iff.1 hy).1
    simp at hl
    have : i = l.length := by omega
    subst this
    rw [List.getElem?_append_right (Nat.le_refl _)] at hy
    simp at hy
    subst hy
    rw [Array.getElem?_setIfInBounds_self_of_lt (by omega)]
theorem RowI.ints {w : World} {b n : Nat} {l : List Int} (h : RowI w b n l) : IntsAt w (some ⟨b, 0, none⟩) l := by
  intro i x hx
  have hl := h.lt
  obtain ⟨⟨cs, h1, h2, h4⟩, h3⟩ := h
  have e : (⟨b, 0, none⟩ : Addr).add i = ⟨b, i, none⟩ := by unfold Addr.add; split <;> simp_all
  exact ⟨_, rfl, hl, by rw [e]; simp [World.cell?, h1, h4 i x hx]⟩

def intoL (g : List OB) : List Int := if checkB g then (List.range g.length).map (fun (i : Nat) => cntF (allRefs g) ((i : Int) + 1)) else []
theorem run_make_ints (n : Nat) (hn : n ≤ 35184372088832) (w : World) : (Instr.makeSlice 25 (.int .i64 (n : Int)) (.int .i64 (n : Int))).run Try.prog w = .ok (.slice (some ⟨w.heap.size, 0, none⟩) n n) (w.alloc (.cells (madeCells #[.int .i64 0] n) 3 (0, 0))) := by
  obtain ⟨i0, hi, hz0, hz1, hz2⟩ := info_parts int_info
  have := run_make (P := Try.prog) w 25 3 i0 _ Try.underlying25 hi hz0 .i64 .i64 (n : Int) (n : Int) (by omega) (by omega) (by rw [hz2]; omega) (by omega)
  rw [hz1] at this
  simpa [Value.cells] using this
set_option maxHeartbeats 2000000 in
theorem Into_any {w : World} {A : Option Addr} {c : Nat} {g : List OB} (hg : GAt w A g) (hn : g.length * 64 ≤ 140737488355328) :
    Calls Try.prog 61 #[gV A g.length c] w (GivesI (intoL g) w) := by
  have G := Lib.hid hg
  have CH : Hid (∀ W, Below w.heap.size w W → Calls Try.prog 18 #[gV A g.length c] W fun e w' => e = .returned (.bool (checkB g)) ∧ Below W.heap.size W w') := fun W hW => Check_any (hg.below hW) hn
  have CO : Hid (∀ W, Below w.heap.size w W → Calls Try.prog 102 #[gV A g.length c, .slice none 0 0] W fun e w' => ∃ mb, e = .returned (.map (some mb)) ∧ MapI w' mb (cntF (allRefs g)) ∧ W.heap.size ≤ mb ∧ Below W.heap.size W w') := fun W hW => by
    have := count_any (c := c) (hg.below hW) hn (B := none) (d := 0) (more := []) (fun i p hp => by simp at hp) (by simp)
    simpa [refsL] using this
  have mk := run_make_ints
  cases hc : checkB g with
  | false =>
    rw [show intoL g = [] by simp [intoL, hc]]
    rw [hc] at CH
    clear hg hc CO mk
    generalize g.length = n at *
    go_enter Try.func61, Try.ntmps61
    go_wp2_with (go_at_call 18; (with_reducible refine (CH.out _ ((Below.refl _ _).alloc (Nat.le_refl _) _)).mono ?_); rintro e w1 ⟨rfl, hb⟩; have B1 := Lib.hid (below_box hb); clear hb)
    go_ret
    exact ⟨none, 0, rfl, fun i x hx => by simp at hx, B1.out⟩
  | true =>
    rw [show intoL g = (List.range g.length).map (fun (i : Nat) => cntF (allRefs g) ((i : Int) + 1)) by simp [intoL, hc]]
    rw [hc] at CH
    clear hg hc
    generalize cntF (allRefs g) = F at *
    generalize g.length = n at *
    have mk := mk n (by omega)
    go_enter Try.func61, Try.ntmps61
    go_wp2_with (first
      | (go_at_call 18; (with_reducible refine (CH.out _ ((Below.refl _ _).alloc (Nat.le_refl _) _)).mono ?_); rintro e w1 ⟨rfl, hb⟩; have B1 := Lib.hid (below_box hb); have c1 := boxed hb (j := 0) rfl; have z1 : w.heap.size < w1.heap.size := (by have := hb.size; simp at this; omega); clear hb)
      | (go_at_call 102; (with_reducible refine (CO.out _ B1.out).mono ?_); rintro e w2 ⟨mb, rfl, hM, hge, hb⟩; have M2 := Lib.hid hM; have c2 := (hb.cell (p := ⟨w.heap.size, 0, none⟩) z1).trans c1; have hml := hM.lt; have B2 : Hid (Below w.heap.size w w2) := B1.out.trans (hb.mono B1.out.size); clear hb hM))
    go_loopg [17] n (fun gg s17 wr => ∃ k : Nat, k ≤ n ∧ n - k ≤ gg ∧ s17 = .int .i64 k ∧ Hid (RowI wr w2.heap.size n ((List.range k).map (fun (i : Nat) => F ((i : Int) + 1)))) ∧ Hid (MapI wr mb F) ∧ Hid (Below w.heap.size w wr))
    case atStart =>
      exact ⟨0, Nat.zero_le _, by omega, rfl, (show RowI _ _ _ _ from RowI.made w2 n _), (show MapI _ _ _ from M2.out.keep (Below.heap_alloc _ _ _ hml)), (show Below _ _ _ from B2.out.alloc B2.out.size _)⟩
    case round =>
      obtain ⟨k, hk, hgg, rfl, R, M, B⟩ := hrel
      by_cases hlt : k < n
      · obtain ⟨⟨v, hv⟩, hf⟩ := R.out.cell hlt
        have hget := M.out.run_get (k := (k : Int) + 1) ⟨by omega, by omega⟩
        have RS := Lib.hid (R.out.set (x := F ((k : Int) + 1)) (k := k) (by simpa using hlt) (by simp))
        have LN : Hid ((List.range (k + 1)).map (fun (i : Nat) => F ((i : Int) + 1)) = (List.range k).map (fun (i : Nat) => F ((i : Int) + 1)) ++ [F ((k : Int) + 1)]) := show _ = _ by rw [List.range_succ, List.map_append]; rfl
        have HZ := Lib.hid B2.out.size
        go_wp2_with fail
        go_roundg (n - (k + 1))
        case measure => omega
        case rel => exact ⟨k + 1, by omega, by omega, by go_num, (show RowI _ _ _ _ by rw [LN.out]; exact RS.out.1), (show MapI _ _ _ from M.out.keep (RS.out.2.block _ M.out.lt (fun e => by injection e with e; omega))), (show Below _ _ _ from B.out.grown RS.out.2 B.out.size fun j hj => by injection hj with hj; rw [← hj]; exact HZ.out)⟩
      · have hkn : k = n := by omega
        subst hkn
        go_wp2_with fail
        go_ret
        exact ⟨some ⟨w2.heap.size, 0, none⟩, k, by simp, R.out.ints, B.out⟩
end Go.Proofs.Ytjlobjgemhapaaa
namespace Go.Proofs.Ytjlobjgemhapaaa
set_option maxRecDepth 20000
set_option maxRecDepth 20000
open Go.RowKit Go.Maps

def exactL (g : List OB) (more : List (Int × Int)) : List Int := if checkB g then intsOf (whichL (fun n o => o.kind != 0 && o.count != cntF (allRefs g ++ refsL more) n) g) else []

/-! Holders -/
theorem below_two {w w1 : World} {o p : Obj} (hb : Below ((w.alloc o).alloc p).heap.size ((w.alloc o).alloc p) w1) : Below w.heap.size w w1 := by
  have b1 : Below w.heap.size w (w.alloc o) := (Below.refl _ _).alloc (Nat.le_refl _) _
  have b2 := b1.alloc b1.size p
  exact b2.trans (hb.mono b2.size)
theorem ahead_two (w : World) (o p : Obj) : Below w.heap.size w ((w.alloc o).alloc p) := by
  have b1 : Below w.heap.size w (w.alloc o) := (Below.refl _ _).alloc (Nat.le_refl _) _
  exact b1.alloc b1.size p
def holdsB (n : Int) (o : OB) : Bool := o.slots.any fun v => refB v.1 v.2 && v.2 == n
def holdersL (g : List OB) (n : Int) : List Int := if checkB g then intsOf (whichL (fun _ o => holdsB n o) g) else []
end Go.Proofs.Ytjlobjgemhapaaa
