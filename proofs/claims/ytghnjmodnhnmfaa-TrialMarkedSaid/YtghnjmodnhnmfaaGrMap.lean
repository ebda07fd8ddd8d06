/- A map from numbers to numbers that the program counts in, as a plain function; its keys are objects' numbers, so it has room. No walk. -/
import Derived.Test.YtghnjmodnhnmfaaBase
import Derived.Test.YtghnjmodnhnmfaaGrMath
import Derived.Maps.OwnSet
namespace Go.Proofs.Ytghnjmodnhnmfaa
set_option maxRecDepth 20000
set_option maxRecDepth 20000
open Go.RowKit Go.Maps

theorem keyedI : Keyed Try.prog 3 := int_keyed Try.underlying3
def wf64 (n : Int) : Prop := -9223372036854775808 ≤ n ∧ n ≤ 9223372036854775807
theorem wf_int {n : Int} (h : wf64 n) : (Lit.int .i64 n).wf = true := WalkArith.wf_i64 h
def kI (n : Int) : Lit := .int .i64 n
theorem kI_key (n : Int) : WideAt.IsKeyLit (kI n) := trivial
theorem keyI {n : Int} (h : wf64 n) : keyOf Try.prog 3 (.int .i64 n) = some (kI n) := keyOf_int_mk Try.underlying3 (wf_int h)
theorem zeroI (w : World) : (zeroValue 3).run Try.prog w = .ok (.int .i64 0) w := by kernel_rfl
def goodKey : Lit → Bool
  | .int .i64 n => decide (1 ≤ n) && decide (n ≤ 2147483647)
  | _ => false
def InR (D : DataW Unit) : Prop := ∀ es, D = .map es → es.any (fun p => !goodKey p.1) = false
theorem goodKey_iff {l : Lit} (h : goodKey l = true) : ∃ n : Int, l = .int .i64 n ∧ 1 ≤ n ∧ n ≤ 2147483647 := by
  unfold goodKey at h
  split at h
  · exact ⟨_, rfl, by simpa using h⟩
  · cases h
theorem nodup_short : ∀ (m : Nat) (l : List Nat), l.Pairwise (· ≠ ·) → (∀ x ∈ l, x < m) → l.length ≤ m
  | 0, [], _, _ => Nat.le_refl _
  | 0, x :: r, _, h => absurd (h x (by simp)) (by omega)
  | m + 1, l, hn, h => by
    have h1 : (l.filter fun x => decide (x ≠ m)).length ≤ m := nodup_short m _ (hn.filter _) (fun x hx => by
      obtain ⟨a, b⟩ := List.mem_filter.1 hx
      have := h x a
      have : x ≠ m := by simpa using b
      omega)
    have h2 : l.length ≤ (l.filter fun x => decide (x ≠ m)).length + 1 := by
      clear h1 h
      induction l with
      | nil => simp
      | cons y r ih =>
        obtain ⟨hy, hr⟩ := List.pairwise_cons.1 hn
        by_cases e : y = m
        · subst e
          rw [List.filter_cons_of_neg (by simp), List.filter_eq_self.2 (fun x hx => by simpa using (hy x hx).symm)]
          simp
        · rw [List.filter_cons_of_pos (by simpa using e)]
          have := ih hr
          simp only [List.length_cons]; omega
    omega
theorem inR_size {D : DataW Unit} (ht : Tidy D) (h : InR D) : Maps.size D ≤ 2147483648 := by
  obtain ⟨es, rfl, hp⟩ := ht
  have hg := h es rfl
  rw [List.any_eq_false] at hg
  have hk : ∀ p ∈ es, ∃ n : Int, p.1 = .int .i64 n ∧ 1 ≤ n ∧ n ≤ 2147483647 := fun p hp => goodKey_iff (by simpa using hg p hp)
  let num : Lit × DataW Unit → Nat := fun p => match p.1 with | .int _ n => n.toNat | _ => 0
  have := nodup_short 2147483648 (es.map num) (by
    rw [List.pairwise_map]
    refine hp.imp_of_mem (fun {p q} hp hq hne => ?_)
    obtain ⟨n, e1, h1, h2⟩ := hk p hp
    obtain ⟨m, e2, h3, h4⟩ := hk q hq
    intro e
    apply hne
    simp only [num, e1, e2] at e
    rw [e1, e2]
    have : n = m := by omega
    rw [this]) (fun x hx => by
    obtain ⟨p, hp, rfl⟩ := List.mem_map.1 hx
    obtain ⟨n, e1, h1, h2⟩ := hk p hp
    simp only [num, e1]
    omega)
  simpa [size_eq] using this
theorem inR_put {D : DataW Unit} (hm : IsMap D) (h : InR D) {k : Int} (h1 : 1 ≤ k) (h2 : k ≤ 2147483647) (d : DataW Unit) : InR (D.put (kI k) d) := by
  obtain ⟨es, rfl⟩ := hm
  intro es' e
  have e2 : (DataW.map es : DataW Unit).put (kI k) d = .map (DataW.insert (kI k, d) (es.filter fun p => !p.1.sameKey (kI k))) := rfl
  rw [e2] at e
  injection e with e
  subst e
  rw [any_insert]
  have hg := h es rfl
  have g1 : goodKey (kI k) = true := by simp [goodKey, kI, h1, h2]
  simp only [g1, Bool.not_true, Bool.false_or]
  rw [List.any_eq_false] at hg ⊢
  intro p hp
  exact hg p (List.mem_filter.1 hp).1

/-- Block m is a map that holds f. -/
def IsFunI (D : DataW Unit) (f : Int → Int) : Prop := ∀ n, wf64 n → D.atKey (kI n) (.lit (.int .i64 0)) = .lit (.int .i64 (f n))
def MapI (w : World) (m : Nat) (f : Int → Int) : Prop :=
  ∃ D : DataW Unit, w.ownsMap Try.prog 3 (plainElem Try.prog 3) m 2147483648 D ∧ IsFunI D f ∧ InR D
theorem MapI.keep {w w' : World} {m : Nat} {f : Int → Int} (h : MapI w m f) (hb : w'.heap[m]? = w.heap[m]?) : MapI w' m f := by
  obtain ⟨D, ⟨es, clock, he, r⟩, h2⟩ := h
  exact ⟨D, ⟨es, clock, hb.trans he, r⟩, h2⟩
theorem MapI.lt {w : World} {m : Nat} {f : Int → Int} (h : MapI w m f) : m < w.heap.size := by
  obtain ⟨D, ⟨es, clock, he, r⟩, h2⟩ := h
  rcases Nat.lt_or_ge m w.heap.size with h1 | h1
  · exact h1
  · rw [Array.getElem?_eq_none h1] at he; cases he
theorem MapI.made (w : World) : MapI (w.alloc (.map #[] 0)) w.heap.size (fun _ => 0) := ⟨_, (World.ownsMap_made _ _ _ _).mono (Nat.zero_le _), fun _ _ => rfl, fun es e => by injection e with e; subst e; rfl⟩
def putI (f : Int → Int) (k x : Int) : Int → Int := fun v => if v = k then x else f v
theorem MapI.congr {w : World} {m : Nat} {f g : Int → Int} (h : MapI w m f) (e : ∀ v, wf64 v → f v = g v) : MapI w m g := by
  obtain ⟨D, ho, hf, hr⟩ := h
  exact ⟨D, ho, fun v hv => by rw [← e v hv]; exact hf v hv, hr⟩
theorem MapI.run_put {w : World} {m : Nat} {f : Int → Int} (h : MapI w m f) {k : Int} (h1 : 1 ≤ k) (h2 : k ≤ 2147483647) {x : Int} (hx : wf64 x) :
    ∃ w', (Instr.mapUpdate 68 (.map (some m)) (.int .i64 k) (.int .i64 x)).run Try.prog w = .ok () w' ∧ MapI w' m (putI f k x) ∧ w.grownBy w' (some m) := by
  obtain ⟨D, ho, hf, hr⟩ := h
  have hk : wf64 k := ⟨by omega, by omega⟩
  obtain ⟨w', hrun, r1, r2⟩ := ho.update keyedI Try.underlying68 (by unfold maxLen; omega) (keyI hk) (plainElem_int Try.underlying3 (wf_int hx))
  have hR := inR_put ho.isMap hr h1 h2 (.lit (.int .i64 x))
  have hs := inR_size (r1.tidy keyedI) hR
  refine ⟨w', hrun, ⟨_, ?_, fun v hv => ?_, hR⟩, r2⟩
  · obtain ⟨es, clock, hb, F, hn, hD⟩ := r1
    refine ⟨es, clock, hb, F, ?_, hD⟩
    rw [hD, size_eq, length_read] at hs
    exact hs
  · unfold putI
    by_cases e : v = k
    · subst e
      rw [if_pos rfl]
      exact atKey_put_same ho.isMap (kI_key v) _ _
    · have hne : kI v ≠ kI k := fun h => e (by injection h)
      rw [if_neg e]
      exact (atKey_put_other hne _ _).trans (hf v hv)
theorem MapI.run_get {w : World} {m : Nat} {f : Int → Int} (h : MapI w m f) {k : Int} (hk : wf64 k) :
    (Instr.lookup 68 (.map (some m)) (.int .i64 k) false).run Try.prog w = .ok (.int .i64 (f k)) w := by
  obtain ⟨D, ho, hf, _⟩ := h
  obtain ⟨c, hrun, hc, _⟩ := ho.lookup_int keyedI Try.underlying68 Try.underlying3 (zeroI w) (keyI hk)
  rw [hf k hk] at hc
  injection hc with hc
  injection hc with _ hc
  rw [hrun, hc]

/-! How often each number of a list is there, as 64 bits hold it. -/
def cntF (l : List Int) : Int → Int := fun x => wrap64 (l.count x : Nat)
theorem w64_wf (n : Int) : wf64 (wrap64 n) := by unfold wrap64 wf64; omega
theorem w64_id {n : Int} (h : wf64 n) : wrap64 n = n := by unfold wrap64; unfold wf64 at h; omega
theorem w64_add (a b : Int) : wrap64 (wrap64 a + b) = wrap64 (a + b) := by unfold wrap64; omega
theorem w64_add2 (a b : Int) : wrap64 (wrap64 a + wrap64 b) = wrap64 (a + b) := by unfold wrap64; omega
theorem cntF_snoc (l : List Int) (x v : Int) : putI (cntF l) x (wrap64 (cntF l x + 1)) v = cntF (l ++ [x]) v := by
  unfold putI cntF
  by_cases e : v = x
  · subst e
    rw [if_pos rfl, w64_add, List.count_append]
    simp
  · rw [if_neg e, List.count_append]
    have : List.count v [x] = 0 := by
      rw [List.count_eq_zero]
      simpa using e
    rw [this]
    rfl
end Go.Proofs.Ytghnjmodnhnmfaa
