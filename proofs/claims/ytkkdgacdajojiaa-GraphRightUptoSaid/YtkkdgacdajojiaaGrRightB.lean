/- GraphRight's loops, plain: counts made right one by one, by what slots hold and by what is held beside. -/
import Derived.Test.YtkkdgacdajojiaaGrRightM
namespace Go.Proofs.Ytkkdgacdajojiaa
set_option maxRecDepth 20000

/-- All counts of numbers up to q are right. -/
structure StO (g : List OB) (R : List Int) (q : Nat) (h : List OB) : Prop where
  like : Like g h
  done : ∀ (i : Nat) p, i < q → h[i]? = some p → p.kind ≠ 0 → p.count = ((allRefs g).count ((i : Int) + 1) : Int) + (R.count ((i : Int) + 1) : Int)
/-- .. and of number q + 1 the first k of what is held beside are counted. -/
structure StI (g : List OB) (R : List Int) (q k : Nat) (h : List OB) : Prop where
  outer : StO g R q h
  now : ∃ p, h[q]? = some p ∧ p.kind ≠ 0 ∧ p.count = ((allRefs g).count ((q : Int) + 1) : Int) + ((R.take k).count ((q : Int) + 1) : Int)
theorem StO.start (g : List OB) (R : List Int) : StO g R 0 g := ⟨Like.refl g, fun i _ hi => absurd hi (Nat.not_lt_zero i)⟩
theorem StO.skip {g h : List OB} {R : List Int} {q : Nat} (H : StO g R q h) {p : OB} (hp : h[q]? = some p) (hk : p.kind = 0) : StO g R (q + 1) h := by
  refine ⟨H.like, fun i p' hi hp' hk' => ?_⟩
  by_cases e : i = q
  · subst e; rw [hp] at hp'; injection hp' with hp'; subst hp'; exact absurd hk hk'
  · exact H.done i p' (by omega) hp' hk'
theorem StO.set {g h : List OB} {R : List Int} {q : Nat} (H : StO g R q h) {p : OB} (hp : h[q]? = some p) (hk : p.kind ≠ 0) (x : Int) : StO g R q (h.set q { p with count := x }) := by
  refine ⟨H.like.set hp hk x, fun i p' hi hp' hk' => ?_⟩
  rw [List.getElem?_set_ne (by omega)] at hp'
  exact H.done i p' hi hp' hk'
theorem set_now {h : List OB} {q : Nat} {p : OB} (hp : h[q]? = some p) (r : OB) : (h.set q r)[q]? = some r := List.getElem?_set_self (List.getElem?_eq_some_iff.1 hp).1
theorem StO.enter {g h : List OB} {R : List Int} {q : Nat} (H : StO g R q h) {p : OB} (hp : h[q]? = some p) (hk : p.kind ≠ 0) {x : Int} (hx : x = ((allRefs g).count ((q : Int) + 1) : Int)) : StI g R q 0 (h.set q { p with count := x }) :=
  ⟨H.set hp hk x, _, set_now hp _, hk, by simp [hx]⟩
theorem StI.no {g h : List OB} {R : List Int} {q k : Nat} (H : StI g R q k h) {y : Int} (hy : R[k]? = some y) (hne : y ≠ (q : Int) + 1) : StI g R q (k + 1) h := by
  obtain ⟨p, h1, h2, h3⟩ := H.now
  refine ⟨H.outer, p, h1, h2, ?_⟩
  rw [h3, List.take_add_one, hy, List.count_append]
  simp [hne]
theorem StI.yes {g h : List OB} {R : List Int} {q k : Nat} (H : StI g R q k h) (hy : R[k]? = some ((q : Int) + 1)) {p : OB} (hp : h[q]? = some p) : StI g R q (k + 1) (h.set q { p with count := p.count + 1 }) := by
  obtain ⟨p', h1, h2, h3⟩ := H.now
  rw [hp] at h1; injection h1 with h1; subst h1
  refine ⟨H.outer.set hp h2 _, _, set_now hp _, h2, ?_⟩
  show p.count + 1 = _
  rw [h3, List.take_add_one, hy, List.count_append]
  simp [Int.add_assoc]
theorem StI.out {g h : List OB} {R : List Int} {q k : Nat} (H : StI g R q k h) (hk : R.length ≤ k) : StO g R (q + 1) h := by
  obtain ⟨p, h1, h2, h3⟩ := H.now
  rw [List.take_of_length_le hk] at h3
  refine ⟨H.outer.like, fun i p' hi hp' hk' => ?_⟩
  by_cases e : i = q
  · subst e; rw [h1] at hp'; injection hp' with hp'; subst hp'; exact h3
  · exact H.outer.done i p' (by omega) hp' hk'
theorem StI.range {g h : List OB} {R : List Int} {q k : Nat} (H : StI g R q k h) {p : OB} (hp : h[q]? = some p) {m : Nat} (ha : (allRefs g).length ≤ m) (hr : R.length ≤ m) (hm : m ≤ 2097152) : p.kind ≠ 0 ∧ 0 ≤ p.count ∧ p.count ≤ 4194304 := by
  obtain ⟨p', h1, h2, h3⟩ := H.now
  rw [hp] at h1; injection h1 with h1; subst h1
  have a1 : (allRefs g).count ((q : Int) + 1) ≤ (allRefs g).length := List.count_le_length
  have a2 : (R.take k).count ((q : Int) + 1) ≤ (R.take k).length := List.count_le_length
  have a3 : (R.take k).length ≤ R.length := List.length_take_le' _ _
  exact ⟨h2, by omega, by omega⟩
theorem cntA_eq {g : List OB} {more : List (Int × Int)} {m : Nat} (ha : (allRefs g).length ≤ m) (hr : (refsL more).length ≤ m) (hm : m ≤ 2097152) (n : Int) : cntA g more n = ((allRefs g).count n : Int) + ((refsL more).count n : Int) := by
  unfold cntA
  rw [(cnt_small (m := m + m) (by rw [List.length_append]; omega) (by omega) n).1, List.count_append]
  simp
/-- At the end Exact is silent; and behind one more it tells that one. -/
theorem StO.exact {g h : List OB} {more : List (Int × Int)} {q : Nat} (H : StO g (refsL more) q h) (hq : h.length ≤ q) {m : Nat} (ha : (allRefs g).length ≤ m) (hr : (refsL more).length ≤ m) (hm : m ≤ 2097152) :
    exactL h more = [] := exact_nil H.like fun i p hp hk => by
  rw [cntA_eq ha hr hm]
  exact H.done i p (Nat.lt_of_lt_of_le (List.getElem?_eq_some_iff.1 hp).1 hq) hp hk
theorem StO.range {g h : List OB} {R : List Int} {q : Nat} (H : StO g R q h) (hq : h.length ≤ q) {i : Nat} {p : OB} (hp : h[i]? = some p) (hk : p.kind ≠ 0) {m : Nat} (ha : (allRefs g).length ≤ m) (hr : R.length ≤ m) (hm : m ≤ 2097152) : 0 ≤ p.count ∧ p.count ≤ 4194304 := by
  have := H.done i p (Nat.lt_of_lt_of_le (List.getElem?_eq_some_iff.1 hp).1 hq) hp hk
  have a1 : (allRefs g).count ((i : Int) + 1) ≤ (allRefs g).length := List.count_le_length
  have a2 : R.count ((i : Int) + 1) ≤ R.length := List.count_le_length
  omega
theorem StO.one {g h : List OB} {more : List (Int × Int)} {q : Nat} (hg : checkB g = true) (H : StO g (refsL more) q h) (hq : h.length ≤ q) {m : Nat} (ha : (allRefs g).length ≤ m) (hr : (refsL more).length ≤ m) (hm : m ≤ 2097152)
    {i : Nat} {p : OB} (hp : h[i]? = some p) (hk : p.kind ≠ 0) : exactL (h.set i { p with count := p.count + 1 }) more = [(i : Int) + 1] := by
  have hl := H.like.set hp hk (p.count + 1)
  have hpc := H.done i p (Nat.lt_of_lt_of_le (List.getElem?_eq_some_iff.1 hp).1 hq) hp hk
  have hpr := H.range hq hp hk ha hr hm
  refine exact_one hl (hl.check hg fun j r hj hkr => ?_) (set_now hp _) hk ?_ fun j r hne hj hkr => ?_
  · by_cases e : j = i
    · subst e; rw [set_now hp] at hj; injection hj with hj; subst hj; show 0 ≤ p.count + 1; omega
    · rw [List.getElem?_set_ne (Ne.symm e)] at hj
      exact (H.range hq hj hkr ha hr hm).1
  · show p.count + 1 ≠ _
    rw [cntA_eq ha hr hm]; omega
  · rw [List.getElem?_set_ne (Ne.symm hne)] at hj
    rw [cntA_eq ha hr hm]
    exact H.done j r (Nat.lt_of_lt_of_le (List.getElem?_eq_some_iff.1 hj).1 hq) hj hkr
end Go.Proofs.Ytkkdgacdajojiaa
