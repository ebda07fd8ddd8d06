/- A pool, its blocks not named: what New, Take, Give, In, Len, Last do to what is taken. -/
import Derived.Test.YtlbbbfmnghcdnaaPoGive
import Derived.Test.YtlbbbfmnghcdnaaPoCopy
namespace Go.Proofs.Ytlbbbfmnghcdnaa
set_option maxRecDepth 20000
open Go.RowKit Go.Maps

def PoolAt (w : World) (lo ps k : Nat) (T : List Nat) : Prop := ∃ bx mb g F off c, Held w ps bx mb g k T F off c ∧ lo ≤ ps ∧ lo ≤ bx ∧ lo ≤ mb ∧ lo ≤ g
def Other : Obj → Prop
  | .cells _ T _ => T ≠ 59 ∧ T ≠ 46 ∧ T ≠ 77
  | _ => False
/-- What is not of a pool's types is as it was. -/
def KeepO (w w' : World) : Prop := ∀ (k : Nat) (o : Obj), w.heap[k]? = some o → Other o → w'.heap[k]? = some o
theorem KeepO.refl (w : World) : KeepO w w := fun _ _ h _ => h
theorem KeepO.trans {a b c : World} (h : KeepO a b) (k : KeepO b c) : KeepO a c := fun i o ho hO => k i o (h i o ho hO) hO
theorem KeepO.below {w w' : World} (h : Below w.heap.size w w') : KeepO w w' := fun i _ ho _ => (h.block i (mem_block_lt ho)).trans ho
theorem Held.keepO {w w' : World} {ps bx mb g k : Nat} {T : List Nat} {F : List (Nat × Nat)} {off c : Nat} (h : Held w ps bx mb g k T F off c) (ht : Touch ps mb g w w') : KeepO w w' := fun i o ho hO => by
  refine (ht.block i (mem_block_lt ho) ?_ ?_ ?_).trans ho
  · rintro rfl; rw [h.self] at ho; injection ho with ho; subst ho; exact hO.1 rfl
  · rintro rfl
    obtain ⟨es, cl, hm⟩ := h.map.form
    rw [hm] at ho; injection ho with ho; subst ho; exact hO
  · rintro rfl
    obtain ⟨cur, hr, _⟩ := h.row
    rw [hr] at ho; injection ho with ho; subst ho; exact hO.2.2 rfl
/-- A pool is kept where all is that is of its types. -/
theorem PoolAt.below {w w' : World} {lo ps k : Nat} {T : List Nat} (h : PoolAt w lo ps k T) (hb : Below w.heap.size w w') : PoolAt w' lo ps k T := by
  obtain ⟨bx, mb, g, F, off, c, hh, hl⟩ := h
  exact ⟨bx, mb, g, F, off, c, hh.below hb, hl⟩
theorem PoolAt.mono {w : World} {lo lo' ps k : Nat} {T : List Nat} (h : PoolAt w lo ps k T) (hl : lo' ≤ lo) : PoolAt w lo' ps k T := by
  obtain ⟨bx, mb, g, F, off, c, hh, h1, h2, h3, h4⟩ := h
  exact ⟨bx, mb, g, F, off, c, hh, by omega, by omega, by omega, by omega⟩
theorem PoolAt.nodup {w : World} {lo ps k : Nat} {T : List Nat} (h : PoolAt w lo ps k T) : T.Nodup := by obtain ⟨bx, mb, g, F, off, c, hh, _⟩ := h; exact hh.nodup
theorem PoolAt.small {w : World} {lo ps k : Nat} {T : List Nat} (h : PoolAt w lo ps k T) : T.length ≤ k := by obtain ⟨bx, mb, g, F, off, c, hh, _⟩ := h; exact hh.small
theorem PoolAt.lt {w : World} {lo ps k : Nat} {T : List Nat} (h : PoolAt w lo ps k T) : lo ≤ w.heap.size := by obtain ⟨bx, mb, g, F, off, c, hh, h1, _⟩ := h; have := hh.lts; omega
theorem PoolAt.pos {w : World} {lo ps k : Nat} {T : List Nat} (h : PoolAt w lo ps k T) {m : Nat} (hm : m ∈ T) : 1 ≤ m ∧ m ≤ k := by
  obtain ⟨bx, mb, g, F, off, c, hh, _⟩ := h
  obtain ⟨top, hr, ht⟩ := hh.top
  have h1 := (hh.is m).1 hm
  have : ¬ top ≤ m := fun h4 => h1.2.2 (hr.top_free h4 h1.2.1)
  omega
def Least (T : List Nat) (n : Nat) : Prop := 1 ≤ n ∧ n ∉ T ∧ ∀ m, 1 ≤ m → m < n → m ∈ T
theorem Least.eq {T : List Nat} {m n : Nat} (h : Least T m) (k : Least T n) : m = n := by
  rcases Nat.lt_trichotomy m n with h1 | h1 | h1
  · exact absurd (k.2.2 m h.1 h1) h.2.1
  · exact h1
  · exact absurd (h.2.2 n k.1 h1) k.2.1
theorem least_of {T : List Nat} (n : Nat) (h1 : 1 ≤ n) (h2 : n ∉ T) (h3 : ∀ m, m < n → 1 ≤ m → m ∈ T) : Least T n := ⟨h1, h2, fun m a b => h3 m b a⟩
theorem P_New (w : World) : Calls Try.prog 11 #[] w fun e w' => ∃ ps, e = .returned (bV ps) ∧ PoolAt w' w.heap.size ps 0 [] ∧ Below w.heap.size w w' :=
  (New_any w).mono fun _ _ ⟨ps, bx, mb, g, off, c, he, ⟨h1, h2, h3, h4⟩, hh, hb⟩ => ⟨ps, he, ⟨bx, mb, g, _, off, c, hh, h1, h2, h3, h4⟩, hb⟩
section
variable {w : World} {lo ps k : Nat} {T : List Nat} (h : PoolAt w lo ps k T) (hk : k ≤ 1073741824)
include h
theorem P_In (n : Int) (h1 : -9223372036854775808 ≤ n) (h2 : n ≤ 9223372036854775807) : Calls Try.prog 19 #[bV ps, nV n] w fun e w' => e = .returned (.bool (isT T n)) ∧ PoolAt w' lo ps k T ∧ Below w.heap.size w w' := by
  obtain ⟨bx, mb, g, F, off, c, hh, hl⟩ := h
  exact (In_any hh n h1 h2).mono fun _ _ ⟨he, hb⟩ => ⟨he, ⟨bx, mb, g, F, off, c, hh.below hb, hl⟩, hb⟩
theorem P_Len : Calls Try.prog 21 #[bV ps] w fun e w' => e = .returned (nV T.length) ∧ w = w' := by
  obtain ⟨bx, mb, g, F, off, c, hh, hl⟩ := h
  exact Len_any hh
theorem P_Give_no (n : Int) (h1 : -9223372036854775808 ≤ n) (h2 : n ≤ 9223372036854775807) (hT : isT T n = false) : Calls Try.prog 17 #[bV ps, nV n] w fun e w' => e = .returned (.bool false) ∧ PoolAt w' lo ps k T ∧ Below w.heap.size w w' := by
  obtain ⟨bx, mb, g, F, off, c, hh, hl⟩ := h
  exact (Give_no hh n h1 h2 hT).mono fun _ _ ⟨he, hb⟩ => ⟨he, ⟨bx, mb, g, F, off, c, hh.below hb, hl⟩, hb⟩
include hk
theorem P_Last : Calls Try.prog 23 #[bV ps] w fun e w' => (∃ n : Nat, e = .returned (nV n) ∧ n ≤ k ∧ (T = [] → n = 0) ∧ (T ≠ [] → n ∈ T) ∧ ∀ m ∈ T, m ≤ n) ∧ ∃ q, w' = w.drewN q := by
  obtain ⟨bx, mb, g, F, off, c, hh, hl⟩ := h
  exact Last_any hh hk
theorem P_Take : Calls Try.prog 13 #[bV ps] w fun e w' => ∃ n : Nat, e = .returned (nV n) ∧ Least T n ∧ n ≤ k + 1 ∧ PoolAt w' lo ps (k + 1) (n :: T) ∧ Below lo w w' ∧ KeepO w w' := by
  obtain ⟨bx, mb, g, F, off, c, hh, l1, l2, l3, l4⟩ := h
  have z := hh.lts
  exact (Take_any hh hk).mono fun _ _ ⟨n, F', off', c', he, h1, h2, h3, h4, h5, h6⟩ => ⟨n, he, ⟨h3, h5, h6⟩, h4, ⟨bx, mb, g, F', off', c', h1, l1, l2, l3, l4⟩, h2.below (by omega) l1 l3 l4, hh.keepO h2⟩
theorem P_Give (n : Nat) (hn : n ∈ T) : Calls Try.prog 17 #[bV ps, nV n] w fun e w' => e = .returned (.bool true) ∧ PoolAt w' lo ps k (T.erase n) ∧ Below lo w w' ∧ KeepO w w' := by
  obtain ⟨bx, mb, g, F, off, c, hh, l1, l2, l3, l4⟩ := h
  have z := hh.lts
  exact (Give_yes hh n hn hk).mono fun _ _ ⟨F', g', off', c', he, h1, h2, h3⟩ => ⟨he, ⟨bx, mb, g', F', off', c', h1, l1, l2, l3, by rcases h3 with h3 | h3 <;> omega⟩, h2.below (by omega) l1 l3 l4, hh.keepO h2⟩
theorem P_Take_is (n : Nat) (hn : Least T n) : Calls Try.prog 13 #[bV ps] w fun e w' => e = .returned (nV n) ∧ PoolAt w' lo ps (k + 1) (n :: T) ∧ Below lo w w' ∧ KeepO w w' :=
  (P_Take h hk).mono fun _ _ ⟨m, he, h1, _, h2, h3, h4⟩ => by
    obtain rfl := h1.eq hn
    exact ⟨he, h2, h3, h4⟩
theorem P_Last_is (n : Nat) (hn : n ∈ T) (hm : ∀ m ∈ T, m ≤ n) : Calls Try.prog 23 #[bV ps] w fun e w' => e = .returned (nV n) ∧ ∃ q, w' = w.drewN q :=
  (P_Last h hk).mono fun _ _ ⟨⟨m, he, _, _, h2, h3⟩, hq⟩ => by
    have h4 := hm m (h2 (by rintro rfl; simp at hn))
    have h5 := h3 n hn
    obtain rfl : m = n := by omega
    exact ⟨he, hq⟩
end
end Go.Proofs.Ytlbbbfmnghcdnaa
