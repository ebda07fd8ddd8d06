/- A set of numbers: a map to struct{}, as the list of its keys. No walk. -/
import Derived.Test.YtghnjmodnhnmfaaRcMath
import Derived.Test.YtghnjmodnhnmfaaGrState
import Derived.Maps.OwnSet
import Derived.Lib.SlKeysI
namespace Go.Proofs.Ytghnjmodnhnmfaa
set_option maxRecDepth 20000
open Go.RowKit Go.Maps

theorem zeroU (w : World) : (zeroValue 125).run Try.prog w = .ok (.agg #[]) w := by kernel_rfl
theorem keyL {n : Int} (h : wf64 n) : keyOf Try.prog 3 (.int .i64 n) = some (.int .i64 n) := keyI h
def MapT (w : World) (m : Nat) (T : List Nat) : Prop :=
  T.Nodup ∧ (∀ n ∈ T, n ≤ 1099511627776) ∧ ∃ D : DataW Unit, w.ownsMap Try.prog 3 unitElem m T.length D ∧ size D = T.length ∧ ∀ k : Int, has D (.int .i64 k) = decide (∃ n ∈ T, (n : Int) = k)
theorem MapT.keep {w w' : World} {m : Nat} {T : List Nat} (h : MapT w m T) (hb : w'.heap[m]? = w.heap[m]?) : MapT w' m T := by
  obtain ⟨h1, h3, D, ⟨es, clock, he, r⟩, h2⟩ := h
  exact ⟨h1, h3, D, ⟨es, clock, hb.trans he, r⟩, h2⟩
theorem MapT.form {w : World} {m : Nat} {T : List Nat} (h : MapT w m T) : ∃ es clock, w.heap[m]? = some (.map es clock) := by
  obtain ⟨_, _, D, ⟨es, clock, he, _⟩, _⟩ := h
  exact ⟨es, clock, he⟩
theorem MapT.lt {w : World} {m : Nat} {T : List Nat} (h : MapT w m T) : m < w.heap.size := by
  obtain ⟨es, clock, he⟩ := h.form
  exact (Array.getElem?_eq_some_iff.1 he).1
theorem MapT.below {w w' : World} {m : Nat} {T : List Nat} (h : MapT w m T) {B : Nat} (hb : Below B w w') (hm : m < B) : MapT w' m T := h.keep (hb.block _ hm)
theorem MapT.made (w : World) : MapT (w.alloc (.map #[] 0)) w.heap.size [] := ⟨List.nodup_nil, (fun _ h => by cases h), _, World.ownsMap_made _ _ _ _, rfl, fun k => by simp [has_eq]⟩
theorem owns_tight {H : Type} {P : Program} {k : TypeId} {R : Value → Option (DataW H × List MemPlace)} {w : World} {b n : Nat} {D : DataW H} (h : w.ownsMap P k R b n D) : w.ownsMap P k R b (size D) D := by
  obtain ⟨es, clock, hb, F, hs, rfl⟩ := h
  exact ⟨es, clock, hb, F, by simp [size, length_sorted], rfl⟩
theorem short_of {T : List Nat} (hd : T.Nodup) (hb : ∀ n ∈ T, n ≤ 1099511627776) : T.length ≤ 1099511627777 := nodup_short _ T hd (fun x hx => by have := hb x hx; omega)
theorem MapT.run_put {w : World} {m : Nat} {T : List Nat} (h : MapT w m T) (n : Nat) (hn : n ≤ 1099511627776) :
    ∃ w', (Instr.mapUpdate 127 (.map (some m)) (iV n) (.agg #[])).run Try.prog w = .ok () w' ∧ MapT w' m (if n ∈ T then T else n :: T) ∧ w.grownBy w' (some m) := by
  obtain ⟨hd, hb, D, ho, hs, hh⟩ := h
  have hl := short_of hd hb
  obtain ⟨w', hrun, r1, r2⟩ := ho.update keyedI Try.underlying127 (by unfold maxLen; omega) (keyL (n := (n : Int)) ⟨by omega, by omega⟩) unitElem_mk
  have hn0 : has D (.int .i64 n) = decide (n ∈ T) := by
    rw [hh, decide_eq_decide]
    constructor
    · rintro ⟨x, hx, he⟩
      have : x = n := by omega
      subst this
      exact hx
    · intro hx; exact ⟨n, hx, rfl⟩
  have hs1 : size (D.put (.int .i64 n) (.agg [])) = (if n ∈ T then T else n :: T).length := by
    rw [size_put (ho.tidy keyedI), hn0]
    by_cases e : n ∈ T <;> simp [e, hs]
  have r1' := owns_tight r1
  rw [hs1] at r1'
  refine ⟨w', hrun, ⟨?_, ?_, _, r1', hs1, fun k => ?_⟩, r2⟩
  · by_cases e : n ∈ T
    · rw [if_pos e]; exact hd
    · rw [if_neg e]; exact List.nodup_cons.2 ⟨e, hd⟩
  · intro x hx
    by_cases e : n ∈ T
    · rw [if_pos e] at hx; exact hb x hx
    · rw [if_neg e] at hx
      rcases List.mem_cons.1 hx with rfl | hx
      · exact hn
      · exact hb x hx
  · by_cases hk : k = (n : Int)
    · subst hk
      rw [has_put_same ho.isMap (show WideAt.IsKeyLit (.int .i64 n) from trivial)]
      symm
      rw [decide_eq_true_iff]
      refine ⟨n, ?_, rfl⟩
      by_cases e : n ∈ T <;> simp [e]
    · rw [has_put_other (by intro e; injection e with _ e; exact hk e), hh]
      have : (∃ m, m ∈ (if n ∈ T then T else n :: T) ∧ (m : Int) = k) ↔ ∃ m ∈ T, (m : Int) = k := by
        by_cases e : n ∈ T
        · rw [if_pos e]
        · rw [if_neg e]
          constructor
          · rintro ⟨x, hx, he⟩
            rcases List.mem_cons.1 hx with rfl | hx
            · exact absurd he.symm hk
            · exact ⟨x, hx, he⟩
          · rintro ⟨x, hx, he⟩; exact ⟨x, by simp [hx], he⟩
      simp only [this]
theorem MapT.run_del {w : World} {m : Nat} {T : List Nat} (h : MapT w m T) (n : Nat) (hn : n ≤ 1099511627776) (hT : n ∈ T) (ty : TypeId) :
    ∃ w', (Builtin.delete_ #[127, 3] ty #[.map (some m), iV n]).run Try.prog w = .ok (.tuple #[]) w' ∧ MapT w' m (T.erase n) ∧ w.grownBy w' (some m) := by
  obtain ⟨hnd, hb, D, ho, hs, hh⟩ := h
  obtain ⟨w', hrun, r1, r2⟩ := ho.drop keyedI Try.underlying127 (keyL (n := (n : Int)) ⟨by omega, by omega⟩) ty
  have hn0 : has D (.int .i64 n) = true := by
    rw [hh, decide_eq_true_iff]
    exact ⟨n, hT, rfl⟩
  have hs1 : size (D.del (.int .i64 n)) = (T.erase n).length := by
    have := size_del (k := .int .i64 n) (ho.tidy keyedI)
    rw [hn0] at this
    rw [List.length_erase_of_mem hT]
    simp at this; omega
  have r1' := owns_tight r1
  rw [hs1] at r1'
  refine ⟨w', hrun, ⟨hnd.erase _, fun x hx => hb x (List.mem_of_mem_erase hx), _, r1', hs1, fun k => ?_⟩, r2.grown⟩
  by_cases hk : k = (n : Int)
  · subst hk
    rw [has_del_same]
    symm
    rw [decide_eq_false_iff_not]
    rintro ⟨x, hx, he⟩
    have : x = n := by omega
    subst this
    rw [hnd.mem_erase_iff] at hx
    exact hx.1 rfl
  · rw [has_del_other (by intro e; injection e with _ e; exact hk e), hh]
    have : (∃ m, m ∈ T ∧ (m : Int) = k) ↔ ∃ m ∈ T.erase n, (m : Int) = k := by
      constructor
      · rintro ⟨x, hx, he⟩
        exact ⟨x, (List.mem_erase_of_ne (by rintro rfl; exact hk he.symm)).2 hx, he⟩
      · rintro ⟨x, hx, he⟩; exact ⟨x, List.mem_of_mem_erase hx, he⟩
    simp only [this]
/-- What the keys say. -/
theorem keys_of {w : World} {m : Nat} {T : List Nat} {D : DataW Unit} (ho : w.ownsMap Try.prog 3 unitElem m T.length D) (hh : ∀ k : Int, has D (.int .i64 k) = decide (∃ n ∈ T, (n : Int) = k)) (hd : T.Nodup) {ss : List Int} (hp : ss.Perm (intKeys D)) :
    ∃ K : List Nat, K.Perm T ∧ ss.mergeSort (fun x y => decide (x ≤ y)) = K.map fun (n : Nat) => (n : Int) := by
  have h1 : (T.map fun (n : Nat) => (n : Int)).Perm (intKeys D) := by
    obtain ⟨es, hD, hpw, _⟩ := ho.entries keyedI
    obtain ⟨es', hD', hko⟩ := ho.keysOf
    obtain rfl : es = es' := by rw [hD] at hD'; simpa using hD'
    subst hD
    refine perm_intKeys hpw (fun p hp' => by obtain ⟨v, hv⟩ := hko p hp'; obtain ⟨x, _, hx, _⟩ := Maps.keyOf_i64 Try.underlying3 hv; exact ⟨x, hx⟩) ?_ (fun x => ?_)
    · rw [List.nodup_iff_pairwise_ne, List.pairwise_map]
      exact hd.imp fun hne e => hne (by omega)
    · rw [hh, decide_eq_true_iff, List.mem_map]
  have h2 : (ss.mergeSort (fun x y => decide (x ≤ y))).Perm (T.map fun (n : Nat) => (n : Int)) := (List.mergeSort_perm _ _).trans (hp.trans h1.symm)
  refine ⟨(ss.mergeSort (fun x y => decide (x ≤ y))).map Int.toNat, ?_, ?_⟩
  · have := h2.map Int.toNat
    rw [List.map_map] at this
    have e : T.map (Int.toNat ∘ fun (n : Nat) => (n : Int)) = T := by
      conv => rhs; rw [← List.map_id T]
      exact List.map_congr_left fun x _ => by simp
    rw [e] at this
    exact this
  · rw [List.map_map]
    conv => lhs; rw [← List.map_id (ss.mergeSort _)]
    refine List.map_congr_left fun x hx => ?_
    have := h2.mem_iff.1 hx
    obtain ⟨n, _, rfl⟩ := List.mem_map.1 this
    simp
end Go.Proofs.Ytghnjmodnhnmfaa
