/- The library's slices.Compact at ints: its laying at this program; slices.Compact by contract. -/
import Derived.Test.YtghnjmodnhnmfaaTrSeen
namespace Go.Proofs
set_option maxRecDepth 20000
open Go.RowKit Go.Maps Go.Sort Go.Shelf

def Try.laysNm220_ren : Go.Shelf.Ren := ⟨fun | 20 => 68 | n => n, fun | 0 => 0 | 3 => 3 | 4 => 4 | 22 => 25 | n => n, fun | n => n⟩
theorem Try.laysNm220 : Go.Proofs.Lays2.n20 Try.prog Try.laysNm220_ren := {
  mixed := by kernel_rfl
  f20 := Try.func68.trans (congrArg some (by kernel_rfl))
  t0 := Try.underlying0
  a0 := Try.isAgg0
  z0 := Try.sizeOf0
  v0 := Try.zeroValue0
  t3 := Try.underlying3
  a3 := Try.isAgg3
  z3 := Try.sizeOf3
  v3 := Try.zeroValue3
  t4 := Try.underlying4
  a4 := Try.isAgg4
  z4 := Try.sizeOf4
  v4 := Try.zeroValue4
  t22 := Try.underlying25
  a22 := Try.isAgg25
  z22 := Try.sizeOf25
  v22 := Try.zeroValue25
  i3 := by kernel_rfl }
namespace Ytghnjmodnhnmfaa
theorem compact_short (xs : List Int) : (Lib.compact xs).length ≤ xs.length := by
  unfold Lib.compact Lib.compactUpTo
  rw [List.length_map]
  exact Nat.le_trans (List.length_filter_le _ _) (by simp)
theorem Compact_any {w : World} {base : Nat} {v : Value} {xs : List Int} (h : RowA base w v xs) (hl : xs.length ≤ 1099511627776) :
    Calls Try.prog 68 #[v] w fun e w' => ∃ v', e = .returned v' ∧ RowA base w' v' (Lib.compact xs) ∧ v'.ownBlock = v.ownBlock ∧ Frm (fun k => v.ownBlock = some k) w w' := by
  rcases h with ⟨rfl, rfl⟩ | ⟨blk, cap, rfl, hc, hb, hlt, hH⟩
  · have := Any.slices_Compact_int_empty Try.laysNm220 none 0 w
    change Calls Try.prog 68 _ _ _ at this
    refine this.mono ?_
    rintro e w' ⟨rfl, rfl⟩
    exact ⟨_, rfl, .inl ⟨rfl, by kernel_rfl⟩, rfl, Frm.refl _ _⟩
  · have := Any.slices_Compact_int Try.laysNm220 blk 0 cap xs w hH (by omega) hc
    change Calls Try.prog 68 _ _ _ at this
    refine this.mono ?_
    rintro e w' ⟨rfl, n, rfl⟩
    have hle := compact_short xs
    have h0 : Holds (Value.int .i64) (Sort.ahead w n) blk 0 xs.toArray := hH
    have hsz : (Lib.compact xs ++ List.replicate (xs.length - (Lib.compact xs).length) (0 : Int)).toArray.size = xs.toArray.size := by simp; omega
    have h1 := holds_putRow (Value.int .i64) (Sort.ahead w n) blk 0 xs.toArray _ h0 hsz
    have hF : Frm (fun k => k = blk) w (putRow (Value.int .i64) (Sort.ahead w n) blk 0 (Lib.compact xs ++ List.replicate (xs.length - (Lib.compact xs).length) (0 : Int)).toArray) := frm_put0
    refine ⟨_, rfl, .inr ⟨blk, cap, rfl, Nat.le_trans hle hc, hb, Nat.lt_of_lt_of_le hlt hF.size, fun j hj => ?_⟩, rfl, hF.mono fun k hk => by rw [hk]; rfl⟩
    have hj2 : j < (Lib.compact xs).length := by simpa using hj
    obtain ⟨c1, c2⟩ := h1 j (by simp; omega)
    refine ⟨c1.trans ?_, c2⟩
    rw [getElem!_pos _ j (by simp; omega), getElem!_pos _ j (by simpa using hj)]
    simp [List.getElem_append_left hj2]
/-- What is sorted and compacted: each once, rising. -/
theorem compact_spec {zs : List Int} (hs : zs.Pairwise (· ≤ ·)) : (Lib.compact zs).Pairwise (· < ·) ∧ ∀ x, x ∈ Lib.compact zs ↔ x ∈ zs := by
  have at_ : ∀ i (h : i < zs.length), zs.toArray[i]! = zs[i] := fun i h => by simp [h]
  have key : ∀ m, m ≤ zs.length → (Lib.compactUpTo zs.toArray m).Pairwise (· < ·) ∧ (∀ x, x ∈ Lib.compactUpTo zs.toArray m ↔ x ∈ zs.take m) ∧ (∀ x ∈ Lib.compactUpTo zs.toArray m, ∀ (h : m - 1 < zs.length), 0 < m → x ≤ zs[m - 1]) := by
    intro m
    induction m with
    | zero => intro _; exact ⟨List.Pairwise.nil, fun x => by simp [Lib.compactUpTo], fun x hx => by simp [Lib.compactUpTo] at hx⟩
    | succ m ih =>
      intro hm
      obtain ⟨i1, i2, i3⟩ := ih (by omega)
      have hm' : m < zs.length := by omega
      rw [Lib.compactUpTo_succ, List.take_add_one, List.getElem?_eq_getElem hm', at_ m hm']
      have le_m : ∀ (k : Nat) (hk : k < zs.length), k ≤ m → zs[k] ≤ zs[m] := fun k hk hkm => by
        rcases Nat.lt_or_ge k m with h | h
        · exact List.pairwise_iff_getElem.1 hs k m hk hm' h
        · have : k = m := by omega
          subst this; exact Int.le_refl _
      have le_old : ∀ x ∈ Lib.compactUpTo zs.toArray m, x ≤ zs[m] := fun x hx => by
        have := (i2 x).1 hx
        obtain ⟨k, hk, rfl⟩ := List.getElem_of_mem this
        rw [List.getElem_take]
        simp at hk
        exact le_m k (by omega) (by omega)
      by_cases hk : Lib.keeps zs.toArray m = true
      · rw [if_pos hk]
        refine ⟨?_, fun x => ?_, fun x hx h _ => ?_⟩
        · rw [List.pairwise_append]
          refine ⟨i1, by simp, fun a ha b hb => ?_⟩
          simp at hb
          subst hb
          have h1 := le_old a ha
          rcases Nat.eq_zero_or_pos m with h0 | h0
          · subst h0; simp [Lib.compactUpTo] at ha
          · have h2 := i3 a ha (by omega) h0
            have hne : zs[m] ≠ zs[m - 1] := by
              unfold Lib.keeps at hk
              rw [at_ m hm', at_ (m - 1) (by omega)] at hk
              simp at hk
              omega
            have h3 := le_m (m - 1) (by omega) (by omega)
            omega
        · simp only [List.mem_append, i2, Option.toList_some]
        · rcases List.mem_append.1 hx with h2 | h2
          · exact le_old x h2
          · simp at h2; subst h2; simp
      · rw [if_neg hk]
        have hk2 : 0 < m ∧ zs[m] = zs[m - 1]'(by omega) := by
          unfold Lib.keeps at hk
          rcases Nat.eq_zero_or_pos m with h0 | h0
          · subst h0; simp at hk
          · rw [at_ m hm', at_ (m - 1) (by omega)] at hk
            simp at hk
            exact ⟨h0, by omega⟩
        refine ⟨by simpa using i1, fun x => ?_, fun x hx h _ => ?_⟩
        · simp only [List.append_nil, i2, Option.toList_some, List.mem_append, List.mem_singleton]
          constructor
          · exact .inl
          · rintro (h | rfl)
            · exact h
            · rw [hk2.2]
              exact List.mem_take_iff_getElem.2 ⟨m - 1, by omega, rfl⟩
        · simp only [List.append_nil] at hx
          exact le_old x hx
  have := key zs.length (Nat.le_refl _)
  rw [List.take_of_length_le (Nat.le_refl _)] at this
  exact ⟨this.1, this.2.1⟩
theorem sortI_perm (l : List Int) : (sortI l).Perm l := List.mergeSort_perm _ _
theorem sortI_rise (l : List Int) : (sortI l).Pairwise (· ≤ ·) := by
  have := List.pairwise_mergeSort (le := fun (x y : Int) => decide (x ≤ y)) (fun a b c h1 h2 => by simp at *; omega) (fun a b => by simp; omega) l
  exact this.imp (fun h => by simpa using h)
end Ytghnjmodnhnmfaa
end Go.Proofs
