/- slices.DeleteFunc and slices.Min where reach.way asks them. -/
import Derived.Test.YtiocfnpfmilkgaaRcLens
namespace Go.Proofs.Ytiocfnpfmilkgaa
set_option maxRecDepth 20000
open Go.RowKit Go.Maps Go.Sort Go.Shelf

theorem wayp_any {w : World} {n b4 bl b8 : Nat} (c4 : w.cell? ⟨b4, 0, none⟩ = some (.slice (some ⟨bl, 0, none⟩) (n + 1) (n + 1))) {x l k : Nat} (hx : x ≤ n) (cL : w.cell? ⟨bl, x, none⟩ = some (.int .i64 k)) (c8 : w.cell? ⟨b8, 0, none⟩ = some (.int .i64 l)) :
    Calls Try.prog 106 #[iV x, bV b4, bV b8] w fun e w' => e = .returned (.bool (!(k == l))) ∧ ∃ q, w' = w.drewN q := by
  have hb : (((k : Nat) : Int) != (l : Int)) = !(k == l) := by
    by_cases e : k = l
    · subst e; simp
    · have h1 : ((k : Int) != (l : Int)) = true := by simpa using (by omega : ¬ ((k : Int) = l))
      have h2 : (k == l) = false := by simpa using e
      rw [h1, h2]; rfl
  rw [← hb]
  clear hb
  go_enter Try.func106, Try.ntmps106
  go_wp2_with fail
  go_quiet (fail)
  go_wp2_with fail
  go_ret
  exact ⟨rfl, _, rfl⟩
theorem minOf_spec : ∀ (l : List Int) (a : Int), (l.foldl min a = a ∨ l.foldl min a ∈ l) ∧ l.foldl min a ≤ a ∧ ∀ x ∈ l, l.foldl min a ≤ x
  | [], a => ⟨Or.inl rfl, Int.le_refl _, fun _ h => by cases h⟩
  | y :: r, a => by
    obtain ⟨h1, h2, h3⟩ := minOf_spec r (min a y)
    simp only [List.foldl_cons]
    generalize r.foldl min (min a y) = q at *
    refine ⟨?_, by omega, fun x hx => ?_⟩
    · rcases h1 with h1 | h1
      · by_cases e : a ≤ y
        · left; omega
        · right; have : q = y := by omega
          simp [this]
      · right; simp [h1]
    · rcases List.mem_cons.1 hx with rfl | hx
      · omega
      · exact h3 x hx
theorem minOf_nat {Y : List Nat} (hne : Y ≠ []) (h1 : ∀ x ∈ Y, 1 ≤ x) : Lib.minOf (intsOf Y) = (minN Y : Int) := by
  obtain ⟨a, b⟩ := minN_spec h1 hne
  obtain ⟨y, r, rfl⟩ : ∃ y r, Y = y :: r := by
    cases Y with
    | nil => exact absurd rfl hne
    | cons y r => exact ⟨y, r, rfl⟩
  unfold Lib.minOf
  obtain ⟨h1, h2, h3⟩ := minOf_spec (intsOf (y :: r)) ((intsOf (y :: r)).headD 0)
  have hm : (intsOf (y :: r)).foldl min ((intsOf (y :: r)).headD 0) ∈ intsOf (y :: r) := by
    rcases h1 with h1 | h1
    · rw [h1]; simp [intsOf]
    · exact h1
  have hl := h3 ((minN (y :: r) : Nat) : Int) (List.mem_map.2 ⟨_, a, rfl⟩)
  generalize (intsOf (y :: r)).foldl min ((intsOf (y :: r)).headD 0) = q at *
  obtain ⟨z, hz, rfl⟩ := List.mem_map.1 hm
  have := b z hz
  omega
theorem add_zero_at (bk j : Nat) : (⟨bk, 0, none⟩ : Addr).add j = ⟨bk, 0 + j, none⟩ := by unfold Addr.add; split <;> simp_all
theorem Min_any {w : World} {bk c : Nat} {Y : List Nat} (hi : IntsAt w (some ⟨bk, 0, none⟩) (intsOf Y)) (hne : Y ≠ []) (h1 : ∀ x ∈ Y, 1 ≤ x) (hl : Y.length ≤ 1099511627776) :
    Calls Try.prog 107 #[.slice (some ⟨bk, 0, none⟩) Y.length c] w fun e w' => e = .returned (iV (minN Y)) ∧ w' = w := by
  have h := AnyG.slices_Min_int Try.laysSlN39 bk 0 Y.length c (intsOf Y) w (by cases Y with | nil => exact absurd rfl hne | cons y r => simp) (by rw [intsOf_len]; exact Nat.le_refl _) (by omega) (fun j hj => by
    have hj2 : j < Y.length := by rw [intsOf_len] at hj; exact hj
    obtain ⟨ad, e, _, hc⟩ := hi j _ (intsOf_get (List.getElem?_eq_getElem hj2))
    injection e with e
    subst e
    rw [add_zero_at] at hc
    rw [hc]
    simp [List.getD, intsOf, hj2])
  change Calls Try.prog 107 _ _ _ at h
  refine h.mono ?_
  rintro e w' ⟨rfl, rfl⟩
  refine ⟨?_, rfl⟩
  rw [List.take_of_length_le (by rw [intsOf_len]; exact Nat.le_refl _), minOf_nat hne h1]
abbrev encF (n : Nat) : Fin (n + 1) → Value := fun x => .int .i64 ((x.val : Nat) : Int)
theorem sort_cell {α : Type} [Inhabited α] {enc : α → Value} {w : World} {bk q : Nat} {dk : Array α} {os : Array Obj} {a : Addr} (ha : a.block < w.heap.size) (hn : a.block ≠ bk) : (sortWorld enc w bk 0 q dk os).cell? a = w.cell? a := by
  unfold sortWorld
  have h1 : (grow (putRow enc (Sort.ahead w q) bk 0 dk) os).cell? a = (putRow enc (Sort.ahead w q) bk 0 dk).cell? a :=
    World.cell?_of_block (heap_grow_old _ os (by simpa using ha))
  rw [h1, cell?_putRow_other _ _ _ _ _ _ (Or.inl hn)]
  rfl
theorem frm_putRow {α : Type} [Inhabited α] {enc : α → Value} {w : World} {bk q : Nat} {dk : Array α} : Frm (fun k => k = bk) w (putRow enc (Sort.ahead w q) bk 0 dk) := by
  refine ⟨rfl, rfl, rfl, by simp, fun k _ hn => ?_⟩
  show ((putRow enc (Sort.ahead w q) bk 0 dk).heap)[k]? = w.heap[k]?
  unfold putRow mapBlock
  show (w.heap.modify bk _)[k]? = _
  rw [Array.getElem?_modify, if_neg (fun e => hn e.symm)]
set_option maxHeartbeats 4000000 in
theorem Del_any {w : World} {n b4 bl b8 bk cap : Nat} {X : List Nat} {L : Nat → Nat} {l : Nat} (hX : ∀ x ∈ X, x ≤ n) (hXl : X.length ≤ 1099511627776) (hcap : X.length ≤ cap) {cur : Array Value} (hbk : w.heap[bk]? = some (.cells cur 3 (0, 0))) (hcur : cur.toList.take X.length = (intsOf X).map (Value.int .i64))
    (c4 : w.cell? ⟨b4, 0, none⟩ = some (.slice (some ⟨bl, 0, none⟩) (n + 1) (n + 1))) (cL : ∀ x, x ≤ n → w.cell? ⟨bl, x, none⟩ = some (.int .i64 (L x))) (c8 : w.cell? ⟨b8, 0, none⟩ = some (.int .i64 l)) (n4 : b4 ≠ bk) (nl : bl ≠ bk) (n8 : b8 ≠ bk) :
    Calls Try.prog 104 #[.slice (some ⟨bk, 0, none⟩) X.length cap, .func (.func 106) #[] #[bV b4, bV b8]] w fun e w' =>
      e = .returned (.slice (some ⟨bk, 0, none⟩) (X.filter fun x => L x == l).length cap) ∧ IntsAt w' (some ⟨bk, 0, none⟩) (intsOf (X.filter fun x => L x == l)) ∧ Frm (fun k => k = bk) w w' := by
  have l4 := World.block_lt_of_cell? w _ c4
  have ll := World.block_lt_of_cell? w _ (cL 0 (Nat.zero_le _))
  have l8 := World.block_lt_of_cell? w _ c8
  have lk : bk < w.heap.size := (Array.getElem?_eq_some_iff.1 hbk).1
  obtain ⟨d, hd⟩ : ∃ d : Array (Fin (n + 1)), d = (X.map fun x => Fin.ofNat (n + 1) x).toArray := ⟨_, rfl⟩
  have hds : d.size = X.length := by rw [hd]; simp
  have hval : ∀ x ∈ X, (Fin.ofNat (n + 1) x).val = x := fun x hx => Nat.mod_eq_of_lt (Nat.lt_succ_of_le (hX x hx))
  have hH : Holds (encF n) w bk 0 d := by
    intro j hj
    have hj2 : j < X.length := by rw [← hds]; exact hj
    refine ⟨?_, by simp [World.frozen?, hbk]⟩
    have h1 : (cur.toList.take X.length)[j]? = ((intsOf X).map (Value.int .i64))[j]? := by rw [hcur]
    rw [List.getElem?_take_of_lt hj2] at h1
    simp only [World.cell?, hbk, Nat.zero_add]
    simp only [Option.isSome_none, Bool.false_eq_true, if_false]
    rw [← Array.getElem?_toList, h1]
    simp [intsOf, hj2, hd]
    have := hval X[j] (List.getElem_mem hj2)
    have h2 : X[j] % (n + 1) = X[j] := by simpa using this
    rw [← Int.natCast_one, ← Int.natCast_add, ← Int.natCast_emod, h2]
  have hpred : ∀ (W : World) (x : Fin (n + 1)), W.cell? ⟨b4, 0, none⟩ = w.cell? ⟨b4, 0, none⟩ → W.cell? ⟨bl, x.val, none⟩ = w.cell? ⟨bl, x.val, none⟩ → W.cell? ⟨b8, 0, none⟩ = w.cell? ⟨b8, 0, none⟩ → FnGives Try.prog 106 #[bV b4, bV b8] #[encF n x] (.bool (!(L x.val == l))) W := fun W x h1 h2 h3 =>
    wayp_any (n := n) (h1.trans c4) (Nat.le_of_lt_succ x.isLt) (h2.trans (cL _ (Nat.le_of_lt_succ x.isLt))) (h3.trans c8)
  have h := AnyE.slices_DeleteFunc Try.laysSlH10 (encF n) ?_ (fun x : Fin (n + 1) => !(L x.val == l)) 106 #[bV b4, bV b8] (enters_of Try.func106 (by kernel_rfl) rfl) (0 : Fin (n + 1)) Try.zeroValue3 bk 0 cap d w
    (fun W x hW => hpred W x (hW.cell l4) (hW.cell ll) (hW.cell l8))
    (fun q os dk x _ => hpred _ x (sort_cell l4 n4) (sort_cell ll nl) (sort_cell l8 n8)) hH (by omega) (by omega)
  · change Calls Try.prog 104 _ _ _ at h
    rw [hds] at h
    refine h.mono ?_
    rintro e w' ⟨rfl, q, rfl⟩
    have hfil : (d.toList.filter fun x => !(!(L x.val == l))) = (X.filter fun x => L x == l).map fun x => Fin.ofNat (n + 1) x := by
      rw [hd]
      show ((X.map fun x => Fin.ofNat (n + 1) x).filter _) = _
      rw [List.filter_map]
      congr 1
      refine List.filter_congr fun x hx => ?_
      show (!(!(L (Fin.ofNat (n + 1) x).val == l))) = _
      rw [hval x hx, Bool.not_not]
    rw [hfil]
    have hYX : ∀ x ∈ X.filter (fun x => L x == l), x ∈ X := fun x hx => (List.mem_filter.1 hx).1
    have hYl : (X.filter fun x => L x == l).length ≤ X.length := List.length_filter_le _ _
    generalize X.filter (fun x => L x == l) = Y at *
    refine ⟨by rw [List.length_map], ?_, frm_putRow⟩
    have hH2 : Holds (encF n) (Sort.ahead w q) bk 0 d := holds_ahead _ w q bk 0 d hH
    have hP := holds_putRow (encF n) (Sort.ahead w q) bk 0 d ((Y.map fun x => Fin.ofNat (n + 1) x) ++ List.replicate (X.length - (Y.map fun x => Fin.ofNat (n + 1) x).length) (0 : Fin (n + 1))).toArray hH2 (by simp; omega)
    intro i x hx
    have hxl := (List.getElem?_eq_some_iff.1 hx).1
    rw [intsOf_len] at hxl
    obtain ⟨y, hy⟩ : ∃ y, Y[i]? = some y := ⟨_, List.getElem?_eq_getElem hxl⟩
    have hxy : x = (y : Int) := by
      have := intsOf_get hy
      rw [this] at hx
      injection hx with hx
      exact hx.symm
    subst hxy
    have hc := (hP i (by simp; omega)).1
    refine ⟨_, rfl, by simpa using lk, ?_⟩
    rw [add_zero_at, hc]
    congr 1
    have hg : ((Y.map fun x => Fin.ofNat (n + 1) x) ++ List.replicate (X.length - (Y.map fun x => Fin.ofNat (n + 1) x).length) (0 : Fin (n + 1))).toArray[i]! = Fin.ofNat (n + 1) y := by
      have hi2 : i < ((Y.map fun x => Fin.ofNat (n + 1) x) ++ List.replicate (X.length - (Y.map fun x => Fin.ofNat (n + 1) x).length) (0 : Fin (n + 1))).toArray.size := by simp; omega
      rw [getElem!_pos _ i hi2]
      simp only [List.getElem_toArray]
      rw [List.getElem_append_left (by simpa using hxl), List.getElem_map]
      congr 1
      have := List.getElem?_eq_some_iff.1 hy
      exact this.2
    rw [hg]
    show Value.int .i64 (((Fin.ofNat (n + 1) y).val : Nat) : Int) = _
    rw [hval y (hYX y (List.mem_of_getElem? hy))]
  · intro x; rfl
end Go.Proofs.Ytiocfnpfmilkgaa
