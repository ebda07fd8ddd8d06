/- The document's pool: Take, Copy. -/
import Derived.Test.YtlbbbfmnghcdnaaPoRefC
import Derived.Deep.AppendLies
import Derived.Deep.RegionLaw
namespace Go.Proofs.Ytlbbbfmnghcdnaa
set_option maxRecDepth 20000
open Go.RowKit Go.Maps

theorem bool_info : (Try.prog.info? 4).map (fun i => (i.zero, i.size, i.bytes)) = some (some (.bool false), 1, 1) := by kernel_rfl
theorem same_take {T : List Nat} {l l' : List Bool} {n : Nat} (h : SameT T l) (hn : 1 ≤ n) (h1 : l'[n - 1]? = some true) (h2 : ∀ m, m ≠ n → 1 ≤ m → l'[m - 1]? = l[m - 1]?) : SameT (n :: T) l' := fun m => by
  rw [List.mem_cons, h]
  constructor
  · rintro (rfl | ⟨h3, h4⟩)
    · exact ⟨hn, h1⟩
    · by_cases hm : m = n
      · subst hm; exact ⟨h3, h1⟩
      · exact ⟨h3, by rw [h2 m hm h3]; exact h4⟩
  · rintro ⟨h3, h4⟩
    by_cases hm : m = n
    · exact .inl hm
    · exact .inr ⟨h3, by rw [← h2 m hm h3]; exact h4⟩
theorem brow_slice {w : World} {lo n : Nat} {v : Value} {xs : List Value} (h : w.ownsRow lo 4 1 v n xs) : ∃ A c, v = .slice A n c := by
  rcases brow_form h with ⟨rfl, rfl⟩ | ⟨g, cap, cur, rfl, _⟩
  · exact ⟨_, _, rfl⟩
  · exact ⟨_, _, rfl⟩
/-- The struct is as it was behind an append to its row. -/
theorem ref_far {w w3 : World} {lo n : Nat} {v : Value} {xs : List Value} {qs : Nat} {o o2 : Obj} (h : w.ownsRow lo 4 1 v n xs) (hq : w.heap[qs]? = some o) (hg : (w.alloc o2).grownBy w3 v.ownBlock) (ho : ∀ cs fr, o ≠ .cells cs 4 fr := by intro cs fr e; cases e) : w3.heap[qs]? = some o := by
  have hlt := mem_block_lt hq
  refine (hg.block qs (by simp; omega) ?_).trans ((Below.heap_alloc _ _ _ hlt).trans hq)
  rcases brow_form h with ⟨rfl, _⟩ | ⟨g, cap, cur, rfl, _, hr, _⟩
  · simp [Value.ownBlock]
  · intro e
    simp [Value.ownBlock] at e
    subst e
    rw [hr] at hq; injection hq with hq
    exact ho _ _ hq.symm
theorem brow_set {w : World} {lo n : Nat} {v : Value} {xs : List Value} {qs : Nat} {cs : Array Value} (h : w.ownsRow lo 4 1 v n xs) (hq : w.heap[qs]? = some (.cells cs 80 (0, 0))) (u : Value) : (w.setCell ⟨qs, 0, none⟩ u).ownsRow lo 4 1 v n xs := by
  rcases h.2 with h2 | ⟨g, cap, cur, rfl, hb, hg, r⟩
  · exact ⟨h.1, .inl h2⟩
  · refine ⟨h.1, .inr ⟨g, cap, cur, rfl, hb, (Below.heap_setCell _ _ _ _ ?_).trans hg, r⟩⟩
    intro e
    have e' : g = qs := e
    subst e'
    rw [hg] at hq; cases hq
theorem brow_lo {w : World} {lo n : Nat} {v : Value} {xs : List Value} (h : w.ownsRow lo 4 1 v n xs) (i : Nat) (hi : v.ownBlock = some i) : lo ≤ i := by
  rcases brow_form h with ⟨rfl, _⟩ | ⟨g, cap, cur, rfl, h1, _⟩
  · simp [Value.ownBlock] at hi
  · simp [Value.ownBlock] at hi; omega
theorem brow_obj {w : World} {lo n : Nat} {v : Value} {xs : List Value} (h : w.ownsRow lo 4 1 v n xs) (i : Nat) (hi : v.ownBlock = some i) {o : Obj} (ho : w.heap[i]? = some o) : RefObj o := by
  rcases brow_form h with ⟨rfl, _⟩ | ⟨g, cap, cur, rfl, _, hr, _⟩
  · simp [Value.ownBlock] at hi
  · simp [Value.ownBlock] at hi
    subst hi
    rw [hr] at ho; injection ho with ho; subst ho; exact .inr rfl
set_option maxHeartbeats 1000000 in
theorem R_Take {w : World} {lo qs : Nat} {l : List Bool} {T : List Nat} (h : RefAt w lo qs l) (hT : SameT T l) (hl : l.length ≤ 1073741824) (n : Nat) (hL : Least T n) :
    Calls Try.prog 14 #[bV qs] w fun e w' => e = .returned (nV n) ∧ ∃ l', RefAt w' lo qs l' ∧ SameT (n :: T) l' ∧ l'.length ≤ l.length + 1 ∧ Below lo w w' ∧ KeepR w w' := by
  obtain ⟨A, c, hA, c0, hc1, hc2, lq, fz, loq, hown, hel⟩ := h.form
  have hn1 := hL.1
  have hall : ∀ i, i < n - 1 → l[i]? = some true := fun i hi => by
    have := ((hT (i + 1)).1 (hL.2.2 (i + 1) (by omega) (by omega))).2
    simpa using this
  have hno : l[n - 1]? ≠ some true := fun h2 => hL.2.1 ((hT n).2 ⟨hn1, h2⟩)
  have EL := Lib.hid hel
  have ALL := Lib.hid hall
  have HT := Lib.hid hT
  have HH := Lib.hid h
  have HA := Lib.hid hA
  have OWN := Lib.hid hown
  by_cases hlt : n - 1 < l.length
  · obtain ⟨b, hb⟩ : ∃ b, l[n - 1]? = some b := ⟨_, List.getElem?_eq_getElem hlt⟩
    have hbf : b = false := by
      cases b with
      | false => rfl
      | true => exact absurd hb hno
    subst hbf
    have HB := Lib.hid hb
    obtain ⟨g, rfl, hgq, hg, hfz, -⟩ := hel (by rintro rfl; simp at hb)
    have f1 := hfz (n - 1)
    have SET := Lib.hid (h.set hA rfl (n - 1) true)
    clear hel hall hT h hA hown hno hb hfz hL
    go_enter Try.func14, Try.ntmps14
    go_wp2
    go_loopg [3] (n - 1) (fun gk s3 wr => ∃ i : Nat, s3 = nV i ∧ i + gk = n - 1 ∧ wr = w)
    case atStart => exact ⟨0, rfl, by simp, rfl⟩
    case round =>
      obtain ⟨i, rfl, hi, rfl⟩ := hrel
      have q1 : (i : Int) < (l.length : Int) := by omega
      cases gk with
      | zero =>
        obtain rfl : i = n - 1 := by omega
        obtain ⟨g2, e, _, _, _, hcell⟩ := EL.out (by intro h; rw [h] at hlt; simp at hlt)
        cases e
        have e1 := hcell _ _ HB.out
        clear hcell
        go_wp2_with fail
        go_ret
        refine ⟨ret_int (by omega), _, SET.out.1, same_take HT.out hn1 (by rw [List.getElem?_set, if_pos rfl, if_pos hlt]) (fun m hm h1 => by rw [List.getElem?_set, if_neg (by omega)]), by simp, (Below.refl _ _).setCell hg _ |>.mono (Nat.le_refl _), SET.out.2.1⟩
      | succ gk =>
        obtain ⟨g2, e, _, _, _, hcell⟩ := EL.out (by intro h; rw [h] at hlt; simp at hlt)
        cases e
        have e1 := hcell _ _ (ALL.out i (by omega))
        clear hcell
        go_wp2_with fail
        go_roundg gk
        case measure => omega
        case rel => exact ⟨i + 1, by simp, by omega, rfl⟩
  · have hnl : n - 1 = l.length := by
      rcases Nat.lt_or_ge l.length (n - 1) with h2 | h2
      · have := hall l.length h2
        rw [List.getElem?_eq_none (Nat.le_refl _)] at this; cases this
      · omega
    have HNL := Lib.hid hnl
    obtain ⟨i0, hi0, hz0, hz1, hz2⟩ := info_parts bool_info
    clear hel hall hT h hA hown hno hL hlt
    go_enter Try.func14, Try.ntmps14
    go_wp2
    go_loopg [3] l.length (fun gk s3 wr => ∃ i : Nat, s3 = nV i ∧ i + gk = l.length ∧ wr = w)
    case atStart => exact ⟨0, rfl, by simp, rfl⟩
    case round =>
      obtain ⟨i, rfl, hi, rfl⟩ := hrel
      cases gk with
      | succ gk =>
        have q1 : (i : Int) < (l.length : Int) := by omega
        have hb2 := ALL.out i (by rw [HNL.out]; omega)
        obtain ⟨g2, rfl, _, _, _, hcell⟩ := EL.out (by rintro rfl; simp at hi)
        have e1 := hcell _ _ hb2
        clear hcell hb2
        go_wp2_with fail
        go_roundg gk
        case measure => omega
        case rel => exact ⟨i + 1, by simp, by omega, rfl⟩
      | zero =>
        have q1 : ¬ ((i : Int) < (l.length : Int)) := by omega
        clear hi
        have NW : Hid (∀ j u, [Value.bool true][j]? = some u → (wr.alloc (.cells #[Value.bool true] 4)).cell? ((⟨wr.heap.size, 0, none⟩ : Addr).add j) = some u) := fun j u hj => by
          rcases j with _ | j
          · simp at hj; subst hj; simp [Addr.add_lit, go_sem]
          · simp at hj
        go_wp2_with (at_builtin; refine wpList_append_own _ rfl _ _ 78 rfl lo 4 i0 _ 1 1 Try.underlying78 hi0 hz0 hz1 hz2 rfl (by decide) _ l.length _ rfl (World.ownsRow.alloc OWN.out _) ⟨wr.heap.size, 0, none⟩ 1 1 [.bool true] rfl rfl NW.out (fun u hu => by simp at hu; subst hu; rfl) (by unfold maxLen; omega) (by omega) (by simp; omega) ?_; intro v' w3 hown3 hgrow3 hnil3; have QN : Hid (w3.heap[qs]? = some (.cells #[.slice A l.length c] 80 (0, 0))) := (ref_far OWN.out HA.out hgrow3); have x1 : w3.cell? ⟨qs, 0, none⟩ = some (.slice A l.length c) := (by simp [World.cell?, QN.out]); have x2 : w3.frozen? ⟨qs, 0, none⟩ = false := (by simp [World.frozen?, QN.out]); obtain ⟨A3, c3, rfl⟩ := brow_slice hown3; have O3 := Lib.hid hown3; have G3 := Lib.hid hgrow3; clear hown3 hgrow3 hnil3)
        go_ret
        have hset : (w3.setCell ⟨qs, 0, none⟩ (.slice A3 (l.length + 1) c3)).heap[qs]? = some (.cells #[.slice A3 (l.length + 1) c3] 80 (0, 0)) := by
          rw [setCell_eq_setRow w3 qs 0 _ _ _ _ QN.out, setRow_heap w3 qs _ _ _ _ QN.out]
          rfl
        have hlen : (l ++ [true]).length = l.length + 1 := by simp
        have hmap : (l ++ [true]).map (fun b => Value.bool b) = l.map (fun b => Value.bool b) ++ [.bool true] := by simp
        refine ⟨ret_int (by have := HNL.out; omega), l ++ [true], ⟨_, hset, loq, by rw [hlen, hmap]; exact brow_set O3.out QN.out _⟩, same_take HT.out hn1 (by rw [HNL.out]; simp) (fun m hm h1 => ?_), by simp, ?_, fun k o ho hO => ?_⟩
        · rcases Nat.lt_or_ge (m - 1) l.length with h2 | h2
          · rw [List.getElem?_append_left h2]
          · rw [List.getElem?_eq_none (by have := HNL.out; simp; omega), List.getElem?_eq_none h2]
        · exact (((Below.refl wr.heap.size wr).alloc (Nat.le_refl _) _).mono (by omega : lo ≤ wr.heap.size) |>.grown G3.out (by simp; omega) (fun i hi => brow_lo OWN.out i hi)).setCell loq _
        · have hk := mem_block_lt ho
          have h3 : w3.heap[k]? = some o := (G3.out.block k (by simp; omega) (fun e => hO (brow_obj OWN.out k e.symm ho))).trans ((Below.heap_alloc _ _ _ hk).trans ho)
          refine (Below.heap_setCell _ _ _ _ (fun e => ?_)).trans h3
          subst e
          rw [HA.out] at ho; injection ho with ho; subst ho; exact hO (.inl rfl)
theorem step_append_run {P : Program} {ops : Array Oper} {o : Oper} {a : Act} {w : World} {K : Act → World → Prop} {Q : Exit → Act → World → Prop} {E : Prop}
    (hg : o.guard = none) (d x : Operand) (dT sT : TypeId) (hop : o.op = Op.call { callee := Callee.builtin Builtin.append, args := #[d, x], argTypes := #[dT, sT] })
    (v u : Value) (hd : a.eval d = v) (hx : a.eval x = u) {v' : Value} {w' : World} (hr : (Builtin.append_ #[dT, sT] o.type #[v, u]).run P w = .ok v' w') (hK : K (a.put o.dst v') w') :
    if Region.wanted o (yielded ops a.tmps) = true then Oper.wp P o a w K Q else E := by
  have hw : Region.wanted o (yielded ops a.tmps) = true := by simp [Region.wanted, hg]
  rw [if_pos hw]
  unfold Oper.wp execOp
  simp only [hop, resolve, invoke, builtin, Sem.run_bind, Sem.run_pure, Result.andThen_ok, List.map_toArray, List.map_cons, List.map_nil, hd, hx, hr]
  exact hK
theorem run_append_none (w : World) (ty : TypeId) (A : Option Addr) (c : Nat) : (Builtin.append_ #[78, 78] ty #[.slice none 0 0, .slice A 0 c]).run Try.prog w = .ok (.slice none 0 0) w := by
  obtain ⟨i0, hi0, hz0, hz1, hz2⟩ := info_parts bool_info
  have hl : ∀ (x : Addr), (loadCells x 0).run Try.prog w = .ok #[] w := fun x => by simpa using run_loadCells_list (P := Try.prog) w x [] (by simp)
  cases A <;> simp [Builtin.append_, run_underlying Try.underlying78, Builtin.lenOf, Builtin.firstCells, sizeOf, typeInfo, hi0, hl]
set_option maxHeartbeats 1000000 in
theorem R_Copy {w : World} {lo qs : Nat} {l : List Bool} (h : RefAt w lo qs l) (hl : l.length ≤ 1073741824) :
    Calls Try.prog 16 #[bV qs] w fun e w' => ∃ qs', e = .returned (bV qs') ∧ RefAt w' w.heap.size qs' l ∧ Below w.heap.size w w' := by
  obtain ⟨A, c, hA, c0, hc1, hc2, lq, fz, loq, hown, hel⟩ := h.form
  obtain ⟨i0, hi0, hz0, hz1, hz2⟩ := info_parts bool_info
  have EL := Lib.hid hel
  have NEWB : Hid (∀ v, (w.alloc (.cells #[v] 80)).heap[w.heap.size]? = some (.cells #[v] 80 (0, 0))) := fun v => (MapKept.heap_alloc w _).1
  have q0 : qs < w.heap.size + 1 := by omega
  clear h hA hown hel
  by_cases hne : l = []
  · subst hne
    go_enter Try.func16, Try.ntmps16
    go_wp2
    go_region_law (refine step_append_run rfl _ _ 78 78 rfl (.slice none 0 0) (.slice A 0 c) (by simp [Act.eval]) (by simp [Act.eval]) (run_append_none _ _ _ _) ?_)
    all_goals
      go_wp2_with fail
      go_ret
      exact ⟨w.heap.size, rfl, ⟨_, NEWB.out _, Nat.le_refl _, rfl, .inl ⟨rfl, rfl⟩⟩, below_drew1 ((Below.refl _ _).alloc (Nat.le_refl _) _)⟩
  · obtain ⟨g, rfl, hgq, hg, hfz, hcell⟩ := EL.out hne
    have hpos : 0 < l.length := List.length_pos_iff.2 hne
    have CE : Hid (∀ W : World, (∀ k, k < w.heap.size → W.heap[k]? = w.heap[k]?) → ∀ j u, (l.map fun b => Value.bool b)[j]? = some u → W.cell? ((⟨g, 0, none⟩ : Addr).add j) = some u) := fun W hW j u hj => by
      rw [Addr.add_lit, Nat.zero_add]
      rw [List.getElem?_map] at hj
      obtain ⟨b, hb, rfl⟩ := Option.map_eq_some_iff.1 hj
      have h1 := hcell j b hb
      rw [World.cell?_of_block (w' := W) (w := w) (hW g (World.block_lt_of_cell? w _ h1))]
      exact h1
    clear hcell hfz EL hne
    go_enter Try.func16, Try.ntmps16
    go_wp2
    go_region_law (refine step_append_lies _ rfl (.tmp 10) (.tmp 14) 78 rfl w.heap.size 4 i0 _ 1 1 Try.underlying78 hi0 hz0 hz1 hz2 rfl (by decide) (.slice none 0 0) 0 [] rfl ⟨rfl, .inl ⟨rfl, rfl⟩⟩ ⟨g, 0, none⟩ l.length c (l.map fun b => Value.bool b) rfl (by simp) (CE.out _ (by exact fun k hk => Below.heap_alloc w _ k hk)) (fun u hu => by obtain ⟨b, _, rfl⟩ := List.mem_map.1 hu; rfl) hpos (by unfold maxLen; omega) (by omega) (by simp) (w.heap.size + 1) (by simp) ?_; intro g4 cap w4 hown4 hgrow4 hat4 hlt4; have x1 : w4.heap[w.heap.size]? = some (.cells #[.slice none 0 0] 80 (0, 0)) := (hgrow4.block w.heap.size (by simp) (by simp [Value.ownBlock])).trans (NEWB.out _); have x2 : w4.cell? ⟨w.heap.size, 0, none⟩ = some (.slice none 0 0) := (by simp [World.cell?, x1]); have x3 : w4.frozen? ⟨w.heap.size, 0, none⟩ = false := (by simp [World.frozen?, x1]); have X1 := Lib.hid x1; have O4 := Lib.hid hown4; have G4 := Lib.hid hgrow4; clear x1 hown4 hgrow4 hat4)
    all_goals
      go_wp2_with fail
      go_ret
      have hset : (w4.setCell ⟨w.heap.size, 0, none⟩ (.slice (some ⟨g4, 0, none⟩) l.length cap)).heap[w.heap.size]? = some (.cells #[.slice (some ⟨g4, 0, none⟩) l.length cap] 80 (0, 0)) := by
        rw [setCell_eq_setRow w4 _ 0 _ _ _ _ X1.out, setRow_heap w4 _ _ _ _ _ X1.out]
        rfl
      have O5 := O4.out
      rw [Nat.zero_add, List.nil_append] at O5
      exact ⟨w.heap.size, rfl, ⟨_, hset, Nat.le_refl _, brow_set O5 X1.out _⟩, ((below_drew1 ((Below.refl w.heap.size w).alloc (Nat.le_refl _) _)).grown G4.out (by simp) (fun i hi => by simp [Value.ownBlock] at hi)).setCell (Nat.le_refl _) _⟩
end Go.Proofs.Ytlbbbfmnghcdnaa
