/- slices.Replace of no, one or two spans by one. -/
import Derived.Test.YtlbbbfmnghcdnaaPoInsert
namespace Go.Proofs.Ytlbbbfmnghcdnaa
set_option maxRecDepth 20000
open Go.RowKit Go.Maps

theorem row_replace {cur es : List Value} {off n c i j : Nat} {u v : Value} (hl : off + 2 * c ≤ cur.length) (hc : n ≤ c) (hi : i < j) (hj : j ≤ n) (hes : es.length = 2 * n) (h : (cur.drop off).take (2 * n) = es) :
    ((splice (splice cur (off + 2 * i) [u, v]) (off + 2 * (i + 1)) (es.drop (2 * j))).drop off).take (2 * (i + 1 + (n - j))) = es.take (2 * i) ++ u :: v :: es.drop (2 * j) := by
  have l1 : (es.drop (2 * j)).length = 2 * n - 2 * j := by rw [List.length_drop, hes]
  have f1 : off + 2 * i + [u, v].length ≤ cur.length := by simp; omega
  have l2 : (splice cur (off + 2 * i) [u, v]).length = cur.length := length_splice _ _ _ f1
  apply List.ext_getElem?
  intro k
  rw [List.getElem?_take]
  have lt : (es.take (2 * i)).length = 2 * i := by rw [List.length_take]; omega
  by_cases hk : k < 2 * (i + 1 + (n - j))
  · rw [if_pos hk, List.getElem?_drop, splice_get _ _ _ (by rw [l2]; omega), splice_get _ _ _ f1]
    simp only [List.length_cons, List.length_nil]
    by_cases h1 : k < 2 * i
    · rw [if_neg (by omega), if_neg (by omega), List.getElem?_append_left (by omega), List.getElem?_take_of_lt h1]
      exact row_get h (by omega)
    · rw [List.getElem?_append_right (by omega), lt]
      by_cases h2 : k < 2 * i + 2
      · rw [if_neg (by omega), if_pos (by omega), show off + k - (off + 2 * i) = k - 2 * i by omega]
        have : k - 2 * i = 0 ∨ k - 2 * i = 1 := by omega
        rcases this with e | e <;> rw [e] <;> rfl
      · rw [if_pos (by omega)]
        obtain ⟨m, hm⟩ : ∃ m, k - 2 * i = m + 2 := ⟨k - 2 * i - 2, by omega⟩
        rw [hm]
        simp only [List.getElem?_cons_succ]
        congr 1; omega
  · rw [if_neg hk, List.getElem?_eq_none]
    simp [lt, l1]; omega
theorem splice_take {α : Type} {L cs : List α} {off o t : Nat} (ho : off + t ≤ o) (h : o + cs.length ≤ L.length) : ((splice L o cs).drop off).take t = (L.drop off).take t := by
  apply List.ext_getElem?
  intro k
  rw [List.getElem?_take, List.getElem?_take]
  by_cases hk : k < t
  · rw [if_pos hk, if_pos hk, List.getElem?_drop, List.getElem?_drop, splice_get _ _ _ h, if_neg (by omega)]
  · rw [if_neg hk, if_neg hk]
theorem wpList_clear_run {P : Program} (w : World) {ops : Array Oper} {rest : List Oper} {o : Oper} {a : Act} {Q : Exit → Act → World → Prop} (hgd : o.guard = none) (s : Operand) (t : TypeId)
    (ho : o.op = .call { callee := .builtin .clear, args := #[s], argTypes := #[t] }) (v : Value) (hs : a.eval s = v) {v' : Value} {w' : World}
    (hr : (Builtin.clear_ #[t] o.type #[v]).run P w = .ok v' w') (h : wpList P ops Q rest (a.put o.dst v') w') : wpList P ops Q (o :: rest) a w := by
  refine wpList_plain hgd fun K hK => ?_
  unfold Oper.wp execOp
  simp only [ho, resolve, invoke, builtin, Sem.run_bind, Sem.run_pure, Result.andThen_ok, List.map_toArray, List.map_cons, List.map_nil, hs, hr]
  exact hK _ _ h
theorem run_clear_none {P : Program} (w : World) (t ty e : TypeId) (ht : P.underlying t = some (.slice e)) (A : Option Addr) (c : Nat) : (Builtin.clear_ #[t] ty #[.slice A 0 c]).run P w = .ok (.tuple #[]) w := by
  cases A <;> simp [Builtin.clear_, run_underlying ht]
abbrev zz : List Value := [nV 0, nV 0]
theorem run_clear_one (w : World) (ty : TypeId) (g o c : Nat) (cur : List Value) (hg : w.heap[g]? = some (.cells cur.toArray 77 (0, 0))) (hfit : o + 2 ≤ cur.length) :
    (Builtin.clear_ #[56] ty #[.slice (some ⟨g, o, none⟩) 1 c]).run Try.prog w = .ok (.tuple #[]) (w.setRow g (splice cur o zz).toArray) := by
  obtain ⟨i0, hi0, hz0, hz1, hz2⟩ := info_parts span_info
  have := run_clear_row (P := Try.prog) w 56 ty 77 i0 _ Try.underlying56 hi0 hz0 (by rw [hz1]; rfl) (fun v hv => by simp [Value.cells] at hv; subst hv; rfl) g o 1 c cur _ hg (by rw [hz1]; omega) (by omega) (by omega)
  have e : (Builtin.zeroCells (Value.agg #[nV 0, nV 0]).cells 1).toList = zz := by
    first
      | kernel_rfl
      | (simp [Builtin.zeroCells, Value.cells, List.range, List.range.loop]; done)
  rw [e] at this
  exact this
theorem grown_drewN {a b : World} {row : Option Nat} (h : a.grownBy b row) (k : Nat) : a.grownBy (b.drewN k) row := ⟨h.os, h.tape, h.output, h.size, h.block⟩
abbrev GoodR (w : World) (g n' : Nat) (es' : List Value) (e : Ending) (w' : World) : Prop :=
  ∃ g' off' c', e = .returned (.slice (some ⟨g', off', none⟩) n' c') ∧ RowF w' g' off' n' c' es' ∧ (g' = g ∨ w.heap.size ≤ g') ∧ w.grownBy w' (some g)
section
variable (w : World) (g off n c i vb : Nat) (es : List Value) (x y : Value) (hrow : RowF w g off n c es) (h1 : ∀ v ∈ es, v.oneCell' = true) (hn : n ≤ 1099511627776)
    (hv : w.heap[vb]? = some (.cells #[x, y] 77 (0, 0))) (hx : x.oneCell' = true) (hy : y.oneCell' = true) (hne : vb ≠ g)
include hrow h1 hn hv hx hy hne
/-- None is taken away. -/
theorem Replace_none (hi : i < n) : Calls Try.prog 46 #[.slice (some ⟨g, off, none⟩) n c, nV i, nV i, .slice (some ⟨vb, 0, none⟩) 1 1] w fun e w' => GoodR w g (n + 1) (es.take (2 * i) ++ x :: y :: es.drop (2 * i)) e w' := by
  have I := Lib.hid (Insert_any w g off n c i vb es x y hrow h1 hi hn hv hx hy hne)
  have c8 : c ≤ 9223372036854775807 := by obtain ⟨cur, _, _, _, r4, _⟩ := hrow; unfold maxLen at r4; exact r4
  have hcn := hrow.room
  clear hrow h1 hv hx hy hne
  have b3 : ¬ (c = i) := by omega
  have b4 : i ≤ c := by omega
  go_enter Try.func46, Try.ntmps46
  go_wp2_with (go_at_call 55; (with_reducible refine I.out.mono ?_); rintro e w1 ⟨g', off', c', rfl, r1, r2, r3⟩; have R := Lib.hid (And.intro r1 (And.intro r2 r3)); clear r1 r2 r3)
  go_ret
  exact ⟨g', off', c', rfl, R.out⟩
omit h1 hne in
/-- The last one, or the last two. -/
theorem Replace_end (j : Nat) (hi : i < j) (hj : j = n) (hji : j ≤ i + 2) : Calls Try.prog 46 #[.slice (some ⟨g, off, none⟩) n c, nV i, nV j, .slice (some ⟨vb, 0, none⟩) 1 1] w fun e w' => GoodR w g (i + 1) (es.take (2 * i) ++ x :: y :: es.drop (2 * j)) e w' := by
  subst hj
  obtain ⟨cur, r1, r2, r3, r4, r5, r6⟩ := hrow
  have R1 := Lib.hid r1
  have R6 := Lib.hid r6
  have R5 := Lib.hid r5
  have HV := Lib.hid hv
  have hap : ∀ ty, (Builtin.append_ #[56, 56] ty #[.slice (some ⟨g, off, none⟩) i c, .slice (some ⟨vb, 0, none⟩) 1 1]).run Try.prog w = _ := fun ty =>
    run_append_row (P := Try.prog) w 56 ty 77 2 Try.underlying56 span_size g off i c ⟨vb, 0, none⟩ 1 1 cur _ r1 [x, y] rfl (fun j v hj => by rw [Addr.add_lit]; simp only [World.cell?, hv, Nat.zero_add]; simpa using hj) (fun v hv => by simp at hv; rcases hv with rfl | rfl <;> assumption) (by omega) (by simp; omega)
  have AP := Lib.hid hap
  obtain ⟨w1, hw1⟩ : ∃ w1, w1 = w.setRow g (splice cur (off + i * 2) [x, y]).toArray := ⟨_, rfl⟩
  have g1 : w1.heap[g]? = some (.cells (splice cur (off + 2 * i) [x, y]).toArray 77 (0, 0)) := by rw [hw1, setRow_heap w g _ _ _ _ r1, Nat.mul_comm]
  have g2 : w.grownBy w1 (some g) := by rw [hw1]; exact grown_setRow w g _
  rw [← hw1] at AP
  have G1 := Lib.hid g1
  have G2 := Lib.hid g2
  have l1 : (splice cur (off + 2 * i) [x, y]).length = cur.length := length_splice _ _ _ (by simp; omega)
  have L1 := Lib.hid l1
  have hfin : ((splice cur (off + 2 * i) [x, y]).drop off).take (2 * (i + 1)) = es.take (2 * i) ++ x :: y :: es.drop (2 * j) := by
    have := row_replace (u := x) (v := y) r2 r3 hi (Nat.le_refl j) r5 r6
    rw [Nat.sub_self, Nat.add_zero] at this
    exact (splice_take (L := splice cur (off + 2 * i) [x, y]) (cs := es.drop (2 * j)) (o := off + 2 * (i + 1)) (by omega) (by rw [List.length_drop, r5, l1]; omega)).symm.trans this
  have FIN := Lib.hid hfin
  have hln : (es.take (2 * i) ++ x :: y :: es.drop (2 * j)).length = 2 * (i + 1) := by simp [r5]; omega
  have LN := Lib.hid hln
  clear hap hw1 r1 r5 r6 hv g1 g2 l1 hfin hln
  unfold maxLen at r4
  have b0 : ¬ ((i : Int) = (j : Int)) := by omega
  have b1 : i ≤ j := by omega
  have b2 : i ≤ c := by omega
  have b3 : ¬ (c = i) := by omega
  by_cases h2 : j = i + 1
  · subst h2
    go_enter Try.func46, Try.ntmps46
    go_wp2_with (at_builtin; refine Lib.wpList_append_run _ rfl _ _ _ _ rfl _ _ rfl rfl _ _ (AP.out _) ?_)
    go_ret
    exact ⟨g, off, c, rfl, ⟨_, G1.out, by rw [L1.out]; exact r2, by omega, r4, LN.out, FIN.out⟩, .inl rfl, G2.out⟩
  · have h3 : j = i + 2 := by omega
    have c2 : ∀ ty d, (Builtin.clear_ #[56] ty #[.slice (some ⟨g, off + (i + 1) * 2, none⟩) 1 d]).run Try.prog w1 = _ := fun ty d => run_clear_one w1 ty g (off + (i + 1) * 2) d _ G1.out (by rw [L1.out]; omega)
    have C2 := Lib.hid c2
    clear c2
    have b5 : ¬ (c = i + 1) := by omega
    have b6 : ((i : Int) + 1).toNat = i + 1 := by omega
    have b7 : j - (i + 1) = 1 := by omega
    have b8 : i + 1 ≤ j := by omega
    have b9 : (i : Int) + 1 < (j : Int) := by omega
    have H3 := Lib.hid h3
    clear h3 h2 hji
    obtain ⟨w2, hw2⟩ : ∃ w2, w2 = w1.setRow g (splice (splice cur (off + 2 * i) [x, y]) (off + (i + 1) * 2) zz).toArray := ⟨_, rfl⟩
    rw [← hw2] at C2
    have HW2 := Lib.hid hw2
    clear hw2
    go_enter Try.func46, Try.ntmps46
    go_wp2_with (first
      | (at_builtin; refine Lib.wpList_append_run _ rfl _ _ _ _ rfl _ _ rfl rfl _ _ (AP.out _) ?_)
      | (refine wpList_clear_run _ rfl _ 56 rfl _ rfl (C2.out _ _) ?_))
    go_ret
    have h3 := H3.out
    have hf : off + (i + 1) * 2 + zz.length ≤ (splice cur (off + 2 * i) [x, y]).length := by rw [L1.out]; show _ + 2 ≤ _; omega
    refine ⟨g, off, c, rfl, ⟨splice (splice cur (off + 2 * i) [x, y]) (off + (i + 1) * 2) zz, ?_, ?_, by omega, r4, LN.out, ?_⟩, .inl rfl, ?_⟩
    · rw [HW2.out, setRow_heap w1 g _ _ _ _ G1.out]
    · rw [length_splice _ _ _ hf, L1.out]; exact r2
    · rw [splice_take (by omega) hf]; exact FIN.out
    · rw [HW2.out]; exact grown_then G2.out (grown_setRow w1 g _)
omit hne in
set_option maxHeartbeats 1000000 in
/-- One or two, not the last. -/
theorem Replace_mid (j : Nat) (hi : i < j) (hj : j < n) (hji : j ≤ i + 2) : Calls Try.prog 46 #[.slice (some ⟨g, off, none⟩) n c, nV i, nV j, .slice (some ⟨vb, 0, none⟩) 1 1] w fun e w' => GoodR w g (i + 1 + (n - j)) (es.take (2 * i) ++ x :: y :: es.drop (2 * j)) e w' := by
  obtain ⟨cur, r1, r2, r3, r4, r5, r6⟩ := hrow
  unfold maxLen at r4
  have R1 := Lib.hid r1
  have R6 := Lib.hid r6
  have R5 := Lib.hid r5
  have HV := Lib.hid hv
  obtain ⟨t, ht⟩ : ∃ t, t = i + 1 + (n - j) := ⟨_, rfl⟩
  have hdl : (es.drop (2 * j)).length = 2 * (n - j) := by rw [List.length_drop, r5]; omega
  have HD := Lib.hid hdl
  have fin := row_replace (u := x) (v := y) r2 r3 hi (Nat.le_of_lt hj) r5 r6
  obtain ⟨D, hD⟩ : ∃ D, D = es.drop (2 * j) := ⟨_, rfl⟩
  have H1D : Hid (∀ v ∈ D, v.oneCell' = true) := fun v hv => h1 v (by rw [hD] at hv; exact List.mem_of_mem_drop hv)
  have CD : Hid (∀ k v, D[k]? = some v → cur[off + (2 * j + k)]? = some v) := fun k v hk => by
    rw [hD, List.getElem?_drop] at hk
    have hlt : 2 * j + k < es.length := (List.getElem?_eq_some_iff.1 hk).1
    rw [row_get r6 (by rw [r5] at hlt; exact hlt)]; exact hk
  have hln : (es.take (2 * i) ++ x :: y :: es.drop (2 * j)).length = 2 * t := by simp [r5]; omega
  have LN := Lib.hid hln
  rw [← ht, ← hD] at fin
  rw [← hD] at HD LN
  rw [← ht, ← hD]
  have FIN := Lib.hid fin
  have HDD := Lib.hid hD
  have HT := Lib.hid ht
  have e1 : IntKind.i64.wrap ((i : Int) + 1) = (i : Int) + 1 := IntWalk.i64_in _ (by omega)
  have e2 : IntKind.i64.wrap ((i : Int) + 1 + ((n - j : Nat) : Int)) = (t : Int) := by rw [IntWalk.i64_in _ (by omega)]; omega
  have t1 : t ≤ n := by omega
  have t2 : t ≤ c := by omega
  have t3 : i + 1 ≤ t := by omega
  have t4 : i ≤ t := by omega
  have t5 : (t : Int) ≤ (c : Int) := by omega
  have t6 : (i : Int) + 1 ≤ (j : Int) := by omega
  have t7 : (i : Int) + 1 ≤ (t : Int) := by omega
  have t8 : (0 : Int) ≤ (i : Int) + 1 := by omega
  have b0 : ¬ ((i : Int) = (j : Int)) := by omega
  have b1 : ¬ ((j : Int) = (n : Int)) := by omega
  have b2 : i ≤ j := by omega
  have b3 : j ≤ n := by omega
  have b4 : j ≤ c := by omega
  have b5 : i ≤ c := by omega
  have b6 : ¬ (c = i) := by omega
  have b7 : ¬ (c = j) := by omega
  have b8 : ¬ (c = i + 1) := by omega
  have b9 : ((i : Int) + 1).toNat = i + 1 := by omega
  have b10 : t - (i + 1) = n - j := by omega
  clear r1 r5 r6 hv hdl fin hD h1 hln ht
  go_enter Try.func46, Try.ntmps46
  go_wp2_with fail
  go_quiet (fail)
  go_wp2_with (refine wpList_copy_two rfl _ _ 56 56 rfl 77 2 Try.underlying56 span_size (some ⟨g, off + i * 2, none⟩) (some ⟨vb, 0, none⟩) (t - i) (c - i) 1 1 rfl rfl g (off + 2 * i) (by rw [show i * 2 = 2 * i by omega]) ⟨vb, 0, none⟩ rfl cur 77 R1.out [x, y] (by simp only [Nat.min_def]; split <;> simp <;> omega) (fun j v hj => by rw [Addr.add_lit]; simp [World.cell?, HV.out]; simpa using hj) (by simp; omega) (fun v hv => by simp at hv; rcases hv with rfl | rfl <;> assumption) ?_; intro w1 hw1 hg1)
  have l1 : (splice cur (off + 2 * i) [x, y]).length = cur.length := length_splice _ _ _ (by simp; omega)
  have L1 := Lib.hid l1
  have CD2 : Hid (∀ k v, D[k]? = some v → w1.drew.cell? ((⟨g, off + j * 2, none⟩ : Addr).add k) = some v) := fun k v hk => by
    rw [Addr.add_lit]
    show w1.cell? _ = _
    have : (splice cur (off + 2 * i) [x, y])[off + j * 2 + k]? = some v := by
      rw [splice_get _ _ _ (by simp; omega), if_neg (by simp; omega), show off + j * 2 + k = off + (2 * j + k) by omega]
      exact CD.out k v hk
    simp [World.cell?, hw1.out, this]
  clear l1
  go_region_law (refine step_copy_two rfl _ _ 56 56 rfl 77 2 Try.underlying56 span_size (some ⟨g, off + (i + 1) * 2, none⟩) (some ⟨g, off + j * 2, none⟩) (n - j) (c - (i + 1)) (n - j) (c - j) (by simp [Act.eval, Act.put]) (by simp [Act.eval, Act.put]) g (off + 2 * (i + 1)) (by rw [show (i + 1) * 2 = 2 * (i + 1) by omega]) ⟨g, off + j * 2, none⟩ rfl (splice cur (off + 2 * i) [x, y]) 77 hw1.out D (by rw [HD.out]; simp only [Nat.min_def]; split <;> omega) CD2.out (by rw [HD.out, L1.out]; omega) H1D.out ?_; intro w2 hw2 hg2)
  have l2 : (splice (splice cur (off + 2 * i) [x, y]) (off + 2 * (i + 1)) D).length = cur.length := by rw [length_splice _ _ _ (by rw [HD.out, L1.out]; omega), L1.out]
  have L2 := Lib.hid l2
  have GG : Hid (w.grownBy w2 (some g)) := grown_then (grown_then (grown_drewN (World.grownBy.refl w (some g)) _) hg1.out) (grown_drew (World.grownBy.refl w1 (some g)) |> fun h => grown_then h hg2.out)
  clear l2
  by_cases h2 : j = i + 1
  · have b11 : n - t = 0 := by omega
    have b12 : t ≤ n := by omega
    clear h2
    go_wp2_with (refine wpList_clear_run _ rfl _ 56 rfl _ rfl (run_clear_none _ _ _ _ Try.underlying56 _ _) ?_)
    all_goals
      go_ret
      first
        | exact ⟨g, off, c, rfl, ⟨_, hw2.out, by rw [L2.out]; exact r2, t2, r4, LN.out, FIN.out⟩, .inl rfl, GG.out⟩
        | exact ⟨g, off, t, rfl, ⟨_, hw2.out, by rw [L2.out]; omega, Nat.le_refl _, by unfold maxLen; omega, LN.out, FIN.out⟩, .inl rfl, GG.out⟩
  · have b11 : n - t = 1 := by omega
    have b13 : ¬ (c = t) := by omega
    clear h2
    have c2 : ∀ ty d, (Builtin.clear_ #[56] ty #[.slice (some ⟨g, off + t * 2, none⟩) 1 d]).run Try.prog w2 = _ := fun ty d => run_clear_one w2 ty g (off + t * 2) d _ hw2.out (by rw [L2.out]; omega)
    have C2 := Lib.hid c2
    clear c2
    obtain ⟨w3, hw3⟩ : ∃ w3, w3 = w2.setRow g (splice (splice (splice cur (off + 2 * i) [x, y]) (off + 2 * (i + 1)) D) (off + t * 2) zz).toArray := ⟨_, rfl⟩
    rw [← hw3] at C2
    have HW3 := Lib.hid hw3
    clear hw3
    go_wp2_with (refine wpList_clear_run _ rfl _ 56 rfl _ rfl (C2.out _ _) ?_)
    go_ret
    have hf : off + t * 2 + zz.length ≤ (splice (splice cur (off + 2 * i) [x, y]) (off + 2 * (i + 1)) D).length := by rw [L2.out]; show _ + 2 ≤ _; omega
    refine ⟨g, off, c, rfl, ⟨splice (splice (splice cur (off + 2 * i) [x, y]) (off + 2 * (i + 1)) D) (off + t * 2) zz, ?_, ?_, t2, r4, LN.out, ?_⟩, .inl rfl, ?_⟩
    · rw [HW3.out, setRow_heap w2 g _ _ _ _ hw2.out]
    · rw [length_splice _ _ _ hf, L2.out]; exact r2
    · rw [splice_take (by omega) hf]; exact FIN.out
    · rw [HW3.out]; exact grown_then GG.out (grown_setRow w2 g _)
theorem Replace_any (j : Nat) (hij : i ≤ j) (hj : j ≤ n) (hji : j ≤ i + 2) (hi : i < n) : Calls Try.prog 46 #[.slice (some ⟨g, off, none⟩) n c, nV i, nV j, .slice (some ⟨vb, 0, none⟩) 1 1] w fun e w' => GoodR w g (i + 1 + (n - j)) (es.take (2 * i) ++ x :: y :: es.drop (2 * j)) e w' := by
  by_cases h0 : i = j
  · subst h0
    rw [show i + 1 + (n - i) = n + 1 by omega]
    exact Replace_none w g off n c i vb es x y hrow h1 hn hv hx hy hne hi
  · by_cases h2 : j = n
    · subst h2
      rw [Nat.sub_self]
      exact Replace_end w g off j c i vb es x y hrow hn hv hx hy j (by omega) rfl hji
    · exact Replace_mid w g off n c i vb es x y hrow h1 hn hv hx hy j (by omega) (by omega) hji
end
end Go.Proofs.Ytlbbbfmnghcdnaa
