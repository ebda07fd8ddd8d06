/- slices.Insert of one span. -/
import Derived.Test.YtlbbbfmnghcdnaaPoTake2
import Derived.Laws.Externs
namespace Go.Proofs.Ytlbbbfmnghcdnaa
set_option maxRecDepth 20000
open Go.RowKit Go.Maps

theorem info_parts {P : Program} {T : TypeId} {z : Value} {s b : Nat} (h : (P.info? T).map (fun i => (i.zero, i.size, i.bytes)) = some (some z, s, b)) : ∃ i, P.info? T = some i ∧ i.zero = some z ∧ i.size = s ∧ i.bytes = b := by
  cases hq : P.info? T with
  | none => rw [hq] at h; simp at h
  | some i => rw [hq] at h; simp at h; exact ⟨i, rfl, h.1, h.2.1, h.2.2⟩
theorem span_info : (Try.prog.info? 77).map (fun i => (i.zero, i.size, i.bytes)) = some (some (.agg #[nV 0, nV 0]), 2, 16) := by kernel_rfl
theorem span_size : (Try.prog.info? 77).map (·.size) = some 2 := by kernel_rfl
theorem splice_get {α : Type} (L : List α) (off : Nat) (cs : List α) (h : off + cs.length ≤ L.length) (j : Nat) : (splice L off cs)[j]? = if off ≤ j ∧ j < off + cs.length then cs[j - off]? else L[j]? := by
  unfold splice
  have hl : (L.take off).length = off := by rw [List.length_take]; omega
  by_cases h1 : j < off
  · rw [List.getElem?_append_left (by omega), List.getElem?_take_of_lt h1, if_neg (by omega)]
  · rw [List.getElem?_append_right (by omega), hl]
    by_cases h2 : j - off < cs.length
    · rw [List.getElem?_append_left h2, if_pos (by omega)]
    · rw [List.getElem?_append_right (by omega), List.getElem?_drop, if_neg (by omega)]
      congr 1; omega
theorem row_get {cur es : List Value} {off n : Nat} (h : (cur.drop off).take (2 * n) = es) {j : Nat} (hj : j < 2 * n) : cur[off + j]? = es[j]? := by
  rw [← h, List.getElem?_take_of_lt hj, List.getElem?_drop]
/-- Behind both copies. -/
theorem row_insert {cur es : List Value} {off n c i : Nat} {u v : Value} (hl : off + 2 * c ≤ cur.length) (hr : n + 1 ≤ c) (hi : i < n) (hes : es.length = 2 * n) (h : (cur.drop off).take (2 * n) = es) :
    ((splice (splice cur (off + 2 * (i + 1)) (es.drop (2 * i))) (off + 2 * i) [u, v]).drop off).take (2 * (n + 1)) = es.take (2 * i) ++ u :: v :: es.drop (2 * i) := by
  have l1 : (es.drop (2 * i)).length = 2 * n - 2 * i := by rw [List.length_drop, hes]
  have f1 : off + 2 * (i + 1) + (es.drop (2 * i)).length ≤ cur.length := by omega
  have l2 : (splice cur (off + 2 * (i + 1)) (es.drop (2 * i))).length = cur.length := length_splice _ _ _ f1
  apply List.ext_getElem?
  intro j
  rw [List.getElem?_take]
  by_cases hj : j < 2 * (n + 1)
  · rw [if_pos hj, List.getElem?_drop, splice_get _ _ _ (by rw [l2]; simp; omega), splice_get _ _ _ f1]
    simp only [List.getElem?_append, List.length_take, hes, List.length_cons, List.length_nil]
    have hm : min (2 * i) (2 * n) = 2 * i := by omega
    rw [hm]
    by_cases h1 : j < 2 * i
    · rw [if_neg (by omega), if_neg (by omega), if_pos h1, List.getElem?_take_of_lt h1]
      exact row_get h (by omega)
    · rw [if_neg h1]
      by_cases h2 : j < 2 * i + 2
      · rw [if_pos (by omega), show off + j - (off + 2 * i) = j - 2 * i by omega]
        have : j - 2 * i = 0 ∨ j - 2 * i = 1 := by omega
        rcases this with e | e <;> rw [e] <;> rfl
      · rw [if_neg (by omega), if_pos (by omega)]
        obtain ⟨m, hm⟩ : ∃ m, j - 2 * i = m + 2 := ⟨j - 2 * i - 2, by omega⟩
        rw [hm]
        simp only [List.getElem?_cons_succ]
        congr 1; omega
  · rw [if_neg hj, List.getElem?_eq_none]
    simp [hes]; omega
theorem RowF.room {w : World} {g off n c : Nat} {es : List Value} (h : RowF w g off n c es) : n ≤ c := by obtain ⟨cur, _, _, h3, _⟩ := h; exact h3
theorem overlaps_no (w : World) (g vb off lb cb : Nat) (cs : Array Value) (hv : w.heap[vb]? = some (.cells cs 77 (0, 0))) (hg : ∃ cur : List Value, w.heap[g]? = some (.cells cur.toArray 77 (0, 0)) ∧ cur.length ≠ 0) (hne : vb ≠ g) :
    (callFunc 56 #[.slice (some ⟨vb, 0, none⟩) 1 1, .slice (some ⟨g, off, none⟩) lb cb]).run Try.prog w = .ok (.value (.bool false)) w := by
  obtain ⟨cur, hg, hc⟩ := hg
  rw [run_callFunc_extern (P := Try.prog) Try.func56 (by kernel_rfl) (by kernel_rfl) (by kernel_rfl) (e := Extern.SlicesOverlaps.overlaps #[56, 56] #[4]) (by kernel_rfl),
    Lib.run_overlaps_apart w 56 4 77 Try.underlying56 2 (fun w => by kernel_rfl) ⟨vb, 0, none⟩ ⟨g, off, none⟩ 1 1 lb cb hne 77 77 cs.size cur.length (by simp [World.shape?, hv]) (by simp [World.shape?, hg]) hc (by simp [World.frozen?, hv]) (by simp [World.frozen?, hv])]
  rfl
set_option maxHeartbeats 1000000 in
theorem Insert_room (w : World) (g off n c i vb : Nat) (es : List Value) (x y : Value) (hrow : RowF w g off n c es) (h1 : ∀ v ∈ es, v.oneCell' = true) (hi : i < n) (hn : n ≤ 1099511627776) (hroom : n + 1 ≤ c)
    (hv : w.heap[vb]? = some (.cells #[x, y] 77 (0, 0))) (hx : x.oneCell' = true) (hy : y.oneCell' = true) (hne : vb ≠ g) :
    Calls Try.prog 55 #[.slice (some ⟨g, off, none⟩) n c, nV i, .slice (some ⟨vb, 0, none⟩) 1 1] w fun e w' =>
      ∃ g' off' c', e = .returned (.slice (some ⟨g', off', none⟩) (n + 1) c') ∧ RowF w' g' off' (n + 1) c' (es.take (2 * i) ++ x :: y :: es.drop (2 * i)) ∧ (g' = g ∨ w.heap.size ≤ g') ∧ w.grownBy w' (some g) := by
  obtain ⟨cur, r1, r2, r3, r4, r5, r6⟩ := hrow
  have hov : ∀ o lb cb, (callFunc 56 #[.slice (some ⟨vb, 0, none⟩) 1 1, .slice (some ⟨g, o, none⟩) lb cb]).run Try.prog w = .ok (.value (.bool false)) w := fun o lb cb => overlaps_no w g vb o lb cb _ hv ⟨cur, r1, by omega⟩ hne
  have R1 := Lib.hid r1
  have R6 := Lib.hid r6
  have R5 := Lib.hid r5
  have HV := Lib.hid hv
  clear r1 r6 r5 hv
  unfold maxLen at r4
  have b1 : ¬ ((i : Int) = (n : Int)) := by omega
  have b2 : ¬ (c = i + 1) := by omega
  have b3 : ¬ (c = i) := by omega
  have bN : i ≤ n := by omega
  have bM : i ≤ n + 1 := by omega
  have b4 : ((i : Int) + 1).toNat = i + 1 := by omega
  have b5 : (i : Int) ≤ (n : Int) + 1 := by omega
  have b6 : (0 : Int) ≤ (i : Int) + 1 := by omega
  have b7 : IntKind.i64.wrap ((i : Int) + 1) = (i : Int) + 1 := IntWalk.i64_in _ (by omega)
  have b8 : ((n : Int) + 1) ≤ (c : Int) := by omega
  have b9 : ((n : Int) + 1).toNat = n + 1 := by omega
  go_enter Try.func55, Try.ntmps55
  go_wp2_with (simp only [hov])
  have C1 : ∀ j v, (es.drop (2 * i))[j]? = some v → w.drew.cell? ((⟨g, off + i * 2, none⟩ : Addr).add j) = some v := fun j v hj => by
    rw [Addr.add_lit]
    rw [List.getElem?_drop] at hj
    have hlt : 2 * i + j < es.length := (List.getElem?_eq_some_iff.1 hj).1
    have : cur[off + (2 * i + j)]? = some v := by rw [row_get R6.out (by rw [R5.out] at hlt; exact hlt)]; exact hj
    show w.cell? _ = _
    simp [World.cell?, R1.out, show off + i * 2 + j = off + (2 * i + j) by omega, this]
  have HC1 := Lib.hid C1
  clear C1
  have hdl : (es.drop (2 * i)).length = 2 * n - 2 * i := by rw [List.length_drop, R5.out]
  have HD := Lib.hid hdl
  clear hdl
  obtain ⟨D, hD⟩ : ∃ D, D = es.drop (2 * i) := ⟨_, rfl⟩
  have H1D : Hid (∀ v ∈ D, v.oneCell' = true) := fun v hv => h1 v (by rw [hD] at hv; exact List.mem_of_mem_drop hv)
  rw [← hD] at HC1 HD
  have HDD := Lib.hid hD
  clear hD
  go_region_law (refine step_copy_two rfl _ _ 56 56 rfl 77 2 Try.underlying56 span_size (some ⟨g, off + (i + 1) * 2, none⟩) (some ⟨g, off + i * 2, none⟩) (n - i) (c - (i + 1)) (n + 1 - i) (c - i) (by simp [Act.eval, Act.put]) (by simp [Act.eval, Act.put]) g (off + 2 * (i + 1)) (by rw [show (i + 1) * 2 = 2 * (i + 1) by omega]) ⟨g, off + i * 2, none⟩ rfl cur 77 R1.out D (by rw [HD.out]; simp only [Nat.min_def]; split <;> omega) HC1.out (by rw [HD.out]; omega) H1D.out ?_; intro w2 hw2 hg2)
  have l2 : (splice cur (off + 2 * (i + 1)) D).length = cur.length := length_splice _ _ _ (by rw [HD.out]; omega)
  have L2 := Lib.hid l2
  clear l2
  have HV2 : Hid (w2.heap[vb]? = some (.cells #[x, y] 77 (0, 0))) := (hg2.out.block vb (mem_block_lt HV.out) (by simpa using hne)).trans HV.out
  go_wp2_with (refine wpList_copy_two rfl _ _ 56 56 rfl 77 2 Try.underlying56 span_size (some ⟨g, off + i * 2, none⟩) (some ⟨vb, 0, none⟩) (n + 1 - i) (c - i) 1 1 rfl rfl g (off + 2 * i) (by rw [show i * 2 = 2 * i by omega]) ⟨vb, 0, none⟩ rfl (splice cur (off + 2 * (i + 1)) D) 77 hw2.out [x, y] (by simp only [Nat.min_def]; split <;> simp <;> omega) (fun j v hj => by rw [Addr.add_lit]; simp only [World.cell?, HV2.out, Nat.zero_add]; simpa using hj) (by rw [L2.out]; simp; omega) (fun v hv => by simp at hv; rcases hv with rfl | rfl <;> assumption) ?_; intro w3 hw3 hg3)
  go_ret
  refine ⟨g, off, c, rfl, ⟨_, hw3.out, ?_, hroom, r4, ?_, ?_⟩, .inl rfl, grown_then (grown_drew (World.grownBy.refl w (some g))) (grown_then hg2.out hg3.out)⟩
  · rw [length_splice _ _ _ (by rw [L2.out]; simp; omega), L2.out]; exact r2
  · simp [R5.out]; omega
  · rw [HDD.out]
    exact row_insert r2 hroom hi R5.out R6.out
theorem wpList_append_zeros (w : World) {ops : Array Oper} {rest : List Oper} {o : Oper} {a : Act} {Q : Exit → Act → World → Prop} (hgd : o.guard = none) (s x : Operand)
    (ho : o.op = .call { callee := .builtin .append, args := #[s, x], argTypes := #[56, 3] }) (g off i c n : Nat) (z : Int) (es : List Value) (hs : a.eval s = .slice (some ⟨g, off, none⟩) i c) (hx : a.eval x = nV z) (hz : z = ((n + 1 - i : Nat) : Int))
    (hc : ∀ j v, (es.take (2 * i))[j]? = some v → w.cell? ⟨g, off + j, none⟩ = some v) (hes : es.length = 2 * n) (hi : i < n) (hn : n ≤ 1099511627776) (hroom : c < n + 1)
    (h : ∀ (w1 : World) (C : Nat) (NR : List Value), Hid (w1.heap[w.heap.size]? = some (.cells NR.toArray 77 (0, 0))) → Hid (NR.length = 2 * C) → Hid (NR.take (2 * i) = es.take (2 * i)) → n + 1 ≤ C → C ≤ 9223372036854775807 → Hid (w.grownBy w1 none) → Hid (w.heap.size < w1.heap.size) → wpList Try.prog ops Q rest (a.put o.dst (.slice (some ⟨w.heap.size, 0, none⟩) (n + 1) C)) w1) : wpList Try.prog ops Q (o :: rest) a w := by
  obtain ⟨i0, hi0, hz0, hz1, hz2⟩ := info_parts span_info
  have lt : (es.take (2 * i)).length = 2 * i := by rw [List.length_take]; omega
  have hr := run_append_zeros (P := Try.prog) w 56 3 o.type 77 i0 _ .i64 .i64 Try.underlying56 Try.underlying3 hi0 hz0 ⟨g, off, none⟩ i c (n + 1 - i) (es.take (2 * i)) (by rw [hz1]; omega) (fun j v hj => by rw [Addr.add_lit]; exact hc j v hj) (by omega) (by omega) (by omega) (by omega) (by rw [hz2]; omega)
  rw [show i + (n + 1 - i) = n + 1 by omega] at hr
  subst hz
  refine Lib.wpList_append_run w hgd s x _ _ ho _ _ hs hx _ _ hr ?_
  have hC1 := grownCap_ge w (n + 1) c 77
  have hC2 := grownCap_le_maxLen w (n + 1) c 77 (by unfold maxLen; omega)
  have e : ∀ a b d : Array Value, a ++ b ++ d = (a.toList ++ (b.toList ++ d.toList)).toArray := fun a b d => by apply Array.ext'; simp
  rw [e]
  refine h _ _ _ (show _ = _ from (MapKept.heap_alloc w.drew _).1) (show _ = _ from ?_) (show _ = _ from ?_) hC1 (by unfold maxLen at hC2; exact hC2) (show World.grownBy _ _ _ from grown_alloc (grown_drew (World.grownBy.refl w none)) _) (show _ < _ by simp)
  · simp only [List.length_append, Array.length_toList, size_zeroCells, lt]
    show 2 * i + ((n + 1 - i) * 2 + (grownCap w (n + 1) c 77 - (n + 1)) * 2) = _
    omega
  · rw [List.take_append_of_le_length (by simp; omega)]
    simp [List.take_take]
theorem row_insert2 {NR es D : List Value} {C n i : Nat} {u v : Value} (hl : NR.length = 2 * C) (hC : n + 1 ≤ C) (hi : i < n) (hes : es.length = 2 * n) (ht : NR.take (2 * i) = es.take (2 * i)) (hD : D = es.drop (2 * i)) :
    ((splice (splice NR (2 * i) [u, v]) (2 * (i + 1)) D).drop 0).take (2 * (n + 1)) = es.take (2 * i) ++ u :: v :: es.drop (2 * i) := by
  have l1 : D.length = 2 * n - 2 * i := by rw [hD, List.length_drop, hes]
  have f1 : 2 * i + [u, v].length ≤ NR.length := by simp; omega
  have l2 : (splice NR (2 * i) [u, v]).length = NR.length := length_splice _ _ _ f1
  rw [← hD, ← ht]
  apply List.ext_getElem?
  intro j
  rw [List.getElem?_take]
  have lt : (NR.take (2 * i)).length = 2 * i := by rw [List.length_take]; omega
  by_cases hj : j < 2 * (n + 1)
  · rw [if_pos hj, List.drop_zero, splice_get _ _ _ (by rw [l2]; omega), splice_get _ _ _ f1]
    simp only [List.length_cons, List.length_nil]
    by_cases h1 : j < 2 * i
    · rw [if_neg (by omega), if_neg (by omega), List.getElem?_append_left (by omega), List.getElem?_take_of_lt h1]
    · rw [List.getElem?_append_right (by omega), lt]
      by_cases h2 : j < 2 * i + 2
      · rw [if_neg (by omega), if_pos (by omega)]
        have : j - 2 * i = 0 ∨ j - 2 * i = 1 := by omega
        rcases this with e | e <;> rw [e] <;> rfl
      · rw [if_pos (by omega)]
        obtain ⟨m, hm⟩ : ∃ m, j - 2 * i = m + 2 := ⟨j - 2 * i - 2, by omega⟩
        rw [hm]
        simp only [List.getElem?_cons_succ]
        congr 1; omega
  · rw [if_neg hj, List.getElem?_eq_none]
    simp [lt, l1]; omega
set_option maxHeartbeats 1000000 in
theorem Insert_grow (w : World) (g off n c i vb : Nat) (es : List Value) (x y : Value) (hrow : RowF w g off n c es) (h1 : ∀ v ∈ es, v.oneCell' = true) (hi : i < n) (hn : n ≤ 1099511627776) (hroom : c < n + 1)
    (hv : w.heap[vb]? = some (.cells #[x, y] 77 (0, 0))) (hx : x.oneCell' = true) (hy : y.oneCell' = true) :
    Calls Try.prog 55 #[.slice (some ⟨g, off, none⟩) n c, nV i, .slice (some ⟨vb, 0, none⟩) 1 1] w fun e w' =>
      ∃ g' off' c', e = .returned (.slice (some ⟨g', off', none⟩) (n + 1) c') ∧ RowF w' g' off' (n + 1) c' (es.take (2 * i) ++ x :: y :: es.drop (2 * i)) ∧ (g' = g ∨ w.heap.size ≤ g') ∧ w.grownBy w' (some g) := by
  have ROW := Lib.hid hrow
  have hcn : n ≤ c := hrow.room
  have hlen : es.length = 2 * n := by obtain ⟨cur, _, _, _, _, r5, _⟩ := hrow; exact r5
  have R5 := Lib.hid hlen
  have HV := Lib.hid hv
  have hgl : g < w.heap.size := by obtain ⟨cur, r1, _⟩ := hrow; exact mem_block_lt r1
  have CC : Hid (∀ j v, (es.take (2 * i))[j]? = some v → w.cell? ⟨g, off + j, none⟩ = some v) := fun j v hj => ROW.out.cell (by
    have hlt : j < (es.take (2 * i)).length := (List.getElem?_eq_some_iff.1 hj).1
    rw [List.length_take] at hlt
    rwa [List.getElem?_take_of_lt (by omega)] at hj)
  have hdl : (es.drop (2 * i)).length = 2 * n - 2 * i := by rw [List.length_drop, hlen]
  have HD := Lib.hid hdl
  obtain ⟨D, hD⟩ : ∃ D, D = es.drop (2 * i) := ⟨_, rfl⟩
  have H1D : Hid (∀ v ∈ D, v.oneCell' = true) := fun v hv => h1 v (by rw [hD] at hv; exact List.mem_of_mem_drop hv)
  rw [← hD] at HD
  have HC1 : Hid (∀ (W : World), W.heap[g]? = w.heap[g]? → ∀ j v, D[j]? = some v → W.cell? ((⟨g, off + i * 2, none⟩ : Addr).add j) = some v) := fun W hW j v hj => by
    rw [Addr.add_lit]
    rw [hD, List.getElem?_drop] at hj
    have := (ROW.out.keep hW).cell hj
    rwa [show off + i * 2 + j = off + (2 * i + j) by omega]
  have HDD := Lib.hid hD
  have H1 := Lib.hid h1
  clear hrow hlen hv hdl hD h1
  have b1 : ¬ ((i : Int) = (n : Int)) := by omega
  have b3 : ¬ (c = i) := by omega
  have bN : i ≤ n := by omega
  have bM : i ≤ n + 1 := by omega
  have bK : i + 1 ≤ n + 1 := by omega
  have b4 : ((i : Int) + 1).toNat = i + 1 := by omega
  have b5 : (i : Int) ≤ (n : Int) + 1 := by omega
  have b6 : (0 : Int) ≤ (i : Int) + 1 := by omega
  have b7 : IntKind.i64.wrap ((i : Int) + 1) = (i : Int) + 1 := IntWalk.i64_in _ (by omega)
  have b8 : (c : Int) < ((n : Int) + 1) := by omega
  have b9 : ((n : Int) + 1).toNat = n + 1 := by omega
  have c8 : (c : Int) ≤ 9223372036854775807 := by obtain ⟨cur, _, _, _, r4, _⟩ := ROW.out; unfold maxLen at r4; omega
  go_enter Try.func55, Try.ntmps55
  go_wp2_with (first
    | (at_builtin; refine wpList_append_zeros _ rfl _ _ rfl g off i c n _ es rfl rfl (by omega) CC.out R5.out hi hn hroom ?_; intro w1 C NR hw1 hl1 ht1 hC1 hC2 hg1 hs1; have d1 : ¬ (C = i) := (by omega); have d2 : ¬ (C = i + 1) := (by omega); have HV1 : Hid (w1.heap[vb]? = some (.cells #[x, y] 77 (0, 0))) := (hg1.out.block vb (mem_block_lt HV.out) (by simp)).trans HV.out)
    | (refine wpList_copy_two rfl _ _ 56 56 rfl 77 2 Try.underlying56 span_size (some ⟨w.heap.size, i * 2, none⟩) (some ⟨vb, 0, none⟩) (n + 1 - i) (C - i) 1 1 (by simp [Act.eval]) rfl w.heap.size (2 * i) (by rw [show i * 2 = 2 * i by omega]) ⟨vb, 0, none⟩ rfl NR 77 hw1.out [x, y] (by simp only [Nat.min_def]; split <;> simp <;> omega) (fun j v hj => by rw [Addr.add_lit]; simp only [World.cell?, HV1.out, Nat.zero_add]; simpa using hj) (by rw [hl1.out]; simp; omega) (fun v hv => by simp at hv; rcases hv with rfl | rfl <;> assumption) ?_; intro w2 hw2 hg2))
  have l2 : (splice NR (2 * i) [x, y]).length = 2 * C := by rw [length_splice _ _ _ (by rw [hl1.out]; simp; omega), hl1.out]
  have L2 := Lib.hid l2
  clear l2
  have HG2 : Hid (w2.heap[g]? = w.heap[g]?) := (hg2.out.block g (by have := hs1.out; omega) (by simp; omega)).trans (hg1.out.block g hgl (by simp))
  go_region_law (refine step_copy_two rfl _ _ 56 56 rfl 77 2 Try.underlying56 span_size (some ⟨w.heap.size, (i + 1) * 2, none⟩) (some ⟨g, off + i * 2, none⟩) (n - i) (C - (i + 1)) (n - i) (c - i) (by simp [Act.eval, Act.put]) (by simp [Act.eval, Act.put]) w.heap.size (2 * (i + 1)) (by rw [show (i + 1) * 2 = 2 * (i + 1) by omega]) ⟨g, off + i * 2, none⟩ rfl (splice NR (2 * i) [x, y]) 77 hw2.out D (by rw [HD.out]; simp only [Nat.min_def]; split <;> omega) (HC1.out w2.drew HG2.out) (by rw [HD.out, L2.out]; omega) H1D.out ?_; intro w3 hw3 hg3)
  go_wp2_with fail
  go_ret
  refine ⟨w.heap.size, 0, C, rfl, ⟨_, hw3.out, ?_, hC1, hC2, ?_, ?_⟩, .inr (Nat.le_refl _), ?_⟩
  · rw [length_splice _ _ _ (by rw [L2.out, HD.out]; omega), L2.out]; omega
  · simp [R5.out]; omega
  · exact row_insert2 hl1.out hC1 hi R5.out ht1.out HDD.out
  · have k1 : w.grownBy w1 (some g) := ⟨hg1.out.os, hg1.out.tape, hg1.out.output, hg1.out.size, fun k hk _ => hg1.out.block k hk (by simp)⟩
    exact grown_new (grown_new k1 (Nat.le_refl _) (grown_drew hg2.out)) (Nat.le_refl _) hg3.out
theorem Insert_any (w : World) (g off n c i vb : Nat) (es : List Value) (x y : Value) (hrow : RowF w g off n c es) (h1 : ∀ v ∈ es, v.oneCell' = true) (hi : i < n) (hn : n ≤ 1099511627776)
    (hv : w.heap[vb]? = some (.cells #[x, y] 77 (0, 0))) (hx : x.oneCell' = true) (hy : y.oneCell' = true) (hne : vb ≠ g) :
    Calls Try.prog 55 #[.slice (some ⟨g, off, none⟩) n c, nV i, .slice (some ⟨vb, 0, none⟩) 1 1] w fun e w' =>
      ∃ g' off' c', e = .returned (.slice (some ⟨g', off', none⟩) (n + 1) c') ∧ RowF w' g' off' (n + 1) c' (es.take (2 * i) ++ x :: y :: es.drop (2 * i)) ∧ (g' = g ∨ w.heap.size ≤ g') ∧ w.grownBy w' (some g) := by
  by_cases h : n + 1 ≤ c
  · exact Insert_room w g off n c i vb es x y hrow h1 hi hn h hv hx hy hne
  · exact Insert_grow w g off n c i vb es x y hrow h1 hi hn (by omega) hv hx hy
end Go.Proofs.Ytlbbbfmnghcdnaa
