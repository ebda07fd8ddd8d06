/- A row of values grows: append, clone. -/
import Derived.Test.YtkkdgacdajojiaaBase
import Derived.Test.YtkkdgacdajojiaaDiGet
import Derived.Test.YtkkdgacdajojiaaPoRows
namespace Go.Proofs.Ytkkdgacdajojiaa
set_option maxRecDepth 20000
set_option maxRecDepth 20000
open Go.RowKit Go.Maps Go.Sort Go.BigFrame

theorem val_info : (Try.prog.info? 24).map (fun i => (i.zero, i.size, i.bytes)) = some (some (.agg #[.int .i64 0, .int .i64 0]), 2, 16) := by kernel_rfl
theorem info_parts {P : Program} {T : TypeId} {z : Value} {s b : Nat} (h : (P.info? T).map (fun i => (i.zero, i.size, i.bytes)) = some (some z, s, b)) : ∃ i, P.info? T = some i ∧ i.zero = some z ∧ i.size = s ∧ i.bytes = b := by
  obtain ⟨i, hi, he⟩ := Option.map_eq_some_iff.1 h
  simp only [Prod.mk.injEq] at he
  exact ⟨i, hi, he.1, he.2.1, he.2.2⟩
theorem splice_get {α : Type} (L : List α) (off : Nat) (cs : List α) (h : off + cs.length ≤ L.length) (j : Nat) : (splice L off cs)[j]? = if off ≤ j ∧ j < off + cs.length then cs[j - off]? else L[j]? := by
  unfold splice
  have hl : (L.take off).length = off := by rw [List.length_take]; omega
  by_cases h1 : j < off
  · rw [List.getElem?_append_left (by omega), List.getElem?_take_of_lt h1, if_neg (by omega)]
  · rw [List.getElem?_append_right (by omega), hl]
    by_cases h2 : j - off < cs.length
    · rw [List.getElem?_append_left h2, if_pos (by omega)]
    · rw [List.getElem?_append_right (by omega), List.getElem?_drop, if_neg (by omega)]
      congr 1; omega
/-- Of block g only the places from lo to hi were written. -/
def InRow (w w' : World) (g lo hi : Nat) : Prop := ∀ (cur : List Value) (t : TypeId) (f : Nat × Nat), w.heap[g]? = some (.cells cur.toArray t f) → ∃ cur' : List Value, w'.heap[g]? = some (.cells cur'.toArray t f) ∧ cur'.length = cur.length ∧ ∀ i, (i < lo ∨ hi ≤ i) → cur'[i]? = cur[i]?
theorem RowV.inRow {w w' : World} {g op cp lo hi : Nat} {l : List VV} (h : RowV w g op cp l) (hI : InRow w w' g lo hi) (ha : hi ≤ op ∨ op + 2 * l.length ≤ lo) : RowV w' g op cp l := by
  obtain ⟨⟨cur, h1, h2, h6⟩, h3, h4, h5⟩ := h
  obtain ⟨cur', k1, k2, k3⟩ := hI cur _ _ h1
  refine ⟨⟨cur', k1, by omega, ?_⟩, h3, h4, h5⟩
  rw [← h6]
  apply List.ext_getElem?
  intro i
  simp only [List.getElem?_take, List.getElem?_drop]
  split
  · rename_i hi2
    exact k3 _ (by omega)
  · rfl
/-- What an append does to a row of n values with room for c. -/
def Grew (w w' : World) (g off c n g' off' c' : Nat) : Prop := (g' = g ∧ off' = off ∧ c' = c ∧ w.grownBy w' (some g) ∧ InRow w w' g (off + 2 * n) (off + 2 * c)) ∨ (w.heap.size ≤ g' ∧ Below w.heap.size w w')
theorem rowV_of_own {w : World} {base n : Nat} {v : Value} {l : List VV} (h : w.ownsRow base 24 2 v n (cellsV l)) (hn : n = l.length) (h0 : 0 < n) (hwf : ∀ v ∈ l, wfP v) : ∃ g c, v = .slice (some ⟨g, 0, none⟩) n c ∧ RowV w g 0 c l ∧ base ≤ g := by
  rcases h.2 with ⟨_, h2⟩ | ⟨g, cap, cur, rfl, hb, hg, hc, hm, hs, ht⟩
  · omega
  · refine ⟨g, cap, rfl, ⟨⟨cur.toList, by simpa using hg, by simp; omega, ?_⟩, by omega, by unfold maxLen at hm; exact hm, hwf⟩, hb⟩
    rw [List.drop_zero, ← hn, Nat.mul_comm]; exact ht
theorem run_append_V {w : World} {g off c : Nat} {l : List VV} (hrow : RowV w g off c l) (ad : Addr) (m c2 : Nat) (news : List VV) (hm : m = news.length) (hnew : ∀ j u, (cellsV news)[j]? = some u → w.cell? (ad.add j) = some u) (hwf : ∀ v ∈ news, wfP v) (hsm : l.length + m ≤ 4294967296) (ty : TypeId) :
    ∃ w' g' off' c', (Builtin.append_ #[22, 22] ty #[.slice (some ⟨g, off, none⟩) l.length c, .slice (some ad) m c2]).run Try.prog w = .ok (.slice (some ⟨g', off', none⟩) (l.length + m) c') w' ∧ RowV w' g' off' c' (l ++ news) ∧ Grew w w' g off c l.length g' off' c' := by
  have hwf2 : ∀ v ∈ l ++ news, wfP v := fun v hv => by
    rcases List.mem_append.1 hv with hv | hv
    · exact hrow.wf v hv
    · exact hwf v hv
  have hlen : (cellsV news).length = m * 2 := by rw [cellsV_len]; omega
  by_cases hroom : l.length + m ≤ c
  · obtain ⟨⟨cur, h1, h2, h6⟩, h3, h4, h5⟩ := hrow
    have hfit : off + l.length * 2 + (cellsV news).length ≤ cur.length := by rw [hlen]; omega
    refine ⟨_, g, off, c, run_append_row (P := Try.prog) w 22 ty 24 2 Try.underlying22 size_val g off l.length c ad m c2 cur _ h1 (cellsV news) hlen hnew (cellsV_one news) hroom hfit, ?_, .inl ⟨rfl, rfl, rfl, grown_setRow _ _ _, ?_⟩⟩
    · refine ⟨⟨_, setRow_heap w g _ _ _ _ h1, by rw [length_splice _ _ _ hfit]; exact h2, ?_⟩, by simp; omega, h4, hwf2⟩
      rw [cellsV_append, ← h6]
      apply List.ext_getElem?
      intro i
      rw [List.getElem?_take, List.getElem?_drop, splice_get _ _ _ hfit]
      have e1 : ((cur.drop off).take (2 * l.length)).length = 2 * l.length := by simp; omega
      by_cases hi : i < 2 * (l ++ news).length
      · rw [if_pos hi]
        simp only [List.length_append] at hi
        by_cases hi2 : i < 2 * l.length
        · rw [if_neg (by omega), List.getElem?_append_left (by rw [e1]; exact hi2), List.getElem?_take_of_lt hi2, List.getElem?_drop]
        · rw [if_pos (by rw [hlen]; omega), List.getElem?_append_right (by rw [e1]; omega), e1]
          congr 1; omega
      · rw [if_neg hi, List.getElem?_eq_none]
        rw [List.length_append, e1, hlen]
        simp only [List.length_append] at hi
        omega
    · intro cur2 t f hc
      rw [h1] at hc
      injection hc with hc
      injection hc with hc ht hf
      have hc : cur = cur2 := by simpa using congrArg Array.toList hc
      subst hc; subst ht; subst hf
      refine ⟨_, setRow_heap w g _ _ _ _ h1, length_splice _ _ _ hfit, fun i hi => ?_⟩
      rw [splice_get _ _ _ hfit, if_neg (by rw [hlen]; omega)]
  · have hrm := hrow.room
    obtain ⟨i0, hi0, hz0, hz1, hz2⟩ := info_parts val_info
    obtain ⟨v', w', hrun, r1, r2⟩ := run_append_arg_grows (P := Try.prog) w 22 ty 24 i0 _ 2 16 Try.underlying22 hi0 hz0 hz1 hz2 rfl (by omega) ⟨g, off, none⟩ l.length c (cellsV l) (by rw [cellsV_len]; omega) (fun j u hj => by rw [Addr.add_lit]; exact hrow.cell hj) ad m c2 (cellsV news) hlen hnew (by omega) (by unfold maxLen; omega) (by omega)
    rw [← cellsV_append] at r1
    obtain ⟨g', c', rfl, hR, hb⟩ := rowV_of_own r1 (by simp; omega) (by omega) hwf2
    exact ⟨w', g', 0, c', hrun, hR, .inr ⟨hb, ⟨r2.os, r2.tape, r2.output, r2.size, fun k hk => r2.block k hk (by simp)⟩⟩⟩
theorem wp_append_V {o : Oper} {a : Act} {w : World} {K : Act → World → Prop} {Q : Exit → Act → World → Prop} (s x : Operand)
    (ho : o.op = .call { callee := .builtin .append, args := #[s, x], argTypes := #[22, 22] }) {g off c n : Nat} {l : List VV} (hrow : RowV w g off c l) (hn : n = l.length) (hs : a.eval s = .slice (some ⟨g, off, none⟩) n c)
    (ad : Addr) (m c2 : Nat) (hx : a.eval x = .slice (some ad) m c2) (news : List VV) (hm : m = news.length) (hnew : ∀ j u, (cellsV news)[j]? = some u → w.cell? (ad.add j) = some u) (hwf : ∀ v ∈ news, wfP v) (hsm : n + m ≤ 4294967296)
    (h : ∀ w' g' off' c', Hid (RowV w' g' off' c' (l ++ news)) → Hid (Grew w w' g off c n g' off' c') → K (a.put o.dst (.slice (some ⟨g', off', none⟩) (n + m) c')) w') : o.wp Try.prog a w K Q := by
  subst hn
  obtain ⟨w', g', off', c', hr, h2, h3⟩ := run_append_V hrow ad m c2 news hm hnew hwf hsm o.type
  unfold Oper.wp execOp
  simp only [ho, resolve, invoke, builtin, Sem.run_bind, Sem.run_pure, Result.andThen_ok, List.map_toArray, List.map_cons, List.map_nil, hs, hx, hr]
  exact h w' g' off' c' h2 h3
theorem wpList_append_V {ops : Array Oper} {rest : List Oper} {o : Oper} {a : Act} {w : World} {Q : Exit → Act → World → Prop} (hgd : o.guard = none) (s x : Operand)
    (ho : o.op = .call { callee := .builtin .append, args := #[s, x], argTypes := #[22, 22] }) {g off c n : Nat} {l : List VV} (hrow : RowV w g off c l) (hn : n = l.length) (hs : a.eval s = .slice (some ⟨g, off, none⟩) n c)
    (ad : Addr) (m c2 : Nat) (hx : a.eval x = .slice (some ad) m c2) (news : List VV) (hm : m = news.length) (hnew : ∀ j u, (cellsV news)[j]? = some u → w.cell? (ad.add j) = some u) (hwf : ∀ v ∈ news, wfP v) (hsm : n + m ≤ 4294967296)
    (h : ∀ w' g' off' c', Hid (RowV w' g' off' c' (l ++ news)) → Hid (Grew w w' g off c n g' off' c') → wpList Try.prog ops Q rest (a.put o.dst (.slice (some ⟨g', off', none⟩) (n + m) c')) w') : wpList Try.prog ops Q (o :: rest) a w :=
  wpList_plain hgd fun _ hK => wp_append_V s x ho hrow hn hs ad m c2 hx news hm hnew hwf hsm fun w' g' off' c' h2 h3 => hK _ _ (h w' g' off' c' h2 h3)
theorem step_append_V {ops : Array Oper} {o : Oper} {a : Act} {w : World} {K : Act → World → Prop} {Q : Exit → Act → World → Prop} {E : Prop} (hgd : o.guard = none) (s x : Operand)
    (ho : o.op = .call { callee := .builtin .append, args := #[s, x], argTypes := #[22, 22] }) {g off c n : Nat} {l : List VV} (hrow : RowV w g off c l) (hn : n = l.length) (hs : a.eval s = .slice (some ⟨g, off, none⟩) n c)
    (ad : Addr) (m c2 : Nat) (hx : a.eval x = .slice (some ad) m c2) (news : List VV) (hm : m = news.length) (hnew : ∀ j u, (cellsV news)[j]? = some u → w.cell? (ad.add j) = some u) (hwf : ∀ v ∈ news, wfP v) (hsm : n + m ≤ 4294967296)
    (h : ∀ w' g' off' c', Hid (RowV w' g' off' c' (l ++ news)) → Hid (Grew w w' g off c n g' off' c') → K (a.put o.dst (.slice (some ⟨g', off', none⟩) (n + m) c')) w') :
    if Region.wanted o (yielded ops a.tmps) = true then Oper.wp Try.prog o a w K Q else E := by
  have hw : Region.wanted o (yielded ops a.tmps) = true := by simp [Region.wanted, hgd]
  rw [if_pos hw]
  exact wp_append_V s x ho hrow hn hs ad m c2 hx news hm hnew hwf hsm h
/-- slices.Clone of a row that is not empty. -/
theorem Clone_any {w : World} {g off c : Nat} {l : List VV} (hrow : RowV w g off c l) (h0 : 0 < l.length) (hl : l.length ≤ 1073741824) : Calls Try.prog 57 #[.slice (some ⟨g, off, none⟩) l.length c] w fun e w' =>
    ∃ g' c', e = .returned (.slice (some ⟨g', 0, none⟩) l.length c') ∧ RowV w' g' 0 c' l ∧ w.heap.size ≤ g' ∧ Below w.heap.size w w' := by
  obtain ⟨i0, hi0, hz0, hz1, hz2⟩ := info_parts val_info
  have ROW := Lib.hid hrow
  have HL := Lib.hid (cellsV_len l)
  have q22 : ∀ (w : World) (a : Option Addr) (n c n' c' : Nat), (binOp .eql 22 (.slice a n c) (.slice none n' c')).run Try.prog w = .ok (.bool a.isNone) w := fun w a n c n' c' => Lib.run_eql_slice_nil w _ _ a n c n' c' Try.underlying22
  obtain ⟨n, hn⟩ : ∃ n, n = l.length := ⟨_, rfl⟩
  rw [← hn] at h0 hl ⊢
  have HN := Lib.hid hn
  clear hrow hn
  go_enter Try.func57, Try.ntmps57
  go_wp2_with (at_builtin; refine wpList_append_own _ rfl _ _ 22 rfl w.heap.size 24 i0 _ 2 16 Try.underlying22 hi0 hz0 hz1 hz2 rfl (by omega) _ _ _ rfl (World.ownsRow_made w #[] 0 (Nat.le_refl _) (Nat.zero_le _) (by simp)) ⟨g, off, none⟩ n c (cellsV l) rfl (by rw [HL.out, HN.out]; omega) (fun j u hj => by rw [Addr.add_lit]; exact Lib.cell?_alloc_some _ (ROW.out.cell hj)) (cellsV_one l) (by rw [Nat.zero_add]; unfold maxLen; omega) (by rw [Nat.zero_add]; omega) (by simp) ?_; intro v' w1 hown hgrow hnil)
  go_wp2_with fail
  go_ret
  rw [Nat.zero_add, List.nil_append] at hown
  obtain ⟨g', c', rfl, hR, hb⟩ := rowV_of_own hown HN.out h0 ROW.out.wf
  refine ⟨g', c', rfl, hR, hb, ?_⟩
  exact ((Below.refl _ w).alloc (Nat.le_refl _) _).grown hgrow (by simp) (by intro k hk; simp [Act.eval, Value.ownBlock] at hk; omega)
end Go.Proofs.Ytkkdgacdajojiaa
