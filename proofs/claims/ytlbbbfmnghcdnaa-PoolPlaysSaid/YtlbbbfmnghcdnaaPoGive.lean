/- Give, New, Copy: contracts over a pool in memory. -/
import Derived.Test.YtlbbbfmnghcdnaaPoLay
namespace Go.Proofs.Ytlbbbfmnghcdnaa
set_option maxRecDepth 20000
open Go.RowKit Go.Maps

theorem wpList_del_T {w : World} {ops : Array Oper} {rest : List Oper} {o : Oper} {a : Act} {Q : Exit → Act → World → Prop} (hg : o.guard = none) (m x : Operand) (hop : o.op = Op.call { callee := Callee.builtin Builtin.delete, args := #[m, x], argTypes := #[55, 3] }) (mb n : Nat) (T : List Nat)
    (hm : a.eval m = .map (some mb)) (hx : a.eval x = nV n) (h : MapT w mb T) (hn : n ≤ 1099511627776) (hT : n ∈ T) (hnd : T.Nodup)
    (hK : ∀ w', Hid (MapT w' mb (T.erase n)) → Hid (w.grownBy w' (some mb)) → wpList Try.prog ops Q rest (a.put o.dst (.tuple #[])) w') : wpList Try.prog ops Q (o :: rest) a w := by
  refine wpList_plain hg fun K' hK' => ?_
  obtain ⟨w', hrun, r1, r2⟩ := h.run_del n hn hT hnd o.type
  unfold Oper.wp
  simp [execOp, hop, resolve, invoke, builtin, hm, hx, hrun, Result.andThen]
  exact hK' _ _ (hK w' r1 r2)
theorem set_free_of {W : World} {ps : Nat} {a b c d v : Value} {T : TypeId} (h : W.heap[ps]? = some (.cells #[a, b, c, d] T (0, 0))) : (W.setCell ⟨ps, 2, none⟩ v).heap[ps]? = some (.cells #[a, b, v, d] T (0, 0)) := by
  rw [setCell_eq_setRow W ps 2 _ _ _ v h, setRow_heap W ps _ _ _ _ h]
  rfl
section
variable {w : World} {ps bx mb g k : Nat} {T : List Nat} {F : List (Nat × Nat)} {off c : Nat} (h : Held w ps bx mb g k T F off c)
include h
/-- What is not taken can't be given back. -/
theorem Give_no (n : Int) (h1 : -9223372036854775808 ≤ n) (h2 : n ≤ 9223372036854775807) (hT : isT T n = false) : Calls Try.prog 17 #[bV ps, nV n] w fun e w' => e = .returned (.bool false) ∧ Below w.heap.size w w' := by
  have I := In_any h n h1 h2
  rw [hT] at I
  have J := Lib.hid I
  clear I h hT
  go_enter Try.func17, Try.ntmps17
  go_wp2_with (go_at_call 19; (with_reducible refine J.out.mono ?_); rintro e w1 ⟨rfl, hb⟩; have B := Lib.hid hb; clear hb)
  go_ret
  exact ⟨rfl, B.out⟩
theorem Give_yes (n : Nat) (hn : n ∈ T) (hk : k ≤ 1073741824) : Calls Try.prog 17 #[bV ps, nV n] w fun e w' => ∃ F' g' off' c', e = .returned (.bool true) ∧ Held w' ps bx mb g' k (T.erase n) F' off' c' ∧ Touch ps mb g w w' ∧ (g' = g ∨ w.heap.size ≤ g') := by
  have hT := (h.is n).1 hn
  obtain ⟨top, hr, ht⟩ := h.top
  have hnt : n < top := by
    rcases Nat.lt_or_ge n top with h1 | h1
    · exact h1
    · exact absurd (hr.top_free h1 hT.2.1) hT.2.2
  have I := In_any h n (by omega) (by omega)
  have e1 : isT T (n : Int) = true := by rw [isT_nat]; exact decide_eq_true hn
  rw [e1] at I
  have J := Lib.hid I
  clear I e1
  have L : Hid (∀ w : World, RowF w g off F.length c (flatF F) → w.cell? ⟨ps, 2, none⟩ = some (.slice (some ⟨g, off, none⟩) F.length c) → w.cell? ⟨bx, 0, none⟩ = some (bV ps) → w.frozen? ⟨ps, 2, none⟩ = false → _) :=
    fun w a1 a2 a3 a4 => lay_any hr (by omega) n hT.1 (by omega) hT.2.2 w ps bx g off c a1 a2 a3 a4 h.apart.2.2.1 h.apart.2.2.2.2.1
  obtain ⟨l1, l2, l3, l4⟩ := h.lts
  obtain ⟨n1, n2, n3, n4, n5, n6⟩ := h.apart
  have H := Lib.hid h
  have HN := Lib.hid hn
  have HT := Lib.hid hT
  have RT := Lib.hid ht
  have q1 : n ≤ 1099511627776 := by omega
  clear h hn hT hr ht
  go_enter Try.func17, Try.ntmps17
  go_wp2_with (first
    | (go_at_call 19; (with_reducible refine J.out.mono ?_); rintro e w1 ⟨rfl, hb⟩; have B := Lib.hid hb; have H1 := Lib.hid (H.out.below hb); obtain ⟨c0, c1, c2, c3, c4⟩ := H1.out.cells; have z1 := Nat.lt_of_lt_of_le l1 hb.size; have z3 := Nat.lt_of_lt_of_le l3 hb.size; clear hb)
    | (refine wpList_del_T rfl _ _ rfl mb n T rfl rfl H1.out.map q1 HN.out H.out.nodup ?_; intro w2 hm2 hg2; have y3 := hg2.out.cell c3 (by simpa using n2))
    | (go_at_call 42; go_loud ((with_reducible refine (L.out w2 (H1.out.row.keep (hg2.out.block g (by have := H1.out.lts; omega) (by simpa using Ne.symm n6))) (hg2.out.cell c2 (by simpa using n2)) (hg2.out.cell c4 (by simpa using n4)) ((World.frozen?_of_block (a := ⟨ps, 2, none⟩) (hg2.out.block ps z1 (by simpa using n2))).trans (H1.out.froz 2))).mono ?_)); rintro e w3 ⟨rfl, w4, F', g', off', c', rfl, r1, r2, r3, r4, r5⟩; have R1 := Lib.hid r1; have R2 := Lib.hid r2; have R3 := Lib.hid r3; have R4 := Lib.hid r4; have R5 := Lib.hid r5; clear r1 r2 r3 r4 r5))
  go_ret
  have hw1 : ∀ i, i < w.heap.size → w1.heap[i]? = w.heap[i]? := fun i hi => B.out.block i hi
  have s1 := B.out.size
  have s2 := hg2.out.size
  have s3 := R3.out.size
  have hw2 : ∀ i, i < w.heap.size → i ≠ mb → w2.heap[i]? = w.heap[i]? := fun i hi h1 => (hg2.out.block i (by omega) (by simpa using h1)).trans (hw1 i hi)
  have hw4 : ∀ i, i < w.heap.size → i ≠ mb → i ≠ g → w4.heap[i]? = w.heap[i]? := fun i hi h1 h2 => (R3.out.block i (by omega) (by simpa using h2)).trans (hw2 i hi h1)
  have hgp : g' ≠ ps := by rcases R2.out with h | h <;> omega
  have hmem : ∀ m, m ∈ T.erase n ↔ m ≠ n ∧ m ∈ T := fun m => H.out.nodup.mem_erase_iff
  refine ⟨F', g', off', c', rfl, ⟨set_free_of ((hw4 ps l1 n2 n3).trans H.out.self), ?_, ?_, ?_, H.out.nodup.erase n, ?_, ?_, fun m => ?_⟩, ?_, ?_⟩
  · exact (Below.heap_setCell _ _ _ _ (Ne.symm n1)).trans ((hw4 bx l2 n4 n5).trans H.out.var)
  · exact hm2.out.keep ((Below.heap_setCell _ _ _ _ (Ne.symm n2)).trans (R3.out.block mb (by omega) (by simpa using n6)))
  · exact R1.out.keep (Below.heap_setCell _ _ _ _ hgp)
  · exact Nat.le_trans (List.length_erase_le) H.out.small
  · obtain ⟨top', t1, t2⟩ := R4.out
    exact ⟨top', t1, Nat.le_trans t2 RT.out⟩
  · rw [hmem, R5.out, H.out.is]
    constructor
    · rintro ⟨h1, h2, h3, h4⟩; exact ⟨h2, h3, fun h5 => h5.elim h4 h1⟩
    · rintro ⟨h2, h3, h4⟩; exact ⟨fun h => h4 (.inr h), h2, h3, fun h => h4 (.inl h)⟩
  · exact ⟨R3.out.os.trans (hg2.out.os.trans B.out.os), R3.out.tape.trans (hg2.out.tape.trans B.out.tape), R3.out.output.trans (hg2.out.output.trans B.out.output), by simp only [World.setCell, Array.size_modify]; omega, fun i hi h1 h2 h3 => (Below.heap_setCell _ _ _ _ h1).trans (hw4 i hi h2 h3)⟩
  · rcases R2.out with h | h
    · exact .inl h
    · exact .inr (by omega)
end
end Go.Proofs.Ytlbbbfmnghcdnaa
