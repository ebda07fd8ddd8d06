/- Take: the least free number. -/
import Derived.Test.YtlbbbfmnghcdnaaPoTake
namespace Go.Proofs.Ytlbbbfmnghcdnaa
set_option maxRecDepth 20000
open Go.RowKit Go.Maps

theorem wpList_put_T {w : World} {ops : Array Oper} {rest : List Oper} {o : Oper} {a : Act} {Q : Exit → Act → World → Prop} (hg : o.guard = none) (m x v : Operand) (hop : o.op = Op.mapUpdate 55 m x v) (mb n : Nat) (T : List Nat)
    (hm : a.eval m = .map (some mb)) (hx : a.eval x = nV n) (hv : a.eval v = .agg #[]) (h : MapT w mb T) (hn : n ≤ 1099511627776) (hT : n ∉ T) (hl : T.length ≤ 1099511627776)
    (hK : ∀ w', Hid (MapT w' mb (n :: T)) → Hid (w.grownBy w' (some mb)) → wpList Try.prog ops Q rest (a.put o.dst undef) w') : wpList Try.prog ops Q (o :: rest) a w := by
  refine wpList_plain hg fun K' hK' => ?_
  obtain ⟨w', hrun, r1, r2⟩ := h.run_put n hn hT hl
  unfold Oper.wp
  simp [execOp, hop, hm, hx, hv, hrun, Result.andThen]
  exact hK' _ _ (hK w' r1 r2)
theorem RowF.tail {w : World} {g off n c : Nat} {p : Nat × Nat} {r : List (Nat × Nat)} (h : RowF w g off n c (flatF (p :: r))) (hc : 1 ≤ n) : RowF w g (off + 2) r.length (c - 1) (flatF r) := by
  obtain ⟨cur, h1, h2, h3, h4, h5, h6⟩ := h
  have hn : n = r.length + 1 := by simp [flatF, flat_len] at h5; omega
  subst hn
  refine ⟨cur, h1, by omega, by omega, by omega, flat_len r, ?_⟩
  have := congrArg (List.drop 2) h6
  rw [List.drop_take, List.drop_drop] at this
  rw [show 2 * r.length = 2 * (r.length + 1) - 2 by omega, this]
  rfl
theorem not_eqN {a b : Nat} (h : ¬ a = b) : (a == b) = false := beq_eq_false_iff_ne.2 h
section
variable {w : World} {ps bx mb g k : Nat} {T : List Nat} {F : List (Nat × Nat)} {off c : Nat} (h : Held w ps bx mb g k T F off c)
include h
theorem Held.set_free (v : Value) : (w.setCell ⟨ps, 2, none⟩ v).heap[ps]? = some (.cells #[bV ps, .map (some mb), v, .func (.func 42) #[] #[bV bx]] 59 (0, 0)) := by
  rw [setCell_eq_setRow w ps 2 _ _ _ v h.self, setRow_heap w ps _ _ _ _ h.self]
  rfl
theorem Held.set_first {a b a' : Nat} {r : List (Nat × Nat)} (hF : F = (a, b) :: r) : RowF (w.setCell ⟨g, off, none⟩ (nV a')) g off F.length c (flatF ((a', b) :: r)) := by
  obtain ⟨cur, h1, h2, h3, h4, h5, h6⟩ := h.row
  subst hF
  have hl : off < cur.length := by
    have : 0 < ((cur.drop off).take (2 * ((a, b) :: r).length)).length := by rw [h6]; simp [flatF]
    simp at this; omega
  refine ⟨cur.set off (nV a'), ?_, by simpa using h2, h3, h4, by simp [flat_len], ?_⟩
  · rw [setCell_eq_setRow w g off _ _ _ _ h1, setRow_heap w g _ _ _ _ h1]
    simp [Array.setIfInBounds, hl]
  · apply List.ext_getElem?
    intro j
    have hj6 := congrArg (fun l => l[j]?) h6
    simp only [List.getElem?_take, List.getElem?_drop, List.getElem?_set] at hj6 ⊢
    rcases j with _ | j
    · simp [flatF, hl]
    · have e1 : ¬ (off = off + (j + 1)) := by omega
      simp only [e1, if_false] at hj6 ⊢
      simp only [List.length_cons] at hj6 ⊢
      rw [hj6]
      simp [flatF]
end
theorem Take_any {w : World} {ps bx mb g k : Nat} {T : List Nat} {F : List (Nat × Nat)} {off c : Nat} (h : Held w ps bx mb g k T F off c) (hk : k ≤ 1073741824) :
    Calls Try.prog 13 #[bV ps] w fun e w' => ∃ (n : Nat) (F' : List (Nat × Nat)) (off' c' : Nat), e = .returned (nV n) ∧ Held w' ps bx mb g (k + 1) (n :: T) F' off' c' ∧ Touch ps mb g w w' ∧ 1 ≤ n ∧ n ≤ k + 1 ∧ n ∉ T ∧ (∀ m, 1 ≤ m → m < n → m ∈ T) := by
  obtain ⟨c0, c1, c2, c3, c4⟩ := h.cells
  obtain ⟨top, hr, ht⟩ := h.top
  obtain ⟨a, b, r, hF, ha1, hab, hmin, hfr, hat, ⟨top', hr', htop'⟩, hfree⟩ := take_rise hr (by unfold topM; omega)
  have hs0 := h.span (i := 0) (p := (a, b)) (by rw [hF]; rfl)
  simp only [Nat.zero_mul, Nat.add_zero] at hs0
  obtain ⟨s0, s1⟩ := hs0
  have aT : a ∉ T := fun hm => ((h.is a).1 hm).2.2 hfr
  have hmin' : ∀ m, 1 ≤ m → m < a → m ∈ T := fun m h1 h2 => (h.is m).2 ⟨h1, by unfold topM; omega, hmin m h1 h2⟩
  have his : ∀ m, m ∈ a :: T ↔ 1 ≤ m ∧ m ≤ topM ∧ ¬ FreeIn (takeF F) m := fun m => by
    rw [List.mem_cons, hfree, h.is]
    constructor
    · rintro (rfl | ⟨h1, h2, h3⟩)
      · exact ⟨ha1, by unfold topM; omega, fun h4 => h4.2 rfl⟩
      · exact ⟨h1, h2, fun h4 => h3 h4.1⟩
    · rintro ⟨h1, h2, h3⟩
      by_cases hma : m = a
      · exact .inl hma
      · exact .inr ⟨h1, h2, fun h4 => h3 ⟨h4, hma⟩⟩
  obtain ⟨l1, l2, l3, l4⟩ := h.lts
  obtain ⟨n1, n2, n3, n4, n5, n6⟩ := h.apart
  have fz : w.frozen? ⟨ps, 2, none⟩ = false := h.froz 2
  have fg : w.frozen? ⟨g, off, none⟩ = false := h.row.froz off
  have hrow := h.row
  obtain ⟨n, hn⟩ : ∃ n, n = F.length := ⟨_, rfl⟩
  have hc : F.length ≤ c := by obtain ⟨cur, _, _, h3, _⟩ := h.row; exact h3
  rw [← hn] at c2 hc
  have H := Lib.hid h
  have hpos : 0 < n := by rw [hn, hF]; simp
  have a2 : (a : Int) ≤ 1073741826 := by omega
  have a1 : (1 : Int) ≤ (a : Int) := by omega
  have TT : Hid (T.length ≤ k) := h.small
  have REST : Hid (1 ≤ a ∧ a ≤ k + 1 ∧ a ∉ T ∧ (∀ m, 1 ≤ m → m < a → m ∈ T)) := ⟨ha1, by omega, aT, hmin'⟩
  have IS := Lib.hid his
  have RR := Lib.hid (show ∃ top, Rise (takeF F) top ∧ top ≤ k + 1 + 1 from ⟨top', hr', by omega⟩)
  have HFF := Lib.hid hF
  have HN := Lib.hid hn
  have ROW := Lib.hid hrow
  clear hmin hmin' hfr hfree hr hr' his hF h hrow hn
  by_cases hba : b = a
  · have hn2 : 2 ≤ n := by
      rw [HN.out, HFF.out]
      rcases r with _ | ⟨q, r⟩
      · obtain ⟨t, hR, _⟩ := RR.out
        rw [HFF.out] at hR
        simp [takeF, hba] at hR
        exact absurd rfl hR.ne
      · simp
    have q1 : ¬ (c = 1) := by omega
    have q2 : (1 : Int) ≤ n := by omega
    subst hba
    go_enter Try.func13, Try.ntmps13
    go_wp2_with (first
      | (go_at_call 37; (with_reducible refine (made_any _ _ c0).mono ?_); rintro e w1 ⟨rfl, rfl⟩)
      | (at_mapUpdate; refine wpList_put_T rfl _ _ _ rfl mb b T rfl rfl rfl (H.out.map.keep (Below.heap_setCell _ _ _ _ (Ne.symm n2))) (by omega) REST.out.2.2.1 (by have := TT.out; omega) ?_; intro w2 hm2 hg2))
    go_ret
    have hr2 : takeF F = r := by rw [HFF.out]; simp [takeF]
    have hlen : r.length = n - 1 := by rw [HN.out, HFF.out]; simp
    have hsz : w.heap.size = (w.setCell ⟨ps, 2, none⟩ (.slice (some ⟨g, off + 2, none⟩) (n - 1) (c - 1))).heap.size := by simp [World.setCell]
    have hk2 : ∀ i, i < w.heap.size → i ≠ mb → i ≠ ps → w2.heap[i]? = w.heap[i]? := fun i hi h1 h2 => (hg2.out.block i (by omega) (by simpa using h1)).trans (Below.heap_setCell _ _ _ _ h2)
    refine ⟨b, r, off + 2, c - 1, rfl, ⟨?_, (hk2 bx l2 n4 (Ne.symm n1)).trans H.out.var, hm2.out, ?_, List.nodup_cons.2 ⟨REST.out.2.2.1, H.out.nodup⟩, by have := TT.out; simp; omega, by rw [← hr2]; exact RR.out, by rw [← hr2]; exact IS.out⟩, ?_, REST.out⟩
    · rw [hg2.out.block ps (by omega) (by simpa using n2), H.out.set_free, hlen]
    · have hrw := H.out.row
      rw [HFF.out] at hrw
      exact hlen ▸ (RowF.tail hrw (by simp)).keep (hk2 g l4 (Ne.symm n6) (Ne.symm n3))
    · exact ⟨hg2.out.os, hg2.out.tape, hg2.out.output, by have := hg2.out.size; omega, fun i hi h1 h2 _ => hk2 i hi h2 h1⟩
  · have q1 : (b == a) = false := not_eqN hba
    have q2 : ((b : Int) == (a : Int)) = false := not_eq (by omega)
    have q3 : (1 : Int) ≤ n := by omega
    go_enter Try.func13, Try.ntmps13
    go_wp2_with (first
      | (go_at_call 37; (with_reducible refine (made_any _ _ c0).mono ?_); rintro e w1 ⟨rfl, rfl⟩)
      | (at_mapUpdate; refine wpList_put_T rfl _ _ _ rfl mb a T rfl rfl rfl (H.out.map.keep (Below.heap_setCell _ _ _ _ n6)) (by omega) REST.out.2.2.1 (by have := TT.out; omega) ?_; intro w2 hm2 hg2))
    go_ret
    have hr2 : takeF F = (a + 1, b) :: r := by rw [HFF.out]; simp [takeF, hba]
    have hlen : ((a + 1, b) :: r).length = n := by rw [HN.out, HFF.out]; simp
    have hk2 : ∀ i, i < w.heap.size → i ≠ mb → i ≠ g → w2.heap[i]? = w.heap[i]? := fun i hi h1 h2 => (hg2.out.block i (by simpa [World.setCell] using hi) (by simpa using h1)).trans (Below.heap_setCell _ _ _ _ h2)
    refine ⟨a, (a + 1, b) :: r, off, c, rfl, ⟨?_, (hk2 bx l2 n4 n5).trans H.out.var, hm2.out, ?_, List.nodup_cons.2 ⟨REST.out.2.2.1, H.out.nodup⟩, by have := TT.out; simp; omega, by rw [← hr2]; exact RR.out, by rw [← hr2]; exact IS.out⟩, ?_, REST.out⟩
    · rw [hk2 ps l1 n2 n3, H.out.self, hlen, HN.out]
    · have hrw := H.out.set_first (a' := a + 1) HFF.out
      rw [← HN.out, ← hlen] at hrw
      exact hrw.keep (hg2.out.block g (by simpa [World.setCell] using l4) (by simpa using Ne.symm n6))
    · exact ⟨hg2.out.os, hg2.out.tape, hg2.out.output, by simpa [World.setCell] using hg2.out.size, fun i hi _ h2 h3 => hk2 i hi h2 h3⟩
end Go.Proofs.Ytlbbbfmnghcdnaa
