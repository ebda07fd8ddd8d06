/- cut: the parts of slots, and may they be? -/
import Derived.Test.YtkkdgacdajojiaaBase
import Derived.Test.YtkkdgacdajojiaaDiFind
namespace Go.Proofs.Ytkkdgacdajojiaa
set_option maxRecDepth 20000
set_option maxRecDepth 20000
open Go.RowKit Go.Maps Go.Sort Go.BigFrame

/-- What cut leaves: the parts, in the memory of what was handed in. -/
def Parts (w : World) (g : Nat) (l : List VV) (e : Ending) (w' : World) : Prop :=
  Below w.heap.size w w' ∧ match cutL l with
    | none => ∃ pv, e = .returned (.tuple #[pv, .bool false])
    | some t => ∃ tp oa ca op cp mb, e = .returned (.tuple #[bV tp, .bool true]) ∧ w.heap.size ≤ tp ∧ w.heap.size ≤ mb ∧ TabAt w' tp g oa ca g op cp mb t t.prs.length
theorem cut_no_head {w : World} {v : Value} {l : List VV} (g : Nat) (h : SlV w v l) (hl : l.length ≤ 1073741824) (hh : headOk l = false) : Calls Try.prog 46 #[v] w (Parts w g l) := by
  have e : cutL l = none := cutL_none fun t ht e => by
    have := cutL_lay ht
    rw [e] at this
    unfold cutL at this
    match l, hh, this with
    | [], _, h => simp at h
    | [_], _, h => simp at h
    | m :: c :: r, hh, h => simp [hh] at h
  have F : Hid (∀ w', Below w.heap.size w w' → Parts w g l (.returned (.tuple #[.pointer none, .bool false])) w') := fun w' hb => ⟨hb, by rw [e]; exact ⟨_, rfl⟩⟩
  have C := Lib.hid (headed_any h hl)
  rw [hh] at C
  clear h hl hh e
  go_enter Try.func46, Try.ntmps46
  go_wp2_with (go_at_call 79; refine C.out.mono ?_; rintro e w1 ⟨rfl, hb⟩; have B := Lib.hid hb; clear hb)
  go_ret2
  exact F.out _ B.out
theorem size_val : (Try.prog.info? 24).map (·.size) = some 2 := by kernel_rfl
/-- x[lo:hi:mx], the address under one name. -/
theorem run_slice3 (w : World) (g off N c lo hi mx : Nat) (h1 : lo ≤ hi) (h2 : hi ≤ mx) (h3 : mx ≤ c) : (Instr.slice 22 (.slice (some ⟨g, off, none⟩) N c) (some (iV lo)) (some (iV hi)) (some (iV mx))).run Try.prog w = .ok (.slice (some ⟨g, if mx = lo then off else off + 2 * lo, none⟩) (hi - lo) (mx - lo)) w := by
  have hs := size_val
  cases hq : Try.prog.info? 24 with
  | none => simp [hq] at hs
  | some i =>
    have hi2 : i.size = 2 := by simpa [hq] using hs
    have e1 : ∀ (x y : Nat) (code : BoundsCode), x ≤ y → (Instr.sliceBound (iV x) y code).run Try.prog w = .ok x w := fun x y code h => by
      simp [Instr.sliceBound, asIntOf, h]
    simp [Instr.slice, Instr.sliceBounds, run_underlying Try.underlying22, e1, h1, h2, h3, sizeOf, typeInfo, hq, hi2, Result.andThen]
    split
    · rfl
    · simp [Addr.add, Nat.mul_comm]
theorem lay_inj {t : Tab} {m : VV} {n : Nat} {A R : List VV} (h : layT t = m :: (3, (n : Int)) :: (A ++ R)) (hA : A.length = n) : t.meta_ = m ∧ t.arr = A ∧ flatQ t.prs = R := by
  unfold layT at h
  injection h with h1 h
  injection h with h2 h
  injection h2 with _ h2
  have h3 : t.arr.length = A.length := by omega
  obtain ⟨e1, e2⟩ := List.append_inj h h3
  exact ⟨h1, e1, e2⟩
theorem cut_none_of {m : VV} {n : Nat} {A R : List VV} (hA : A.length = n) (h : arrB A = false ∨ pairsB n R = false) : cutL (m :: (3, (n : Int)) :: (A ++ R)) = none := cutL_none fun t ht e => by
  obtain ⟨e1, e2, e3⟩ := lay_inj e hA
  rcases h with h | h
  · have : arrB A = true := decide_eq_true ⟨by rw [← e2]; exact ht.arr, by rw [← e2]; exact ht.last⟩
    rw [h] at this; cases this
  · rw [← e3, pairsB_flat, ← hA, ← e2] at h
    exact of_decide_eq_false h ⟨ht.prs, ht.nodup⟩
theorem cut_some_of {m : VV} {n : Nat} {A : List VV} {q : List (VV × VV)} (hA : A.length = n) (hm : metaOk m = true) (h1 : arrB A = true) (h2 : ∀ p ∈ q, pairOk n p = true) (h3 : (q.map (·.1)).Nodup) : cutL (m :: (3, (n : Int)) :: (A ++ flatQ q)) = some ⟨m, A, q⟩ := by
  subst hA
  have h4 := of_decide_eq_true h1
  exact cutL_lay (t := ⟨m, A, q⟩) ⟨hm, h4.1, h4.2, h2, h3⟩
theorem row_arr {w : World} {g off c n oa : Nat} {m k : VV} {A R : List VV} (h : RowV w g off c (m :: k :: (A ++ R))) (hA : A.length = n) (ho : oa = if 2 + n = 2 then off else off + 2 * 2) : RowV w g oa n A := by
  subst hA
  have h1 : RowV w g (off + 2 * 2) (c - 2) (A ++ R) := RowV.rest (a := [m, k]) h rfl
  by_cases e : A.length = 0
  · obtain rfl : A = [] := List.length_eq_zero_iff.1 e
    rw [if_pos (by simp)] at ho
    subst ho
    exact h.empty
  · rw [if_neg (by omega)] at ho
    subst ho
    have := h1.room
    simp only [List.length_append] at this
    exact h1.part (Nat.le_refl _) (by omega)
theorem row_prs {w : World} {g off c n N op r : Nat} {m k : VV} {A R : List VV} (h : RowV w g off c (m :: k :: (A ++ R))) (hA : A.length = n) (hr : r = R.length) (hN : N = A.length + R.length + 2) (ho : op = if N = 2 + n then off else off + 2 * (2 + n)) : RowV w g op r R := by
  subst hA; subst hr
  have h1 : RowV w g (off + 2 * (2 + A.length)) (c - (2 + A.length)) (R ++ []) := RowV.rest (a := m :: k :: A) (by simpa using h) (by simp; omega)
  by_cases e : R.length = 0
  · obtain rfl : R = [] := List.length_eq_zero_iff.1 e
    rw [if_pos (by rw [hN]; simp; omega)] at ho
    subst ho
    exact h.empty
  · rw [if_neg (by omega)] at ho
    subst ho
    have := h1.room
    simp only [List.length_append, List.length_nil] at this
    exact h1.part (Nat.le_refl _) (by omega)
set_option maxHeartbeats 4000000 in
theorem cut_head {w : World} {g off c n N : Nat} {m : VV} {A R : List VV} (h : RowV w g off c (m :: (3, (n : Int)) :: (A ++ R))) (hA : A.length = n) (hm : metaOk m = true) (hN : N = A.length + R.length + 2) (hl : N ≤ 1073741824) :
    Calls Try.prog 46 #[.slice (some ⟨g, off, none⟩) N c] w (Parts w g (m :: (3, (n : Int)) :: (A ++ R))) := by
  have hh : headOk (m :: (3, (n : Int)) :: (A ++ R)) = true := headOk_iff.2 ⟨m, n, A, R, rfl, hA, hm⟩
  have e0 : (m :: (3, (n : Int)) :: (A ++ R)).length = N := by simp; omega
  have C := Lib.hid (headed_any (.inr ⟨g, off, c, rfl, h⟩) (by omega))
  rw [hh, e0] at C
  have HR : Hid (∀ W, Below w.heap.size w W → RowV W g off c (m :: (3, (n : Int)) :: (A ++ R))) := fun W hb => h.keep (hb.block g h.lt)
  have hc := h.room
  have hcm := h.max
  have hgl := h.lt
  rw [e0] at hc
  have hnN : n + 2 ≤ N := by omega
  obtain ⟨oa, hoa⟩ : ∃ oa, oa = if 2 + n = 2 then off else off + 2 * 2 := ⟨_, rfl⟩
  obtain ⟨op, hop⟩ : ∃ op, op = if N = 2 + n then off else off + 2 * (2 + n) := ⟨_, rfl⟩
  have S1 : ∀ W, (Instr.slice 22 (.slice (some ⟨g, off, none⟩) N c) (some (.int .i64 2)) (some (.int .i64 (2 + (n : Int)))) (some (.int .i64 (2 + (n : Int))))).run Try.prog W = .ok (.slice (some ⟨g, oa, none⟩) n n) W := fun W => by
    have := run_slice3 W g off N c 2 (2 + n) (2 + n) (by omega) (Nat.le_refl _) (by omega)
    rw [← hoa, show 2 + n - 2 = n by omega, show ((2 + n : Nat) : Int) = 2 + (n : Int) by omega] at this
    exact this
  obtain ⟨r, hr⟩ : ∃ r, r = R.length := ⟨_, rfl⟩
  have S2 : ∀ W, (Instr.slice 22 (.slice (some ⟨g, off, none⟩) N c) (some (.int .i64 (2 + (n : Int)))) (some (.int .i64 (N : Int))) (some (.int .i64 (N : Int)))).run Try.prog W = .ok (.slice (some ⟨g, op, none⟩) r r) W := fun W => by
    have := run_slice3 W g off N c (2 + n) N N (by omega) (Nat.le_refl _) (by omega)
    rw [← hop, show N - (2 + n) = r by omega, show ((2 + n : Nat) : Int) = 2 + (n : Int) by omega] at this
    exact this
  have HA := Lib.hid hA
  have HRL := Lib.hid hr
  have HM := Lib.hid hm
  have HOA := Lib.hid hoa
  have HOP := Lib.hid hop
  have HN := Lib.hid hN
  clear h hh hA hr e0 hm hoa hop hN
  go_enter Try.func46, Try.ntmps46
  go_upto_region 3 with (go_at_call 79; refine C.out.mono ?_; rintro e w1 ⟨rfl, hb⟩)
  have B := Lib.hid hb
  have hgl1 := Nat.lt_of_lt_of_le hgl hb.size
  have h0 := (HR.out _ hb).at (i := 0) (p := m) rfl
  have h1 := (HR.out _ hb).at (i := 1) (p := (3, (n : Int))) rfl
  simp only [Nat.zero_mul, Nat.add_zero, Nat.one_mul] at h0 h1
  obtain ⟨a0, a1⟩ := h0
  obtain ⟨a2, a3⟩ := h1
  clear hb
  have q1 : IntKind.i64.wrap (2 + (n : Int)) = 2 + (n : Int) := IntWalk.i64_in _ (by omega)
  have q2 : (0 : Int) ≤ 2 + (n : Int) := by omega
  have q3 : (2 + (n : Int)).toNat = n + 2 := by omega
  have q4 : 2 + (n : Int) ≤ c := by omega
  have q5 : (N : Int) ≤ c := by omega
  have q6 : (1 : Int) < N := by omega
  have q7 : 1 < N := by omega
  have q8 : (0 : Int) < N := by omega
  have q9 : 0 < N := by omega
  go_wp2_with fail
  go_region
  have RA : Hid (∀ W, Below w.heap.size w W → RowV W g oa n A) := fun W hb => row_arr (HR.out W hb) HA.out HOA.out
  have RP : Hid (∀ W, Below w.heap.size w W → RowV W g op r R) := fun W hb => row_prs (HR.out W hb) HA.out HRL.out HN.out HOP.out
  have hz1 := B.out.size
  have BW2 : Hid (Below w.heap.size w (w1.alloc (.cells #[iV m.1, iV m.2, .slice (some ⟨g, oa, none⟩) n n, .slice (some ⟨g, op, none⟩) r r, .map none] 74)).drew) := (B.out.alloc hz1 _).drew
  have SW2 : Hid ((w1.alloc (.cells #[iV m.1, iV m.2, .slice (some ⟨g, oa, none⟩) n n, .slice (some ⟨g, op, none⟩) r r, .map none] 74)).drew.heap[w1.heap.size]? = some (.cells #[iV m.1, iV m.2, .slice (some ⟨g, oa, none⟩) n n, .slice (some ⟨g, op, none⟩) r r, .map none] 74 (0, 0))) := (MapKept.heap_alloc w1 _).1
  generalize (w1.alloc (.cells #[iV m.1, iV m.2, .slice (some ⟨g, oa, none⟩) n n, .slice (some ⟨g, op, none⟩) r r, .map none] 74)).drew = W2 at *
  clear a0 a1 a2 a3 S1 S2 q1 q2 q3 q4 q5 q6 q7 q8 q9 hgl1
  generalize w1.heap.size = tp at *
  have AI : Hid (ArrIn W2 tp g oa n A) := ⟨by rw [HA.out]; simp [World.cell?, SW2.out], RA.out _ BW2.out, mem_block_lt SW2.out, by have := HA.out; omega⟩
  cases hab : arrB A with
  | false =>
    have CA := Lib.hid (arrayMay_any AI.out)
    rw [hab] at CA
    have FIN : Hid (∀ w', Below w.heap.size w w' → Parts w g (m :: (3, (n : Int)) :: (A ++ R)) (.returned (.tuple #[bV tp, .bool false])) w') := fun w' hb => ⟨hb, by rw [cut_none_of HA.out (.inl hab)]; exact ⟨_, rfl⟩⟩
    clear hab
    go_wp2_with (go_at_call 80; refine CA.out.mono ?_; rintro e w3 ⟨rfl, hb3⟩; have B3 := Lib.hid hb3; clear hb3)
    go_ret2
    exact FIN.out _ (BW2.out.trans (B3.out.mono BW2.out.size))
  | true =>
    have CA := Lib.hid (arrayMay_any AI.out)
    rw [hab] at CA
    have HAB := Lib.hid hab
    clear hab
    have PI : Hid (∀ W, Below W2.heap.size W2 W → PairIn W tp n g op r (iV m.1) (iV m.2) (.slice (some ⟨g, oa, none⟩) n n) (.map none) R) := fun W hb =>
      ⟨by rw [← HRL.out]; exact (hb.block tp (mem_block_lt SW2.out)).trans SW2.out, ⟨_, _, rfl⟩, RP.out W (BW2.out.trans (hb.mono BW2.out.size)), by omega, by have := HRL.out; have := HN.out; omega⟩
    have FP : Hid (∀ W, Below W2.heap.size W2 W → Calls Try.prog 81 #[bV tp] W (Found W tp n g op r (iV m.1) (iV m.2) (.slice (some ⟨g, oa, none⟩) n n) R)) := fun W hb => findPairs_any (PI.out W hb)
    have GB : Hid (∀ W W', Below W2.heap.size W2 W → W.grownBy W' (some tp) → Below w.heap.size w W') := fun W W' hb hg => by
      have h1 := BW2.out.trans (hb.mono BW2.out.size)
      exact ⟨hg.os.trans h1.os, hg.tape.trans h1.tape, hg.output.trans h1.output, Nat.le_trans h1.size hg.size, fun k hk => (hg.block k (Nat.lt_of_lt_of_le hk h1.size) (by simp; omega)).trans (h1.block k hk)⟩
    cases hpb : pairsB n R with
    | false =>
      have FIN : Hid (∀ w', Below w.heap.size w w' → Parts w g (m :: (3, (n : Int)) :: (A ++ R)) (.returned (.tuple #[bV tp, .bool false])) w') := fun w' hb => ⟨hb, by rw [cut_none_of HA.out (.inr hpb)]; exact ⟨_, rfl⟩⟩
      have HPB := Lib.hid hpb
      clear hpb
      go_wp2_with (first
        | (go_at_call 80; refine CA.out.mono ?_; rintro e w3 ⟨rfl, hb3⟩; have B3 := Lib.hid hb3; clear hb3)
        | (go_at_call 81; refine (FP.out _ B3.out).mono ?_; rintro e w4 ⟨he, hg4, -⟩; rw [HPB.out] at he; subst he; have G4 := Lib.hid hg4; clear hg4))
      go_ret2
      exact FIN.out _ (GB.out _ _ B3.out G4.out)
    | true =>
      have HPB := Lib.hid hpb
      clear hpb
      go_wp2_with (first
        | (go_at_call 80; refine CA.out.mono ?_; rintro e w3 ⟨rfl, hb3⟩; have B3 := Lib.hid hb3; clear hb3)
        | (go_at_call 81; refine (FP.out _ B3.out).mono ?_; rintro e w4 ⟨he, hg4, hf4⟩; rw [HPB.out] at he; subst he; have G4 := Lib.hid hg4; have F4 := Lib.hid (hf4 HPB.out); clear hg4 hf4))
      go_ret2
      obtain ⟨mb, q, f1, f2, f3, f4, f5, f6⟩ := F4.out
      have hb4 := GB.out _ _ B3.out G4.out
      refine ⟨hb4, ?_⟩
      subst f2
      rw [cut_some_of HA.out HM.out HAB.out f5 f6]
      have hB3 := BW2.out.trans (B3.out.mono BW2.out.size)
      have e1 := flatQ_len q
      have e2 := HN.out
      have e3 := HRL.out
      have e4 := HA.out
      have e5 := HOA.out
      have e6 := HOP.out
      refine ⟨tp, oa, n, op, r, mb, rfl, hz1, Nat.le_trans hB3.size f1, ⟨?_, RA.out _ hb4, RP.out _ hb4, f4, ?_, by simp only; omega⟩⟩
      · have := f3.self
        rw [e1] at this
        simp only [e4]
        exact this
      · refine .inr ?_
        by_cases x : r = 0
        · exact .inr x
        · refine .inl ?_
          rw [e5, e6, if_neg (show ¬ N = 2 + n by omega)]
          split <;> omega
/-- cut. -/
theorem cut_any {w : World} {g off c : Nat} {l : List VV} (h : RowV w g off c l) (hl : l.length ≤ 1073741824) : Calls Try.prog 46 #[.slice (some ⟨g, off, none⟩) l.length c] w (Parts w g l) := by
  cases e : headOk l with
  | false => exact cut_no_head g (.inr ⟨g, off, c, rfl, h⟩) hl e
  | true =>
    obtain ⟨m, n, A, R, rfl, hA, hm⟩ := headOk_iff.1 e
    exact cut_head h hA hm (by simp) hl
theorem cut_nil (w : World) : Calls Try.prog 46 #[.slice none 0 0] w (Parts w 0 []) := cut_no_head 0 (.inl ⟨rfl, rfl⟩) (by simp) rfl
end Go.Proofs.Ytkkdgacdajojiaa
