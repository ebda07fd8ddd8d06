/- works of this stage's laws. -/
import Derived.Test.YtkkdgacdajojiaaBase
import Derived.Test.YtkkdgacdajojiaaDiLaw
namespace Go.Proofs.Ytkkdgacdajojiaa
set_option maxRecDepth 20000
set_option maxRecDepth 20000
open Go.RowKit Go.Maps Go.Sort Go.BigFrame

theorem wk_put1 : putL [(1, 0), (3, 0)] (3, 1) (5, 1) = (some ([(1, 0), (3, 1), (5, 1)], []), 0) := by kernel_rfl
theorem wk_put2 : putL [(1, 0), (3, 1), (5, 1)] (5, 1) (3, 7) = (some ([(1, 0), (3, 1), (5, 1), (5, 1), (3, 7)], []), 0) := by kernel_rfl
theorem wk_get1 : getL [(1, 0), (3, 1), (5, 1), (5, 1), (3, 7)] (3, 1) = (5, 1) := by kernel_rfl
theorem wk_get2 : getL [(1, 0), (3, 1), (5, 1), (5, 1), (3, 7)] (5, 1) = (3, 7) := by kernel_rfl
theorem wf_dec {a b : Int} (h : decide (-9223372036854775808 ≤ a ∧ a ≤ 9223372036854775807 ∧ -9223372036854775808 ≤ b ∧ b ≤ 9223372036854775807) = true) : wfP (a, b) := by
  have := of_decide_eq_true h
  exact ⟨⟨this.1, this.2.1⟩, this.2.2.1, this.2.2.2⟩
set_option maxHeartbeats 8000000 in
theorem works_true (w : World) : Calls Try.prog 23 #[] w fun e w' => e = .returned (.bool true) ∧ Below w.heap.size w w' := by
  have E2 := Lib.hid wk_put2
  go_enter Try.func23, Try.ntmps23
  go_upto_region 4 with (first
    | (go_at_call 21; refine (New_any _).mono ?_; rintro e w1 ⟨g0, o0, c0, rfl, hR0, hg0, hb⟩; obtain ⟨hn1, hb1⟩ := new_cell hb; have N1 := Lib.hid hn1; have R0 := Lib.hid hR0; have B0 := Lib.hid hb1; have BB := Lib.hid (Below.refl w1.heap.size w1); clear hb hn1 hR0 hg0 hb1)
    | (go_at_call 28; refine (in_any _ _).mono ?_; rintro e wx ⟨rfl, hb⟩; replace BB := Lib.hid (BB.out.trans (hb.mono BB.out.size)); clear hb)
    | (go_at_call 29; refine (str_any _ _).mono ?_; rintro e wx ⟨rfl, hb⟩; replace BB := Lib.hid (BB.out.trans (hb.mono BB.out.size)); clear hb)
    | (go_at_call 24; refine (Put_any (l := [(1, 0), (3, 0)]) (k := (3, 1)) (x := (5, 1)) (.inr ⟨g0, o0, c0, rfl, R0.out.keep (BB.out.block _ R0.out.lt), by decide⟩) (by decide) (wf_dec (by decide)) (wf_dec (by decide))).mono ?_; rintro e w2 ⟨hb, hP⟩; rw [wk_put1] at hP; obtain ⟨g1, o1, c1, vg1, rfl, hR1, -, -⟩ := hP; have R1 := Lib.hid hR1; have B1 := Lib.hid (BB.out.trans (hb.mono BB.out.size)); replace BB := Lib.hid (Below.refl w2.heap.size w2); clear hb hR1 R0)
    | (go_at_call 24; refine (Put_any (l := [(1, 0), (3, 1), (5, 1)]) (k := (5, 1)) (x := (3, 7)) (.inr ⟨g1, o1, c1, rfl, R1.out.keep (BB.out.block _ R1.out.lt), by decide⟩) (by decide) (wf_dec (by decide)) (wf_dec (by decide))).mono ?_; rintro e w3 ⟨hb, hP⟩; rw [E2.out] at hP; obtain ⟨g2, o2, c2, vg2, rfl, hR2, -, -⟩ := hP; have R2 := Lib.hid hR2; have B2 := Lib.hid (BB.out.trans (hb.mono BB.out.size)); replace BB := Lib.hid (Below.refl w3.heap.size w3); clear hb hR2 R1))
  have NW : Hid (∀ W, Below w3.heap.size w3 W → W.heap[w.heap.size]? = some (.cells #[.int .i64 1, .int .i64 0] 24 (0, 0))) := fun W hb => (hb.block _ (Nat.lt_of_lt_of_le (mem_block_lt N1.out) (Nat.le_trans B1.out.size B2.out.size))).trans ((B2.out.block _ (Nat.lt_of_lt_of_le (mem_block_lt N1.out) B1.out.size)).trans ((B1.out.block _ (mem_block_lt N1.out)).trans N1.out))
  have B3 : Hid (Below w.heap.size w w3) := B0.out.trans ((B1.out.mono B0.out.size).trans (B2.out.mono (Nat.le_trans B0.out.size B1.out.size)))
  have CI : Hid (∀ W Y, Below w3.heap.size w3 W → PairsAt W (some Y) [(1, 0), (3, 1), (5, 1), (5, 1), (3, 7)] → Calls Try.prog 30 #[.slice (some ⟨g2, o2, none⟩) 5 c2, .slice (some Y) 5 5] W fun e w' => e = .returned (.bool true) ∧ Below W.heap.size W w') := fun W Y hb hY => by
    obtain ⟨A, c, e, hp⟩ := SlV.pairs (.inr ⟨g2, o2, c2, rfl, R2.out.keep (hb.block _ R2.out.lt)⟩ : SlV W (.slice (some ⟨g2, o2, none⟩) 5 c2) [(1, 0), (3, 1), (5, 1), (5, 1), (3, 7)])
    injection e with e1 e2 e3
    subst e1
    have := is_pairs (c := c2) (d := 5) hp hY (by decide)
    rw [decide_eq_true rfl] at this
    exact this
  have CG : Hid (∀ W a b a' b', getL [(1, 0), (3, 1), (5, 1), (5, 1), (3, 7)] (a, b) = (a', b') → wfP (a, b) → Below w3.heap.size w3 W → Calls Try.prog 18 #[.slice (some ⟨g2, o2, none⟩) 5 c2, .agg #[.int .i64 a, .int .i64 b]] W fun e w' => e = .returned (.agg #[.int .i64 a', .int .i64 b']) ∧ Below W.heap.size W w') := fun W a b a' b' e hw hb => by
    have := Get_any (w := W) (v := .slice (some ⟨g2, o2, none⟩) 5 c2) (.inr ⟨g2, o2, c2, rfl, R2.out.keep (hb.block _ R2.out.lt)⟩) (by decide) hw
    rw [e] at this
    exact this
  replace BB := Lib.hid ((Below.refl w3.heap.size w3).drew)
  obtain ⟨z0, z1, -, -⟩ := cells2 (NW.out _ BB.out)
  clear B0 B1 B2 N1 E2
  go_region_law (first
    | (go_simp; go_at_call 28; refine (in_any _ _).mono ?_; rintro e wx ⟨rfl, hb⟩; replace BB := Lib.hid (BB.out.trans (hb.mono BB.out.size)); obtain ⟨z0, z1, -, -⟩ := cells2 (NW.out _ BB.out); clear hb)
    | (go_simp; go_at_call 29; refine (str_any _ _).mono ?_; rintro e wx ⟨rfl, hb⟩; replace BB := Lib.hid (BB.out.trans (hb.mono BB.out.size)); obtain ⟨z0, z1, -, -⟩ := cells2 (NW.out _ BB.out); clear hb)
    | (go_simp; go_at_call 30; refine (CI.out _ _ (BB.out.alloc BB.out.size _) (pairs_alloc [(1, 0), (3, 1), (5, 1), (5, 1), (3, 7)] _ _)).mono ?_; rintro e wx ⟨rfl, hb⟩; replace BB := Lib.hid ((BB.out.alloc BB.out.size _).trans (hb.mono (BB.out.alloc BB.out.size _).size)); obtain ⟨z0, z1, -, -⟩ := cells2 (NW.out _ BB.out); clear hb)
    | (go_simp; go_at_call 18; (with_reducible refine (CG.out _ 3 1 5 1 wk_get1 (wf_dec (by decide)) BB.out).mono ?_); rintro e wx ⟨rfl, hb⟩; replace BB := Lib.hid (BB.out.trans (hb.mono BB.out.size)); obtain ⟨z0, z1, -, -⟩ := cells2 (NW.out _ BB.out); clear hb)
    | (go_simp; go_at_call 18; (with_reducible refine (CG.out _ 5 1 3 7 wk_get2 (wf_dec (by decide)) BB.out).mono ?_); rintro e wx ⟨rfl, hb⟩; replace BB := Lib.hid (BB.out.trans (hb.mono BB.out.size)); obtain ⟨z0, z1, -, -⟩ := cells2 (NW.out _ BB.out); clear hb))
  all_goals
    go_wp2_with fail
    go_ret
    exact ⟨rfl, B3.out.trans (BB.out.mono B3.out.size)⟩
end Go.Proofs.Ytkkdgacdajojiaa
