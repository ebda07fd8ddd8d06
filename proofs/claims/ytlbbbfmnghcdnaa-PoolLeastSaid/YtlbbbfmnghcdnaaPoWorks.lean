/- works: the chapter's rows. Written by gen_poworks.py. -/
import Derived.Test.YtlbbbfmnghcdnaaPoAt
namespace Go.Proofs.Ytlbbbfmnghcdnaa
set_option maxRecDepth 20000
open Go.RowKit Go.Maps

theorem below_lo {w a b : World} (h : Below w.heap.size w a) (k : Below w.heap.size a b) : Below w.heap.size w b := h.trans k
theorem below_hi {w a b : World} (h : Below w.heap.size w a) (k : Below a.heap.size a b) : Below w.heap.size w b := h.trans (k.mono h.size)
theorem P_Give_z {w : World} {lo ps k : Nat} {T : List Nat} (h : PoolAt w lo ps k T) (hk : k ≤ 1073741824) (n : Nat) (z : Int) (hz : z = (n : Int)) (hn : n ∈ T) : Calls Try.prog 17 #[bV ps, nV z] w fun e w' => e = .returned (.bool true) ∧ PoolAt w' lo ps k (T.erase n) ∧ Below lo w w' ∧ KeepO w w' := by
  subst hz
  exact P_Give h hk n hn
set_option maxHeartbeats 2000000 in
theorem works_true (w : World) : Calls Try.prog 25 #[] w fun e w' => e = .returned (.bool true) ∧ Below w.heap.size w w' := by
  go_enter Try.func25, Try.ntmps25
  go_wp2_with (first
    | (go_at_call 11; (with_reducible refine (P_New _).mono ?_); rintro e w0 ⟨ps, rfl, h0, b0⟩; have H0 := Lib.hid h0; have B0 := Lib.hid b0; clear h0 b0)
    | (go_at_call 13; (with_reducible refine (P_Take_is H0.out (by decide) 1 (least_of 1 (by decide) (by decide) (by decide))).mono ?_); rintro e w1 ⟨rfl, h1, b1, -⟩; have H1 := Lib.hid h1; have B1 := Lib.hid (below_lo B0.out b1); clear h1 b1)
    | (go_at_call 13; (with_reducible refine (P_Take_is H1.out (by decide) 2 (least_of 2 (by decide) (by decide) (by decide))).mono ?_); rintro e w2 ⟨rfl, h2, b2, -⟩; have H2 := Lib.hid h2; have B2 := Lib.hid (below_lo B1.out b2); clear h2 b2)
    | (go_at_call 13; (with_reducible refine (P_Take_is H2.out (by decide) 3 (least_of 3 (by decide) (by decide) (by decide))).mono ?_); rintro e w3 ⟨rfl, h3, b3, -⟩; have H3 := Lib.hid h3; have B3 := Lib.hid (below_lo B2.out b3); clear h3 b3)
    | (go_at_call 17; (with_reducible refine (P_Give_z H3.out (by decide) 2 2 (by decide) (by decide)).mono ?_); rintro e w4 ⟨rfl, h4, b4, -⟩; have H4 : Hid (PoolAt w4 w.heap.size ps 3 [3, 1]) := (by exact h4); have B4 := Lib.hid (below_lo B3.out b4); clear h4 b4)
    | (go_at_call 13; (with_reducible refine (P_Take_is H4.out (by decide) 2 (least_of 2 (by decide) (by decide) (by decide))).mono ?_); rintro e w5 ⟨rfl, h5, b5, -⟩; have H5 := Lib.hid h5; have B5 := Lib.hid (below_lo B4.out b5); clear h5 b5)
    | (go_at_call 13; (with_reducible refine (P_Take_is H5.out (by decide) 4 (least_of 4 (by decide) (by decide) (by decide))).mono ?_); rintro e w6 ⟨rfl, h6, b6, -⟩; have H6 := Lib.hid h6; have B6 := Lib.hid (below_lo B5.out b6); clear h6 b6)
    | (go_at_call 17; (with_reducible refine (P_Give_no H6.out 7 (by decide) (by decide) (by decide)).mono ?_); rintro e w7 ⟨rfl, h7, b7⟩; have H7 := Lib.hid h7; have B7 := Lib.hid (below_hi B6.out b7); clear h7 b7)
    | (go_at_call 17; (with_reducible refine (P_Give_no H7.out 0 (by decide) (by decide) (by decide)).mono ?_); rintro e w8 ⟨rfl, h8, b8⟩; have H8 := Lib.hid h8; have B8 := Lib.hid (below_hi B7.out b8); clear h8 b8)
    | (go_at_call 19; (with_reducible refine (P_In H8.out 1 (by decide) (by decide)).mono ?_); rintro e w9 ⟨rfl, h9, b9⟩; rw [show isT [4, 2, 3, 1] 1 = true from by decide]; have H9 := Lib.hid h9; have B9 := Lib.hid (below_hi B8.out b9); clear h9 b9)
    | (go_at_call 23; (with_reducible refine (P_Last_is H9.out (by decide) 4 (by decide) (by decide)).mono ?_); rintro e w10 ⟨rfl, q, hq⟩; have H10 : Hid (PoolAt w10 w.heap.size ps 5 [4, 2, 3, 1]) := (by rw [hq]; exact H9.out.below (below_drewN (Below.refl _ _) q)); have B10 : Hid (Below w.heap.size w w10) := (by rw [hq]; exact below_drewN B9.out q); clear hq)
    | (go_at_call 21; (with_reducible refine (P_Len H10.out).mono ?_); rintro e w10l ⟨rfl, rfl⟩; simp only [List.length_cons, List.length_nil])
    | (go_at_call 17; (with_reducible refine (P_Give_z H10.out (by decide) 4 4 (by decide) (by decide)).mono ?_); rintro e w11 ⟨rfl, h11, b11, -⟩; have H11 : Hid (PoolAt w11 w.heap.size ps 5 [2, 3, 1]) := (by exact h11); have B11 := Lib.hid (below_lo B10.out b11); clear h11 b11)
    | (go_at_call 17; (with_reducible refine (P_Give_z H11.out (by decide) 3 3 (by decide) (by decide)).mono ?_); rintro e w12 ⟨rfl, h12, b12, -⟩; have H12 : Hid (PoolAt w12 w.heap.size ps 5 [2, 1]) := (by exact h12); have B12 := Lib.hid (below_lo B11.out b12); clear h12 b12)
    | (go_at_call 23; (with_reducible refine (P_Last_is H12.out (by decide) 2 (by decide) (by decide)).mono ?_); rintro e w13 ⟨rfl, q, hq⟩; have H13 : Hid (PoolAt w13 w.heap.size ps 5 [2, 1]) := (by rw [hq]; exact H12.out.below (below_drewN (Below.refl _ _) q)); have B13 : Hid (Below w.heap.size w w13) := (by rw [hq]; exact below_drewN B12.out q); clear hq)
    | (go_at_call 13; (with_reducible refine (P_Take_is H13.out (by decide) 3 (least_of 3 (by decide) (by decide) (by decide))).mono ?_); rintro e w14 ⟨rfl, h14, b14, -⟩; have H14 := Lib.hid h14; have B14 := Lib.hid (below_lo B13.out b14); clear h14 b14))
  go_ret
  exact ⟨rfl, B14.out⟩
end Go.Proofs.Ytlbbbfmnghcdnaa
