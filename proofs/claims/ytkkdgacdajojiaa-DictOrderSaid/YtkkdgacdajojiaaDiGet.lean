/- get, Check, Len, Get. -/
import Derived.Test.YtkkdgacdajojiaaBase
import Derived.Test.YtkkdgacdajojiaaDiCut
namespace Go.Proofs.Ytkkdgacdajojiaa
set_option maxRecDepth 20000
set_option maxRecDepth 20000
open Go.RowKit Go.Maps Go.Sort Go.BigFrame

theorem TabAt.look {w : World} {tp ga oa ca gp op cp mb N : Nat} {t : Tab} (h : TabAt w tp ga oa ca gp op cp mb t N) : LookAt w tp t.arr.length :=
  ⟨⟨_, _, h.cells.2.2.1⟩, mem_block_lt h.self, h.small.2.1⟩
theorem listed_ok {w : World} {tp n : Nat} (h : LookAt w tp n) (k : VV) {b : Bool} (hb : listedB n k = b) : Calls Try.prog 82 #[bV tp, vV k] w fun e w' => e = .returned (.bool b) ∧ Below w.heap.size w w' := hb ▸ listed_any h k
theorem two_in {w w1 : World} {cs ds : Array Value} {T U : TypeId} (hb : Below ((w.alloc (.cells cs T (0, 0))).alloc (.cells ds U (0, 0))).heap.size ((w.alloc (.cells cs T (0, 0))).alloc (.cells ds U (0, 0))) w1) :
    w1.heap[w.heap.size]? = some (.cells cs T (0, 0)) ∧ w1.heap[w.heap.size + 1]? = some (.cells ds U (0, 0)) ∧ w.heap.size + 1 < w1.heap.size ∧ Below w.heap.size w w1 := by
  have hs := hb.size
  have hb0 := hb.block w.heap.size (by simp; omega)
  have hb1 := hb.block (w.heap.size + 1) (by simp)
  have e1 := (MapKept.heap_alloc (w.alloc (.cells cs T (0, 0))) (.cells ds U (0, 0))).1
  rw [show (w.alloc (.cells cs T (0, 0))).heap.size = w.heap.size + 1 by simp] at e1
  refine ⟨hb0.trans ((Below.heap_alloc _ _ _ (by simp)).trans (MapKept.heap_alloc w _).1), hb1.trans e1, by simp at hs; omega, ?_⟩
  exact (((Below.refl _ _).alloc (Nat.le_refl _) _).alloc (by simp) _).trans (hb.mono (by simp; omega))
theorem cells2 {w : World} {g : Nat} {a b : Value} {T : TypeId} (h : w.heap[g]? = some (.cells #[a, b] T (0, 0))) : w.cell? ⟨g, 0, none⟩ = some a ∧ w.cell? ⟨g, 1, none⟩ = some b ∧ w.frozen? ⟨g, 0, none⟩ = false ∧ w.frozen? ⟨g, 1, none⟩ = false := by
  refine ⟨?_, ?_, ?_, ?_⟩ <;> simp [World.cell?, World.frozen?, h]
set_option maxHeartbeats 2000000 in
theorem get_listed {w : World} {tp ga oa ca gp op cp mb N : Nat} {t : Tab} (h : TabAt w tp ga oa ca gp op cp mb t N) {k : VV} (hk : listedB t.arr.length k = true) :
    Calls Try.prog 52 #[bV tp, vV k] w fun e w' => e = .returned (vV (getT t k)) ∧ Below w.heap.size w w' := by
  obtain ⟨i, hki, hi, -⟩ := listed_int hk
  have e1 : getT t k = t.arr.getD i nilP := by rw [hki]; exact getT_listed hi
  obtain ⟨x, hx⟩ : ∃ x, t.arr[i]? = some x := ⟨_, List.getElem?_eq_getElem hi⟩
  rw [e1, List.getD_eq_getElem?_getD, hx, Option.getD_some]
  have H : Hid (∀ W, Below w.heap.size w W → TabAt W tp ga oa ca gp op cp mb t N) := fun W hb => h.below hb
  have CL : Hid (∀ W, Below w.heap.size w W → Calls Try.prog 82 #[bV tp, vV k] W fun e w' => e = .returned (.bool true) ∧ Below W.heap.size W w') := fun W hb => listed_ok (h.below hb).look k hk
  obtain ⟨a, b⟩ := k
  have hb2 : b = (i : Int) + 1 := by unfold intP at hki; injection hki
  have hsm := h.small.2.1
  obtain ⟨n, hn⟩ : ∃ n, n = t.arr.length := ⟨_, rfl⟩
  have HN := Lib.hid hn
  have q1 : IntKind.i64.wrap (b - 1) = b - 1 := IntWalk.i64_in _ (by omega)
  have q2 : (0 : Int) ≤ b - 1 := by omega
  have q3 : (b - 1).toNat = i := by omega
  have q4 : b - 1 < (n : Int) := by omega
  have HX := Lib.hid hx
  clear h hk hki hb2 hx e1 hn hi
  go_enter Try.func52, Try.ntmps52
  go_upto_region 2 with (go_at_call 82; refine (CL.out _ ?_).mono ?_; (· exact ((Below.refl _ _).alloc (Nat.le_refl _) _).alloc (by simp) _); rintro e w1 ⟨rfl, hb1⟩)
  obtain ⟨x1, x2, x3, x4⟩ := two_in hb1
  have B := Lib.hid x4
  obtain ⟨z0, z1, -, -⟩ := cells2 x1
  obtain ⟨y0, y1, y2, y3⟩ := cells2 x2
  have c2 := (H.out _ x4).cells.2.2.1
  rw [← HN.out] at c2
  obtain ⟨d0, d1⟩ := (H.out _ x4).arr.at HX.out
  have l1 := mem_block_lt (H.out _ x4).self
  have l2 := (H.out _ x4).arr.lt
  clear hb1 x4 x1 x2
  go_wp2_with fail
  go_region
  all_goals
    go_wp2_with fail
    refine bodyPost_ret (v := vV x) (by simp [results, Try.results52, go_sem, y0, y1]) rfl ⟨rfl, ?_⟩
    exact ((B.out.setCell (by simp) _).setCell (by simp) _).drew
set_option maxHeartbeats 2000000 in
theorem get_other {w : World} {tp ga oa ca gp op cp mb N : Nat} {t : Tab} (h : TabAt w tp ga oa ca gp op cp mb t N) {k : VV} (hw : wfP k) (hk : listedB t.arr.length k = false) :
    Calls Try.prog 52 #[bV tp, vV k] w fun e w' => e = .returned (vV (getT t k)) ∧ Below w.heap.size w w' := by
  have e1 : getT t k = match idxQ t.prs k with | some i => (t.prs.getD i (nilP, nilP)).2 | none => nilP := by
    unfold getT; rw [if_neg (by simp [hk])]; cases idxQ t.prs k <;> rfl
  have H : Hid (∀ W, Below w.heap.size w W → TabAt W tp ga oa ca gp op cp mb t N) := fun W hb => h.below hb
  have CL : Hid (∀ W, Below w.heap.size w W → Calls Try.prog 82 #[bV tp, vV k] W fun e w' => e = .returned (.bool false) ∧ Below W.heap.size W w') := fun W hb => listed_ok (h.below hb).look k hk
  have LK : Hid (∀ W, Below w.heap.size w W → (Instr.lookup 72 (.map (some mb)) (.agg #[.int .i64 k.1, .int .i64 k.2]) true).run Try.prog W = .ok (.tuple #[iV ((((idxQ t.prs k).map (2 * ·)).getD 0 : Nat) : Int), .bool ((idxQ t.prs k).map (2 * ·)).isSome]) W) := fun W hb => (h.below hb).map.run_look hw
  have hsm := h.small.2.2
  obtain ⟨a, b⟩ := k
  cases hi : idxQ t.prs (a, b) with
  | some i =>
    rw [hi] at e1 LK
    obtain ⟨x, hx⟩ := idxQ_some hi
    have hil : i < t.prs.length := (List.getElem?_eq_some_iff.1 hx).1
    have e2 : getT t (a, b) = x := by rw [e1]; simp [List.getD_eq_getElem?_getD, hx]
    rw [e2]
    obtain ⟨p1, p2⟩ := flatQ_at t.prs i _ hx
    obtain ⟨u, hu⟩ : ∃ u, u = 2 * i := ⟨_, rfl⟩
    rw [← hu] at p2
    have LK2 : Hid (∀ W, Below w.heap.size w W → (Instr.lookup 72 (.map (some mb)) (.agg #[.int .i64 a, .int .i64 b]) true).run Try.prog W = .ok (.tuple #[.int .i64 (u : Int), .bool true]) W) := fun W hb => by
      rw [LK.out W hb, hu]; rfl
    have HP := Lib.hid p2
    obtain ⟨n, hn⟩ : ∃ n, n = 2 * t.prs.length := ⟨_, rfl⟩
    have HN := Lib.hid hn
    have q1 : IntKind.i64.wrap ((u : Int) + 1) = (u : Int) + 1 := IntWalk.i64_in _ (by omega)
    have q2 : (0 : Int) ≤ (u : Int) + 1 := by omega
    have q3 : ((u : Int) + 1).toNat = u + 1 := by omega
    have q4 : (u : Int) + 1 < (n : Int) := by omega
    have q5 : u + 1 < n := by omega
    clear h hk hw hi e1 e2 hx hil p1 p2 hu hn LK
    go_enter Try.func52, Try.ntmps52
    go_upto_region 3 with (go_at_call 82; refine (CL.out _ ?_).mono ?_; (· exact ((Below.refl _ _).alloc (Nat.le_refl _) _).alloc (by simp) _); rintro e w1 ⟨rfl, hb1⟩)
    obtain ⟨x1, x2, x3, x4⟩ := two_in hb1
    have B := Lib.hid x4
    obtain ⟨z0, z1, -, -⟩ := cells2 x1
    obtain ⟨y0, y1, y2, y3⟩ := cells2 x2
    obtain ⟨-, -, -, c3, c4⟩ := (H.out _ x4).cells
    rw [← HN.out] at c3
    obtain ⟨d0, d1⟩ := (H.out _ x4).prs.at HP.out
    have LL := fun i => LK2.out (w1.drewN i) (below_drewN x4 i)
    clear hb1 x4 x1 x2
    go_wp2_with fail
    go_quiet (fail)
    go_wp2_with fail
    refine bodyPost_ret (v := vV x) (by simp [results, Try.results52, go_sem, y0, y1]) rfl ⟨rfl, ?_⟩
    exact ((below_drewN B.out _).setCell (by simp) _).setCell (by simp) _
  | none =>
    rw [hi] at e1 LK
    rw [e1]
    clear h hk hw hi e1
    go_enter Try.func52, Try.ntmps52
    go_upto_region 3 with (go_at_call 82; refine (CL.out _ ?_).mono ?_; (· exact ((Below.refl _ _).alloc (Nat.le_refl _) _).alloc (by simp) _); rintro e w1 ⟨rfl, hb1⟩)
    obtain ⟨x1, x2, x3, x4⟩ := two_in hb1
    have B := Lib.hid x4
    obtain ⟨z0, z1, -, -⟩ := cells2 x1
    have HX2 := Lib.hid x2
    have c4 := (H.out _ x4).cells.2.2.2.2
    have LL := fun i => LK.out (w1.drewN i) (below_drewN x4 i)
    clear hb1 x4 x1 x2
    go_wp2_with fail
    go_quiet (fail)
    go_wp2_with (go_at_call 51; refine (null_any _).mono ?_; rintro e w2 ⟨rfl, hb2⟩; have hz2 := hb2.size; have B2 : Hid (Below w1.heap.size w1 w2) := (by exact (below_drewN (Below.refl _ _) _).trans (hb2.mono (Nat.le_refl _))); obtain ⟨y0, y1, y2, y3⟩ := cells2 ((hb2.block _ (by exact x3)).trans HX2.out); have x5 : w.heap.size + 1 < w2.heap.size := (by exact Nat.lt_of_lt_of_le x3 hz2); clear hb2 hz2)
    refine bodyPost_ret (v := vV nilP) (by simp [results, Try.results52, go_sem, y0, y1, nilP]) rfl ⟨rfl, ?_⟩
    exact ((B.out.trans (B2.out.mono B.out.size)).setCell (by simp) _).setCell (by simp) _
/-- get. -/
theorem get_any {w : World} {tp ga oa ca gp op cp mb N : Nat} {t : Tab} (h : TabAt w tp ga oa ca gp op cp mb t N) {k : VV} (hw : wfP k) :
    Calls Try.prog 52 #[bV tp, vV k] w fun e w' => e = .returned (vV (getT t k)) ∧ Below w.heap.size w w' := by
  cases hk : listedB t.arr.length k with
  | true => exact get_listed h hk
  | false => exact get_other h hw hk
/-- Slots that came in: of a row, or nil. -/
theorem cut_of {w : World} {v : Value} {l : List VV} (h : SlV w v l) (hl : l.length ≤ 1073741824) : ∃ g, Calls Try.prog 46 #[v] w (Parts w g l) := by
  rcases h with ⟨rfl, rfl⟩ | ⟨g, off, c, rfl, h⟩
  · exact ⟨0, cut_nil w⟩
  · exact ⟨g, cut_any h hl⟩
theorem cut_ofs {w : World} {v : Value} {l : List VV} (h : SlV w v l) (hl : l.length ≤ 1073741824) : ∃ g, ∀ W, Below w.heap.size w W → Calls Try.prog 46 #[v] W (Parts W g l) := by
  rcases h with ⟨rfl, rfl⟩ | ⟨g, off, c, rfl, h⟩
  · exact ⟨0, fun W _ => cut_nil W⟩
  · exact ⟨g, fun W hb => cut_any (h.keep (hb.block g h.lt)) hl⟩
/-- dict.Check. -/
theorem Check_any {w : World} {v : Value} {l : List VV} (h : SlV w v l) (hl : l.length ≤ 1073741824) : Calls Try.prog 14 #[v] w fun e w' => e = .returned (.bool (cutL l).isSome) ∧ Below w.heap.size w w' := by
  obtain ⟨g, C⟩ := cut_of h hl
  have HC := Lib.hid C
  clear h C
  cases ht : cutL l with
  | none =>
    have HT := Lib.hid ht
    clear ht
    go_enter Try.func14, Try.ntmps14
    go_wp2_with (go_at_call 46; refine HC.out.mono ?_; rintro e w1 ⟨hb, hP⟩; rw [HT.out] at hP; obtain ⟨pv, rfl⟩ := hP; have B := Lib.hid hb; clear hb)
    go_ret
    exact ⟨rfl, B.out⟩
  | some t =>
    have HT := Lib.hid ht
    clear ht
    go_enter Try.func14, Try.ntmps14
    go_wp2_with (go_at_call 46; refine HC.out.mono ?_; rintro e w1 ⟨hb, hP⟩; rw [HT.out] at hP; obtain ⟨tp, oa, ca, op, cp, mb, rfl, h1, h2, h3⟩ := hP; have B := Lib.hid hb; clear hb h1 h2 h3)
    go_ret
    exact ⟨rfl, B.out⟩
def lenL (l : List VV) : Nat := match cutL l with | none => 0 | some t => t.arr.length
def getL (l : List VV) (k : VV) : VV := match cutL l with | none => nilP | some t => getT t k
/-- dict.Len. -/
theorem Len_any {w : World} {v : Value} {l : List VV} (h : SlV w v l) (hl : l.length ≤ 1073741824) : Calls Try.prog 16 #[v] w fun e w' => e = .returned (.int .i64 (lenL l : Nat)) ∧ Below w.heap.size w w' := by
  obtain ⟨g, C⟩ := cut_of h hl
  have HC := Lib.hid C
  clear h C
  unfold lenL
  cases ht : cutL l with
  | none =>
    have HT := Lib.hid ht
    clear ht
    go_enter Try.func16, Try.ntmps16
    go_wp2_with (go_at_call 46; refine HC.out.mono ?_; rintro e w1 ⟨hb, hP⟩; rw [HT.out] at hP; obtain ⟨pv, rfl⟩ := hP; have B := Lib.hid hb; clear hb)
    go_ret
    exact ⟨rfl, B.out⟩
  | some t =>
    have HT := Lib.hid ht
    clear ht
    go_enter Try.func16, Try.ntmps16
    go_wp2_with (first
      | (go_at_call 46; refine HC.out.mono ?_; rintro e w1 ⟨hb, hP⟩; rw [HT.out] at hP; obtain ⟨tp, oa, ca, op, cp, mb, rfl, h1, h2, h3⟩ := hP; have B := Lib.hid hb; have H3 := Lib.hid h3; clear hb h1 h2 h3)
      | (go_at_call 50; refine (length_any H3.out.look).mono ?_; rintro e w2 ⟨rfl, hq⟩; obtain rfl := hq.symm))
    go_ret
    exact ⟨rfl, B.out⟩
set_option maxHeartbeats 1000000 in
/-- dict.Get. -/
theorem Get_any {w : World} {v : Value} {l : List VV} (h : SlV w v l) (hl : l.length ≤ 1073741824) {k : VV} (hk : wfP k) : Calls Try.prog 18 #[v, vV k] w fun e w' => e = .returned (vV (getL l k)) ∧ Below w.heap.size w w' := by
  obtain ⟨g, hC⟩ := cut_ofs h hl
  have HC := Lib.hid hC
  have HK := Lib.hid hk
  obtain ⟨a, b⟩ := k
  clear h hk hC
  unfold getL
  cases ht : cutL l with
  | none =>
    have HT := Lib.hid ht
    clear ht
    go_enter Try.func18, Try.ntmps18
    go_wp2_with (first
      | (go_at_call 46; refine (HC.out _ ?_).mono ?_; (· exact ((Below.refl _ _).alloc (Nat.le_refl _) _).alloc (by simp) _); rintro e w1 ⟨hb, hP⟩; rw [HT.out] at hP; obtain ⟨pv, rfl⟩ := hP; obtain ⟨x1, x2, x3, x4⟩ := two_in hb; have B := Lib.hid x4; have HX2 := Lib.hid x2; clear hb x1 x2 x4)
      | (go_at_call 51; refine (null_any _).mono ?_; rintro e w2 ⟨rfl, hb2⟩; have hz2 := hb2.size; have B2 := Lib.hid hb2; obtain ⟨y0, y1, y2, y3⟩ := cells2 ((hb2.block _ (by exact x3)).trans HX2.out); have x5 : w.heap.size + 1 < w2.heap.size := (by exact Nat.lt_of_lt_of_le x3 hz2); clear hb2 hz2))
    refine bodyPost_ret (v := vV nilP) (by simp [results, Try.results18, go_sem, y0, y1, nilP]) rfl ⟨rfl, ?_⟩
    exact ((B.out.trans (B2.out.mono B.out.size)).setCell (by simp) _).setCell (by simp) _
  | some t =>
    have HT := Lib.hid ht
    clear ht
    go_enter Try.func18, Try.ntmps18
    go_wp2_with (first
      | (go_at_call 46; refine (HC.out _ ?_).mono ?_; (· exact ((Below.refl _ _).alloc (Nat.le_refl _) _).alloc (by simp) _); rintro e w1 ⟨hb, hP⟩; rw [HT.out] at hP; obtain ⟨tp, oa, ca, op, cp, mb, rfl, h1, h2, h3⟩ := hP; have H3 := Lib.hid h3; obtain ⟨x1, x2, x3, x4⟩ := two_in hb; obtain ⟨z0, z1, -, -⟩ := cells2 x1; have B := Lib.hid x4; have HX2 := Lib.hid x2; clear hb x1 x2 x4 h1 h2 h3)
      | (go_at_call 52; refine (get_any H3.out HK.out).mono ?_; rintro e w2 ⟨rfl, hb2⟩; have hz2 := hb2.size; have B2 := Lib.hid hb2; obtain ⟨y0, y1, y2, y3⟩ := cells2 ((hb2.block _ (by exact x3)).trans HX2.out); have x5 : w.heap.size + 1 < w2.heap.size := (by exact Nat.lt_of_lt_of_le x3 hz2); clear hb2 hz2))
    refine bodyPost_ret (v := vV (getT t (a, b))) (by simp [results, Try.results18, go_sem, y0, y1]) rfl ⟨rfl, ?_⟩
    exact ((B.out.trans (B2.out.mono B.out.size)).setCell (by simp) _).setCell (by simp) _
end Go.Proofs.Ytkkdgacdajojiaa
