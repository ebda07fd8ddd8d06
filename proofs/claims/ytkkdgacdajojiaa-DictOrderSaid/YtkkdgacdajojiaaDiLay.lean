/- lay, objects, New. -/
import Derived.Test.YtkkdgacdajojiaaBase
import Derived.Test.YtkkdgacdajojiaaDiGrow
namespace Go.Proofs.Ytkkdgacdajojiaa
set_option maxRecDepth 20000
set_option maxRecDepth 20000
open Go.RowKit Go.Maps Go.Sort Go.BigFrame

/-- A row of the call's own, or nil: values in the order of l. -/
def OwnV (w : World) (base : Nat) (v : Value) (l : List VV) : Prop := w.ownsRow base 24 2 v l.length (cellsV l) ∧ ∀ x ∈ l, wfP x
theorem OwnV.sl {w : World} {base : Nat} {v : Value} {l : List VV} (h : OwnV w base v l) : SlV w v l := by
  by_cases h0 : 0 < l.length
  · obtain ⟨g, c, rfl, hR, _⟩ := rowV_of_own h.1 rfl h0 h.2
    exact .inr ⟨g, 0, c, rfl, hR⟩
  · have hl : l = [] := List.length_eq_zero_iff.1 (by omega)
    subst hl
    rcases h.1.2 with ⟨rfl, _⟩ | ⟨g, cap, cur, rfl, hb, hg, hc, hm, hs, ht⟩
    · exact .inl ⟨rfl, rfl⟩
    · exact .inr ⟨g, 0, cap, rfl, ⟨cur.toList, by simpa using hg, by simp; omega, rfl⟩, by simp, by unfold maxLen at hm; exact hm, by simp⟩
theorem OwnV.below {w w' : World} {base : Nat} {v : Value} {l : List VV} (h : OwnV w base v l) (hb : Below w.heap.size w w') : OwnV w' base v l := ⟨own_below h.1 hb, h.2⟩
theorem OwnV.nil (w : World) (base : Nat) : OwnV w base (.slice none 0 0) [] := ⟨World.ownsRow_nil _ _ _ _, by simp⟩
/-- What a call that answers a new list of values leaves. -/
def GivesV (l : List VV) (w : World) (e : Ending) (w' : World) : Prop := ∃ v, e = .returned v ∧ OwnV w' w.heap.size v l ∧ Below w.heap.size w w'
theorem objsL_snoc_yes {l : List VV} {k : Nat} {p : VV} (h : l[k]? = some p) (hr : refB p.1 p.2 = true) : objsL (l.take (k + 1)) = objsL (l.take k) ++ [p] := by
  unfold objsL; rw [List.take_add_one, h, List.filter_append]; simp [refP, hr]
theorem objsL_snoc_no {l : List VV} {k : Nat} {p : VV} (h : l[k]? = some p) (hr : refB p.1 p.2 = false) : objsL (l.take (k + 1)) = objsL (l.take k) := by
  unfold objsL; rw [List.take_add_one, h, List.filter_append]; simp [refP, hr]
theorem objsL_len (l : List VV) : (objsL l).length ≤ l.length := List.length_filter_le _ _
theorem ref_ok {w : World} {k n : Int} {b : Bool} (h : refB k n = b) : Calls Try.prog 76 #[.agg #[.int .i64 k, .int .i64 n]] w fun e w' => e = .returned (.bool b) ∧ Below w.heap.size w w' := h ▸ Ref_any k n w
theorem own_step {w w1 w2 : World} {v v' : Value} {L L' : List VV} {x : VV} {o : Obj} (h1 : OwnV w1 w.heap.size v L) (hb : Below w.heap.size w w1) (hx : wfP x)
    (h2 : w2.ownsRow w.heap.size 24 2 v' (L.length + 1) (cellsV L ++ [iV x.1, iV x.2])) (hg : (w1.alloc o).grownBy w2 v.ownBlock) (e : L' = L ++ [x]) : OwnV w2 w.heap.size v' L' ∧ Below w.heap.size w w2 := by
  subst e
  refine ⟨⟨?_, fun y hy => ?_⟩, (hb.alloc hb.size o).grown hg (by have := hb.size; simp; omega) fun k hk => (h1.1.lt k hk).1⟩
  · rw [cellsV_append, List.length_append]; exact h2
  · rcases List.mem_append.1 hy with hy | hy
    · exact h1.2 y hy
    · simp at hy; subst hy; exact hx
theorem two_cell {w : World} {x y : Value} {E : TypeId} : ∀ j u, [x, y][j]? = some u → (w.alloc (.cells #[x, y] E)).cell? ((⟨w.heap.size, 0, none⟩ : Addr).add j) = some u := by
  intro j u hu
  rw [Addr.add_lit]
  match j, hu with
  | 0, hu => simp at hu; subst hu; simp [go_sem]
  | 1, hu => simp at hu; subst hu; simp [go_sem]
set_option maxHeartbeats 2000000 in
theorem objects_row {w : World} {g off c : Nat} {l : List VV} (h : RowV w g off c l) (hl : l.length ≤ 1073741824) : Calls Try.prog 86 #[.slice (some ⟨g, off, none⟩) l.length c] w (GivesV (objsL l) w) := by
  obtain ⟨i0, hi0, hz0, hz1, hz2⟩ := info_parts val_info
  have H : Hid (∀ W, Below w.heap.size w W → RowV W g off c l) := fun W hb => h.keep (hb.block g h.lt)
  obtain ⟨n, hn⟩ : ∃ n, n = l.length := ⟨_, rfl⟩
  rw [← hn] at hl ⊢
  have HN := Lib.hid hn
  clear h hn
  go_enter Try.func86, Try.ntmps86
  go_wp2_with fail
  go_loopw [3, 8] (fun v i wr => ∃ k : Nat, k ≤ n ∧ i = .int .i64 k ∧ OwnV wr w.heap.size v (objsL (l.take k)) ∧ Below w.heap.size w wr) (fun _ i _ => n - (intOf i).toNat)
  case atStart => exact ⟨0, Nat.zero_le _, rfl, OwnV.nil _ _, Below.refl _ _⟩
  case round =>
    obtain ⟨k, hk, rfl, hown, hb⟩ := hrel
    by_cases hlt : k < n
    · obtain ⟨p, hp⟩ : ∃ p, l[k]? = some p := ⟨_, List.getElem?_eq_getElem (by rw [← HN.out]; exact hlt)⟩
      obtain ⟨d0, d1⟩ := (H.out _ hb).at hp
      have WP : Hid (wfP p) := (H.out _ hb).wf _ (List.mem_of_getElem? hp)
      have O := Lib.hid hown
      have B := Lib.hid hb
      have HS := Lib.hid hb.size
      cases hr : refB p.1 p.2 with
      | true =>
        have C := Lib.hid (fun W => ref_ok (w := W) hr)
        have E := Lib.hid (objsL_snoc_yes hp hr)
        have hlen := objsL_len (l.take k)
        have hlen2 : (l.take k).length ≤ k := List.length_take_le _ _
        clear hown hb hp hr
        go_wp2_with (first
          | (go_at_call 76; refine (C.out _).mono ?_; rintro e w1 ⟨rfl, hb1⟩; have hq0 := boxed hb1 (j := 0) rfl; have hq1 := boxed hb1 (j := 1) rfl; have B1 := Lib.hid (below_box hb1); clear hb1)
          | (at_builtin; refine wpList_append_own _ rfl (.tmp 14) (.tmp 16) _ rfl w.heap.size 24 i0 _ 2 16 Try.underlying22 hi0 hz0 hz1 hz2 rfl (by decide) _ _ _ rfl ((O.out.below B1.out).1.alloc _) ⟨w1.heap.size, 0, none⟩ 1 1 [iV p.1, iV p.2] rfl rfl two_cell (by simp [Value.oneCell']) (by unfold maxLen; omega) (by omega) (by have := HS.out; have := B1.out.size; simp; omega) ?_; intro v' w2 hown2 hg2 _))
        have R := own_step (O.out.below B1.out) (B.out.trans (B1.out.mono HS.out)) WP.out hown2 hg2 E.out
        clear hown2 hg2
        go_wp2_with fail
        go_roundw
        case rel => exact ⟨k + 1, by omega, by go_num, R.1, R.2⟩
        case measure => simp [intOf]; omega
      | false =>
        have C := Lib.hid (fun W => ref_ok (w := W) hr)
        have E := Lib.hid (objsL_snoc_no hp hr)
        clear hown hb hp hr
        go_wp2_with (go_at_call 76; refine (C.out _).mono ?_; rintro e w1 ⟨rfl, hb1⟩; have B1 := Lib.hid (below_box hb1); clear hb1)
        go_roundw
        case rel => exact ⟨k + 1, by omega, by go_num, by rw [E.out]; exact O.out.below B1.out, B.out.trans (B1.out.mono HS.out)⟩
        case measure => simp [intOf]; omega
    · have O := Lib.hid hown
      have B := Lib.hid hb
      clear hown hb
      go_wp2_with fail
      go_ret
      refine ⟨_, rfl, ?_, B.out⟩
      have := O.out
      rw [List.take_of_length_le (by have := HN.out; omega)] at this
      exact this
theorem objects_any {w : World} {v : Value} {l : List VV} (h : SlV w v l) (hl : l.length ≤ 1073741824) : Calls Try.prog 86 #[v] w (GivesV (objsL l) w) := by
  rcases h with ⟨rfl, rfl⟩ | ⟨g, off, c, rfl, h⟩
  · go_enter Try.func86, Try.ntmps86
    go_wp2_with fail
    go_loopw [3, 8] (fun v i wr => i = .int .i64 0 ∧ v = .slice none 0 0 ∧ wr = w) (fun _ i _ => 0)
    case atStart => exact ⟨rfl, rfl, rfl⟩
    case round =>
      obtain ⟨rfl, rfl, hq⟩ := hrel
      obtain rfl := hq.symm
      go_wp2_with fail
      go_ret
      exact ⟨_, rfl, OwnV.nil _ _, Below.refl _ _⟩
  · exact objects_row h hl
/-- A new row, not nil. -/
def GivesR (l : List VV) (w : World) (e : Ending) (w' : World) : Prop := ∃ g off c, e = .returned (.slice (some ⟨g, off, none⟩) l.length c) ∧ RowV w' g off c l ∧ w.heap.size ≤ g ∧ Below w.heap.size w w'
theorem row_made {w : World} {base g n : Nat} (h : w.ownsRow base 24 2 (.slice (some ⟨g, 0, none⟩) 0 n) 0 []) : RowV w g 0 n [] ∧ base ≤ g := by
  rcases h.2 with ⟨h1, _⟩ | ⟨g', cap, cur, h1, hb, hg, hc, hm, hs, ht⟩
  · cases h1
  · injection h1 with h1 _ h3
    injection h1 with h1
    injection h1 with h1 _
    subst h1; subst h3
    exact ⟨⟨⟨cur.toList, by simpa using hg, by simp; omega, rfl⟩, Nat.zero_le _, by unfold maxLen at hm; exact hm, by simp⟩, hb⟩
theorem news_row {w : World} {g off c : Nat} {l : List VV} (h : RowV w g off c l) : ∀ j u, (cellsV l)[j]? = some u → w.cell? ((⟨g, off, none⟩ : Addr).add j) = some u := fun j u hj => by rw [Addr.add_lit]; exact h.cell hj
theorem news_two {w : World} {m k : VV} {E : TypeId} : ∀ j u, (cellsV [m, k])[j]? = some u → (w.alloc (.cells #[iV m.1, iV m.2, iV k.1, iV k.2] E)).cell? ((⟨w.heap.size, 0, none⟩ : Addr).add j) = some u := by
  intro j u hu
  rw [Addr.add_lit]
  match j, hu with
  | 0, hu => simp [cellsV] at hu; subst hu; simp [go_sem]
  | 1, hu => simp [cellsV] at hu; subst hu; simp [go_sem]
  | 2, hu => simp [cellsV] at hu; subst hu; simp [go_sem]
  | 3, hu => simp [cellsV] at hu; subst hu; simp [go_sem]
set_option maxHeartbeats 4000000 in
theorem lay_rows {w : World} {ga oa ca gp op cp n r : Nat} {m : VV} {A P : List VV} (hA : RowV w ga oa ca A) (hP : RowV w gp op cp P) (hm : wfP m) (hn : n = A.length) (hr : r = P.length) (hl : n + r ≤ 1073741824) :
    Calls Try.prog 55 #[vV m, .slice (some ⟨ga, oa, none⟩) n ca, .slice (some ⟨gp, op, none⟩) r cp] w (GivesR (m :: (3, (n : Int)) :: (A ++ P)) w) := by
  obtain ⟨i0, hi0, hz0, hz1, hz2⟩ := info_parts val_info
  have HA : Hid (∀ W, Below w.heap.size w W → RowV W ga oa ca A) := fun W hb => hA.keep (hb.block ga hA.lt)
  have HP : Hid (∀ W, Below w.heap.size w W → RowV W gp op cp P) := fun W hb => hP.keep (hb.block gp hP.lt)
  have HN := Lib.hid hn
  have HR := Lib.hid hr
  have HM := Lib.hid hm
  obtain ⟨m1, m2⟩ := m
  have q1 : IntKind.i64.wrap (2 + (n : Int)) = 2 + (n : Int) := IntWalk.i64_in _ (by omega)
  have q2 : IntKind.i64.wrap (2 + (n : Int) + (r : Int)) = 2 + (n : Int) + (r : Int) := IntWalk.i64_in _ (by omega)
  have BX : Hid (Below w.heap.size w (w.alloc (.cells #[.int .i64 m1, .int .i64 m2] 24))) := (Below.refl _ _).alloc (Nat.le_refl _) _
  have WN : Hid (wfP (3, (n : Int))) := wf_intP (by omega) (by omega)
  clear hA hP hn hr hm
  go_enter Try.func55, Try.ntmps55
  go_upto_region 2 with (at_make; refine wpList_make_own _ rfl _ _ 22 rfl w.heap.size 24 i0 _ 2 Try.underlying22 hi0 hz0 hz1 .i64 .i64 _ (2 + n + r) rfl rfl (by omega) (by rw [hz2]; omega) (by unfold maxLen; omega) (by simp) ?_; intro w1 hown hgrow)
  obtain ⟨hR0, hg0⟩ := row_made hown
  rw [show (w.alloc (.cells #[.int .i64 m1, .int .i64 m2] 24)).heap.size = w.heap.size + 1 by simp] at hR0 hg0
  have B1 : Hid (Below w.heap.size w w1) := BX.out.trans ⟨hgrow.os, hgrow.tape, hgrow.output, Nat.le_trans (by simp) hgrow.size, fun k hk => hgrow.block k (by simp; omega) (by simp)⟩
  have hbox : w1.heap[w.heap.size]? = some (.cells #[.int .i64 m1, .int .i64 m2] 24 (0, 0)) := (hgrow.block w.heap.size (by simp) (by simp)).trans (MapKept.heap_alloc w _).1
  have sz1 : w.heap.size < w1.heap.size := mem_block_lt hbox
  have R0 : Hid (∀ W, Below w1.heap.size w1 W → RowV W (w.heap.size + 1) 0 (2 + n + r) []) := fun W hb => hR0.keep (hb.block _ hR0.lt)
  have HBX : Hid (∀ W, Below w1.heap.size w1 W → W.heap[w.heap.size]? = some (.cells #[.int .i64 m1, .int .i64 m2] 24 (0, 0))) := fun W hb => (hb.block _ sz1).trans hbox
  obtain ⟨z0, z1, -, -⟩ := cells2 hbox
  clear hown hgrow hR0 hbox
  go_cut [7] (fun s7 wx => ∃ g off c : Nat, s7 = Value.slice (some ⟨g, off, none⟩) 2 c ∧ Hid (RowV wx g off c [(m1, m2), (3, (n : Int))] ∧ w.heap.size ≤ g ∧ Below w.heap.size w wx))
  case first =>
    go_region_law (first
      | (go_simp; go_at_call 83; refine (number_any _ _).mono ?_; rintro e w2 ⟨rfl, hb2⟩; have B2 : Hid (Below w1.heap.size w1 w2) := ⟨hb2.os, hb2.tape, hb2.output, hb2.size, hb2.block⟩; obtain ⟨y0, y1, -, -⟩ := cells2 (HBX.out w2 B2.out); have sz2 := B2.out.size; clear hb2)
      | (refine step_append_V rfl _ _ rfl (l := []) (n := 0) (R0.out _ (B2.out.alloc B2.out.size _)) rfl rfl ⟨w2.heap.size, 0, none⟩ 2 2 rfl [(m1, m2), (3, (n : Int))] rfl news_two ?_ (by omega) ?_; (· (intro y hy; simp at hy; rcases hy with rfl | rfl; exact HM.out; exact WN.out)); intro w3 g3 o3 c3 hR3 hG3))
    all_goals
      go_wp2_with fail
      go_meet
      have b2 := B2.out.alloc B2.out.size (.cells #[.int .i64 m1, .int .i64 m2, .int .i64 3, .int .i64 n] 24 (0, 0))
      have s2 := b2.size
      refine ⟨g3, o3, c3, rfl, hR3.out, hG3.out.ge (Nat.le_succ _) (by omega), ?_⟩
      exact (B1.out.trans (b2.mono (by omega))).trans (hG3.out.below (Nat.le_succ _) (by omega))
  case rest =>
    obtain ⟨g, off, c, rfl, HC⟩ := hcut
    have RC := Lib.hid HC.out.1
    have GC := HC.out.2.1
    have BC := Lib.hid HC.out.2.2
    have SC := BC.out.size
    clear HC R0 HBX z0 z1 hg0 sz1 B1 BX
    go_wp2_with (first
      | (at_builtin; refine wpList_append_V rfl (.tmp 22) (.tmp 23) rfl (n := 2) RC.out rfl rfl ⟨ga, oa, none⟩ n ca rfl A HN.out (news_row (HA.out _ BC.out)) (HA.out _ BC.out).wf (by omega) ?_; intro w4 g4 o4 c4 hR4 hG4; have B4 : Hid (Below w.heap.size w w4) := BC.out.trans (hG4.out.below GC SC); have GE4 := hG4.out.ge GC SC)
      | (at_builtin; refine wpList_append_V rfl (.tmp 25) (.tmp 26) rfl (n := 2 + n) hR4.out (by have := HN.out; simp; omega) rfl ⟨gp, op, none⟩ r cp rfl P HR.out (news_row (HP.out _ B4.out)) (HP.out _ B4.out).wf (by omega) ?_; intro w5 g5 o5 c5 hR5 hG5; have S4 := B4.out.size; have B5 : Hid (Below w.heap.size w w5) := B4.out.trans (hG5.out.below GE4 S4); have GE5 := hG5.out.ge GE4 S4))
    go_ret
    refine ⟨g5, o5, c5, ?_, by simpa using hR5.out, GE5, B5.out⟩
    have := HN.out
    have := HR.out
    have e : 2 + n + r = ((m1, m2) :: (3, (n : Int)) :: (A ++ P)).length := by simp; omega
    rw [← e]; rfl
end Go.Proofs.Ytkkdgacdajojiaa
