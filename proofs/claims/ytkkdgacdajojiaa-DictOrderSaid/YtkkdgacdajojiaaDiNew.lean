/- New: an empty table. -/
import Derived.Test.YtkkdgacdajojiaaBase
import Derived.Test.YtkkdgacdajojiaaDiLay
namespace Go.Proofs.Ytkkdgacdajojiaa
set_option maxRecDepth 20000
set_option maxRecDepth 20000
open Go.RowKit Go.Maps Go.Sort Go.BigFrame

theorem run_append_none (w : World) (g off n c : Nat) (h : n ≤ c) (ty : TypeId) : (Builtin.append_ #[22, 22] ty #[.slice (some ⟨g, off, none⟩) n c, .slice none 0 0]).run Try.prog w = .ok (.slice (some ⟨g, off, none⟩) n c) w := by
  have hs := size_val
  cases hq : Try.prog.info? 24 with
  | none => simp [hq] at hs
  | some i => simp [Builtin.append_, run_underlying Try.underlying22, sizeOf, typeInfo, hq, Builtin.lenOf, h, Builtin.firstCells, storeCells]
theorem wpList_append_none {ops : Array Oper} {rest : List Oper} {o : Oper} {a : Act} {w : World} {Q : Exit → Act → World → Prop} (hgd : o.guard = none) (s x : Operand)
    (ho : o.op = .call { callee := .builtin .append, args := #[s, x], argTypes := #[22, 22] }) (g off c n : Nat) (hn : n ≤ c) (hs : a.eval s = .slice (some ⟨g, off, none⟩) n c) (hx : a.eval x = .slice none 0 0)
    (h : wpList Try.prog ops Q rest (a.put o.dst (.slice (some ⟨g, off, none⟩) n c)) w) : wpList Try.prog ops Q (o :: rest) a w := by
  refine wpList_plain hgd fun K hK => ?_
  unfold Oper.wp execOp
  simp only [ho, resolve, invoke, builtin, Sem.run_bind, Sem.run_pure, Result.andThen_ok, List.map_toArray, List.map_cons, List.map_nil, hs, hx, run_append_none w g off n c hn]
  exact hK _ _ h
set_option maxHeartbeats 2000000 in
theorem lay_nil (w : World) : Calls Try.prog 55 #[.agg #[.int .i64 1, .int .i64 0], .slice none 0 0, .slice none 0 0] w (GivesR [(1, 0), (3, 0)] w) := by
  obtain ⟨i0, hi0, hz0, hz1, hz2⟩ := info_parts val_info
  have BX : Hid (Below w.heap.size w (w.alloc (.cells #[.int .i64 1, .int .i64 0] 24))) := (Below.refl _ _).alloc (Nat.le_refl _) _
  go_enter Try.func55, Try.ntmps55
  go_upto_region 2 with (at_make; refine wpList_make_own _ rfl _ _ 22 rfl w.heap.size 24 i0 _ 2 Try.underlying22 hi0 hz0 hz1 .i64 .i64 _ 2 rfl rfl (by omega) (by rw [hz2]; omega) (by unfold maxLen; omega) (by simp) ?_; intro w1 hown hgrow)
  obtain ⟨hR0, hg0⟩ := row_made hown
  rw [show (w.alloc (.cells #[.int .i64 1, .int .i64 0] 24)).heap.size = w.heap.size + 1 by simp] at hR0 hg0
  have B1 : Hid (Below w.heap.size w w1) := BX.out.trans ⟨hgrow.os, hgrow.tape, hgrow.output, Nat.le_trans (by simp) hgrow.size, fun k hk => hgrow.block k (by simp; omega) (by simp)⟩
  have hbox : w1.heap[w.heap.size]? = some (.cells #[.int .i64 1, .int .i64 0] 24 (0, 0)) := (hgrow.block w.heap.size (by simp) (by simp)).trans (MapKept.heap_alloc w _).1
  have sz1 : w.heap.size < w1.heap.size := mem_block_lt hbox
  have R0 : Hid (∀ W, Below w1.heap.size w1 W → RowV W (w.heap.size + 1) 0 2 []) := fun W hb => hR0.keep (hb.block _ hR0.lt)
  have HBX : Hid (∀ W, Below w1.heap.size w1 W → W.heap[w.heap.size]? = some (.cells #[.int .i64 1, .int .i64 0] 24 (0, 0))) := fun W hb => (hb.block _ sz1).trans hbox
  obtain ⟨z0, z1, -, -⟩ := cells2 hbox
  clear hown hgrow hR0 hbox
  go_cut [7] (fun s7 wx => ∃ g off c : Nat, s7 = Value.slice (some ⟨g, off, none⟩) 2 c ∧ Hid (RowV wx g off c [(1, 0), (3, 0)] ∧ w.heap.size ≤ g ∧ Below w.heap.size w wx))
  case first =>
    go_region_law (first
      | (go_simp; go_at_call 83; refine (number_any _ _).mono ?_; rintro e w2 ⟨rfl, hb2⟩; have B2 : Hid (Below w1.heap.size w1 w2) := ⟨hb2.os, hb2.tape, hb2.output, hb2.size, hb2.block⟩; obtain ⟨y0, y1, -, -⟩ := cells2 (HBX.out w2 B2.out); have sz2 := B2.out.size; clear hb2)
      | (refine step_append_V rfl _ _ rfl (l := []) (n := 0) (R0.out _ (B2.out.alloc B2.out.size _)) rfl rfl ⟨w2.heap.size, 0, none⟩ 2 2 rfl [(1, 0), (3, 0)] rfl news_two ?_ (by omega) ?_; (· (intro y hy; simp at hy; rcases hy with rfl | rfl <;> exact ⟨⟨by decide, by decide⟩, by decide, by decide⟩)); intro w3 g3 o3 c3 hR3 hG3))
    all_goals
      go_wp2_with fail
      go_meet
      have b2 := B2.out.alloc B2.out.size (.cells #[.int .i64 1, .int .i64 0, .int .i64 3, .int .i64 0] 24 (0, 0))
      have s2 := b2.size
      refine ⟨g3, o3, c3, rfl, hR3.out, hG3.out.ge (Nat.le_succ _) (by omega), ?_⟩
      exact (B1.out.trans (b2.mono (by omega))).trans (hG3.out.below (Nat.le_succ _) (by omega))
  case rest =>
    obtain ⟨g, off, c, rfl, HC⟩ := hcut
    have RC := HC.out.1.room
    simp only [List.length_cons, List.length_nil] at RC
    clear R0 HBX z0 z1 hg0 sz1 B1 BX
    go_wp2_with (first
      | (at_builtin; refine wpList_append_none rfl (.tmp 22) (.tmp 23) rfl g off c 2 (by omega) rfl rfl ?_)
      | (at_builtin; refine wpList_append_none rfl (.tmp 25) (.tmp 26) rfl g off c 2 (by omega) rfl rfl ?_))
    go_ret
    exact ⟨g, off, c, rfl, HC.out.1, HC.out.2.1, HC.out.2.2⟩
/-- dict.New. -/
theorem New_any (w : World) : Calls Try.prog 21 #[] w (GivesR [nilP, (3, 0)] w) := by
  go_enter Try.func21, Try.ntmps21
  go_wp2_with (first
    | (go_at_call 51; refine (null_any _).mono ?_; rintro e w1 ⟨rfl, hb1⟩; have B1 := Lib.hid hb1; clear hb1)
    | (go_at_call 55; refine (lay_nil _).mono ?_; rintro e w2 ⟨g, off, c, rfl, hR, hg, hb⟩; have R2 := Lib.hid hR; have G2 := Lib.hid hg; have B2 := Lib.hid hb; clear hR hg hb))
  go_ret
  exact ⟨g, off, c, rfl, R2.out, Nat.le_trans B1.out.size G2.out, B1.out.trans (B2.out.mono B1.out.size)⟩
end Go.Proofs.Ytkkdgacdajojiaa
