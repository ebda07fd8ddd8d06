/- addUse. -/
import Derived.Test.YtlbbbfmnghcdnaaScFind
namespace Go.Proofs.Ytlbbbfmnghcdnaa
set_option maxRecDepth 20000
open Go.RowKit Go.Maps

theorem use_info : (Try.prog.info? 103).map (fun i => (i.zero, i.size, i.bytes)) = some (some (.agg #[.int .i64 0, .int .i64 0, .bool false, .pointer none]), 4, 32) := by kernel_rfl
theorem four_new (w : World) (x y z u : Value) (E : TypeId) : ∀ j v, [x, y, z, u][j]? = some v → (w.alloc (.cells #[x, y, z, u] E)).cell? ((⟨w.heap.size, 0, none⟩ : Addr).add j) = some v := by
  intro j v hu
  match j, hu with
  | 0, hu => simp at hu; subst hu; simp [Addr.add, go_sem]
  | 1, hu => simp at hu; subst hu; simp [Addr.add, go_sem]
  | 2, hu => simp at hu; subst hu; simp [Addr.add, go_sem]
  | 3, hu => simp at hu; subst hu; simp [Addr.add, go_sem]
set_option maxHeartbeats 4000000 in
theorem addUse_any {N : Nat} {w : World} {T : Own} {lo p n : Nat} {G : Nat → Gh} {vn : Value} {st : StS} {rest : List Nat} {f : FnS} (h : WAt w T lo p G vn st) (hs : st.stack = n :: rest) (hf : st.fns[n]? = some f) (s : List UInt8) (hsl : s.length ≤ 1099511627776) (l : Int) (hD : useS s l st ≠ .out) :
    Calls Try.prog 60 #[pV (G n).b, sV s, iV l] w (EndsS N T lo p G (useS s l st) w) := by
  have F := h.fn n f hf
  obtain ⟨e1, e2⟩ := fn_cur hs hf
  unfold useS at hD ⊢
  rw [e1, e2] at hD ⊢
  by_cases hk : 1048576 ≤ f.uses.length
  · rw [if_pos hk] at hD; exact absurd rfl hD
  rw [if_neg hk]
  have C := find_any s hsl l (n :: rest) n rest rfl [] h.drew hs
  have FD := found s l (n :: rest) st.fns
  have hlt : ∀ k, k ∈ n :: rest → k < st.fns.length := fun j hj => by
    obtain ⟨a, b, e⟩ := List.append_of_mem hj
    exact (h.chain a j b (by rw [hs, e])).1
  obtain ⟨g, hG⟩ : ∃ g, G n = g := ⟨_, rfl⟩
  rw [hG] at F C ⊢
  rw [hs]
  have c5 := F.hd.c5
  have w5 := F.hd.warm 5
  obtain ⟨Au, cu, hvu, hcu, hcm⟩ := slice_form F.ru
  rw [hvu] at c5
  have hbl := F.b_lt
  have bs := h.base
  have hwf := h.wf
  generalize findS s l (n :: rest) st.fns = r at C FD ⊢
  have K : ∀ fns1 u, r = .ok fns1 u → ∃ f1, fns1[n]? = some f1 ∧ f1.uses = f.uses ∧ ∀ i, u.own = some i → i < f1.locals.length := fun fns1 u e => by
    replace FD := FD fns1 u hwf hlt e
    obtain ⟨f1, hf1⟩ : ∃ f1, fns1[n]? = some f1 := ⟨_, List.getElem?_eq_getElem (by rw [FD.len]; exact hlt n (by simp))⟩
    obtain ⟨f0, hf0, hq1, hq2, hq3⟩ := FD.same n f1 hf1
    rw [hf] at hf0
    injection hf0 with hf0
    subst hf0
    refine ⟨f1, hf1, hq3, fun i hi => ?_⟩
    obtain ⟨_, f', hf', hl⟩ := FD.own n rest i rfl hi
    rw [hf1] at hf'
    injection hf' with hf'
    subst hf'
    exact hl
  obtain ⟨i9, hii, hz0, hz1, hz2⟩ := info_parts use_info
  have HC := Lib.hid C
  have HK := Lib.hid K
  clear h F C FD K hwf hlt
  go_enter Try.func60, Try.ntmps60
  go_region_law (first
    | (go_simp; go_at_call 71; go_loud ((with_reducible refine HC.out.mono ?_); intro e w2 hE; rcases r with ⟨l'⟩ | ⟨fns1, u⟩; (· obtain ⟨b, T', rfl, hb1, hb2, hb3⟩ := hE; exact ⟨rfl, BadS.after ⟨b, T', rfl, hb1, hb2, hb3⟩ (Turn.refl (fun _ => True) T w).drew⟩); obtain ⟨T2, G2, rfl, hW2, ht2, hS2⟩ := hE; obtain ⟨f1, hf1, hu1, hown⟩ := HK.out fns1 u rfl; obtain ⟨ov, hov⟩ := ptrO_form (u.own.map g.L); have hov2 : ownP (G2 n).L u.own = .pointer ov := (congrArg (fun L => ownP L u.own) (by rw [hS2.L n, hG])).trans hov; have F2 := hW2.fn n f1 hf1; have k5 := F2.hd.c5; rw [hS2.b n, hS2.vu n, hG, hvu] at k5; have HF3 := Lib.hid (F2.alloc (T' := T2) (.cells #[iV u.at_, iV u.index, .bool false, .pointer ov] 103) (fun _ _ => rfl)); have HR3 := HF3.out.ru; rw [hS2.vu n, hG, hvu, hu1] at HR3; replace HR3 := Lib.hid HR3; have hb2 : g.b < w2.heap.size := (by have := F2.b_lt; rw [hS2.b n, hG] at this; exact this); have hbs : lo ≤ w2.heap.size := Nat.le_trans bs ht2.size; have Hn3 := Lib.hid (four_new w2 (iV u.at_) (iV u.index) (.bool false) (.pointer ov) 103); have HW2 := Lib.hid hW2; have Ht2 := Lib.hid ht2; have HS2 := Lib.hid hS2; have HO := Lib.hid hown; clear hW2 ht2 hS2 F2 hown; simp only [useV, hG, show ownP g.L u.own = .pointer ov from hov]))
    | (refine step_append_lies _ rfl (.tmp 10) (.tmp 15) 96 rfl lo 103 i9 _ 4 32 Try.underlying96 hii hz0 hz1 hz2 rfl (by decide) (.slice Au f.uses.length cu) f.uses.length _ rfl HR3.out.row ⟨w2.heap.size, 0, none⟩ 1 1 [iV u.at_, iV u.index, .bool false, .pointer ov] rfl rfl Hn3.out (by simp [Value.oneCell']) (by decide) (by unfold maxLen; omega) (by omega) (by simp; omega) _ rfl ?_; intro r4 cap w4 hown4 hgrow4 hat4 hlt4; rw [← hvu, ← hG, ← HS2.out.vu n] at hgrow4 hat4; have k5 := (head_far HF3.out.hd HF3.out.ru (by simp) hgrow4 5).1.trans HF3.out.hd.c5; have v5 := (head_far HF3.out.hd HF3.out.ru (by simp) hgrow4 5).2.trans (HF3.out.hd.warm 5); rw [HS2.out.b n, hG] at k5 v5))
  all_goals
    refine bodyPost_end (results_none rfl _ _ _) rfl ?_
    have hfr3 : ∀ k, (w2.alloc (.cells #[iV u.at_, iV u.index, .bool false, .pointer ov] 103)).heap.size ≤ k → T2 k = none := fun k hk => HW2.out.fresh k (by simp at hk; omega)
    have hx : f1.uses.flatMap (useC (G2 n).L) ++ useC (G2 n).L u = f1.uses.flatMap (useC (G2 n).L) ++ [iV u.at_, iV u.index, .bool false, .pointer ov] := by simp only [useC, hov2]
    obtain ⟨F4, P4⟩ := HF3.out.pushUse (u := u) hfr3 HO.out (by rw [hu1]; omega) rfl (by rw [hx, hu1]; exact hown4) hgrow4 hat4 hlt4
    rw [hu1] at F4 P4
    have t0 : Turn (fun t => t.no = some n) T2 w2 (T2.put r4 (.uses n)) (w4.setCell ⟨(G2 n).b, 5, none⟩ (.slice (some ⟨r4, 0, none⟩) (f.uses.length + 1) cap)) := ((Turn.refl _ _ _).alloc _ fun _ _ => rfl).trans P4.turn
    have hc : (w4.setCell ⟨(G2 n).b, 5, none⟩ (.slice (some ⟨r4, 0, none⟩) (f.uses.length + 1) cap)).cell? ⟨(G2 n).b, 3, none⟩ = w2.cell? ⟨(G2 n).b, 3, none⟩ := (P4.cells 3 (by decide)).trans (World.cell?_alloc_lt _ _ ⟨(G2 n).b, 3, none⟩ (by rw [HS2.out.b n, hG]; exact hb2))
    have hW := HW2.out.turned hf1 t0 F4 rfl hc P4.fresh (modify_set hf1 fun f => f.addUse u)
    rw [HS2.out.b n, hG] at hW t0
    rw [hs] at hW
    exact ⟨_, _, _, vn, rfl, rfl, hW, (((Turn.refl (fun _ => True) T w).drew.trans Ht2.out).trans (t0.mono fun _ _ => trivial)), fun k _ => (updG_b (by rw [HS2.out.b n, hG]) k).trans (HS2.out.b k)⟩
end Go.Proofs.Ytlbbbfmnghcdnaa
