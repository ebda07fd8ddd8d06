/- addUp: a name from outside more. -/
import Derived.Test.YtlbbbfmnghcdnaaScDecl
import Derived.Deep.RegionLaw
namespace Go.Proofs.Ytlbbbfmnghcdnaa
set_option maxRecDepth 20000
open Go.RowKit Go.Maps

theorem wpList_putI {w : World} {ops : Array Oper} {rest : List Oper} {o : Oper} {a : Act} {Q : Exit → Act → World → Prop} (hg : o.guard = none) (m x v : Operand) (hop : o.op = Op.mapUpdate 97 m x v) {b n : Nat} {f : List UInt8 → Option Nat} {s : List UInt8} {q : Nat}
    (hm : a.eval m = .map (some b)) (hM : MapI w b n f) (hn : n < maxLen) (hx : a.eval x = sV s) (hs : s.length ≤ 1099511627776) (hv : a.eval v = iV q) (hq : q ≤ 1099511627776)
    (hK : ∀ w', MapI w' b (n + 1) (putN f s (some q)) → w.grownBy w' (some b) → wpList Try.prog ops Q rest (a.put o.dst undef) w') : wpList Try.prog ops Q (o :: rest) a w := by
  obtain ⟨D, ho, hf⟩ := hM
  exact wpList_mapUpdate_own w hg m x v _ hop _ _ keyedS Try.underlying97 (plainElem Try.prog 3) b n D hm ho hn _ _ _ hx hv (keyS s hs) _ [] (plainElem_int Try.underlying3 (wf_i64 hq)) fun w' h1 h2 => hK w' (MapI.put ho.isMap hf h1) h2
theorem up_info : (Try.prog.info? 42).map (fun i => (i.zero, i.size, i.bytes)) = some (some (.agg #[.bool false, .int .i64 0]), 2, 16) := by kernel_rfl
theorem two_new (w : World) (x y : Value) (E : TypeId) : ∀ j u, [x, y][j]? = some u → (w.alloc (.cells #[x, y] E)).cell? ((⟨w.heap.size, 0, none⟩ : Addr).add j) = some u := by
  intro j u hu
  match j, hu with
  | 0, hu => simp at hu; subst hu; simp [Addr.add, go_sem]
  | 1, hu => simp at hu; subst hu; simp [Addr.add, go_sem]
theorem two_drew (w : World) (x y : Value) (E : TypeId) : ∀ j u, [x, y][j]? = some u → (w.alloc (.cells #[x, y] E)).drew.cell? ((⟨w.heap.size, 0, none⟩ : Addr).add j) = some u := two_new w x y E
/-- What stays of the functions' places. -/
structure Still (G G' : Nat → Gh) : Prop where
  b : ∀ k, (G' k).b = (G k).b
  vu : ∀ k, (G' k).vu = (G k).vu
  L : ∀ k, (G' k).L = (G k).L
theorem Still.refl (G : Nat → Gh) : Still G G := ⟨fun _ => rfl, fun _ => rfl, fun _ => rfl⟩
theorem Still.trans {G0 G1 G2 : Nat → Gh} (h : Still G0 G1) (k : Still G1 G2) : Still G0 G2 := ⟨fun i => (k.b i).trans (h.b i), fun i => (k.vu i).trans (h.vu i), fun i => (k.L i).trans (h.L i)⟩
theorem Still.upd {G : Nat → Gh} {n : Nat} {g : Gh} (hb : g.b = (G n).b) (hu : g.vu = (G n).vu) (hL : g.L = (G n).L) : Still G (updG G n g) := by
  refine ⟨updG_b hb, fun k => ?_, fun k => ?_⟩
  · by_cases e : k = n
    · subst e; rw [updG_same, hu]
    · rw [updG_other e]
  · by_cases e : k = n
    · subst e; rw [updG_same, hL]
    · rw [updG_other e]
theorem addUp_full {w : World} {T : Own} {lo p n : Nat} {G : Nat → Gh} {vn : Value} {st : StS} {f : FnS} (h : WAt w T lo p G vn st) (hf : st.fns[n]? = some f) (s : List UInt8) (l : Int) (u : List Value) (hu : ∃ a b c d, u = [a, b, c, d]) (hk : f.ups.length = 60) :
    Calls Try.prog 76 #[pV (G n).b, sV s, .agg u.toArray, iV l] w (BadS T w 3 l) := by
  obtain ⟨a, b, c, d, rfl⟩ := hu
  have F := h.fn n f hf
  obtain ⟨g, hG⟩ : ∃ g, G n = g := ⟨_, rfl⟩
  rw [hG] at F ⊢
  obtain ⟨Ap, cp, hvp, hcp, hcm⟩ := slice_form F.rp
  have hz : (w.alloc (.cells #[a, b, c, d] 103)).heap.size = w.heap.size + 1 := by simp
  have c6 := F.hd.c6
  have hbl := F.b_lt
  rw [hvp] at c6
  have FA := Lib.hid (fail_any 3 l (w.alloc (.cells #[a, b, c, d] 103)))
  have B := Lib.hid ((bad_new T (w.alloc (.cells #[a, b, c, d] 103)) 3 l 124).after ((Turn.refl (fun _ => True) T w).alloc _ fun _ _ => rfl))
  have hq : ((f.ups.length : Int) == 60) = true := by rw [hk]; rfl
  rw [hz] at B
  generalize f.ups.length = fl at *
  clear h F hk
  go_enter Try.func76, Try.ntmps76
  go_wp2_with (first
    | (go_at_call 48; with_reducible refine FA.out.mono ?_; rintro e w2 ⟨rfl, rfl⟩))
  exact ⟨rfl, B.out⟩
theorem updG_self (G : Nat → Gh) (n : Nat) : updG G n (G n) = G := by
  funext k
  by_cases e : k = n
  · subst e; exact updG_same _ _ _
  · exact updG_other e
set_option maxHeartbeats 4000000 in
theorem addUp_none {w : World} {T : Own} {lo p n : Nat} {G : Nat → Gh} {vn : Value} {st : StS} {f : FnS} (h : WAt w T lo p G vn st) (hf : st.fns[n]? = some f) (s : List UInt8) (hsl : s.length ≤ 1099511627776) (l : Int) (x i : Nat) (hx : placeIn s f.ups = none) (hk : f.ups.length ≠ 60) :
    Calls Try.prog 76 #[pV (G n).b, sV s, .agg #[iV x, iV i, .bool false, .pointer none], iV l] w fun e w' =>
      ∃ T' G', e = .returned (iV f.ups.length) ∧ WAt w' T' lo p G' vn { st with fns := st.fns.modify n fun f => f.addUp ⟨false, i, s⟩ } ∧ Turn (fun _ => True) T w T' w' ∧ Still G G' := by
  have F := h.fn n f hf
  obtain ⟨g, hG⟩ : ∃ g, G n = g := ⟨_, rfl⟩
  rw [hG] at F ⊢
  obtain ⟨Ap, cp, hvp, hcp, hcm⟩ := slice_form F.rp
  obtain ⟨i9, hii, hz0, hz1, hz2⟩ := info_parts up_info
  have c6 := F.hd.c6
  have c7 := F.hd.c7
  have w6 := F.hd.warm 6
  have hbl := F.b_lt
  rw [hvp] at c6
  have hlp := F.len_p
  have hq : ((f.ups.length : Int) == 60) = false := beq_eq_false_iff_ne.2 (by omega)
  have bs := h.base
  have HH := Lib.hid h
  have HX := Lib.hid hx
  have F2 := ((F.alloc (T' := T) (.cells #[iV x, iV i, .bool false, .pointer none] 103) (fun _ _ => rfl)).alloc (T' := T) (.cells #[.bool false, iV i] 42) (fun _ _ => rfl)).drew
  have hz2' : ((w.alloc (.cells #[iV x, iV i, .bool false, .pointer none] 103)).alloc (.cells #[.bool false, iV i] 42)).drew.heap.size = w.heap.size + 2 := by simp
  have fr2 : ∀ k, ((w.alloc (.cells #[iV x, iV i, .bool false, .pointer none] 103)).alloc (.cells #[.bool false, iV i] 42)).drew.heap.size ≤ k → T k = none := fun k hk => h.fresh k (by rw [hz2'] at hk; omega)
  have nw2 : ∀ j u, [.bool false, iV i][j]? = some u → ((w.alloc (.cells #[iV x, iV i, .bool false, .pointer none] 103)).alloc (.cells #[.bool false, iV i] 42)).drew.cell? ((⟨w.heap.size + 1, 0, none⟩ : Addr).add j) = some u := by
    have := two_drew (w.alloc (.cells #[iV x, iV i, .bool false, .pointer none] 103)) (.bool false) (iV i) 42
    simpa using this
  have tm2 : Turn (fun t => t.no = some n) T w T ((w.alloc (.cells #[iV x, iV i, .bool false, .pointer none] 103)).alloc (.cells #[.bool false, iV i] 42)).drew := (((Turn.refl _ T w).alloc _ (fun _ _ => rfl)).alloc _ (fun _ _ => rfl)).drew
  have cc2 : ((w.alloc (.cells #[iV x, iV i, .bool false, .pointer none] 103)).alloc (.cells #[.bool false, iV i] 42)).drew.cell? ⟨g.b, 3, none⟩ = w.cell? ⟨g.b, 3, none⟩ := (World.cell?_alloc_lt _ _ ⟨g.b, 3, none⟩ (by simp; omega)).trans (World.cell?_alloc_lt _ _ ⟨g.b, 3, none⟩ hbl)
  obtain ⟨W2, hW2⟩ : ∃ W2, ((w.alloc (.cells #[iV x, iV i, .bool false, .pointer none] 103)).alloc (.cells #[.bool false, iV i] 42)).drew = W2 := ⟨_, rfl⟩
  rw [hW2] at F2 hz2' fr2 nw2 tm2 cc2
  have R2 := F2.rp
  rw [hvp] at R2
  replace R2 := Lib.hid R2
  replace F2 := Lib.hid F2
  replace fr2 := Lib.hid fr2
  replace nw2 := Lib.hid nw2
  replace tm2 := Lib.hid tm2
  replace cc2 := Lib.hid cc2
  replace hW2 := Lib.hid hW2
  clear h F hx
  go_enter Try.func76, Try.ntmps76
  go_wp2_with fail
  go_region_law (rw [hW2.out]; refine step_append_lies _ rfl (.tmp 31) (.tmp 39) 36 rfl lo 42 i9 _ 2 16 Try.underlying36 hii hz0 hz1 hz2 rfl (by decide) (.slice Ap f.ups.length cp) f.ups.length _ rfl R2.out.row ⟨w.heap.size + 1, 0, none⟩ 1 1 [.bool false, iV i] rfl rfl nw2.out (by simp [Value.oneCell']) (by decide) (by unfold maxLen; omega) (by omega) (by omega) _ rfl ?_; intro r cap w4 hown4 hgrow4 hat4 hlt4; rw [← hvp] at hgrow4 hat4; have k6 := (head_far F2.out.hd F2.out.rp (by simp) hgrow4 6).1.trans F2.out.hd.c6; have v6 := (head_far F2.out.hd F2.out.rp (by simp) hgrow4 6).2.trans (F2.out.hd.warm 6); have k7 := (head_far F2.out.hd F2.out.rp (by simp) hgrow4 7).1.trans F2.out.hd.c7; have P4 := Lib.hid (pushed F2.out.hd.tb F2.out.hd.c6 F2.out.rp rfl (by simp) fr2.out rfl hown4 hgrow4 hat4 hlt4); have M4 := Lib.hid (F2.out.places.keep (P4.out.1.keep g.q _ F2.out.places.lt F2.out.tq (by simp) (by simp)).1))
  go_wp2_with (first
    | (refine wpList_putI rfl _ _ _ rfl rfl M4.out (by unfold maxLen; have := F2.out.len_q; omega) rfl hsl (q := f.ups.length) rfl (by omega) ?_; intro w5 hm5 hg5))
  all_goals
    go_ret
    obtain ⟨F5, t5, fr5, c5⟩ := F2.out.pushUp (u := ⟨false, i, s⟩) fr2.out HX.out (by omega) rfl hown4 hgrow4 hat4 hlt4 hm5 hg5
    have hW := HH.out.turned hf (tm2.out.trans t5) F5 (by rw [hG]) (c5.trans cc2.out) fr5 (modify_set hf fun f => f.addUp ⟨false, i, s⟩)
    exact ⟨_, _, rfl, hW, (tm2.out.trans t5).mono fun _ _ => trivial, Still.upd (by rw [hG]) (by rw [hG]) (by rw [hG])⟩
set_option maxHeartbeats 4000000 in
theorem addUp_some {w : World} {T : Own} {lo p n : Nat} {G : Nat → Gh} {vn : Value} {st : StS} {f fm : FnS} {m j : Nat} (h : WAt w T lo p G vn st) (hf : st.fns[n]? = some f) (hm : st.fns[m]? = some fm) (hne : m ≠ n) (hj : j < fm.locals.length) (s : List UInt8) (hsl : s.length ≤ 1099511627776) (l : Int) (x i : Nat) (hx : placeIn s f.ups = none) (hk : f.ups.length ≠ 60) :
    Calls Try.prog 76 #[pV (G n).b, sV s, .agg #[iV x, iV i, .bool false, pV ((G m).L j)], iV l] w fun e w' =>
      ∃ T' G', e = .returned (iV f.ups.length) ∧ WAt w' T' lo p G' vn { st with fns := (st.fns.modify m fun f => f.box j).modify n fun f => f.addUp ⟨true, i, s⟩ } ∧ Turn (fun _ => True) T w T' w' ∧ Still G G' := by
  have F := h.fn n f hf
  obtain ⟨t1, xb, c1b⟩ := (h.fn m fm hm).ls.loc j _ (List.getElem?_eq_getElem hj)
  have hBlt := c1b.lt
  have cb1 := c1b.c1
  have fb1 := c1b.warm 1
  obtain ⟨B, hB⟩ : ∃ B, (G m).L j = B := ⟨_, rfl⟩
  rw [hB] at hBlt cb1 fb1 ⊢
  obtain ⟨g, hG⟩ : ∃ g, G n = g := ⟨_, rfl⟩
  rw [hG] at F ⊢
  obtain ⟨Ap, cp, hvp, hcp, hcm⟩ := slice_form F.rp
  obtain ⟨i9, hii, hz0, hz1, hz2⟩ := info_parts up_info
  have c6 := F.hd.c6
  have c7 := F.hd.c7
  have w6 := F.hd.warm 6
  have hbl := F.b_lt
  rw [hvp] at c6
  have hlp := F.len_p
  have hq : ((f.ups.length : Int) == 60) = false := beq_eq_false_iff_ne.2 (by omega)
  have bs := h.base
  obtain ⟨Fb, tb0, cb0⟩ := (h.fn m fm hm).boxed hj
  rw [hB] at Fb tb0 cb0
  have h0 := h.turned hm tb0 Fb rfl cb0 (fun k hk => h.fresh k (by simpa [World.setCell] using hk)) (modify_set hm fun f => f.box j)
  rw [updG_self] at h0
  have hf0 : (st.fns.modify m fun f => f.box j)[n]? = some f := by rw [List.getElem?_modify]; simp [hne, hf]
  have F0 := h0.fn n f hf0
  rw [hG] at F0
  have hne1 : B ≠ g.b := by intro e; rw [hB, e, F.hd.tb] at t1; injection t1 with t1; cases t1
  have hne2 : g.b ≠ B := Ne.symm hne1
  have HH := Lib.hid h0
  have H1 := Lib.hid tb0
  have Hf0 := Lib.hid hf0
  have HX := Lib.hid hx
  have F2 := ((F0.alloc (T' := T) (.cells #[iV x, iV i, .bool false, pV B] 103) (fun _ _ => rfl)).alloc (T' := T) (.cells #[.bool true, iV i] 42) (fun _ _ => rfl)).drew
  have hz2' : (((w.setCell ⟨B, 1, none⟩ (.bool true)).alloc (.cells #[iV x, iV i, .bool false, pV B] 103)).alloc (.cells #[.bool true, iV i] 42)).drew.heap.size = w.heap.size + 2 := by simp [World.setCell]
  have fr2 : ∀ k, (((w.setCell ⟨B, 1, none⟩ (.bool true)).alloc (.cells #[iV x, iV i, .bool false, pV B] 103)).alloc (.cells #[.bool true, iV i] 42)).drew.heap.size ≤ k → T k = none := fun k hk => h0.fresh k (by rw [hz2'] at hk; simp [World.setCell]; omega)
  have nw2 : ∀ j u, [.bool true, iV i][j]? = some u → (((w.setCell ⟨B, 1, none⟩ (.bool true)).alloc (.cells #[iV x, iV i, .bool false, pV B] 103)).alloc (.cells #[.bool true, iV i] 42)).drew.cell? ((⟨w.heap.size + 1, 0, none⟩ : Addr).add j) = some u := by
    have := two_drew ((w.setCell ⟨B, 1, none⟩ (.bool true)).alloc (.cells #[iV x, iV i, .bool false, pV B] 103)) (.bool true) (iV i) 42
    simpa [World.setCell] using this
  have tm2 : Turn (fun t => t.no = some n) T (w.setCell ⟨B, 1, none⟩ (.bool true)) T (((w.setCell ⟨B, 1, none⟩ (.bool true)).alloc (.cells #[iV x, iV i, .bool false, pV B] 103)).alloc (.cells #[.bool true, iV i] 42)).drew := (((Turn.refl _ T _).alloc _ (fun _ _ => rfl)).alloc _ (fun _ _ => rfl)).drew
  have cc2 : (((w.setCell ⟨B, 1, none⟩ (.bool true)).alloc (.cells #[iV x, iV i, .bool false, pV B] 103)).alloc (.cells #[.bool true, iV i] 42)).drew.cell? ⟨g.b, 3, none⟩ = (w.setCell ⟨B, 1, none⟩ (.bool true)).cell? ⟨g.b, 3, none⟩ := (World.cell?_alloc_lt _ _ ⟨g.b, 3, none⟩ (by simp [World.setCell]; omega)).trans (World.cell?_alloc_lt _ _ ⟨g.b, 3, none⟩ (by simp [World.setCell]; omega))
  obtain ⟨W2, hW2⟩ : ∃ W2, (((w.setCell ⟨B, 1, none⟩ (.bool true)).alloc (.cells #[iV x, iV i, .bool false, pV B] 103)).alloc (.cells #[.bool true, iV i] 42)).drew = W2 := ⟨_, rfl⟩
  rw [hW2] at F2 hz2' fr2 nw2 tm2 cc2
  have R2 := F2.rp
  rw [hvp] at R2
  replace R2 := Lib.hid R2
  replace F2 := Lib.hid F2
  replace fr2 := Lib.hid fr2
  replace nw2 := Lib.hid nw2
  replace tm2 := Lib.hid tm2
  replace cc2 := Lib.hid cc2
  replace hW2 := Lib.hid hW2
  clear h h0 F F0 hx c1b tb0 hf0
  go_enter Try.func76, Try.ntmps76
  go_wp2_with fail
  go_region_law (rw [hW2.out]; refine step_append_lies _ rfl (.tmp 31) (.tmp 39) 36 rfl lo 42 i9 _ 2 16 Try.underlying36 hii hz0 hz1 hz2 rfl (by decide) (.slice Ap f.ups.length cp) f.ups.length _ rfl R2.out.row ⟨w.heap.size + 1, 0, none⟩ 1 1 [.bool true, iV i] rfl rfl nw2.out (by simp [Value.oneCell']) (by decide) (by unfold maxLen; omega) (by omega) (by omega) _ rfl ?_; intro r cap w4 hown4 hgrow4 hat4 hlt4; rw [← hvp] at hgrow4 hat4; have k6 := (head_far F2.out.hd F2.out.rp (by simp) hgrow4 6).1.trans F2.out.hd.c6; have v6 := (head_far F2.out.hd F2.out.rp (by simp) hgrow4 6).2.trans (F2.out.hd.warm 6); have k7 := (head_far F2.out.hd F2.out.rp (by simp) hgrow4 7).1.trans F2.out.hd.c7; have P4 := Lib.hid (pushed F2.out.hd.tb F2.out.hd.c6 F2.out.rp rfl (by simp) fr2.out rfl hown4 hgrow4 hat4 hlt4); have M4 := Lib.hid (F2.out.places.keep (P4.out.1.keep g.q _ F2.out.places.lt F2.out.tq (by simp) (by simp)).1))
  go_wp2_with (first
    | (refine wpList_putI rfl _ _ _ rfl rfl M4.out (by unfold maxLen; have := F2.out.len_q; omega) rfl hsl (q := f.ups.length) rfl (by omega) ?_; intro w5 hm5 hg5))
  all_goals
    go_ret
    obtain ⟨F5, t5, fr5, c5⟩ := F2.out.pushUp (u := ⟨true, i, s⟩) fr2.out HX.out (by omega) rfl hown4 hgrow4 hat4 hlt4 hm5 hg5
    have hW := HH.out.turned Hf0.out (tm2.out.trans t5) F5 (by rw [hG]) (c5.trans cc2.out) fr5 (modify_set Hf0.out fun f => f.addUp ⟨true, i, s⟩)
    exact ⟨_, _, rfl, hW, (H1.out.mono fun _ _ => trivial).trans ((tm2.out.trans t5).mono fun _ _ => trivial), Still.upd (by rw [hG]) (by rw [hG]) (by rw [hG])⟩
end Go.Proofs.Ytlbbbfmnghcdnaa
