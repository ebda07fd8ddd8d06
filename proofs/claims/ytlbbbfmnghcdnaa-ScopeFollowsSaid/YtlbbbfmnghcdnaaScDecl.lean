/- declare: a local more. -/
import Derived.Test.YtlbbbfmnghcdnaaScPush
import Derived.Deep.QuietTactic
namespace Go.Proofs.Ytlbbbfmnghcdnaa
set_option maxRecDepth 20000
open Go.RowKit Go.Maps

theorem slice_form {w : World} {T : Own} {lo : Nat} {e : TypeId} {size n : Nat} {v : Value} {xs : List Value} {t : Tag} (h : RowC w T lo e size v n xs t) : ∃ A c, v = .slice A n c ∧ n ≤ c ∧ c ≤ maxLen := by
  rcases row_form h.row with ⟨rfl, rfl⟩ | ⟨g, cap, rfl, _, h1, h2⟩
  · exact ⟨none, 0, rfl, Nat.le_refl _, by decide⟩
  · exact ⟨_, cap, rfl, h1, h2⟩
theorem wpList_putP {w : World} {ops : Array Oper} {rest : List Oper} {o : Oper} {a : Act} {Q : Exit → Act → World → Prop} (hg : o.guard = none) (m x v : Operand) (hop : o.op = Op.mapUpdate 93 m x v) {b n : Nat} {f : List UInt8 → Option Nat} {s : List UInt8} {q : Option Nat}
    (hm : a.eval m = .map (some b)) (hM : MapP w b n f) (hn : n < maxLen) (hx : a.eval x = sV s) (hs : s.length ≤ 1099511627776) (hv : a.eval v = ptrO q)
    (hK : ∀ w', MapP w' b (n + 1) (putN f s q) → w.grownBy w' (some b) → wpList Try.prog ops Q rest (a.put o.dst undef) w') : wpList Try.prog ops Q (o :: rest) a w := by
  obtain ⟨D, ho, hf⟩ := hM
  exact wpList_mapUpdate_own w hg m x v _ hop _ _ keyedS Try.underlying93 ptrR b n D hm ho hn _ _ _ hx hv (keyS s hs) _ [] (ptrR_ptrO q) fun w' h1 h2 => hK w' (MapP.put ho.isMap hf h1) h2
theorem local_info : (Try.prog.info? 101).map (fun i => (i.zero, i.size, i.bytes)) = some (some (.pointer none), 1, 8) := by kernel_rfl
theorem ptrO_form (o : Option Nat) : ∃ po, ptrO o = .pointer po := by cases o <;> exact ⟨_, rfl⟩
theorem info_parts {P : Program} {T : TypeId} {z : Value} {s b : Nat} (h : (P.info? T).map (fun i => (i.zero, i.size, i.bytes)) = some (some z, s, b)) : ∃ i, P.info? T = some i ∧ i.zero = some z ∧ i.size = s ∧ i.bytes = b := by
  obtain ⟨i, hi, he⟩ := Option.map_eq_some_iff.1 h
  simp only [Prod.mk.injEq] at he
  exact ⟨i, hi, he.1, he.2.1, he.2.2⟩
theorem one_new (w : World) (x : Value) (E : TypeId) : ∀ j u, [x][j]? = some u → (w.alloc (.cells #[x] E)).cell? ((⟨w.heap.size, 0, none⟩ : Addr).add j) = some u := by
  intro j u hu
  match j, hu with
  | 0, hu => simp at hu; subst hu; simp [Addr.add, go_sem]
theorem one_drew (w : World) (x : Value) (E : TypeId) : ∀ j u, [x][j]? = some u → (w.alloc (.cells #[x] E)).drew.cell? ((⟨w.heap.size, 0, none⟩ : Addr).add j) = some u := one_new w x E
theorem fn_cur {st : StS} {n : Nat} {rest : List Nat} {f : FnS} (hs : st.stack = n :: rest) (hf : st.fns[n]? = some f) : st.fn = f ∧ st.cur = n := by
  have e : st.cur = n := by unfold StS.cur; rw [hs]; rfl
  refine ⟨?_, e⟩
  unfold StS.fn
  rw [e, List.getD_eq_getElem?_getD, hf]; rfl
theorem modify_set {α : Type} {l : List α} {n : Nat} {x : α} (h : l[n]? = some x) (φ : α → α) : l.modify n φ = l.set n (φ x) := by
  apply List.ext_getElem?
  intro i
  rw [List.getElem?_modify, List.getElem?_set]
  by_cases e : n = i
  · subst e
    have hl := (List.getElem?_eq_some_iff.1 h).1
    rw [h]; simp [hl]
  · simp [e]
/-- A cell of a function's own is as it was where one of its rows grew. -/
theorem head_far {w w' : World} {T : Own} {lo n size m : Nat} {e : TypeId} {g : Gh} {v : Value} {xs : List Value} {t : Tag} (hd : HeadC w T n g) (hr : RowC w T lo e size v m xs t) (ht : t ≠ .fn n) (hg : w.grownBy w' v.ownBlock) (i : Nat) : w'.cell? ⟨g.b, i, none⟩ = w.cell? ⟨g.b, i, none⟩ ∧ w'.frozen? ⟨g.b, i, none⟩ = w.frozen? ⟨g.b, i, none⟩ := by
  have hb : some g.b ≠ v.ownBlock := fun h => by have := hr.tag g.b h.symm; rw [hd.tb] at this; injection this with this; exact ht this.symm
  exact ⟨hg.cell_far ⟨g.b, i, none⟩ hd.lt hb, hg.frozen_far ⟨g.b, i, none⟩ hd.lt hb⟩
theorem FnAt.alloc {w : World} {T T' : Own} {lo n : Nat} {g : Gh} {f : FnS} (h : FnAt w T lo n g f) (o : Obj) (hT : ∀ k, k < w.heap.size → T' k = T k) : FnAt (w.alloc o) T' lo n g f := h.keep fun k _ hk _ _ => ⟨Below.heap_alloc _ _ _ hk, hT k hk⟩
theorem FnAt.drew {w : World} {T : Own} {lo n : Nat} {g : Gh} {f : FnS} (h : FnAt w T lo n g f) : FnAt w.drew T lo n g f := h.keep fun _ _ _ _ _ => ⟨rfl, rfl⟩
set_option maxHeartbeats 2000000 in
theorem declare_any {N : Nat} {w : World} {T : Own} {lo p n : Nat} {G : Nat → Gh} {vn : Value} {st : StS} {rest : List Nat} {f : FnS} (h : WAt w T lo p G vn st) (hs : st.stack = n :: rest) (hf : st.fns[n]? = some f) (s : List UInt8) (hsl : s.length ≤ 1099511627776) (l : Int) (hD : declareS s l st ≠ .out) :
    Calls Try.prog 51 #[pV (G n).b, sV s, iV l] w (EndsS N T lo p G (declareS s l st) w) := by
  have F := h.fn n f hf
  obtain ⟨e1, e2⟩ := fn_cur hs hf
  unfold declareS at hD ⊢
  rw [e1, e2] at hD ⊢
  obtain ⟨g, hG⟩ : ∃ g, G n = g := ⟨_, rfl⟩
  rw [hG] at F ⊢
  obtain ⟨Af, cf, hvf, hcf, hcm⟩ := slice_form F.rf
  obtain ⟨Al, cl, hvl, hcl, hclm⟩ := slice_form F.rl
  have c0 := F.hd.c0
  have c1 := F.hd.c1
  have c2 := F.hd.c2
  have w0 := F.hd.warm 0
  have w1 := F.hd.warm 1
  have hbl := F.b_lt
  have hfl := F.len_f
  rw [hvf] at c1
  rw [hvl] at c0
  by_cases hk : 100 ≤ f.full.length
  · rw [if_pos hk]
    have FA := Lib.hid (fail_any 3 l w)
    have B := Lib.hid (bad_new T w 3 l 124)
    have hq : (100 : Int) ≤ (f.full.length : Int) := by omega
    generalize f.full.length = fl at *
    clear h F hk hD
    go_enter Try.func51, Try.ntmps51
    go_wp2_with (first
      | (go_at_call 48; with_reducible refine FA.out.mono ?_; rintro e w2 ⟨rfl, rfl⟩))
    exact ⟨rfl, B.out⟩
  · rw [if_neg hk] at hD ⊢
    by_cases hk2 : 1048576 ≤ f.locals.length
    · rw [if_pos hk2] at hD; exact absurd rfl hD
    rw [if_neg hk2]
    obtain ⟨i9, hii, hz0, hz1, hz2⟩ := info_parts local_info
    have hq : (f.full.length : Int) < (100 : Int) := by omega
    have LK := (F.map.keep (w' := w.drew) rfl).look s hsl
    obtain ⟨po, hpo⟩ := ptrO_form ((f.named s).map g.L)
    rw [hpo] at LK
    have hz1' : ((w.alloc (.cells #[iV f.full.length, .bool false, sV s, .pointer po] 105)).alloc (.cells #[pV w.heap.size] 101)).drew.heap.size = w.heap.size + 2 := by simp
    have F1 := ((F.alloc (T' := T.put w.heap.size (.loc n f.locals.length)) (.cells #[iV f.full.length, .bool false, sV s, .pointer po] 105) (fun k hk => Own.put_other (by omega))).alloc (T' := T.put w.heap.size (.loc n f.locals.length)) (.cells #[pV w.heap.size] 101) (fun _ _ => rfl)).drew
    have L1 : LocC ((w.alloc (.cells #[iV f.full.length, .bool false, sV s, .pointer po] 105)).alloc (.cells #[pV w.heap.size] 101)).drew w.heap.size ⟨s, f.full.length, false⟩ (.pointer po) := ⟨by simp [go_sem], by simp [go_sem], by simp [go_sem], by simp [go_sem], fun o => by simp [go_sem]⟩
    have fr1 : ∀ k, ((w.alloc (.cells #[iV f.full.length, .bool false, sV s, .pointer po] 105)).alloc (.cells #[pV w.heap.size] 101)).drew.heap.size ≤ k → T.put w.heap.size (.loc n f.locals.length) k = none := fun k hk => by rw [hz1'] at hk; rw [Own.put_other (by omega)]; exact h.fresh k (by omega)
    have nw1 : ∀ j u, [pV w.heap.size][j]? = some u → ((w.alloc (.cells #[iV f.full.length, .bool false, sV s, .pointer po] 105)).alloc (.cells #[pV w.heap.size] 101)).drew.cell? ((⟨w.heap.size + 1, 0, none⟩ : Addr).add j) = some u := by
      have := one_drew (w.alloc (.cells #[iV f.full.length, .bool false, sV s, .pointer po] 105)) (pV w.heap.size) 101
      simpa using this
    have bs := h.base
    have tm1 : Turn (fun t => t.no = some n) T w (T.put w.heap.size (.loc n f.locals.length)) ((w.alloc (.cells #[iV f.full.length, .bool false, sV s, .pointer po] 105)).alloc (.cells #[pV w.heap.size] 101)).drew := (((Turn.refl _ T w).alloc (T'' := T.put w.heap.size (.loc n f.locals.length)) _ (fun k hk => Own.put_other (by omega))).alloc _ (fun _ _ => rfl)).drew
    have cc1 : ((w.alloc (.cells #[iV f.full.length, .bool false, sV s, .pointer po] 105)).alloc (.cells #[pV w.heap.size] 101)).drew.cell? ⟨g.b, 3, none⟩ = w.cell? ⟨g.b, 3, none⟩ := (World.cell?_alloc_lt _ _ ⟨g.b, 3, none⟩ (by simp; omega)).trans (World.cell?_alloc_lt _ _ ⟨g.b, 3, none⟩ hbl)
    obtain ⟨W1, hW1⟩ : ∃ W1, ((w.alloc (.cells #[iV f.full.length, .bool false, sV s, .pointer po] 105)).alloc (.cells #[pV w.heap.size] 101)).drew = W1 := ⟨_, rfl⟩
    rw [hW1] at F1 L1 fr1 nw1 tm1 hz1' cc1
    have R1 := F1.rl
    rw [hvl] at R1
    have HH := Lib.hid h
    have HS := Lib.hid hs
    have Hlt := Lib.hid F.ls.lt
    have HF1 := Lib.hid F1
    have HL1 := Lib.hid L1
    have HR1 := Lib.hid R1
    have Hf1 := Lib.hid fr1
    have Hn1 := Lib.hid nw1
    have Ht1 := Lib.hid tm1
    have Hc1 := Lib.hid cc1
    have Hlm := Lib.hid F.len_m
    have HW1 := Lib.hid hW1
    clear h F hD F1 L1 R1 fr1 nw1 tm1 hW1 hs cc1
    go_enter Try.func51, Try.ntmps51
    go_wp2_with fail
    go_region
    go_wp2_with (first
      | (at_builtin; rw [HW1.out]; refine wpList_append_lies _ rfl (.tmp 34) (.tmp 36) 92 rfl lo 101 i9 _ 1 8 Try.underlying92 hii hz0 hz1 hz2 rfl (by decide) (.slice Al f.locals.length cl) f.locals.length _ rfl HR1.out.row ⟨w.heap.size + 1, 0, none⟩ 1 1 [pV w.heap.size] rfl rfl Hn1.out (by simp [Value.oneCell']) (by decide) (by unfold maxLen; omega) (by omega) (by omega) _ rfl ?_; intro r cap w4 hown4 hgrow4 hat4 hlt4; have hz4 := hgrow4.size; rw [← hvl] at hgrow4 hat4; have k0 := (head_far HF1.out.hd HF1.out.rl (by simp) hgrow4 0).1.trans HF1.out.hd.c0; have v0 := (head_far HF1.out.hd HF1.out.rl (by simp) hgrow4 0).2.trans (HF1.out.hd.warm 0); have k1 := (head_far HF1.out.hd HF1.out.rl (by simp) hgrow4 1).1.trans HF1.out.hd.c1; rw [hvf] at k1; have v1 := (head_far HF1.out.hd HF1.out.rl (by simp) hgrow4 1).2.trans (HF1.out.hd.warm 1); have HB := Lib.hid (HF1.out.pushLoc (l := ⟨s, f.full.length, false⟩) Hf1.out (Own.put_same _ _ _) HL1.out hsl (by omega) rfl hown4 hgrow4 hat4 hlt4); have HF3 := Lib.hid (HB.out.1.alloc (T' := (T.put w.heap.size (.loc n f.locals.length)).put r (.locs n)) (.cells #[pV w.heap.size] 101) (fun _ _ => rfl)); have HR3 := HF3.out.rf; rw [show ({ g with vl := Value.slice (some ⟨r, 0, none⟩) (f.locals.length + 1) cap, L := putL g.L f.locals.length w.heap.size } : Gh).vf = .slice Af f.full.length cf from hvf] at HR3; replace HR3 := Lib.hid HR3; have Hn3 := Lib.hid (one_new (w4.setCell ⟨g.b, 0, none⟩ (.slice (some ⟨r, 0, none⟩) (f.locals.length + 1) cap)) (pV w.heap.size) 101); clear c0 c1 c2 w0 w1 LK)
      | (at_builtin; refine wpList_append_lies _ rfl (.tmp 44) (.tmp 46) 92 rfl lo 101 i9 _ 1 8 Try.underlying92 hii hz0 hz1 hz2 rfl (by decide) (.slice Af f.full.length cf) f.full.length _ rfl HR3.out.row ⟨w4.heap.size, 0, none⟩ 1 1 [pV w.heap.size] rfl rfl (by simpa [World.setCell] using Hn3.out) (by simp [Value.oneCell']) (by decide) (by unfold maxLen; omega) (by omega) (by simp; omega) _ rfl ?_; intro r2 cap2 w7 hown7 hgrow7 hat7 hlt7; go_loud (have hz7 := hgrow7.size; rw [← hvf] at hgrow7 hat7; have q1 := (head_far HF3.out.hd HF3.out.rf (by simp) hgrow7 1).1.trans HF3.out.hd.c1; have u1 := (head_far HF3.out.hd HF3.out.rf (by simp) hgrow7 1).2.trans (HF3.out.hd.warm 1); have q2 := (head_far HF3.out.hd HF3.out.rf (by simp) hgrow7 2).1.trans HF3.out.hd.c2; have Hf3 := Lib.hid (fun k (hk : ((w4.setCell ⟨g.b, 0, none⟩ (.slice (some ⟨r, 0, none⟩) (f.locals.length + 1) cap)).alloc (.cells #[pV w.heap.size] 101)).heap.size ≤ k) => HB.out.2.fresh k (by simp at hk; simp [World.setCell]; omega)); have HP7 := Lib.hid (pushed HF3.out.hd.tb HF3.out.hd.c1 HF3.out.rf rfl (by simp) Hf3.out rfl hown7 hgrow7 (hat7.imp id (fun e => by rw [e]; try simp [World.setCell])) hlt7); have HM7 := Lib.hid (HF3.out.map.keep (HP7.out.1.keep g.m _ HF3.out.map.lt HF3.out.tm (by simp) (by simp)).1); clear k0 k1 v0 v1))
      | (refine wpList_putP rfl _ _ _ rfl rfl HM7.out (by unfold maxLen; have := HF3.out.len_m; have := HF3.out.len_l; simp at *; omega) rfl hsl (q := some w.heap.size) rfl ?_; intro w8 hm8 hg8))
    refine bodyPost_end (results_none rfl _ _ _) rfl ?_
    have e3 : (f.locals ++ [(⟨s, f.full.length, false⟩ : LocS)]).getD f.locals.length default = ⟨s, f.full.length, false⟩ := getD_last _ _
    have e4 : ({ f with locals := f.locals ++ [⟨s, f.full.length, false⟩] } : FnS).named s = f.named s := namedIn_congr fun k hk => by rw [getD_more (Hlt.out k hk)]
    have hh : ((w4.setCell ⟨g.b, 0, none⟩ (.slice (some ⟨r, 0, none⟩) (f.locals.length + 1) cap)).alloc (.cells #[pV w.heap.size] 101)).cell? ⟨putL g.L f.locals.length w.heap.size f.locals.length, 3, none⟩ = some (ownP (putL g.L f.locals.length w.heap.size) (({ f with locals := f.locals ++ [⟨s, f.full.length, false⟩] } : FnS).named ((f.locals ++ [(⟨s, f.full.length, false⟩ : LocS)]).getD f.locals.length default).name)) := by
      rw [putL_same, e3, e4]
      have k3 := HB.out.2.keep w.heap.size _ HL1.out.lt (Own.put_same _ _ _) (by simp) (by simp)
      have k4 := (World.cell?_alloc_lt _ (.cells #[pV w.heap.size] 101) ⟨w.heap.size, 3, none⟩ (Nat.lt_of_lt_of_le HL1.out.lt HB.out.2.turn.size)).trans ((World.cell?_of_block (a := ⟨w.heap.size, 3, none⟩) k3.1).trans HL1.out.c3)
      rw [k4, ← hpo]
      exact congrArg some (ownP_congr fun i hi => putL_other (by have := Hlt.out i (namedIn_mem hi); omega)).symm
    obtain ⟨F8, t8, fr8, c8⟩ := HF3.out.pushFull (i := f.locals.length) Hf3.out (by simp) hh (by simp only []; omega) (by have := Hlm.out; simp only [List.length_append, List.length_cons, List.length_nil]; omega) rfl (by simpa [putL_same] using hown7) hgrow7 (hat7.imp id (fun e => by rw [e]; try simp [World.setCell])) hlt7 (by
      show MapP w8 g.m (g.nm + 1) (putN _ ((f.locals ++ [(⟨s, f.full.length, false⟩ : LocS)]).getD f.locals.length default).name (some (putL g.L f.locals.length w.heap.size f.locals.length)))
      rw [putL_same, e3]; exact hm8) hg8
    have t0 := Ht1.out.trans (((HB.out.2.turn).alloc (.cells #[pV w.heap.size] 101) (fun _ _ => rfl)).trans t8)
    have hc : w8.cell? ⟨g.b, 3, none⟩ = w.cell? ⟨g.b, 3, none⟩ := c8.trans ((World.cell?_alloc_lt _ _ ⟨g.b, 3, none⟩ (Nat.lt_of_lt_of_le HF1.out.b_lt HB.out.2.turn.size)).trans ((HB.out.2.cells 3 (by decide)).trans Hc1.out))
    have hW := HH.out.turned hf t0 F8 (by rw [hG]) hc fr8 (modify_set hf fun f => f.declare s)
    exact ⟨_, _, _, vn, rfl, rfl, hW, t0.mono fun _ _ => trivial, fun k _ => updG_b (by rw [hG]) k⟩
end Go.Proofs.Ytlbbbfmnghcdnaa
