/- The items of lists: the closures of args, body, table; and those calls. -/
import Derived.Test.YtoggkigfijgbfaaGreatDoorZParList
import Derived.Deep.RegionLaw
namespace Go.Proofs.YtoggkigfijgbfaaGreatDoor.P5
set_option maxRecDepth 20000
open Go.RowKit Go.Maps

theorem ex_info : (Tryz.prog.info? 49).map (fun i => (i.zero, i.size, i.bytes)) = some (some (.pointer none), 1, 8) := by kernel_rfl
theorem text_info : (Tryz.prog.info? 9).map (fun i => (i.zero, i.size, i.bytes)) = some (some (.string ⟨#[]⟩), 1, 16) := by kernel_rfl
theorem one_new (w : World) (x : Value) (T : TypeId) : ∀ j u, [x][j]? = some u → (w.alloc (.cells #[x] T)).cell? ((⟨w.heap.size, 0, none⟩ : Addr).add j) = some u := by
  intro j u hj
  match j, hj with
  | 0, hj => simp at hj; subst hj; simp [Addr.add]
theorem far_cell {lo n a i : Nat} {T : TypeId} {w3 w4 : World} {v u : Value} {xs : List Value} (ho : w3.ownsRow lo T 1 v n xs) (hg : w3.grownBy w4 v.ownBlock) (ha : a < lo) (hc : w3.cell? ⟨a, i, none⟩ = some u) : w4.cell? ⟨a, i, none⟩ = some u :=
  (hg.cell_far ⟨a, i, none⟩ (World.block_lt_of_cell? w3 _ hc) (fun e => by have := (ho.lt a e.symm).1; omega)).trans hc
theorem far_frozen {lo n a i : Nat} {T : TypeId} {w3 w4 : World} {v : Value} {xs : List Value} (ho : w3.ownsRow lo T 1 v n xs) (hg : w3.grownBy w4 v.ownBlock) (ha : a < lo) (hs : a < w3.heap.size) (hc : w3.frozen? ⟨a, i, none⟩ = false) : w4.frozen? ⟨a, i, none⟩ = false :=
  (hg.frozen_far ⟨a, i, none⟩ hs (fun e => by have := (ho.lt a e.symm).1; omega)).trans hc
theorem past_append {E : List Nat} {lo n : Nat} {T : TypeId} {w w3 w4 : World} {v : Value} {xs : List Value} (h : Past E w w3) (ho : w3.ownsRow lo T 1 v n xs) (hg : w3.grownBy w4 v.ownBlock) (hlo : ∀ k, lo ≤ k → k ∈ E ∨ w.heap.size ≤ k) : Past E w w4 :=
  h.grown hg fun k hk => hlo k (ho.lt k hk).1
theorem close_far {lo n q : Nat} {p : Nat} {T : TypeId} {w3 w4 : World} {v : Value} {xs : List Value} (_ho : w3.ownsRow lo T 1 v n xs) (hd : ∀ k, v.ownBlock = some k → ∃ x, w3.cell? ⟨k, 0, none⟩ = some x ∧ x ≠ pV p) (hg : w3.grownBy w4 v.ownBlock) (hc : w3.cell? ⟨q, 0, none⟩ = some (pV p)) : w4.cell? ⟨q, 0, none⟩ = some (pV p) :=
  (hg.cell_far ⟨q, 0, none⟩ (World.block_lt_of_cell? w3 _ hc) (fun e => by
    obtain ⟨x, hx, hne⟩ := hd q e.symm
    rw [hc] at hx
    injection hx with hx
    exact hne hx.symm)).trans hc
/-- What args$1 holds. -/
def IArgs (p qv a lo : Nat) (acc : List Tree) (w : World) : Prop :=
  w.cell? ⟨qv, 0, none⟩ = some (pV p) ∧ w.frozen? ⟨a, 0, none⟩ = false ∧ lo ≤ w.heap.size ∧ ∃ v, w.cell? ⟨a, 0, none⟩ = some v ∧ OwnTrees p lo 49 w v acc
theorem IArgs.past {p qv a lo : Nat} {acc : List Tree} {w w' : World} (h : IArgs p qv a lo acc w) (hw : Past [p] w w') (hq : p < qv) (ha : p < a) (hl : a < lo) : IArgs p qv a lo acc w' := by
  obtain ⟨h1, h2, h3, v, h4, h5⟩ := h
  have hs := hw.size
  exact ⟨hw.cell_some h1 (by simp; omega), (hw.frozen (p := ⟨a, 0, none⟩) (by show a < _; omega) (by simp; omega)).trans h2, by omega, v, hw.cell_some h4 (by simp; omega), h5.past hw (by simp; omega)⟩
theorem args1_end {p d qv a lo q s0 g cap : Nat} {acc : List Tree} {w4 w3 wo : World} {v : Value} {xs : List Value} {x : Tree} {ts2 : List Tok} {u2 : Nat} (hq : p < qv) (ha : p < a) (hal : a < lo) (hqv : qv < lo) (hqa : qv ≠ a) (hlq : lo ≤ q) (hwa : wo.heap.size ≤ a)
    (_hwl : wo.heap.size ≤ lo) (ho3 : w3.ownsRow lo 49 1 v acc.length xs) (hd3 : ∀ k, v.ownBlock = some k → ∃ x, w3.cell? ⟨k, 0, none⟩ = some x ∧ x ≠ pV p)
    (ht3 : ∀ (j : Nat) (t : Tree) (x : Value), acc[j]? = some t → xs[j]? = some x → At w3 (fun k => Since lo w3 k ∧ v.ownBlock ≠ some k) t x) (hn : AtS s0 w3 x (pV u2)) (hpu : p < u2) (hs0 : lo ≤ s0) (hv : ∀ k, v.ownBlock = some k → k < s0)
    (hown4 : w4.ownsRow lo 49 1 (.slice (some ⟨g, 0, none⟩) (acc.length + 1) cap) (acc.length + 1) (xs ++ [pV u2])) (hgrow : w3.grownBy w4 v.ownBlock) (hat : v.ownBlock = some g ∨ g = w3.heap.size)
    (c1 : w3.cell? ⟨qv, 0, none⟩ = some (pV p)) (c2 : w3.cell? ⟨q, 0, none⟩ = some (pV p)) (ca4 : w4.cell? ⟨a, 0, none⟩ = some v) (fa4 : w4.frozen? ⟨a, 0, none⟩ = false) (hP : PAt w3 p d ts2) (hwo : Past [p] wo w3) (hl3 : lo ≤ w3.heap.size) (_hpl : p < lo) :
    EndsG p d wo.heap.size (fun w' => Past [p] wo w' ∧ w'.cell? ⟨q, 0, none⟩ = some (pV p)) (.ok x ts2) (fun x w' v => v = .tuple #[] ∧ IArgs p qv a lo (acc ++ [x]) w') (.returned (.tuple #[])) (w4.setCell ⟨a, 0, none⟩ (.slice (some ⟨g, 0, none⟩) (acc.length + 1) cap)) := by
  have hxl : xs.length = acc.length := by have := ho3.1; omega
  have OT := own_more (p := p) ht3 hxl hn (by intro e; injection e with e; injection e with e; injection e with e; omega) hd3 ho3 hs0 hv hown4 hgrow hat
  have sz := hgrow.size
  refine ⟨.tuple #[], rfl, ⟨rfl, (cell_set_block (by omega) _).trans (far_cell ho3 hgrow hqv c1), (World.frozen?_setCell _ _ _ _).trans fa4, by simp; omega, _, World.cell?_setCell_same _ _ _ ca4, OT.past ((Past.refl [a] w4).setCell (.inl (by simp)) _) (by simp; omega)⟩, ?_, ?_, (cell_set_block (by omega) _).trans (close_far ho3 hd3 hgrow c2)⟩
  · exact (hP.keep (fun k hk => hgrow.block k (by have := hP.lt; omega) (fun e => by have := (ho3.lt k e.symm).1; omega))).set (by omega) _
  · exact (past_append hwo ho3 hgrow (fun k hk => .inr (by omega))).setCell (.inr (by simpa using hwa)) _
set_option maxHeartbeats 8000000 in
theorem args1_any {m d : Nat} {w wo : World} {p qv a lo q : Nat} {ts : List Tok} {acc : List Tree} (S : ∀ k, k < m → Spec k) (hq : p < qv) (ha : p < a) (hql : qv < lo) (hal : a < lo) (hqa : qv ≠ a) (hwa : wo.heap.size ≤ a) (hwl : wo.heap.size ≤ lo) (hacc : acc.length ≤ 2199023255552) (hi : IArgs p qv a lo acc w) (hwo : Past [p] wo w) (hlq : lo ≤ q) (hcq : w.cell? ⟨q, 0, none⟩ = some (pV p)) (h : PAt w p d ts) (hD : parseF m (.one 0) d ts ≠ .out) :
    Calls Tryz.prog 234 #[pV a, pV qv] w (EndsG p d wo.heap.size (fun w' => Past [p] wo w' ∧ w'.cell? ⟨q, 0, none⟩ = some (pV p)) (parseF m (.one 0) d ts) (fun x w' v => v = .tuple #[] ∧ IArgs p qv a lo (acc ++ [x]) w')) := by
  cases m with
  | zero => exact absurd rfl hD
  | succ m =>
    unfold parseF at hD ⊢
    simp only [if_true] at hD ⊢
    obtain ⟨i9, hii, hz0, hz1, hz2⟩ := info_parts ex_info
    obtain ⟨cq, fa, hlw, v, ca, OT⟩ := hi
    have C0 := Lib.hid (fun (w : World) (h : PAt w p d ts) => (S m (by omega)).expr h hD)
    replace OT := Lib.hid OT
    have hpd := h.drew
    have HC := Lib.hid hcq
    have HW := Lib.hid hwo
    have hzo := hwo.size
    generalize parseF m (.operation 1) d ts = r0 at hD C0 ⊢
    clear S h hcq hwo
    go_enter Tryz.func234, Tryz.ntmps234
    go_wp2_with fail
    go_region_law (first
      | (refine step_append_lies _ rfl (.tmp 2) (.tmp 5) 52 rfl lo 49 i9 _ 1 8 Tryz.underlying52 hii hz0 hz1 hz2 rfl (by decide) v acc.length xs rfl ho3 ⟨w2.heap.size, 0, none⟩ 1 1 [pV u2] rfl rfl (one_new _ _ _) (by simp [Value.oneCell']) (by decide) (by unfold maxLen; omega) (by omega) (by simp; omega) _ rfl ?_; intro g cap w4 hown4 hgrow hat hlt; have ca4 := far_cell ho3 hgrow hal ca3; have fa4 := far_frozen ho3 hgrow hal (by simp; omega) fa3)
      | (go_simp; go_at_call 142; (with_reducible refine (C0.out _ hpd).mono ?_); intro e w2 hE; rcases r0 with _ | ⟨c, l⟩ | ⟨x, ts2⟩; (· exact hE.elim); (· obtain ⟨b', rfl, hb1, hb2, hb3, hb4⟩ := hE; exact ⟨rfl, b', rfl, Nat.le_trans hzo hb1, hb2, ⟨HW.out.drew.trans hb3, hb3.cell_some HC.out (by simp; omega)⟩, hb4⟩); obtain ⟨v2, rfl, hv2, hp2, hw2⟩ := hE; obtain ⟨u2, rfl, _, _, hu2, _⟩ := hv2.name; have hzw2 : w.heap.size ≤ w2.heap.size := hw2.size; have cq2 := hw2.cell_some (v := pV p) (by simpa using cq) (by simp; omega); have ca2 := hw2.cell_some (v := v) (by simpa using ca) (by simp; omega); have fa2 := (hw2.frozen (p := ⟨a, 0, none⟩) (by show a < w.heap.size; omega) (by simp; omega)).trans (by simpa using fa); have ca3 : (w2.alloc (.cells #[pV u2] 49)).cell? ⟨a, 0, none⟩ = some v := (World.cell?_alloc_lt _ _ ⟨a, 0, none⟩ (by show a < _; omega)).trans ca2; have fa3 : (w2.alloc (.cells #[pV u2] 49)).frozen? ⟨a, 0, none⟩ = false := (World.frozen?_alloc_old _ _ ⟨a, 0, none⟩ (by show a ≠ _; omega)).trans fa2; have P3 := Lib.hid (((Past.refl [p] w).drew.trans hw2).alloc (.cells #[pV u2] 49)); obtain ⟨xs, ho3, hd3, ht3⟩ := OT.out.past P3.out (by simp; omega); dsimp only))
    all_goals
      go_wp2_with fail
      refine bodyPost_end (results_none rfl _ _ _) rfl ?_
      refine args1_end hq ha hal hql hqa hlq hwa hwl ho3 hd3 ht3 (hv2.past ((Past.refl ([] : List Nat) w2).alloc _) (by simp) (Nat.le_refl _)).1 (Nat.lt_of_lt_of_le (by show p < w.heap.size; omega) hu2) (by show lo ≤ w.heap.size; omega) (fun k hk => ?_) hown4 hgrow hat (P3.out.cell_some cq (by simp; omega)) (P3.out.cell_some HC.out (by simp; omega)) ca4 fa4 (hp2.alloc _) (HW.out.trans P3.out) (by simp; omega) (by omega)
      obtain ⟨xs0, ho0, _⟩ := OT.out
      exact (ho0.lt k hk).2
set_option maxHeartbeats 4000000 in
theorem args_step {n : Nat} (S : ∀ m, m ≤ n → Spec m) (hn : n ≤ 1099511627776) {w : World} {p d : Nat} {ts : List Tok} (h : PAt w p d ts) (hD : parseF (n + 1) (.list [40] [41] 0) d ts ≠ .out) :
    Calls Tryz.prog 193 #[pV p] w (Ends p d [p] (parseF (n + 1) (.list [40] [41] 0) d ts) (VL w.heap.size) w) := by
  have hpl := h.lt
  have hmf : ∀ (fn : Fn) (first cap : Array Value) (w : World), (Instr.makeFunc fn first cap).run Tryz.prog w = .ok (.func fn first cap) w := fun _ _ _ _ => rfl
  have P1 : Past [p] w ((w.alloc (.cells #[pV p] 99)).alloc (.cells #[.slice none 0 0] 52)) := ((Past.refl _ _).alloc _).alloc _
  have I0 : IArgs p w.heap.size (w.heap.size + 1) (w.heap.size + 2) [] ((w.alloc (.cells #[pV p] 99)).alloc (.cells #[.slice none 0 0] 52)) :=
    ⟨by simp [go_sem], by simp [go_sem], by simp, _, by simp [go_sem], OwnTrees.nil _ _ _ _⟩
  have L := list_any (K := 234) (c1 := w.heap.size + 1) (c2 := w.heap.size) [40] [41] (by decide) (by decide) (IArgs p w.heap.size (w.heap.size + 1) (w.heap.size + 2)) w P1 hpl (w.heap.size + 2) (by simp)
    (fun acc w1 w2 hi hw => hi.past hw (by omega) (by omega) (by omega))
    (fun m d q acc w1 ts hm ha hi hwo hlq hc h hD => args1_any (fun k hk => S k (by omega)) hpl (by omega) (by omega) (by omega) (by omega) (by omega) (by omega) (by omega) hi hwo hlq hc h hD)
    (fun args w => by simp [go_sem]) ((h.alloc _).alloc _) I0 hD
  have L := Lib.hid L
  generalize parseF (n + 1) (.list [40] [41] 0) d ts = r0 at hD L ⊢
  clear S P1 I0 h
  cases r0 with
  | out => exact absurd rfl hD
  | bad c l =>
    go_enter Tryz.func193, Tryz.ntmps193
    go_wp2_with (first
      | (go_at_call 189; (with_reducible refine L.out.mono ?_); rintro e wb hB; obtain ⟨b', rfl, hb1, hb2, hb3, hb4⟩ := hB))
    exact ⟨rfl, b', rfl, hb1, hb2, hb3, hb4⟩
  | ok x ts2 =>
    go_enter Tryz.func193, Tryz.ntmps193
    go_wp2_with (first
      | (go_at_call 189; (with_reducible refine L.out.mono ?_); rintro e w2 ⟨_, rfl, ⟨rfl, acc, rfl, hi⟩, hp2, hw2⟩; obtain ⟨_, _, hlo, v, ca, hO⟩ := hi; have hV := hO.sl; clear hO; obtain ⟨A, c, rfl⟩ := hV.sl))
    go_ret
    exact ⟨_, rfl, hV.past (Past.refl [] _) (by simp) (by omega), hp2, hw2⟩
/-- What body$1 holds. -/
def IBody (p qv fv fb lo l : Nat) (acc : List Tree) (w : World) : Prop :=
  w.cell? ⟨qv, 0, none⟩ = some (pV p) ∧ w.cell? ⟨fv, 0, none⟩ = some (pV fb) ∧ lo ≤ w.heap.size ∧ ∃ v, ExC w fb 9 l 0 [] (.pointer none) (.pointer none) (.slice none 0 0) (.slice none 0 0) v (.slice none 0 0) ∧ OwnTrees p lo 9 w v acc
theorem IBody.past {p qv fv fb lo l : Nat} {acc : List Tree} {w w' : World} (h : IBody p qv fv fb lo l acc w) (hw : Past [p] w w') (hq : p < qv) (hf : p < fv) (hb : p < fb) (hl : fb < lo) : IBody p qv fv fb lo l acc w' := by
  obtain ⟨h1, h2, h3, v, h4, h5⟩ := h
  have hs := hw.size
  exact ⟨hw.cell_some h1 (by simp; omega), hw.cell_some h2 (by simp; omega), by omega, v, h4.keep (hw.block _ h4.lt (by simp; omega)), h5.past hw (by simp; omega)⟩
theorem body1_end {p d qv fv fb lo q s0 g cap l : Nat} {acc : List Tree} {w4 w3 wo : World} {v : Value} {xs : List Value} {x : List UInt8} {ts2 : List Tok} (hbl : fb < lo) (hfl : fv < lo) (hqv : qv < lo) (hfb : fv ≠ fb) (hqb : qv ≠ fb) (hlq : lo ≤ q) (hwb : wo.heap.size ≤ fb) (hpb : p < fb)
    (ho3 : w3.ownsRow lo 9 1 v acc.length xs) (hd3 : ∀ k, v.ownBlock = some k → ∃ x, w3.cell? ⟨k, 0, none⟩ = some x ∧ x ≠ pV p)
    (ht3 : ∀ (j : Nat) (t : Tree) (x : Value), acc[j]? = some t → xs[j]? = some x → At w3 (fun k => Since lo w3 k ∧ v.ownBlock ≠ some k) t x) (hs0 : lo ≤ s0) (hv : ∀ k, v.ownBlock = some k → k < s0)
    (hown4 : w4.ownsRow lo 9 1 (.slice (some ⟨g, 0, none⟩) (acc.length + 1) cap) (acc.length + 1) (xs ++ [sV x])) (hgrow : w3.grownBy w4 v.ownBlock) (hat : v.ownBlock = some g ∨ g = w3.heap.size)
    (c1 : w3.cell? ⟨qv, 0, none⟩ = some (pV p)) (c3 : w3.cell? ⟨fv, 0, none⟩ = some (pV fb)) (c2 : w3.cell? ⟨q, 0, none⟩ = some (pV p)) (hX : ExC w4 fb 9 l 0 [] (.pointer none) (.pointer none) (.slice none 0 0) (.slice none 0 0) v (.slice none 0 0)) (hP : PAt w3 p d ts2) (hwo : Past [p] wo w3) (hl3 : lo ≤ w3.heap.size) :
    EndsG p d wo.heap.size (fun w' => Past [p] wo w' ∧ w'.cell? ⟨q, 0, none⟩ = some (pV p)) (.ok (.tx x) ts2) (fun x w' v => v = .tuple #[] ∧ IBody p qv fv fb lo l (acc ++ [x]) w') (.returned (.tuple #[])) (w4.setCell ⟨fb, 8, none⟩ (.slice (some ⟨g, 0, none⟩) (acc.length + 1) cap)) := by
  have hxl : xs.length = acc.length := by have := ho3.1; omega
  have OT := own_more (p := p) (t := .tx x) (x := sV x) (s0 := s0) ht3 hxl rfl (by intro e; cases e) hd3 ho3 hs0 hv hown4 hgrow hat
  have sz := hgrow.size
  refine ⟨.tuple #[], rfl, ⟨rfl, (cell_set_block (by omega) _).trans (far_cell ho3 hgrow hqv c1), (cell_set_block (by omega) _).trans (far_cell ho3 hgrow hfl c3), by simp; omega, _, hX.set8 _, OT.past ((Past.refl [fb] w4).setCell (.inl (by simp)) _) (by simp; omega)⟩, ?_, ?_, (cell_set_block (by omega) _).trans (close_far ho3 hd3 hgrow c2)⟩
  · exact (hP.keep (fun k hk => hgrow.block k (by have := hP.lt; omega) (fun e => by have := (ho3.lt k e.symm).1; omega))).set hpb _
  · exact (past_append hwo ho3 hgrow (fun k hk => .inr (by omega))).setCell (.inr (by simpa using hwb)) _
set_option maxHeartbeats 16000000 in
theorem body1_any {m d : Nat} {w wo : World} {p qv fv fb lo q l : Nat} {ts : List Tok} {acc : List Tree} (hq : p < qv) (hf : p < fv) (hb : p < fb) (hql : qv < lo) (hfl : fv < lo) (hbl : fb < lo) (hfb : fv ≠ fb) (hqb : qv ≠ fb) (hwb : wo.heap.size ≤ fb) (hacc : acc.length ≤ 2199023255552) (hi : IBody p qv fv fb lo l acc w) (hwo : Past [p] wo w) (hlq : lo ≤ q) (hcq : w.cell? ⟨q, 0, none⟩ = some (pV p)) (h : PAt w p d ts) (hD : parseF m (.one 1) d ts ≠ .out) :
    Calls Tryz.prog 190 #[pV fv, pV qv] w (EndsG p d wo.heap.size (fun w' => Past [p] wo w' ∧ w'.cell? ⟨q, 0, none⟩ = some (pV p)) (parseF m (.one 1) d ts) (fun x w' v => v = .tuple #[] ∧ IBody p qv fv fb lo l (acc ++ [x]) w')) := by
  cases m with
  | zero => exact absurd rfl hD
  | succ m =>
    clear hD
    unfold parseF
    simp only [Nat.one_ne_zero, if_false, if_true]
    obtain ⟨i9, hii, hz0, hz1, hz2⟩ := info_parts text_info
    obtain ⟨cq, cf, hlw, v, hX, OT⟩ := hi
    have c8 := hX.c8
    have C0 := Lib.hid (fun (w : World) (h : PAt w p d ts) => name_any h)
    replace OT := Lib.hid OT
    have hpd := h.drew
    have HC := Lib.hid hcq
    have HW := Lib.hid hwo
    have HX := Lib.hid hX
    have hzo := hwo.size
    have hfw : fv < w.heap.size := by omega
    have hbw : fb < w.heap.size := by omega
    have hqw : qv < w.heap.size := by omega
    have hr : (∃ s, nameT ts = .ok (.tx s) ts.tail) ∨ ∃ c l, nameT ts = .bad c l := by
      unfold nameT
      split
      · exact .inl ⟨_, rfl⟩
      · exact .inr ⟨_, _, rfl⟩
    replace hr := Lib.hid hr
    generalize nameT ts = r0 at C0 hr ⊢
    clear h hcq hwo hX
    go_enter Tryz.func190, Tryz.ntmps190
    go_wp2_with fail
    go_region_law (first
      | (refine step_append_lies _ rfl (.tmp 6) (.tmp 9) 53 rfl lo 9 i9 _ 1 16 Tryz.underlying53 hii hz0 hz1 hz2 rfl (by decide) v acc.length xs rfl ho3 ⟨w2.heap.size, 0, none⟩ 1 1 [sV s] rfl rfl (one_new _ _ _) (by simp [Value.oneCell']) (by decide) (by unfold maxLen; omega) (by omega) (by simp; omega) _ rfl ?_; intro g cap w4 hown4 hgrow hat hlt; have cf4 := far_cell ho3 hgrow hfl cf3; have hX4 := hX3.keep (hgrow.block fb (by simp; omega) (fun e => by have := (ho3.lt fb e.symm).1; omega)); have x8 := hX4.c8; have y8 := hX4.warm 8)
      | (go_simp; go_at_call 140; (with_reducible refine (C0.out _ hpd).mono ?_); intro e w2 hE; rcases hr.out with ⟨s, rfl⟩ | ⟨c, l, rfl⟩; rotate_left; (· obtain ⟨b', rfl, hb1, hb2, hb3, hb4⟩ := hE; exact ⟨rfl, b', rfl, Nat.le_trans hzo hb1, hb2, ⟨HW.out.drew.trans hb3, hb3.cell_some HC.out (by simp; omega)⟩, hb4⟩); obtain ⟨v2, rfl, rfl, hp2, hw2⟩ := hE; have hzw2 : w.heap.size ≤ w2.heap.size := hw2.size; have hfw2 : fv < w2.heap.size := (by omega); have hbw2 : fb < w2.heap.size := (by omega); have cf2 := hw2.cell_some (v := pV fb) (by simpa using cf) (by simp; omega); have P3 := Lib.hid (((Past.refl [p] w).drew.trans hw2).alloc (.cells #[sV s] 9)); have hX2 := HX.out.keep (((Past.refl [p] w).drew.trans hw2).block fb (by omega) (by simp; omega)); have z8 := hX2.c8; have hX3 := HX.out.keep (P3.out.block fb (by omega) (by simp; omega)); have cf3 := P3.out.cell_some cf (by simp; omega); obtain ⟨xs, ho3, hd3, ht3⟩ := OT.out.past P3.out (by simp; omega); dsimp only))
    all_goals
      go_wp2_with fail
      refine bodyPost_end (results_none rfl _ _ _) rfl ?_
      refine body1_end hbl hfl hql hfb hqb hlq hwb hb ho3 hd3 ht3 (by show lo ≤ w.heap.size; exact hlw) (fun k hk => ?_) hown4 hgrow hat (P3.out.cell_some cq (by simp; omega)) cf3 (P3.out.cell_some HC.out (by simp; omega)) hX4 (hp2.alloc _) (HW.out.trans P3.out) (by simp; omega)
      obtain ⟨xs0, ho0, _⟩ := OT.out
      exact (ho0.lt k hk).2
end Go.Proofs.YtoggkigfijgbfaaGreatDoor.P5
