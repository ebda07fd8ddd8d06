/- takeOut: the walk. -/
import Derived.Test.YtkkdgacdajojiaaBase
import Derived.Test.YtkkdgacdajojiaaDiOut
namespace Go.Proofs.Ytkkdgacdajojiaa
set_option maxRecDepth 20000
set_option maxRecDepth 20000
open Go.RowKit Go.Maps Go.Sort Go.BigFrame

theorem step_del_V {ops : Array Oper} {o : Oper} {a : Act} {w : World} {K : Act → World → Prop} {Q : Exit → Act → World → Prop} {E : Prop} (hgd : o.guard = none) (m x : Operand)
    (ho : o.op = .call { callee := .builtin .delete, args := #[m, x], argTypes := #[72, 24] }) {mb N : Nat} {f : VV → Option Nat} (h : MapV w mb f N) {k : VV} (hk : wfP k) (hm : a.eval m = .map (some mb)) (hx : a.eval x = vV k)
    (hK : ∀ w', Hid (MapV w' mb (putF f k none) N) → Hid (w.grownBy w' (some mb)) → K (a.put o.dst (.tuple #[])) w') :
    if Region.wanted o (yielded ops a.tmps) = true then Oper.wp Try.prog o a w K Q else E := by
  have hw : Region.wanted o (yielded ops a.tmps) = true := by simp [Region.wanted, hgd]
  rw [if_pos hw]
  obtain ⟨w', hr, h2, h3⟩ := h.run_del hk o.type
  unfold Oper.wp execOp
  simp only [ho, resolve, invoke, builtin, Sem.run_bind, Sem.run_pure, Result.andThen_ok, List.map_toArray, List.map_cons, List.map_nil, hm, hx, hr]
  exact hK w' h2 h3
/-- Of what was there only the blocks of S were written. -/
structure Frm (S : Nat → Prop) (w w' : World) : Prop where
  os : w'.os = w.os
  tape : w'.tape = w.tape
  output : w'.output = w.output
  size : w.heap.size ≤ w'.heap.size
  block : ∀ k, k < w.heap.size → ¬ S k → w'.heap[k]? = w.heap[k]?
def S3 (a b c : Nat) : Nat → Prop := fun k => k = a ∨ k = b ∨ k = c
theorem Frm.refl (S : Nat → Prop) (w : World) : Frm S w w := ⟨rfl, rfl, rfl, Nat.le_refl _, fun _ _ _ => rfl⟩
theorem Frm.grown {S : Nat → Prop} {w w1 w2 : World} (h : Frm S w w1) {g : Nat} (hg : w1.grownBy w2 (some g)) (hs : S g) : Frm S w w2 :=
  ⟨hg.os.trans h.os, hg.tape.trans h.tape, hg.output.trans h.output, Nat.le_trans h.size hg.size, fun k hk hn => (hg.block k (Nat.lt_of_lt_of_le hk h.size) (by intro e; injection e with e; subst e; exact hn hs)).trans (h.block k hk hn)⟩
theorem Frm.set {S : Nat → Prop} {w w1 : World} (h : Frm S w w1) {p : Addr} (hs : S p.block) (v : Value) : Frm S w (w1.setCell p v) :=
  ⟨h.os, h.tape, h.output, by simpa [World.setCell] using h.size, fun k hk hn => (Below.heap_setCell _ _ _ _ (by rintro rfl; exact hn hs)).trans (h.block k hk hn)⟩
theorem Frm.drew {S : Nat → Prop} {w w1 : World} (h : Frm S w w1) : Frm S w w1.drew := ⟨h.os, h.tape, h.output, h.size, h.block⟩
theorem Frm.below {S : Nat → Prop} {w w1 : World} {base : Nat} (h : Frm S w w1) (hb : base ≤ w.heap.size) (hs : ∀ k, S k → base ≤ k) : Below base w w1 :=
  ⟨h.os, h.tape, h.output, h.size, fun k hk => h.block k (by omega) (fun e => by have := hs k e; omega)⟩
/-- The struct's slice of pairs is written. -/
theorem self_prs {w : World} {tp : Nat} {m1 m2 av pv mv v : Value} (h : w.heap[tp]? = some (.cells #[m1, m2, av, pv, mv] 74 (0, 0))) : (w.setCell ⟨tp, 3, none⟩ v).heap[tp]? = some (.cells #[m1, m2, av, v, mv] 74 (0, 0)) := by
  rw [setCell_eq_setRow w tp 3 _ _ _ _ h, setRow_heap w tp _ _ _ _ h]
  rfl
theorem self_arr {w : World} {tp : Nat} {m1 m2 av pv mv v : Value} (h : w.heap[tp]? = some (.cells #[m1, m2, av, pv, mv] 74 (0, 0))) : (w.setCell ⟨tp, 2, none⟩ v).heap[tp]? = some (.cells #[m1, m2, v, pv, mv] 74 (0, 0)) := by
  rw [setCell_eq_setRow w tp 2 _ _ _ _ h, setRow_heap w tp _ _ _ _ h]
  rfl
theorem TabAt.kept {w w1 : World} {tp ga oa ca gp op cp mb N : Nat} {t : Tab} (h : TabAt w tp ga oa ca gp op cp mb t N) (hg : w.grownBy w1 (some mb)) : w1.heap[tp]? = w.heap[tp]? ∧ w1.heap[ga]? = w.heap[ga]? ∧ w1.heap[gp]? = w.heap[gp]? := by
  obtain ⟨a1, a2, a3, a4, a5⟩ := h.apt
  obtain ⟨b1, b2, b3, b4⟩ := h.lts
  exact ⟨hg.block tp b1 (by simpa using a3), hg.block ga b2 (by simpa using a4), hg.block gp b3 (by simpa using a5)⟩
theorem TabAt.slots {w w1 : World} {tp ga oa ca gp op cp mb N : Nat} {t : Tab} (h : TabAt w tp ga oa ca gp op cp mb t N) (e : w1.heap[tp]? = w.heap[tp]?) : w1.cell? ⟨tp, 3, none⟩ = some (.slice (some ⟨gp, op, none⟩) (2 * t.prs.length) cp) ∧ w1.cell? ⟨tp, 4, none⟩ = some (.map (some mb)) ∧ w1.frozen? ⟨tp, 3, none⟩ = false := by
  have h1 := e.trans h.self
  refine ⟨?_, ?_, ?_⟩ <;> simp [World.cell?, World.frozen?, h1]
theorem below_grown {base g : Nat} {w w1 : World} (hg : w.grownBy w1 (some g)) (hb : base ≤ g) (hs : base ≤ w.heap.size) : Below base w w1 := ⟨hg.os, hg.tape, hg.output, hg.size, fun k hk => hg.block k (by omega) (by simp; omega)⟩
theorem out_last {w w1 : World} {tp ga oa ca gp op cp mb N i : Nat} {t : Tab} (h : TabAt w tp ga oa ca gp op cp mb t N) (hn : (t.prs.map (·.1)).Nodup) (hi : i + 1 = t.prs.length) {p : VV × VV} (hp : t.prs[i]? = some p) (hM : MapV w1 mb (putF (fun k => (idxQ t.prs k).map (2 * ·)) p.1 none) N) (hG : w.grownBy w1 (some mb)) : TabAt (w1.setCell ⟨tp, 3, none⟩ (.slice (some ⟨gp, op, none⟩) (2 * i) (2 * i))) tp ga oa ca gp op (2 * i) mb { t with prs := outQ t.prs i } N ∧ Frm (S3 tp gp mb) w (w1.setCell ⟨tp, 3, none⟩ (.slice (some ⟨gp, op, none⟩) (2 * i) (2 * i))) := by
  obtain ⟨k1, k2, k3⟩ := h.kept hG
  obtain ⟨a1, a2, a3, a4, a5⟩ := h.apt
  have hlast : t.prs[t.prs.length - 1]? = some p := by rw [← hi]; exact hp
  have e0 := last_out (q := t.prs) (i := i) (by omega) hlast
  have ho := outQ_len t.prs i
  have hl : 2 * (outQ t.prs i).length = 2 * i := by omega
  have hf : (flatQ (outQ t.prs i)).length = 2 * i := by rw [flatQ_len]; exact hl
  refine ⟨⟨?_, h.arr.keep ((Below.heap_setCell _ _ _ _ (Ne.symm a1)).trans k2), ?_, ?_, ?_, ⟨h.small.1, h.small.2.1, by have := h.small.2.2; simp only; omega⟩⟩, ((Frm.refl _ _).grown hG (.inr (.inr rfl))).set (.inl rfl) _⟩
  · simp only [hl]
    exact self_prs (k1.trans h.self)
  · have hr := h.prs
    rw [e0, flatQ_append] at hr
    have hroom := h.prs.room
    rw [flatQ_len] at hroom
    exact (hr.part (c' := 2 * i) (by rw [hf]; exact Nat.le_refl _) (by omega)).keep ((Below.heap_setCell _ _ _ _ (Ne.symm a2)).trans k3)
  · refine (hM.keep (Below.heap_setCell _ _ _ _ (Ne.symm a3))).congr (Nat.le_refl _) fun v _ => ?_
    simp only [putF]
    have := idx_out (q := t.prs) hn (i := i) (k := p.1) (x := p.2) hp hlast v
    rw [if_pos (by omega)] at this
    rw [this]
    split <;> rfl
  · rcases h.apart with x | x | x
    · exact .inl x
    · exact .inr (.inl x)
    · have hroom := h.prs.room
      rw [flatQ_len] at hroom
      omega
set_option maxHeartbeats 4000000 in
theorem takeOut_last {w : World} {tp ga oa ca gp op cp mb N : Nat} {t : Tab} (h : TabAt w tp ga oa ca gp op cp mb t N) (hn : (t.prs.map (·.1)).Nodup) {i : Nat} (hi : i + 1 = t.prs.length) :
    Calls Try.prog 87 #[bV tp, iV (2 * i : Nat)] w fun e w' => e = .returned (.tuple #[]) ∧ TabAt w' tp ga oa ca gp op (2 * i) mb { t with prs := outQ t.prs i } N ∧ Frm (S3 tp gp mb) w w' := by
  obtain ⟨p, hp⟩ : ∃ p, t.prs[i]? = some p := ⟨_, List.getElem?_eq_getElem (by omega)⟩
  obtain ⟨p1, p2⟩ := flatQ_at t.prs i p hp
  obtain ⟨a0, a1⟩ := h.prs.at p1
  have wk : wfP p.1 := h.prs.wf _ (List.mem_of_getElem? p1)
  obtain ⟨c0, c1, c2, c3, c4⟩ := h.cells
  have hcp := h.prs.room
  rw [flatQ_len] at hcp
  have hsm := h.small.2.2
  obtain ⟨n, hn2⟩ : ∃ n, n = 2 * t.prs.length := ⟨_, rfl⟩
  obtain ⟨u, hu⟩ : ∃ u, u = 2 * i := ⟨_, rfl⟩
  rw [← hn2] at c3 hcp
  rw [← hu] at a0 a1 ⊢
  have S1 : ∀ W, (Instr.slice 22 (.slice (some ⟨gp, op, none⟩) n cp) none (some (iV u)) (some (iV u))).run Try.prog W = .ok (.slice (some ⟨gp, op, none⟩) u u) W := fun W => run_slice2 W ⟨gp, op, none⟩ (by simp [Addr.add]) n cp u (by omega)
  have l1 := mem_block_lt h.self
  have l2 := h.prs.lt
  have HM := Lib.hid h.map
  have WK := Lib.hid wk
  have q1 : (u : Int) ≤ 4294967296 := by omega
  have q2 : ((n : Int) - 2) = (u : Int) := by omega
  have q3 : (u : Int) < (n : Int) := by omega
  have q4 : ((u : Int) != (u : Int)) = false := by simp
  have HH := Lib.hid h
  have HP := Lib.hid hp
  have HND := Lib.hid hn
  have HN2 := Lib.hid hn2
  have HU := Lib.hid hu
  clear h hn hp p1 p2 wk hn2 hu
  go_enter Try.func87, Try.ntmps87
  go_wp2_with fail
  go_region_law (refine step_del_V rfl _ _ rfl (HM.out.keep rfl) WK.out rfl rfl ?_; intro w1 hM1 hG1)
  all_goals
    have G1 : Hid (w.grownBy w1 (some mb)) := ⟨hG1.out.os, hG1.out.tape, hG1.out.output, hG1.out.size, hG1.out.block⟩
    obtain ⟨e3, e4, f3⟩ := HH.out.slots (HH.out.kept G1.out).1
    rw [← HN2.out] at e3
    have FIN := Lib.hid (out_last HH.out HND.out hi HP.out hM1.out G1.out)
    rw [← HU.out] at FIN
    clear hG1
    go_wp2_with fail
    refine bodyPost_end (results_none rfl _ _ _) rfl ?_
    exact ⟨rfl, FIN.out⟩
/-- The place is filled by the last pair: what stands then. -/
structure Moved (w : World) (tp ga oa ca gp op cp mb N i : Nat) (t : Tab) (k p : VV × VV) (W : World) : Prop where
  self : W.heap[tp]? = w.heap[tp]?
  arr : RowV W ga oa ca t.arr
  prs : RowV W gp op cp (flatQ (t.prs.set i p))
  map : MapV W mb (putF (fun k => (idxQ t.prs k).map (2 * ·)) k.1 none) N
  below : Frm (S3 tp gp mb) w W
theorem moved {w wc : World} {tp ga oa ca gp op cp mb N i : Nat} {t : Tab} {k p : VV × VV} (h : TabAt w tp ga oa ca gp op cp mb t N) (hG : w.grownBy wc (some mb)) (hM : MapV wc mb (putF (fun k => (idxQ t.prs k).map (2 * ·)) k.1 none) N) (hi : i < t.prs.length) (hw : wfP p.1 ∧ wfP p.2) :
    Moved w tp ga oa ca gp op cp mb N i t k p ((((wc.setCell ⟨gp, op + (2 * i) * 2, none⟩ (iV p.1.1)).setCell ⟨gp, op + (2 * i) * 2 + 1, none⟩ (iV p.1.2)).setCell ⟨gp, op + (2 * i + 1) * 2, none⟩ (iV p.2.1)).setCell ⟨gp, op + (2 * i + 1) * 2 + 1, none⟩ (iV p.2.2)).drew := by
  obtain ⟨k1, k2, k3⟩ := h.kept hG
  obtain ⟨a1, a2, a3, a4, a5⟩ := h.apt
  have hfl := flatQ_len t.prs
  have hP := h.prs.keep k3
  have hcp := h.prs.room
  refine ⟨(heap_set2 _ _ _ a2).trans ((heap_set2 _ _ _ a2).trans k1), ?_, ?_, hM.keep ((heap_set2 _ _ _ (Ne.symm a5)).trans (heap_set2 _ _ _ (Ne.symm a5))), (((((Frm.refl _ _).grown hG (.inr (.inr rfl))).set (.inr (.inl rfl)) _).set (.inr (.inl rfl)) _).set (.inr (.inl rfl)) _).set (.inr (.inl rfl)) _ |>.drew⟩
  · have hA := h.arr.keep k2
    by_cases e : ga = gp
    · have hap : oa + 2 * ca ≤ op := by
        rcases h.apart with x | x | x
        · exact absurd e x
        · exact x
        · omega
      subst e
      refine RowV.keep (w := _) (RowV.setApart (RowV.setApart hA hP (j := 2 * i) (by omega) (.inl hap) _ _) (hP.set (j := 2 * i) (by omega) hw.1) (j := 2 * i + 1) (by simp; omega) (.inl hap) (iV p.2.1) (iV p.2.2)) rfl
    · exact hA.keep ((heap_set2 _ _ _ e).trans (heap_set2 _ _ _ e))
  · rw [flatQ_set]
    exact ((hP.set (j := 2 * i) (by omega) hw.1).set (j := 2 * i + 1) (by simp; omega) hw.2).keep rfl
theorem out_mid {w W W4 : World} {tp ga oa ca gp op cp mb N i m : Nat} {t : Tab} {k p : VV × VV} (h : TabAt w tp ga oa ca gp op cp mb t N) (hmv : Moved w tp ga oa ca gp op cp mb N i t k p W) (hn : (t.prs.map (·.1)).Nodup) (hi : i + 1 < t.prs.length) (hm : m = 2 * (t.prs.length - 1)) (hk : t.prs[i]? = some k) (hp : t.prs[t.prs.length - 1]? = some p)
    (hM : MapV W4 mb (putF (putF (fun k => (idxQ t.prs k).map (2 * ·)) k.1 none) p.1 (some (2 * i))) (N + 1)) (hG : W.grownBy W4 (some mb)) (hN : N + 1 ≤ 1073741824) :
    TabAt (W4.setCell ⟨tp, 3, none⟩ (.slice (some ⟨gp, op, none⟩) m m)) tp ga oa ca gp op m mb { t with prs := outQ t.prs i } (N + 1) ∧ Frm (S3 tp gp mb) w (W4.setCell ⟨tp, 3, none⟩ (.slice (some ⟨gp, op, none⟩) m m)) := by
  obtain ⟨a1, a2, a3, a4, a5⟩ := h.apt
  have b1 := mem_block_lt (hmv.self.trans h.self)
  have b2 := hmv.arr.lt
  have b3 := hmv.prs.lt
  have g1 := hG.block tp b1 (by simpa using a3)
  have g2 := hG.block ga b2 (by simpa using a4)
  have g3 := hG.block gp b3 (by simpa using a5)
  have ho := outQ_len t.prs i
  have hl : 2 * (outQ t.prs i).length = m := by omega
  have hf : (flatQ (outQ t.prs i)).length = m := by rw [flatQ_len]; exact hl
  have hbm2 : Frm (S3 tp gp mb) w W4 := hmv.below.grown hG (.inr (.inr rfl))
  refine ⟨⟨?_, hmv.arr.keep ((Below.heap_setCell _ _ _ _ (Ne.symm a1)).trans g2), ?_, ?_, ?_, ⟨hN, h.small.2.1, by have := h.small.2.2; simp only; omega⟩⟩, hbm2.set (.inl rfl) _⟩
  · simp only [hl]
    exact self_prs (g1.trans (hmv.self.trans h.self))
  · have hr := hmv.prs
    rw [outQ_snoc (by omega) hp, flatQ_append] at hr
    have hroom := hr.room
    simp only [List.length_append] at hroom
    exact (hr.part (c' := m) (by rw [hf]; exact Nat.le_refl _) (by omega)).keep ((Below.heap_setCell _ _ _ _ (Ne.symm a2)).trans g3)
  · refine (hM.keep (Below.heap_setCell _ _ _ _ (Ne.symm a3))).congr (Nat.le_refl _) fun v _ => ?_
    simp only [putF]
    have := idx_out (q := t.prs) hn (i := i) (k := k.1) (x := k.2) hk hp v
    rw [if_neg (by omega)] at this
    rw [this]
    split
    · rfl
    · split <;> rfl
  · rcases h.apart with x | x | x
    · exact .inl x
    · exact .inr (.inl x)
    · have hroom := h.prs.room
      rw [flatQ_len] at hroom
      omega
set_option maxHeartbeats 4000000 in
theorem takeOut_mid {w : World} {tp ga oa ca gp op cp mb N : Nat} {t : Tab} (h : TabAt w tp ga oa ca gp op cp mb t N) (hn : (t.prs.map (·.1)).Nodup) {i : Nat} (hi : i + 1 < t.prs.length) (hN : N + 1 ≤ 1073741824) :
    Calls Try.prog 87 #[bV tp, iV (2 * i : Nat)] w fun e w' => e = .returned (.tuple #[]) ∧ TabAt w' tp ga oa ca gp op (2 * (t.prs.length - 1)) mb { t with prs := outQ t.prs i } (N + 1) ∧ Frm (S3 tp gp mb) w w' := by
  obtain ⟨k, hk⟩ : ∃ k, t.prs[i]? = some k := ⟨_, List.getElem?_eq_getElem (by omega)⟩
  obtain ⟨p, hp⟩ : ∃ p, t.prs[t.prs.length - 1]? = some p := ⟨_, List.getElem?_eq_getElem (by omega)⟩
  obtain ⟨p1, p2⟩ := flatQ_at t.prs i k hk
  obtain ⟨r1, r2⟩ := flatQ_at t.prs _ p hp
  obtain ⟨a0, a1⟩ := h.prs.at p1
  have wk : wfP k.1 := h.prs.wf _ (List.mem_of_getElem? p1)
  have wp : wfP p.1 := h.prs.wf _ (List.mem_of_getElem? r1)
  have WP2 : Hid (wfP p.2) := h.prs.wf _ (List.mem_of_getElem? r2)
  obtain ⟨c0, c1, c2, c3, c4⟩ := h.cells
  have hcp := h.prs.room
  rw [flatQ_len] at hcp
  have hsm := h.small.2.2
  obtain ⟨n, hn2⟩ : ∃ n, n = 2 * t.prs.length := ⟨_, rfl⟩
  obtain ⟨u, hu⟩ : ∃ u, u = 2 * i := ⟨_, rfl⟩
  obtain ⟨m, hm⟩ : ∃ m, m = 2 * (t.prs.length - 1) := ⟨_, rfl⟩
  rw [← hn2] at c3 hcp
  rw [← hu] at a0 a1 ⊢
  rw [← hm] at r1 r2 ⊢
  rw [← hu] at p1 p2
  have S1 : ∀ W, (Instr.slice 22 (.slice (some ⟨gp, op, none⟩) n cp) none (some (iV m)) (some (iV m))).run Try.prog W = .ok (.slice (some ⟨gp, op, none⟩) m m) W := fun W => run_slice2 W ⟨gp, op, none⟩ (by simp [Addr.add]) n cp m (by omega)
  have l1 := mem_block_lt h.self
  have l2 := h.prs.lt
  have HM := Lib.hid h.map
  have WK := Lib.hid wk
  have WP := Lib.hid wp
  have q1 : (u : Int) ≤ 4294967296 := by omega
  have q2 : (m : Int) ≤ 4294967296 := by omega
  have q3 : ((n : Int) - 2) = (m : Int) := by omega
  have q4 : (u : Int) < (n : Int) := by omega
  have q5 : ((u : Int) != (m : Int)) = true := by rw [bne_iff_ne]; omega
  have q6 : (u : Int) + 1 < (n : Int) := by omega
  have q7 : (m : Int) + 1 < (n : Int) := by omega
  have q8 : (m : Int) < (n : Int) := by omega
  have q9 : ((u : Int) + 1).toNat = u + 1 := by omega
  have q11 : IntKind.i64.wrap ((u : Int) + 1) = (u : Int) + 1 := IntWalk.i64_in _ (by omega)
  have q12 : IntKind.i64.wrap ((m : Int) + 1) = (m : Int) + 1 := IntWalk.i64_in _ (by omega)
  have q10 : ((m : Int) + 1).toNat = m + 1 := by omega
  have HH := Lib.hid h
  have HK := Lib.hid hk
  have HP := Lib.hid hp
  have HND := Lib.hid hn
  have HN2 := Lib.hid hn2
  have HU := Lib.hid hu
  have HMM := Lib.hid hm
  have HR1 := Lib.hid r1
  have HK1 := Lib.hid p1
  have HK2 := Lib.hid p2
  have HR2 := Lib.hid r2
  clear h hn hk hp p1 p2 wk wp hn2 hu hm r1 r2
  go_enter Try.func87, Try.ntmps87
  go_upto_region 1 with fail
  go_cut [] (fun wx => Hid (MapV wx mb (putF (fun k => (idxQ t.prs k).map (2 * ·)) k.1 none) N) ∧ Hid (w.grownBy wx (some mb)))
  case first =>
    go_region_law (refine step_del_V rfl _ _ rfl (HM.out.keep rfl) WK.out rfl rfl ?_; intro w1 hM1 hG1)
    all_goals
      go_wp2_with fail
      go_meet
      exact ⟨hM1, ⟨hG1.out.os, hG1.out.tape, hG1.out.output, hG1.out.size, hG1.out.block⟩⟩
  case rest =>
    obtain ⟨hM1, hG1⟩ := hcut
    obtain ⟨e3, e4, f3⟩ := HH.out.slots (HH.out.kept hG1.out).1
    rw [← HN2.out] at e3
    have R1 : Hid (RowV wc gp op cp (flatQ t.prs)) := HH.out.prs.keep (HH.out.kept hG1.out).2.2
    obtain ⟨x0, x1⟩ := R1.out.at HR1.out
    obtain ⟨x2, x3⟩ := R1.out.at HR2.out
    obtain ⟨x4, x5⟩ := R1.out.at HK1.out
    obtain ⟨x6, x7⟩ := R1.out.at HK2.out
    have f0 : ∀ j, wc.frozen? ⟨gp, j, none⟩ = false := fun j => R1.out.froz j
    have hs1 := hG1.out.size
    have l3 : tp < wc.heap.size := by omega
    have l4 : gp < wc.heap.size := by omega
    have f1 := f0 (op + u * 2)
    have f2 := f0 (op + u * 2 + 1)
    have f4 := f0 (op + (u + 1) * 2)
    have f5 := f0 (op + (u + 1) * 2 + 1)
    clear a0 a1 f0 c0 c1 c2 c3 c4
    go_wp2_with fail
    go_region
    all_goals
      have MV := moved (k := k) HH.out hG1.out hM1.out (i := i) (by omega) ⟨WP.out, WP2.out⟩
      rw [← HU.out] at MV
      replace MV := Lib.hid MV
      generalize ((((wc.setCell ⟨gp, op + u * 2, none⟩ (iV p.1.1)).setCell ⟨gp, op + u * 2 + 1, none⟩ (iV p.1.2)).setCell ⟨gp, op + (u + 1) * 2, none⟩ (iV p.2.1)).setCell ⟨gp, op + (u + 1) * 2 + 1, none⟩ (iV p.2.2)).drew = W3 at *
      clear e3 e4 f3 x0 x1 x2 x3 x4 x5 x6 x7 f1 f2 f4 f5 l3 l4 hs1 R1
      obtain ⟨e3, e4, f3⟩ := HH.out.slots MV.out.self
      rw [← HN2.out] at e3
      have hpu : (flatQ (t.prs.set i p))[u]? = some p.1 := by rw [HU.out]; exact (flatQ_at _ i p (by rw [List.getElem?_set]; simp; omega)).1
      obtain ⟨x0, x1⟩ := MV.out.prs.at hpu
      have l3 := MV.out.prs.lt
      have l4 : tp < W3.heap.size := World.block_lt_of_cell? _ _ e3
      obtain ⟨W4, hrun, hM4, hG4⟩ := (MV.out.map.keep (w' := W3.drew) rfl).run_put WP.out u (by omega) (by omega)
      have FIN := Lib.hid (out_mid (W4 := W4) HH.out MV.out HND.out hi HMM.out HK.out HP.out (by rw [← HU.out]; exact hM4) ⟨hG4.os, hG4.tape, hG4.output, hG4.size, hG4.block⟩ hN)
      have HG4 := Lib.hid hG4
      have z1 : tp ≠ mb := HH.out.apt.2.2.1
      have g4 := hG4.block tp (by exact l4) (by simpa using z1)
      obtain ⟨y3, y4, y5⟩ := HH.out.slots (g4.trans MV.out.self)
      rw [← HN2.out] at y3
      clear hM4 hG4 hpu g4
      go_wp2_with fail
      go_region
      all_goals
        go_wp2_with fail
        refine bodyPost_end (results_none rfl _ _ _) rfl ?_
        exact ⟨rfl, FIN.out⟩
end Go.Proofs.Ytkkdgacdajojiaa
