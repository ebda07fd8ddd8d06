/- reach.marks: what can be reached. -/
import Derived.Test.YtghnjmodnhnmfaaRcMark
namespace Go.Proofs.Ytghnjmodnhnmfaa
set_option maxRecDepth 20000
open Go.RowKit Go.Maps

theorem bool_info : (Try.prog.info? 4).map (fun i => (i.zero, i.size, i.bytes)) = some (some (.bool false), 1, 1) := by kernel_rfl
theorem run_make_bools (n : Nat) (hn : n ≤ 1099511627776) (w : World) : (Instr.makeSlice 120 (.int .i64 ((n : Int) + 1)) (.int .i64 ((n : Int) + 1))).run Try.prog w = .ok (.slice (some ⟨w.heap.size, 0, none⟩) (n + 1) (n + 1)) (w.alloc (.cells (madeCells #[.bool false] (n + 1)) 4 (0, 0))) := by
  have := run_make_row' (P := Try.prog) 120 4 (.bool false) 1 Try.underlying120 bool_info rfl .i64 .i64 (n + 1) (by omega) (by omega) w
  rw [show (((n + 1 : Nat) : Int)) = (n : Int) + 1 by omega] at this
  exact this
theorem look_any {w0 : World} {A : Option Addr} {c : Nat} {g : List OB} (hg : GAt w0 A g) (hck : checkB g = true) (hn : g.length ≤ 900) (b5 b6 b2 b7 bm : Nat) (M : Nat → Bool) (m r : Nat) (w : World) (hm : thereN g m = true) (hE : MEnv w0 w A g.length c b5 b6 b2 b7 bm) (hR : RowB w bm (g.length + 1) M) :
      Calls Try.prog 166 #[iV m, iV r, bV b7] w fun e w' => e = .returned (.tuple #[]) ∧ ∃ M', RowB w' bm (g.length + 1) M' ∧ Marks g m M M' ∧ Frm (fun k => k = bm) w w' := by
  have CALL := Lib.hid (mark_any hg hck hn b5 b6 b2 b7 bm _ M m 0 w (Nat.lt_succ_self _) (by have := unm_le (g.length + 1) M; omega) hm hE hR)
  have c7 := hE.c7
  have z0 : ((0 : Nat) : Int) = 0 := rfl
  rw [z0] at CALL
  clear hE hR hm hg hck
  go_enter Try.func166, Try.ntmps166
  go_wp2_with (go_at_call 165; (with_reducible refine CALL.out.mono ?_); rintro e w4 ⟨rfl, hM⟩; have H4 := Lib.hid hM; clear hM)
  refine bodyPost_end (results_none rfl _ _ _) rfl ?_
  exact ⟨rfl, H4.out⟩
theorem mem_erase_perm {T K : List Nat} {k : Nat} (h : T.Perm (k :: K)) : (T.erase k).Perm K := by
  have := h.erase k
  simpa using this
/-- What rounds keeps of marks. -/
structure MarkI (w0 w : World) (A : Option Addr) (c : Nat) (g : List OB) (b5 b6 b2 b7 bm mb : Nat) (f : List Nat) (r : Nat) (K : List Nat) : Prop where
  env : MEnv w0 w A g.length c b5 b6 b2 b7 bm
  set : ∃ T, MapT w mb T ∧ T.Perm K
  row : ∃ M, RowB w bm (g.length + 1) M ∧ MarkR g f K M
  sub : ∀ x ∈ K, x ∈ f
  one : r = 1
structure MarkH (w0 w : World) (A : Option Addr) (c : Nat) (g : List OB) (b5 b6 b2 b7 bm mb : Nat) (f : List Nat) (r : Nat) (T : List Nat) : Prop where
  env : MEnv w0 w A g.length c b5 b6 b2 b7 bm
  set : MapT w mb T
  row : ∃ M, RowB w bm (g.length + 1) M ∧ MarkR g f T M
  sub : ∀ x ∈ T, x ∈ f
  one : T ≠ [] → r = 1
theorem MEnv.frm2 {w0 w w' : World} {A : Option Addr} {n c b5 b6 b2 b7 bm : Nat} (h : MEnv w0 w A n c b5 b6 b2 b7 bm) {S : Nat → Prop} (hf : Frm S w w') (h5 : ¬ S b5) (h2 : ¬ S b2) (h7 : ¬ S b7) (hl : ∀ k, S k → w0.heap.size ≤ k) : MEnv w0 w' A n c b5 b6 b2 b7 bm :=
  ⟨⟨hf.os.trans h.below.os, hf.tape.trans h.below.tape, hf.output.trans h.below.output, Nat.le_trans h.below.size hf.size, fun k hk => (hf.block k (Nat.lt_of_lt_of_le hk h.below.size) (fun e => by have := hl k e; omega)).trans (h.below.block k hk)⟩,
    (hf.cell (World.block_lt_of_cell? w _ h.c5) h5).trans h.c5, (hf.cell (World.block_lt_of_cell? w _ h.c2) h2).trans h.c2, (hf.cell (World.block_lt_of_cell? w _ h.c7) h7).trans h.c7, h.ne, h.lo⟩
theorem marks_rounds {w w1 : World} {A : Option Addr} {c : Nat} {g : List OB} (hg : GAt w A g) (hck : checkB g = true) (hn : g.length ≤ 900) {f : List Nat} (hft : ∀ x ∈ f, thereN g x = true) {b5 b6 b2 b7 bm mb : Nat} (hE : MEnv w w1 A g.length c b5 b6 b2 b7 bm)
    {T : List Nat} (hM : MapT w1 mb T) (hT : ∀ x, x ∈ T ↔ x ∈ f) (hR : RowB w1 bm (g.length + 1) fun _ => false) (h5 : b5 ≠ mb) (h2 : b2 ≠ mb) (h7 : b7 ≠ mb) (hbm : bm ≠ mb) (hlo : w.heap.size ≤ mb) :
    Calls Try.prog 134 #[.map (some mb), .func (.func 166) #[] #[bV b7]] w1 fun e w' => e = .returned (.tuple #[]) ∧ RowB w' bm (g.length + 1) (reachB g f) ∧ Below w.heap.size w w' ∧ w'.cell? ⟨b5, 0, none⟩ = some (.slice (some ⟨bm, 0, none⟩) (g.length + 1) (g.length + 1)) := by
  obtain ⟨n5, n2, n7⟩ := hE.ne
  refine (rounds_any (mb := mb) (w := w1) (enters_of Try.func166 (by kernel_rfl) rfl) (fun k => k = bm ∨ k = mb) (Or.inr rfl) (fun k hk => ?_) (fun r K W => MarkI w W A c g b5 b6 b2 b7 bm mb f r K) (fun r T W => MarkH w W A c g b5 b6 b2 b7 bm mb f r T) 1 (by omega)
    (fun r T W h => h.set) (fun r T W W' h hb => ?_) (fun r k K W h => ?_) (fun r T W K h hp hne => ?_) (fun r W h => ?_) (T0 := T) ?_).mono ?_
  · rcases hk with rfl | rfl
    · exact hR.lt
    · exact hM.lt
  · obtain ⟨M, hm1, hm2⟩ := h.row
    exact ⟨h.env.frm2 (Frm.of_below (fun _ => False) hb) (fun h => h) (fun h => h) (fun h => h) (fun k hk => hk.elim), h.set.below hb h.set.lt, ⟨M, hm1.below hb, hm2⟩, h.sub, h.one⟩
  · obtain ⟨T, hT1, hT2⟩ := h.set
    refine ⟨by rw [h.one]; exact Nat.le_refl _, T, hT1, hT2.symm.mem_iff.1 (by simp), fun W' hM' hG => ?_⟩
    obtain ⟨M, hm1, hm2⟩ := h.row
    have hF : Frm (fun k => k = bm ∨ k = mb) W W' := (Frm.refl _ _).grown hG (Or.inr rfl)
    have hE' : MEnv w W' A g.length c b5 b6 b2 b7 bm := h.env.frm2 ((Frm.refl (fun k => k = mb) _).grown hG rfl) h5 h2 h7 (fun k hk => by subst hk; exact hlo)
    have hR' : RowB W' bm (g.length + 1) M := hm1.frm ((Frm.refl (fun k => k = mb) _).grown hG rfl) hbm
    refine (look_any hg hck hn b5 b6 b2 b7 bm M k r W' (hft k (h.sub k (by simp))) hE' hR').mono ?_
    rintro e w' ⟨rfl, M', hr, hk, hf⟩
    refine ⟨rfl, ⟨hE'.frm hf, ⟨_, hM'.keep (hf.block _ hM'.lt (Ne.symm hbm)), mem_erase_perm hT2⟩, ⟨M', hr, hm2.step (h.sub k (by simp)) hk⟩, fun x hx => h.sub x (by simp [hx]), h.one⟩, hf.mono fun k hk => Or.inl hk⟩
  · obtain ⟨M, hm1, hm2⟩ := h.row
    refine ⟨h.env, ⟨T, h.set, hp.symm⟩, ⟨M, hm1, fun x hx => ?_, hm2.fine⟩, fun x hx => h.sub x (hp.mem_iff.1 hx), h.one (fun e => hne (by subst e; exact hp.eq_nil))⟩
    rcases hm2.all x hx with h1 | h1
    · exact Or.inl h1
    · exact Or.inr (hp.mem_iff.2 h1)
  · obtain ⟨T, hT1, hT2⟩ := h.set
    obtain rfl := hT2.eq_nil
    exact ⟨[], h.env, hT1, h.row, (fun x hx => by cases hx), fun h => absurd rfl h⟩
  · exact ⟨hE, hM, ⟨_, hR, fun x hx => Or.inr ((hT x).2 hx), fun x hx => by cases hx⟩, fun x hx => (hT x).1 hx, fun _ => rfl⟩
  · rintro e w' ⟨rfl, ⟨r, h⟩, hf⟩
    obtain ⟨M, hm1, hm2⟩ := h.row
    rw [← hm2.fin]
    exact ⟨rfl, hm1, h.env.below, h.env.c5⟩
/-- Where the loop over the roots begins. -/
structure MStart (w W : World) (A : Option Addr) (n c b2 bm b5 mb b6 b7 : Nat) : Prop where
  below : Below w.heap.size w W
  c2 : W.cell? ⟨b2, 0, none⟩ = some (.slice A n c)
  row : RowB W bm (n + 1) fun _ => false
  c5 : W.cell? ⟨b5, 0, none⟩ = some (.slice (some ⟨bm, 0, none⟩) (n + 1) (n + 1))
  map : MapT W mb []
  c6 : W.cell? ⟨b6, 0, none⟩ = some (.map (some mb))
  c7 : W.cell? ⟨b7, 0, none⟩ = some (markF b5 b6 b2 b7)
  ne : b5 ≠ bm ∧ b2 ≠ bm ∧ b7 ≠ bm ∧ b5 ≠ mb ∧ b2 ≠ mb ∧ b7 ≠ mb ∧ b6 ≠ mb ∧ bm ≠ mb
  lo : w.heap.size ≤ bm ∧ w.heap.size ≤ mb
  lt : bm < W.heap.size ∧ mb < W.heap.size
theorem mstart (w : World) (A : Option Addr) (n c : Nat) : MStart w
    ((((((w.alloc (Obj.cells #[Value.slice A n c] 24 (0, 0))).alloc (Obj.cells (madeCells #[Value.bool false] (n + 1)) 4 (0, 0))).alloc
      (Obj.cells #[Value.slice (some { block := w.heap.size + 1, off := 0 }) (n + 1) (n + 1)] 120 (0, 0))).alloc (Obj.map #[] 0)).alloc
      (Obj.cells #[Value.map (some (w.heap.size + 1 + 1 + 1))] 127 (0, 0))).alloc
      (Obj.cells #[markF (w.heap.size + 1 + 1) (w.heap.size + 1 + 1 + 1 + 1) w.heap.size (w.heap.size + 1 + 1 + 1 + 1 + 1)] 129 (0, 0)))
    A n c w.heap.size (w.heap.size + 1) (w.heap.size + 1 + 1) (w.heap.size + 1 + 1 + 1) (w.heap.size + 1 + 1 + 1 + 1) (w.heap.size + 1 + 1 + 1 + 1 + 1) := by
  refine ⟨?_, ?_, ?_, ?_, ?_, ?_, ?_, by omega, by omega, by simp⟩
  · exact ((((((Below.refl _ _).alloc (Nat.le_refl _) _).alloc (by simp) _).alloc (by simp; omega) _).alloc (by simp; omega) _).alloc (by simp; omega) _).alloc (by simp; omega) _
  · simp [go_sem]
  · have h := World.rowIs_made (w.alloc (Obj.cells #[Value.slice A n c] 24 (0, 0))) (.bool false) (n + 1) 4
    have h := (((h.alloc (Obj.cells #[Value.slice (some { block := w.heap.size + 1, off := 0 }) (n + 1) (n + 1)] 120 (0, 0))).alloc (Obj.map #[] 0)).alloc (Obj.cells #[Value.map (some (w.heap.size + 1 + 1 + 1))] 127 (0, 0))).alloc (Obj.cells #[markF (w.heap.size + 1 + 1) (w.heap.size + 1 + 1 + 1 + 1) w.heap.size (w.heap.size + 1 + 1 + 1 + 1 + 1)] 129 (0, 0))
    have e : (w.alloc (Obj.cells #[Value.slice A n c] 24 (0, 0))).heap.size = w.heap.size + 1 := by simp
    rw [e] at h
    exact h
  · simp [go_sem]
  · have h := MapT.made (((w.alloc (Obj.cells #[Value.slice A n c] 24 (0, 0))).alloc (Obj.cells (madeCells #[Value.bool false] (n + 1)) 4 (0, 0))).alloc (Obj.cells #[Value.slice (some { block := w.heap.size + 1, off := 0 }) (n + 1) (n + 1)] 120 (0, 0)))
    have e : (((w.alloc (Obj.cells #[Value.slice A n c] 24 (0, 0))).alloc (Obj.cells (madeCells #[Value.bool false] (n + 1)) 4 (0, 0))).alloc (Obj.cells #[Value.slice (some { block := w.heap.size + 1, off := 0 }) (n + 1) (n + 1)] 120 (0, 0))).heap.size = w.heap.size + 1 + 1 + 1 := by simp
    rw [e] at h
    exact (h.keep (Below.heap_alloc _ _ _ (by simp))).keep (Below.heap_alloc _ _ _ (by simp))
  · simp [go_sem]
  · simp [go_sem]
set_option maxHeartbeats 4000000 in
theorem marks_any {w : World} {A : Option Addr} {c : Nat} {g : List OB} (hg : GAt w A g) (hck : checkB g = true) (hn : g.length ≤ 900) {B : Option Addr} {d : Nat} {f : List Nat} (hf : IntsAt w B (intsOf f)) (hfl : f.length ≤ 8796093022208) (hft : ∀ x ∈ f, thereN g x = true) :
    Calls Try.prog 127 #[gV A g.length c, .slice B f.length d] w fun e w' => ∃ bm, e = .returned (.slice (some ⟨bm, 0, none⟩) (g.length + 1) (g.length + 1)) ∧ RowB w' bm (g.length + 1) (reachB g f) ∧ w.heap.size ≤ bm ∧ Below w.heap.size w w' := by
  have mk := run_make_bools g.length (by omega)
  have hmm := @run_makeMap Try.prog
  have hmf := hmf2
  have LK : Hid (∀ (b5 b6 b2 b7 bm : Nat) (M : Nat → Bool) (m r : Nat) (W : World) (_ : thereN g m = true) (_ : MEnv w W A g.length c b5 b6 b2 b7 bm) (_ : RowB W bm (g.length + 1) M),
      Calls Try.prog 166 #[iV m, iV r, bV b7] W fun e w' => e = .returned (.tuple #[]) ∧ ∃ M', RowB w' bm (g.length + 1) M' ∧ Marks g m M M' ∧ Frm (fun k => k = bm) W w') := fun b5 b6 b2 b7 bm M m r W => look_any hg hck hn b5 b6 b2 b7 bm M m r W
  have HG := Lib.hid hg
  have HC := Lib.hid hck
  have FI := Lib.hid hf
  have FT := Lib.hid hft
  have GET : Hid (∀ i, i < f.length → ∃ p, f[i]? = some p) := fun i hi => ⟨_, List.getElem?_eq_getElem hi⟩
  clear hg hck hf hft
  have HN0 : ∃ n, Hid (g.length = n) := ⟨_, rfl⟩
  generalize hgn : g.length = n at *
  have HN : Hid (g.length = n) := hgn
  clear hgn HN0
  go_enter Try.func127, Try.ntmps127
  go_wp2_with fail
  refine at_world (fun W => MStart w W A n c w.heap.size (w.heap.size + 1) (w.heap.size + 1 + 1) (w.heap.size + 1 + 1 + 1) (w.heap.size + 1 + 1 + 1 + 1) (w.heap.size + 1 + 1 + 1 + 1 + 1)) (mstart w A n c) fun V HV => ?_
  have hlo := HV.lo
  have hlt := HV.lt
  have HS := Lib.hid HV
  clear HV mk
  generalize w.heap.size + 1 + 1 + 1 + 1 + 1 = b7 at *
  generalize w.heap.size + 1 + 1 + 1 + 1 = b6 at *
  generalize w.heap.size + 1 + 1 + 1 = mb at *
  generalize w.heap.size + 1 + 1 = b5 at *
  generalize w.heap.size + 1 = bm at *
  obtain ⟨b2, hb2⟩ : ∃ b2, b2 = w.heap.size := ⟨_, rfl⟩
  rw [← hb2] at HS ⊢
  clear hb2
  have HS2 := Lib.hid HS.out
  obtain ⟨hbl, c2, hrow, c5, hmap, c6, c7, hne, -, -⟩ := HS2.out
  have l6 := World.block_lt_of_cell? V _ c6
  have BV := Lib.hid hbl
  have M0 := Lib.hid hmap
  have RV := Lib.hid hrow
  have EV : Hid (MEnv w V A n c b5 b6 b2 b7 bm) := ⟨hbl, c5, c2, c7, ⟨hne.1, hne.2.1, hne.2.2.1⟩, hlo.1⟩
  clear hrow hmap hbl c2 c5 c7
  go_loopg [19] f.length (fun gg s19 wr => ∃ k : Nat, k ≤ f.length ∧ f.length - k ≤ gg ∧ s19 = .int .i64 k ∧ Hid (∃ T, MapT wr mb T ∧ ∀ x, x ∈ T ↔ x ∈ f.take k) ∧ Hid (V.grownBy wr (some mb)))
  case atStart => exact ⟨0, Nat.zero_le _, by omega, rfl, ⟨[], M0.out, by simp⟩, grown_below (Below.refl _ _)⟩
  case round =>
    obtain ⟨k, hk, hgg, rfl, QQ, GG⟩ := hrel
    obtain ⟨T, hM, hT⟩ := QQ.out
    have d6 : wr.cell? ⟨b6, 0, none⟩ = some (.map (some mb)) := GG.out.cell c6 (by intro e; injection e with e; exact hne.2.2.2.2.2.2.1 e)
    by_cases hlt : k < f.length
    · obtain ⟨x, hx⟩ := GET.out k hlt
      have hx9 := (there_le (FT.out x (List.mem_of_getElem? hx))).2
      obtain ⟨ad, e, hal, hc⟩ := (FI.out) k x (intsOf_get hx)
      subst e
      have d0 : wr.cell? (ad.add k) = some (.int .i64 x) := GG.out.cell ((BV.out.cell (by rw [Go.ChangeShapes.block_add]; exact hal)).trans hc) (by rw [Go.ChangeShapes.block_add]; intro e; injection e with e; omega)
      obtain ⟨w', hput, hM', hG'⟩ := hM.run_put x (by have := HN.out; omega)
      have Q2 : Hid (∃ T, MapT w' mb T ∧ ∀ x, x ∈ T ↔ x ∈ f.take (k + 1)) := ⟨_, hM', fun y => by
        rw [List.take_add_one, hx]
        by_cases e : x ∈ T
        · rw [if_pos e, hT y]
          have := (hT x).1 e
          constructor
          · intro h; simp [h]
          · intro h
            rcases List.mem_append.1 h with h | h
            · exact h
            · simp at h; subst h; exact this
        · rw [if_neg e, List.mem_cons, hT y]
          simp [Or.comm]⟩
      have G2 := Lib.hid (grown_trans GG.out hG')
      clear hM' hG' hM hT QQ hx hc
      go_wp2_with fail
      go_roundg (f.length - (k + 1))
      case measure => omega
      case rel => exact ⟨k + 1, by omega, by omega, by go_num, Q2.out, G2.out⟩
    · have hkn : k = f.length := by omega
      have Q2 : Hid (MapT wr mb T ∧ ∀ x, x ∈ T ↔ x ∈ f) := ⟨hM, fun x => by rw [hT x, hkn, List.take_of_length_le (Nat.le_refl _)]⟩
      clear hM hT QQ hkn
      have CALL := Lib.hid (marks_rounds HG.out HC.out (by have := HN.out; omega) FT.out (w1 := wr) (A := A) (c := c) (b5 := b5) (b6 := b6) (b2 := b2) (b7 := b7) (bm := bm) (mb := mb) (f := f) (T := T) (by rw [HN.out]; exact EV.out.frm2 (S := fun k => k = mb) ((Frm.refl _ _).grown GG.out rfl) hne.2.2.2.1 hne.2.2.2.2.1 hne.2.2.2.2.2.1 (fun k hk => by subst hk; exact hlo.2)) Q2.out.1 Q2.out.2 (by rw [HN.out]; exact RV.out.frm (S := fun k => k = mb) ((Frm.refl _ _).grown GG.out rfl) hne.2.2.2.2.2.2.2) hne.2.2.2.1 hne.2.2.2.2.1 hne.2.2.2.2.2.1 hne.2.2.2.2.2.2.2 hlo.2)
      go_wp2_with (go_at_call 134; (with_reducible refine CALL.out.mono ?_); rintro e w4 ⟨rfl, hr, hb, hc5⟩; rw [HN.out] at hr hc5; have R4 := Lib.hid hr; have B4 := Lib.hid hb; clear hr hb)
      go_ret
      exact ⟨bm, rfl, R4.out, hlo.1, B4.out⟩
end Go.Proofs.Ytghnjmodnhnmfaa
