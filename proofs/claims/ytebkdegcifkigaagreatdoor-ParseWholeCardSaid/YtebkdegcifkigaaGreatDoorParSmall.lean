/- The parser's small calls: what comes next, taking it, wanting it, a fault at it; opening and closing. -/
import Derived.Test.YtebkdegcifkigaaGreatDoorParState
import Derived.RegionTactic
namespace Go.Proofs.YtebkdegcifkigaaGreatDoor.P5
set_option maxRecDepth 20000
open Go.RowKit Go.Maps

set_option maxHeartbeats 1000000 in
theorem line_any {w : World} {p d : Nat} {ts : List Tok} (h : PAt w p d ts) : Calls Tryz.prog 40 #[pV p] w fun e w' => e = .returned (iV (linT ts)) ∧ w' = w := by
  obtain ⟨g, o, c, m, h⟩ := h
  have c0 := h.c0
  obtain ⟨hl, hh⟩ := h.hd
  have h3 := hh.c3
  have hb : (0 : Int) < (ts.length : Int) := by omega
  clear h hh
  go_enter Tryz.func40, Tryz.ntmps40
  go_wp2
  go_ret
  exact ⟨rfl, rfl⟩
set_option maxHeartbeats 1000000 in
theorem sign_any {w : World} {p d : Nat} {ts : List Tok} (h : PAt w p d ts) : Calls Tryz.prog 63 #[pV p] w fun e w' => e = .returned (sV (sgnT ts)) ∧ w' = w := by
  obtain ⟨g, o, c, m, h⟩ := h
  have c0 := h.c0
  obtain ⟨hl, hh⟩ := h.hd
  have h0 := hh.c0
  have h1 := hh.c1
  have hb : (0 : Int) < (ts.length : Int) := by omega
  unfold sgnT
  by_cases hk : (hdT ts).kind = 4
  · rw [if_pos hk]
    have hk' : (((hdT ts).kind : Int) != 4) = false := by rw [hk]; rfl
    generalize (hdT ts).text = tx at *
    generalize (hdT ts).kind = kk at *
    clear h hh hk
    go_enter Tryz.func63, Tryz.ntmps63
    go_wp2
    go_ret
    exact ⟨rfl, rfl⟩
  · rw [if_neg hk]
    have hk' : (((hdT ts).kind : Int) != 4) = true := by simp; omega
    generalize (hdT ts).text = tx at *
    generalize (hdT ts).kind = kk at *
    clear h hh hk
    go_enter Tryz.func63, Tryz.ntmps63
    go_wp2
    go_ret
    exact ⟨rfl, rfl⟩
theorem results_cell {fn : Func} {p : Tmp} {ty : TypeId} (h : fn.results = #[.cell p ty]) (tmps : Array Value) (P : Program) (w : World) :
    (results fn tmps).run P w = ((asAddr (tmps.getD p undef)).run P w).andThen fun a w₁ => (loadVar ty a).run P w₁ := by
  simp only [results, h]
  simp [Sem.run_bind, Result.andThen]
theorem ret_tok_cell {fn : Func} {R : Ending → World → Prop} {a : Act} {W : World} {p : Tmp} {b : Nat} {v0 v1 v2 v3 : Value} (h : fn.results = #[.cell p 66]) (hp : a.tmps.getD p undef = .pointer (some ⟨b, 0, none⟩))
    (h0 : W.cell? ⟨b, 0, none⟩ = some v0) (h1 : W.cell? ⟨b, 1, none⟩ = some v1) (h2 : W.cell? ⟨b, 2, none⟩ = some v2) (h3 : W.cell? ⟨b, 3, none⟩ = some v3) (hd : a.defers = [])
    (hR : R (.returned (.agg #[v0, v1, v2, v3])) W) : bodyPost Tryz.prog fn R .ret a W := by
  refine bodyPost_ret (v := .agg #[v0, v1, v2, v3]) ?_ hd hR
  rw [results_cell h, hp]
  simp only [asAddr, Sem.run_pure, Result.andThen_ok, load_tok h0 h1 h2 h3]
set_option maxHeartbeats 2000000 in
theorem take_any {w : World} {p d : Nat} {ts : List Tok} (h : PAt w p d ts) (hk : (hdT ts).kind ≠ 5) : Calls Tryz.prog 108 #[pV p] w fun e w' => e = .returned (.agg #[iV (hdT ts).kind, sV (hdT ts).text, iV (hdT ts).num, iV (hdT ts).line]) ∧ PAt w' p d ts.tail ∧ Past [p] w w' := by
  obtain ⟨g, o, c, m, h⟩ := h
  have hp := h.lt
  have c0 := h.c0
  have f0 := h.warm 0
  obtain ⟨hl, hh⟩ := h.hd
  have h0 := hh.c0
  have h1 := hh.c1
  have h2 := hh.c2
  have h3 := hh.c3
  have hs := h.second hk
  have hg : g < w.heap.size := by have := h.gp; omega
  have hb : (0 : Int) < (ts.length : Int) := by omega
  have hb1 : (1 : Int) ≤ (ts.length : Int) := by omega
  have hcap := h.cap
  have hsm := h.small
  have hc1 : ¬ c = 1 := by omega
  have T := Lib.hid (h.taken hk)
  have htl : ts.tail.length = ts.length - 1 := by simp
  rw [htl] at T
  generalize (hdT ts).text = tx at *
  generalize (hdT ts).kind = kk at *
  generalize (hdT ts).num = nn at *
  generalize (hdT ts).line = ll at *
  clear h hh hs
  go_enter Tryz.func108, Tryz.ntmps108
  go_wp2
  refine ret_tok_cell rfl rfl (b := w.heap.size) (v0 := iV kk) (v1 := sV tx) (v2 := iV nn) (v3 := iV ll) (by simp [go_sem]) (by simp [go_sem]) (by simp [go_sem]) (by simp [go_sem]) rfl ?_
  exact ⟨rfl, PAt.alloc (PAt.alloc ⟨_, _, _, _, T.out⟩ _) _, (((Past.refl _ _).setCell (.inl (by simp)) _).alloc _).alloc _⟩
/-- The panic of the deferred closures: how much is open is one less. -/
theorem close_any {w : World} {p q : Nat} {d : Int} (u : FrameMode) (hq : w.cell? ⟨q, 0, none⟩ = some (pV p)) (hd : w.cell? ⟨p, 1, none⟩ = some (iV d)) (hf : w.frozen? ⟨p, 1, none⟩ = false) :
    CallsD Tryz.prog 138 #[pV q] u w fun e u' w' => u' = u ∧ e = .returned (.tuple #[]) ∧ w' = w.setCell ⟨p, 1, none⟩ (iV (wrap64 (d - 1))) := by
  go_enter_d Tryz.func138, Tryz.ntmps138
  go_wp2
  refine bodyPost_end (results_none rfl _ _ _) rfl ?_
  exact ⟨rfl, rfl⟩
theorem fault_any {w : World} {p d : Nat} {ts : List Tok} (h : PAt w p d ts) (c : Int) : Calls Tryz.prog 24 #[pV p, iV c] w fun e w' => e = .returned (pV w.heap.size) ∧ w' = w.alloc (.cells #[iV c, iV (linT ts)] 31) := by
  have L := Lib.hid (line_any h)
  go_enter Tryz.func24, Tryz.ntmps24
  go_wp2_with (go_at_call 40; with_reducible refine L.out.mono ?_; rintro e w1 ⟨rfl, hq⟩; obtain rfl := hq.symm)
  go_ret
  exact ⟨rfl, rfl⟩
theorem bad_new {w : World} {p d : Nat} {ts : List Tok} (h : PAt w p d ts) (E : List Nat) (c : Int) (l : Nat) (T : TypeId) : Bad p E c l w (panicV w.heap.size) (w.alloc (.cells #[iV c, iV l] T)) :=
  ⟨w.heap.size, rfl, Nat.le_refl _, ⟨by simp [go_sem], by simp [go_sem]⟩, (Past.refl _ _).alloc _, (h.alloc _).warm⟩
theorem beq_no {a b : List UInt8} (h : a ≠ b) : (a == b) = false := beq_eq_false_iff_ne.2 h
theorem beq_yes {a b : List UInt8} (h : a = b) : (a == b) = true := beq_iff_eq.2 h
theorem want_any {w : World} {p d : Nat} {ts : List Tok} (s : List UInt8) (hne : s ≠ []) (h : PAt w p d ts) : Calls Tryz.prog 66 #[pV p, sV s] w fun e w' => Ends p d [p] (wantT s ts) (fun _ _ v => v = .tuple #[]) w e w' := by
  have S := Lib.hid (sign_any h)
  unfold wantT
  by_cases hs : sgnT ts = s
  · have hk : (hdT ts).kind ≠ 5 := by have := (sgn_sign (by rw [hs]; exact hne)).1; omega
    have T := Lib.hid (take_any h hk)
    rw [if_pos hs]
    have hb := beq_yes hs
    clear hs
    go_enter Tryz.func66, Tryz.ntmps66
    go_wp2_with (first
      | (go_at_call 63; with_reducible refine S.out.mono ?_; rintro e w1 ⟨rfl, hq⟩; obtain rfl := hq.symm)
      | (go_at_call 108; with_reducible refine T.out.mono ?_; rintro e w2 ⟨rfl, hp2, hw2⟩))
    refine bodyPost_end (results_none rfl _ _ _) rfl ?_
    exact ⟨_, rfl, rfl, hp2, hw2⟩
  · have F := Lib.hid (fault_any h)
    rw [if_neg hs]
    have hb := beq_no hs
    have B := Lib.hid (bad_new h [p] 4 (linT ts) 31)
    clear hs
    go_enter Tryz.func66, Tryz.ntmps66
    go_wp2_with (first
      | (go_at_call 63; with_reducible refine S.out.mono ?_; rintro e w1 ⟨rfl, hq⟩; obtain rfl := hq.symm)
      | (go_at_call 24; with_reducible refine (F.out _).mono ?_; rintro e w2 ⟨rfl, rfl⟩))
    exact ⟨rfl, B.out⟩
theorem field_text (a b c d : Value) (w : World) : (Instr.field 66 (.agg #[a, b, c, d]) 1).run Tryz.prog w = .ok b w := by kernel_rfl
theorem name_any {w : World} {p d : Nat} {ts : List Tok} (h : PAt w p d ts) : Calls Tryz.prog 107 #[pV p] w fun e w' => Ends p d [p] (nameT ts) (fun x _ v => v = sV (textT x)) w e w' := by
  unfold nameT
  have h' := h
  obtain ⟨g, o, c, m, h'⟩ := h'
  have c0 := h'.c0
  obtain ⟨hl, hh⟩ := h'.hd
  have h0 := hh.c0
  have hb : (0 : Int) < (ts.length : Int) := by omega
  by_cases hs : (hdT ts).kind = 1
  · have hk : (hdT ts).kind ≠ 5 := by omega
    have T := Lib.hid (take_any h hk)
    have FT := field_text
    rw [if_pos hs]
    have hq : (((hdT ts).kind : Int) != 1) = false := by rw [hs]; rfl
    generalize (hdT ts).kind = kk at *
    clear hs h' hh h
    go_enter Tryz.func107, Tryz.ntmps107
    go_wp2_with (first
      | (go_at_call 108; with_reducible refine T.out.mono ?_; rintro e w2 ⟨rfl, hp2, hw2⟩))
    go_ret
    exact ⟨_, rfl, rfl, hp2, hw2⟩
  · have F := Lib.hid (fault_any h)
    rw [if_neg hs]
    have hq : (((hdT ts).kind : Int) != 1) = true := by simp; omega
    have B := Lib.hid (bad_new h [p] 4 (linT ts) 31)
    generalize (hdT ts).kind = kk at *
    clear hs h' hh h
    go_enter Tryz.func107, Tryz.ntmps107
    go_wp2_with (first
      | (go_at_call 24; with_reducible refine (F.out _).mono ?_; rintro e w2 ⟨rfl, rfl⟩))
    exact ⟨rfl, B.out⟩
/-- What 'begin' answers: the closure that closes again. -/
abbrev closeV (q : Nat) : Value := .func (.func 138) #[] #[pV q]
/-- Behind the count of what is open. -/
theorem opened {w w2 : World} {p d : Nat} {ts : List Tok} (hp : p < w.heap.size) (hp2 : PAt w2 p d ts) (hw2 : Past [p] (w.alloc (.cells #[pV p] 90)) w2) (hd : d + 1 ≤ 64) :
    w2.cell? ⟨w.heap.size, 0, none⟩ = some (pV p) ∧ w2.cell? ⟨p, 1, none⟩ = some (iV d) ∧ w2.frozen? ⟨p, 1, none⟩ = false ∧
    PAt (w2.setCell ⟨p, 1, none⟩ (iV (d + 1))) p (d + 1) ts ∧ Past [p] w (w2.setCell ⟨p, 1, none⟩ (iV (d + 1))) ∧ (w2.setCell ⟨p, 1, none⟩ (iV (d + 1))).cell? ⟨w.heap.size, 0, none⟩ = some (pV p) := by
  obtain ⟨g, o, c, m, hP⟩ := hp2
  have q : w2.cell? ⟨w.heap.size, 0, none⟩ = some (pV p) := hw2.cell_some (by simp [go_sem]) (by simp; omega)
  refine ⟨q, hP.c1, hP.warm 1, ⟨g, o, c, m, hP.opens (d + 1) hd⟩, ?_, (cell_set_block (by omega) _).trans q⟩
  exact (((Past.refl [p] w).alloc _).trans hw2).setCell (.inl (by simp)) _
set_option maxHeartbeats 1000000 in
theorem begin_any {w : World} {p d : Nat} {ts : List Tok} (s : List UInt8) (hne : s ≠ []) (h : PAt w p d ts) : Calls Tryz.prog 110 #[pV p, sV s] w fun e w' => Ends p (d + 1) [p] (beginT s d ts) (fun _ w' v => ∃ q, v = closeV q ∧ w.heap.size ≤ q ∧ w'.cell? ⟨q, 0, none⟩ = some (pV p)) w e w' := by
  unfold beginT
  have hp := h.lt
  have h1 := h.alloc (.cells #[pV p] 90)
  have hdp := h.deep
  have S := Lib.hid (sign_any h1)
  have hmf : ∀ (fn : Fn) (first cap : Array Value) (w : World), (Instr.makeFunc fn first cap).run Tryz.prog w = .ok (.func fn first cap) w := fun _ _ _ _ => rfl
  by_cases hs : sgnT ts = s
  · have hb := beq_yes hs
    have hq : (w.alloc (.cells #[pV p] 90)).cell? ⟨p, 1, none⟩ = some (iV d) := by obtain ⟨g, o, c, m, h'⟩ := h1; exact h'.c1
    by_cases hd : d = 64
    · rw [if_pos ⟨hs, hd⟩]
      have F := Lib.hid (fault_any h1)
      have hd' : ((d : Int) == 64) = true := by rw [hd]; rfl
      have B := Lib.hid ((bad_new h1 [p] 3 (linT ts) 31).after ((Past.refl [p] w).alloc _) (fun i hi => .inl hi))
      have hz : (w.alloc (.cells #[pV p] 90)).heap.size = w.heap.size + 1 := by simp
      rw [hz] at B
      clear hs hd hne h1
      go_enter Tryz.func110, Tryz.ntmps110
      go_wp2_with (first
        | (go_at_call 63; with_reducible refine S.out.mono ?_; rintro e w1 ⟨rfl, hq⟩; obtain rfl := hq.symm)
        | (go_at_call 24; with_reducible refine (F.out _).mono ?_; rintro e w2 ⟨rfl, rfl⟩))
      exact ⟨rfl, B.out⟩
    · rw [if_neg (fun e => hd e.2)]
      have hd' : ((d : Int) == 64) = false := beq_eq_false_iff_ne.2 (by omega)
      have W := want_any s hne h1
      have hwt : wantT s ts = .ok .nil ts.tail := by unfold wantT; rw [if_pos hs]
      rw [hwt] at W ⊢
      have W := Lib.hid W
      have K := Lib.hid (fun w2 (hp2 : PAt w2 p d ts.tail) (hw2 : Past [p] (w.alloc (.cells #[pV p] 90)) w2) => opened (w := w) (w2 := w2) hp hp2 hw2 (by omega))
      clear hs hwt hne h1 h
      go_enter Tryz.func110, Tryz.ntmps110
      go_wp2_with (first
        | (go_at_call 63; with_reducible refine S.out.mono ?_; rintro e w1 ⟨rfl, hq⟩; obtain rfl := hq.symm)
        | (go_at_call 66; (with_reducible refine W.out.mono ?_); rintro e w2 ⟨_, rfl, rfl, hp2, hw2⟩; obtain ⟨k0, k1, k2, k3⟩ := K.out _ hp2 hw2; clear hp2 hw2))
      go_ret
      exact ⟨_, rfl, ⟨w.heap.size, rfl, Nat.le_refl _, k3.2.2⟩, k3.1, k3.2.1⟩
  · rw [if_neg (fun e => hs e.1)]
    have W := want_any s hne h1
    have hwt : wantT s ts = .bad 4 (linT ts) := by unfold wantT; rw [if_neg hs]
    rw [hwt] at W ⊢
    have W := Lib.hid W
    have hb := beq_no hs
    clear hs hwt hne h1 h
    go_enter Tryz.func110, Tryz.ntmps110
    go_wp2_with (first
      | (go_at_call 63; with_reducible refine S.out.mono ?_; rintro e w1 ⟨rfl, hq⟩; obtain rfl := hq.symm)
      | (go_at_call 66; (with_reducible refine W.out.mono ?_); rintro e w2 hB; obtain ⟨b, rfl, hb1, hb2, hb3, hb4⟩ := hB))
    exact ⟨rfl, Bad.after ⟨b, rfl, hb1, hb2, hb3, hb4⟩ ((Past.refl _ _).alloc _) (fun i hi => .inl hi)⟩
end Go.Proofs.YtebkdegcifkigaaGreatDoor.P5
