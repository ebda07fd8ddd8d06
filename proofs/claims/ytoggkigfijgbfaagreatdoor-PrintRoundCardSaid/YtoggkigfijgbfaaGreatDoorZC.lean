/- The parser's small calls: what comes next, taking it, wanting it, a fault at it; opening and closing. | What each call of the parser answers, at a fuel: the plain parser's answer. | The parser's small calls, second part: where a block ends, constants, words, names. | A word as an expression; a name as one. -/
import Derived.Test.YtoggkigfijgbfaaGreatDoorZAbb
import Derived.Test.YtoggkigfijgbfaaGreatDoorZB
import Derived.RegionTactic
import Derived.WalkMore
namespace Go.Proofs.YtoggkigfijgbfaaGreatDoor.P5
set_option maxRecDepth 20000
open Go.RowKit Go.Maps

set_option maxHeartbeats 1000000 in
theorem line_any {w : World} {p d : Nat} {ts : List Tok} (h : PAt w p d ts) : Calls Tryz.prog 49 #[pV p] w fun e w' => e = .returned (iV (linT ts)) ∧ w' = w := by
  obtain ⟨g, o, c, m, h⟩ := h
  have c0 := h.c0
  obtain ⟨hl, hh⟩ := h.hd
  have h3 := hh.c3
  have hb : (0 : Int) < (ts.length : Int) := by omega
  clear h hh
  go_enter Tryz.func49, Tryz.ntmps49
  go_wp2
  go_ret
  exact ⟨rfl, rfl⟩
set_option maxHeartbeats 1000000 in
theorem sign_any {w : World} {p d : Nat} {ts : List Tok} (h : PAt w p d ts) : Calls Tryz.prog 84 #[pV p] w fun e w' => e = .returned (sV (sgnT ts)) ∧ w' = w := by
  obtain ⟨g, o, c, m, h⟩ := h
  have c0 := h.c0
  obtain ⟨hl, hh⟩ := h.hd
  have h0 := hh.c0
  have h1 := hh.c1
  have hb : (0 : Int) < (ts.length : Int) := by omega
  unfold sgnT
  by_cases hk : (hdT ts).kind = 4
  · rw [if_pos hk]
    have hk' : (((hdT ts).kind : Int) != 4) = false := by rw [hk]; rfl
    generalize (hdT ts).text = tx at *
    generalize (hdT ts).kind = kk at *
    clear h hh hk
    go_enter Tryz.func84, Tryz.ntmps84
    go_wp2
    go_ret
    exact ⟨rfl, rfl⟩
  · rw [if_neg hk]
    have hk' : (((hdT ts).kind : Int) != 4) = true := by simp; omega
    generalize (hdT ts).text = tx at *
    generalize (hdT ts).kind = kk at *
    clear h hh hk
    go_enter Tryz.func84, Tryz.ntmps84
    go_wp2
    go_ret
    exact ⟨rfl, rfl⟩
theorem results_cell {fn : Func} {p : Tmp} {ty : TypeId} (h : fn.results = #[.cell p ty]) (tmps : Array Value) (P : Program) (w : World) :
    (results fn tmps).run P w = ((asAddr (tmps.getD p undef)).run P w).andThen fun a w₁ => (loadVar ty a).run P w₁ := by
  simp only [results, h]
  simp [Sem.run_bind, Result.andThen]
theorem ret_tok_cell {fn : Func} {R : Ending → World → Prop} {a : Act} {W : World} {p : Tmp} {b : Nat} {v0 v1 v2 v3 : Value} (h : fn.results = #[.cell p 66]) (hp : a.tmps.getD p undef = .pointer (some ⟨b, 0, none⟩))
    (h0 : W.cell? ⟨b, 0, none⟩ = some v0) (h1 : W.cell? ⟨b, 1, none⟩ = some v1) (h2 : W.cell? ⟨b, 2, none⟩ = some v2) (h3 : W.cell? ⟨b, 3, none⟩ = some v3) (hd : a.defers = [])
    (hR : R (.returned (.agg #[v0, v1, v2, v3])) W) : bodyPost Tryz.prog fn R .ret a W := by
  refine bodyPost_ret (v := .agg #[v0, v1, v2, v3]) ?_ hd hR
  rw [results_cell h, hp]
  simp only [asAddr, Sem.run_pure, Result.andThen_ok, load_tok h0 h1 h2 h3]
set_option maxHeartbeats 2000000 in
theorem take_any {w : World} {p d : Nat} {ts : List Tok} (h : PAt w p d ts) (hk : (hdT ts).kind ≠ 5) : Calls Tryz.prog 141 #[pV p] w fun e w' => e = .returned (.agg #[iV (hdT ts).kind, sV (hdT ts).text, iV (hdT ts).num, iV (hdT ts).line]) ∧ PAt w' p d ts.tail ∧ Past [p] w w' := by
  obtain ⟨g, o, c, m, h⟩ := h
  have hp := h.lt
  have c0 := h.c0
  have f0 := h.warm 0
  obtain ⟨hl, hh⟩ := h.hd
  have h0 := hh.c0
  have h1 := hh.c1
  have h2 := hh.c2
  have h3 := hh.c3
  have hs := h.second hk
  have hg : g < w.heap.size := by have := h.gp; omega
  have hb : (0 : Int) < (ts.length : Int) := by omega
  have hb1 : (1 : Int) ≤ (ts.length : Int) := by omega
  have hcap := h.cap
  have hsm := h.small
  have hc1 : ¬ c = 1 := by omega
  have T := Lib.hid (h.taken hk)
  have htl : ts.tail.length = ts.length - 1 := by simp
  rw [htl] at T
  generalize (hdT ts).text = tx at *
  generalize (hdT ts).kind = kk at *
  generalize (hdT ts).num = nn at *
  generalize (hdT ts).line = ll at *
  clear h hh hs
  go_enter Tryz.func141, Tryz.ntmps141
  go_wp2
  refine ret_tok_cell rfl rfl (b := w.heap.size) (v0 := iV kk) (v1 := sV tx) (v2 := iV nn) (v3 := iV ll) (by simp [go_sem]) (by simp [go_sem]) (by simp [go_sem]) (by simp [go_sem]) rfl ?_
  exact ⟨rfl, PAt.alloc (PAt.alloc ⟨_, _, _, _, T.out⟩ _) _, (((Past.refl _ _).setCell (.inl (by simp)) _).alloc _).alloc _⟩
/-- The panic of the deferred closures: how much is open is one less. -/
theorem close_any {w : World} {p q : Nat} {d : Int} (u : FrameMode) (hq : w.cell? ⟨q, 0, none⟩ = some (pV p)) (hd : w.cell? ⟨p, 1, none⟩ = some (iV d)) (hf : w.frozen? ⟨p, 1, none⟩ = false) :
    CallsD Tryz.prog 188 #[pV q] u w fun e u' w' => u' = u ∧ e = .returned (.tuple #[]) ∧ w' = w.setCell ⟨p, 1, none⟩ (iV (wrap64 (d - 1))) := by
  go_enter_d Tryz.func188, Tryz.ntmps188
  go_wp2
  refine bodyPost_end (results_none rfl _ _ _) rfl ?_
  exact ⟨rfl, rfl⟩
theorem fault_any {w : World} {p d : Nat} {ts : List Tok} (h : PAt w p d ts) (c : Int) : Calls Tryz.prog 27 #[pV p, iV c] w fun e w' => e = .returned (pV w.heap.size) ∧ w' = w.alloc (.cells #[iV c, iV (linT ts)] 31) := by
  have L := Lib.hid (line_any h)
  go_enter Tryz.func27, Tryz.ntmps27
  go_wp2_with (go_at_call 49; with_reducible refine L.out.mono ?_; rintro e w1 ⟨rfl, hq⟩; obtain rfl := hq.symm)
  go_ret
  exact ⟨rfl, rfl⟩
theorem bad_new {w : World} {p d : Nat} {ts : List Tok} (h : PAt w p d ts) (E : List Nat) (c : Int) (l : Nat) (T : TypeId) : Bad p E c l w (panicV w.heap.size) (w.alloc (.cells #[iV c, iV l] T)) :=
  ⟨w.heap.size, rfl, Nat.le_refl _, ⟨by simp [go_sem], by simp [go_sem]⟩, (Past.refl _ _).alloc _, (h.alloc _).warm⟩
theorem beq_no {a b : List UInt8} (h : a ≠ b) : (a == b) = false := beq_eq_false_iff_ne.2 h
theorem beq_yes {a b : List UInt8} (h : a = b) : (a == b) = true := beq_iff_eq.2 h
theorem want_any {w : World} {p d : Nat} {ts : List Tok} (s : List UInt8) (hne : s ≠ []) (h : PAt w p d ts) : Calls Tryz.prog 87 #[pV p, sV s] w fun e w' => Ends p d [p] (wantT s ts) (fun _ _ v => v = .tuple #[]) w e w' := by
  have S := Lib.hid (sign_any h)
  unfold wantT
  by_cases hs : sgnT ts = s
  · have hk : (hdT ts).kind ≠ 5 := by have := (sgn_sign (by rw [hs]; exact hne)).1; omega
    have T := Lib.hid (take_any h hk)
    rw [if_pos hs]
    have hb := beq_yes hs
    clear hs
    go_enter Tryz.func87, Tryz.ntmps87
    go_wp2_with (first
      | (go_at_call 84; with_reducible refine S.out.mono ?_; rintro e w1 ⟨rfl, hq⟩; obtain rfl := hq.symm)
      | (go_at_call 141; with_reducible refine T.out.mono ?_; rintro e w2 ⟨rfl, hp2, hw2⟩))
    refine bodyPost_end (results_none rfl _ _ _) rfl ?_
    exact ⟨_, rfl, rfl, hp2, hw2⟩
  · have F := Lib.hid (fault_any h)
    rw [if_neg hs]
    have hb := beq_no hs
    have B := Lib.hid (bad_new h [p] 4 (linT ts) 31)
    clear hs
    go_enter Tryz.func87, Tryz.ntmps87
    go_wp2_with (first
      | (go_at_call 84; with_reducible refine S.out.mono ?_; rintro e w1 ⟨rfl, hq⟩; obtain rfl := hq.symm)
      | (go_at_call 27; with_reducible refine (F.out _).mono ?_; rintro e w2 ⟨rfl, rfl⟩))
    exact ⟨rfl, B.out⟩
theorem field_text (a b c d : Value) (w : World) : (Instr.field 66 (.agg #[a, b, c, d]) 1).run Tryz.prog w = .ok b w := by kernel_rfl
theorem name_any {w : World} {p d : Nat} {ts : List Tok} (h : PAt w p d ts) : Calls Tryz.prog 140 #[pV p] w fun e w' => Ends p d [p] (nameT ts) (fun x _ v => v = sV (textT x)) w e w' := by
  unfold nameT
  have h' := h
  obtain ⟨g, o, c, m, h'⟩ := h'
  have c0 := h'.c0
  obtain ⟨hl, hh⟩ := h'.hd
  have h0 := hh.c0
  have hb : (0 : Int) < (ts.length : Int) := by omega
  by_cases hs : (hdT ts).kind = 1
  · have hk : (hdT ts).kind ≠ 5 := by omega
    have T := Lib.hid (take_any h hk)
    have FT := field_text
    rw [if_pos hs]
    have hq : (((hdT ts).kind : Int) != 1) = false := by rw [hs]; rfl
    generalize (hdT ts).kind = kk at *
    clear hs h' hh h
    go_enter Tryz.func140, Tryz.ntmps140
    go_wp2_with (first
      | (go_at_call 141; with_reducible refine T.out.mono ?_; rintro e w2 ⟨rfl, hp2, hw2⟩))
    go_ret
    exact ⟨_, rfl, rfl, hp2, hw2⟩
  · have F := Lib.hid (fault_any h)
    rw [if_neg hs]
    have hq : (((hdT ts).kind : Int) != 1) = true := by simp; omega
    have B := Lib.hid (bad_new h [p] 4 (linT ts) 31)
    generalize (hdT ts).kind = kk at *
    clear hs h' hh h
    go_enter Tryz.func140, Tryz.ntmps140
    go_wp2_with (first
      | (go_at_call 27; with_reducible refine (F.out _).mono ?_; rintro e w2 ⟨rfl, rfl⟩))
    exact ⟨rfl, B.out⟩
/-- What 'begin' answers: the closure that closes again. -/
abbrev closeV (q : Nat) : Value := .func (.func 188) #[] #[pV q]
/-- Behind the count of what is open. -/
theorem opened {w w2 : World} {p d : Nat} {ts : List Tok} (hp : p < w.heap.size) (hp2 : PAt w2 p d ts) (hw2 : Past [p] (w.alloc (.cells #[pV p] 99)) w2) (hd : d + 1 ≤ 64) :
    w2.cell? ⟨w.heap.size, 0, none⟩ = some (pV p) ∧ w2.cell? ⟨p, 1, none⟩ = some (iV d) ∧ w2.frozen? ⟨p, 1, none⟩ = false ∧
    PAt (w2.setCell ⟨p, 1, none⟩ (iV (d + 1))) p (d + 1) ts ∧ Past [p] w (w2.setCell ⟨p, 1, none⟩ (iV (d + 1))) ∧ (w2.setCell ⟨p, 1, none⟩ (iV (d + 1))).cell? ⟨w.heap.size, 0, none⟩ = some (pV p) := by
  obtain ⟨g, o, c, m, hP⟩ := hp2
  have q : w2.cell? ⟨w.heap.size, 0, none⟩ = some (pV p) := hw2.cell_some (by simp [go_sem]) (by simp; omega)
  refine ⟨q, hP.c1, hP.warm 1, ⟨g, o, c, m, hP.opens (d + 1) hd⟩, ?_, (cell_set_block (by omega) _).trans q⟩
  exact (((Past.refl [p] w).alloc _).trans hw2).setCell (.inl (by simp)) _
set_option maxHeartbeats 1000000 in
theorem begin_any {w : World} {p d : Nat} {ts : List Tok} (s : List UInt8) (hne : s ≠ []) (h : PAt w p d ts) : Calls Tryz.prog 143 #[pV p, sV s] w fun e w' => Ends p (d + 1) [p] (beginT s d ts) (fun _ w' v => ∃ q, v = closeV q ∧ w.heap.size ≤ q ∧ w'.cell? ⟨q, 0, none⟩ = some (pV p)) w e w' := by
  unfold beginT
  have hp := h.lt
  have h1 := h.alloc (.cells #[pV p] 99)
  have hdp := h.deep
  have S := Lib.hid (sign_any h1)
  have hmf : ∀ (fn : Fn) (first cap : Array Value) (w : World), (Instr.makeFunc fn first cap).run Tryz.prog w = .ok (.func fn first cap) w := fun _ _ _ _ => rfl
  by_cases hs : sgnT ts = s
  · have hb := beq_yes hs
    have hq : (w.alloc (.cells #[pV p] 99)).cell? ⟨p, 1, none⟩ = some (iV d) := by obtain ⟨g, o, c, m, h'⟩ := h1; exact h'.c1
    by_cases hd : d = 64
    · rw [if_pos ⟨hs, hd⟩]
      have F := Lib.hid (fault_any h1)
      have hd' : ((d : Int) == 64) = true := by rw [hd]; rfl
      have B := Lib.hid ((bad_new h1 [p] 3 (linT ts) 31).after ((Past.refl [p] w).alloc _) (fun i hi => .inl hi))
      have hz : (w.alloc (.cells #[pV p] 99)).heap.size = w.heap.size + 1 := by simp
      rw [hz] at B
      clear hs hd hne h1
      go_enter Tryz.func143, Tryz.ntmps143
      go_wp2_with (first
        | (go_at_call 84; with_reducible refine S.out.mono ?_; rintro e w1 ⟨rfl, hq⟩; obtain rfl := hq.symm)
        | (go_at_call 27; with_reducible refine (F.out _).mono ?_; rintro e w2 ⟨rfl, rfl⟩))
      exact ⟨rfl, B.out⟩
    · rw [if_neg (fun e => hd e.2)]
      have hd' : ((d : Int) == 64) = false := beq_eq_false_iff_ne.2 (by omega)
      have W := want_any s hne h1
      have hwt : wantT s ts = .ok .nil ts.tail := by unfold wantT; rw [if_pos hs]
      rw [hwt] at W ⊢
      have W := Lib.hid W
      have K := Lib.hid (fun w2 (hp2 : PAt w2 p d ts.tail) (hw2 : Past [p] (w.alloc (.cells #[pV p] 99)) w2) => opened (w := w) (w2 := w2) hp hp2 hw2 (by omega))
      clear hs hwt hne h1 h
      go_enter Tryz.func143, Tryz.ntmps143
      go_wp2_with (first
        | (go_at_call 84; with_reducible refine S.out.mono ?_; rintro e w1 ⟨rfl, hq⟩; obtain rfl := hq.symm)
        | (go_at_call 87; (with_reducible refine W.out.mono ?_); rintro e w2 ⟨_, rfl, rfl, hp2, hw2⟩; obtain ⟨k0, k1, k2, k3⟩ := K.out _ hp2 hw2; clear hp2 hw2))
      go_ret
      exact ⟨_, rfl, ⟨w.heap.size, rfl, Nat.le_refl _, k3.2.2⟩, k3.1, k3.2.1⟩
  · rw [if_neg (fun e => hs e.1)]
    have W := want_any s hne h1
    have hwt : wantT s ts = .bad 4 (linT ts) := by unfold wantT; rw [if_neg hs]
    rw [hwt] at W ⊢
    have W := Lib.hid W
    have hb := beq_no hs
    clear hs hwt hne h1 h
    go_enter Tryz.func143, Tryz.ntmps143
    go_wp2_with (first
      | (go_at_call 84; with_reducible refine S.out.mono ?_; rintro e w1 ⟨rfl, hq⟩; obtain rfl := hq.symm)
      | (go_at_call 87; (with_reducible refine W.out.mono ?_); rintro e w2 hB; obtain ⟨b, rfl, hb1, hb2, hb3, hb4⟩ := hB))
    exact ⟨rfl, Bad.after ⟨b, rfl, hb1, hb2, hb3, hb4⟩ ((Past.refl _ _).alloc _) (fun i hi => .inl hi)⟩
end Go.Proofs.YtoggkigfijgbfaaGreatDoor.P5
namespace Go.Proofs.YtoggkigfijgbfaaGreatDoor.P5
set_option maxRecDepth 20000
open Go.RowKit Go.Maps

def isEx : Tree → Bool
  | .ex _ _ _ _ _ _ _ _ _ _ => true
  | _ => false
def isSt : Tree → Bool
  | .st _ _ _ _ _ _ _ _ => true
  | _ => false
/-- An expression; a statement; a slice; an expression and whether it stands in parentheses; a name and its function; a key, or none, and an item. -/
def VE (lo : Nat) (x : Tree) (w : World) (v : Value) : Prop := AtS lo w x v ∧ isEx x = true
def VS (lo : Nat) (x : Tree) (w : World) (v : Value) : Prop := AtS lo w x v ∧ isSt x = true
def VL (lo : Nat) (x : Tree) (w : World) (v : Value) : Prop := SlS lo w x v
def VP (lo : Nat) (x : Tree) (w : World) (v : Value) : Prop := ∃ y b u, x = .cons (flagT b) y ∧ v = .tuple #[u, .bool b] ∧ VE lo y w u
def VN (lo : Nat) (x : Tree) (w : World) (v : Value) : Prop := ∃ y z u t, x = .cons y z ∧ v = .tuple #[u, t] ∧ VE lo y w u ∧ VE lo z w t
def VI (lo : Nat) (x : Tree) (w : World) (v : Value) : Prop := ∃ y z o t, x = .cons y z ∧ v = .tuple #[.pointer o, t] ∧ AtS lo w y (.pointer o) ∧ VE lo z w t
/-- A statement that is filled in. -/
def VF (b : Nat) (x : Tree) (w : World) (v : Value) : Prop := v = .tuple #[] ∧ AtS b w x (pV b) ∧ isSt x = true
/-- .. of which B may still be set. -/
def VC (b : Nat) (x : Tree) (w : World) (v : Value) : Prop := v = .tuple #[] ∧ ∃ l e a vb vx, x = .st 6 l [] .nil e .nil a .nil ∧ StC w b 6 l [] (.pointer none) vb (.pointer none) vx (.slice none 0 0) ∧ VE (b + 1) e w vb ∧ VL (b + 1) a w vx
/-- A new statement. -/
def NewSt (w : World) (b : Nat) (l : Nat) : Prop := StC w b 0 l [] (.pointer none) (.pointer none) (.pointer none) (.slice none 0 0) (.slice none 0 0)
theorem VE.past {E : List Nat} {lo lo' : Nat} {w w' : World} {x : Tree} {v : Value} (h : VE lo x w v) (hp : Past E w w') (hE : ∀ i, i ∈ E → i < lo ∨ w.heap.size ≤ i) (hl : lo' ≤ lo) : VE lo' x w' v := ⟨at_past h.1 hp hE hl, h.2⟩
theorem VL.past {E : List Nat} {lo lo' : Nat} {w w' : World} {x : Tree} {v : Value} (h : VL lo x w v) (hp : Past E w w') (hE : ∀ i, i ∈ E → i < lo ∨ w.heap.size ≤ i) (hl : lo' ≤ lo) : VL lo' x w' v := sl_past h hp hE hl
theorem VE.ptr {lo : Nat} {x : Tree} {w : World} {v : Value} (h : VE lo x w v) : ∃ u, v = pV u := by
  obtain ⟨h, hx⟩ := h
  cases x with
  | ex => obtain ⟨g, _, _, _, _, _, _, _, _, _, _, rfl, _⟩ := h; exact ⟨g, rfl⟩
  | _ => cases hx
theorem VE.name {lo : Nat} {x : Tree} {w : World} {v : Value} (h : VE lo x w v) : ∃ u, v = pV u ∧ w.cell? ⟨u, 3, none⟩ = some (sV (textT x)) ∧ w.cell? ⟨u, 0, none⟩ = some (iV (kindT x)) ∧ lo ≤ u ∧ u < w.heap.size := by
  obtain ⟨h, hx⟩ := h
  cases x with
  | ex => obtain ⟨g, _, _, _, _, _, _, _, _, _, _, rfl, hS, hc, _⟩ := h; exact ⟨g, rfl, hc.c3, hc.c0, hS.1, hS.2⟩
  | _ => cases hx
theorem VS.name {lo : Nat} {x : Tree} {w : World} {v : Value} (h : VS lo x w v) : ∃ u, v = pV u ∧ w.cell? ⟨u, 0, none⟩ = some (iV (kindT x)) ∧ lo ≤ u ∧ u < w.heap.size := by
  obtain ⟨h, hx⟩ := h
  cases x with
  | st => obtain ⟨g, _, _, _, _, _, _, _, rfl, hS, hc, _⟩ := h; exact ⟨g, rfl, hc.c0, hS.1, hS.2⟩
  | _ => cases hx
theorem VS.ptr {lo : Nat} {x : Tree} {w : World} {v : Value} (h : VS lo x w v) : ∃ u, v = pV u := by
  obtain ⟨h, hx⟩ := h
  cases x with
  | st => obtain ⟨g, _, _, _, _, _, _, _, rfl, _⟩ := h; exact ⟨g, rfl⟩
  | _ => cases hx
theorem VL.sl {lo : Nat} {x : Tree} {w : World} {v : Value} (h : VL lo x w v) : ∃ A c, v = .slice A (lenT x) c := by
  obtain ⟨A, c, rfl, _⟩ := h
  exact ⟨A, c, rfl⟩
theorem VN.past {E : List Nat} {lo lo' : Nat} {w w' : World} {x : Tree} {v : Value} (h : VN lo x w v) (hp : Past E w w') (hE : ∀ i, i ∈ E → i < lo ∨ w.heap.size ≤ i) (hl : lo' ≤ lo) : VN lo' x w' v := by
  obtain ⟨y, z, u, t, rfl, rfl, h1, h2⟩ := h
  exact ⟨y, z, u, t, rfl, rfl, h1.past hp hE hl, h2.past hp hE hl⟩
/-- The contracts at a fuel. -/
structure Spec (n : Nat) : Prop where
  operation : ∀ {w : World} {p d : Nat} {ts : List Tok} (least : Nat) (k : Int), k = least → PAt w p d ts → 1 ≤ least → least ≤ 11 → parseF n (.operation least) d ts ≠ .out → Calls Tryz.prog 187 #[pV p, iV k] w (Ends p d [p] (parseF n (.operation least) d ts) (VE w.heap.size) w)
  behind : ∀ {w : World} {p d : Nat} {ts : List Tok} (lo : Nat) (left : Tree) (vl : Value), PAt w p d ts → p < lo → lo ≤ w.heap.size → VE lo left w vl → 1 ≤ strengthT (sgnT ts) → parseF n (.behind left) d ts ≠ .out → Calls Tryz.prog 230 #[pV p, vl] w (Ends p d [p] (parseF n (.behind left) d ts) (VE lo) w)
  operand : ∀ {w : World} {p d : Nat} {ts : List Tok}, PAt w p d ts → parseF n .operand d ts ≠ .out → Calls Tryz.prog 229 #[pV p] w (Ends p d [p] (parseF n .operand d ts) (VE w.heap.size) w)
  postExpr : ∀ {w : World} {p d : Nat} {ts : List Tok}, PAt w p d ts → parseF n .postExpr d ts ≠ .out → Calls Tryz.prog 147 #[pV p] w (Ends p d [p] (parseF n .postExpr d ts) (VP w.heap.size) w)
  primary : ∀ {w : World} {p d : Nat} {ts : List Tok}, PAt w p d ts → parseF n .primary d ts ≠ .out → Calls Tryz.prog 191 #[pV p] w (Ends p d [p] (parseF n .primary d ts) (VE w.heap.size) w)
  enclosed : ∀ {w : World} {p d : Nat} {ts : List Tok} (first last : List UInt8), first ≠ [] → last ≠ [] → PAt w p d ts → parseF n (.enclosed first last) d ts ≠ .out → Calls Tryz.prog 192 #[pV p, sV first, sV last] w (Ends p d [p] (parseF n (.enclosed first last) d ts) (VE w.heap.size) w)
  args : ∀ {w : World} {p d : Nat} {ts : List Tok}, PAt w p d ts → parseF n (.list [40] [41] 0) d ts ≠ .out → Calls Tryz.prog 193 #[pV p] w (Ends p d [p] (parseF n (.list [40] [41] 0) d ts) (VL w.heap.size) w)
  function : ∀ {w : World} {p d : Nat} {ts : List Tok}, PAt w p d ts → parseF n .function d ts ≠ .out → Calls Tryz.prog 231 #[pV p] w (Ends p d [p] (parseF n .function d ts) (VE w.heap.size) w)
  namedFunction : ∀ {w : World} {p d : Nat} {ts : List Tok}, PAt w p d ts → parseF n .namedFunction d ts ≠ .out → Calls Tryz.prog 93 #[pV p] w (Ends p d [p] (parseF n .namedFunction d ts) (VN w.heap.size) w)
  body : ∀ {w : World} {p d : Nat} {ts : List Tok} (line : Nat), PAt w p d ts → parseF n (.body line) d ts ≠ .out → Calls Tryz.prog 146 #[pV p, iV line] w (Ends p d [p] (parseF n (.body line) d ts) (VE w.heap.size) w)
  table : ∀ {w : World} {p d : Nat} {ts : List Tok}, PAt w p d ts → parseF n .table d ts ≠ .out → Calls Tryz.prog 232 #[pV p] w (Ends p d [p] (parseF n .table d ts) (VE w.heap.size) w)
  item : ∀ {w : World} {p d : Nat} {ts : List Tok}, PAt w p d ts → parseF n .item d ts ≠ .out → Calls Tryz.prog 255 #[pV p] w (Ends p d [p] (parseF n .item d ts) (VI w.heap.size) w)
  block : ∀ {w : World} {p d : Nat} {ts : List Tok} (word : List UInt8), word ≠ [] → PAt w p d ts → parseF n (.block word) d ts ≠ .out → Calls Tryz.prog 86 #[pV p, sV word] w (Ends p d [p] (parseF n (.block word) d ts) (VL w.heap.size) w)
  stmts : ∀ {w : World} {p d : Nat} {ts : List Tok}, PAt w p d ts → parseF n .stmts d ts ≠ .out → Calls Tryz.prog 26 #[pV p] w (Ends p d [p] (parseF n .stmts d ts) (VL w.heap.size) w)
  stmt : ∀ {w : World} {p d : Nat} {ts : List Tok}, PAt w p d ts → parseF n .stmt d ts ≠ .out → Calls Tryz.prog 48 #[pV p] w (Ends p d [p] (parseF n .stmt d ts) (VS w.heap.size) w)
  local_ : ∀ {w : World} {p d b l : Nat} {ts : List Tok}, PAt w p d ts → p < b → NewSt w b l → parseF n (.local_ l) d ts ≠ .out → Calls Tryz.prog 85 #[pV p, pV b] w (Ends p d [p, b] (parseF n (.local_ l) d ts) (VF b) w)
  while_ : ∀ {w : World} {p d b l : Nat} {ts : List Tok}, PAt w p d ts → p < b → NewSt w b l → parseF n (.while_ l) d ts ≠ .out → Calls Tryz.prog 88 #[pV p, pV b] w (Ends p d [p, b] (parseF n (.while_ l) d ts) (VF b) w)
  count : ∀ {w : World} {p d b l : Nat} {ts : List Tok}, PAt w p d ts → p < b → NewSt w b l → parseF n (.count l) d ts ≠ .out → Calls Tryz.prog 89 #[pV p, pV b] w (Ends p d [p, b] (parseF n (.count l) d ts) (VF b) w)
  choice : ∀ {w : World} {p d b l : Nat} {ts : List Tok}, PAt w p d ts → p < b → NewSt w b l → parseF n (.choice [105, 102] l) d ts ≠ .out → Calls Tryz.prog 90 #[pV p, pV b] w (Ends p d [p, b] (parseF n (.choice [105, 102] l) d ts) (VF b) w)
  condition : ∀ {w : World} {p d b l : Nat} {ts : List Tok} (word : List UInt8), word ≠ [] → PAt w p d ts → p < b → NewSt w b l → parseF n (.condition l word) d ts ≠ .out → Calls Tryz.prog 144 #[pV p, pV b, sV word] w (Ends p d [p, b] (parseF n (.condition l word) d ts) (VC b) w)
  result : ∀ {w : World} {p d b l : Nat} {ts : List Tok}, PAt w p d ts → p < b → NewSt w b l → parseF n (.result l) d ts ≠ .out → Calls Tryz.prog 91 #[pV p, pV b] w (Ends p d [p, b] (parseF n (.result l) d ts) (VF b) w)
  try_ : ∀ {w : World} {p d b l : Nat} {ts : List Tok}, PAt w p d ts → p < b → NewSt w b l → parseF n (.try_ l) d ts ≠ .out → Calls Tryz.prog 92 #[pV p, pV b] w (Ends p d [p, b] (parseF n (.try_ l) d ts) (VF b) w)
  post : ∀ {w : World} {p d b l : Nat} {ts : List Tok}, PAt w p d ts → p < b → NewSt w b l → parseF n (.post l) d ts ≠ .out → Calls Tryz.prog 94 #[pV p, pV b] w (Ends p d [p, b] (parseF n (.post l) d ts) (VF b) w)
/-- Behind a fault the closure that was deferred closes again, and the fault goes on. -/
theorem door_bad {fn : Func} {tmps : Array Value} {p d q b : Nat} {E : List Nat} {V : Tree → World → Value → Prop} {c : Int} {l : Nat} {w w2 : World} (hq : w2.cell? ⟨q, 0, none⟩ = some (pV p)) (hb : w.heap.size ≤ b) (hf : FaultAt w2 b c l) (hw : Past E w w2) (hW : Warm w2 p) (hpE : p ∈ E) (hp : p < w.heap.size) :
    Leaves Tryz.prog fn tmps (Ends p d E (.bad c l) V w) [{ target := .fn (.func 188) #[pV q], args := #[] }] (.panicking [{ v := .iface 59 (pV b), recovered := false }]) w2 := by
  obtain ⟨⟨k, hk⟩, hz⟩ := hW
  refine leaves_cons (f := 188) (args := #[pV q]) (by simp) (by simp [go_sem]) ?_
  refine (close_any _ hq hk (hz 1)).mono ?_
  rintro e u' w' ⟨rfl, rfl, rfl⟩
  show Ends p d E (.bad c l) V w (.panicked [{ v := .iface 59 (pV b), recovered := false }]) _
  exact ⟨b, rfl, hb, hf.keep (Below.heap_setCell _ _ _ _ (show b ≠ p by omega)), hw.setCell (.inl hpE) _, ⟨_, World.cell?_setCell_same _ _ _ hk⟩, warm_set hz _ _⟩
/-- Behind a call that returns it closes again. -/
theorem door_ok {fn : Func} {tmps : Array Value} {p d q : Nat} {E : List Nat} {V : Tree → World → Value → Prop} {x : Tree} {ts : List Tok} {v : Value} {w w2 : World} (hq : w2.cell? ⟨q, 0, none⟩ = some (pV p)) (hP : PAt w2 p (d + 1) ts) (hw : Past E w w2) (hpE : p ∈ E)
    (hr : ∀ W, (results fn tmps).run Tryz.prog W = .ok v W) (hV : ∀ W, Past [p] w2 W → V x W v) :
    Leaves Tryz.prog fn tmps (Ends p d E (.ok x ts) V w) [{ target := .fn (.func 188) #[pV q], args := #[] }] .returning w2 := by
  obtain ⟨g, o, c, m, h⟩ := hP
  refine leaves_cons (f := 188) (args := #[pV q]) (by simp) (by simp [go_sem]) ?_
  refine (close_any _ hq h.c1 (h.warm 1)).mono ?_
  rintro e u' w' ⟨rfl, rfl, rfl⟩
  have hd := h.deep
  have e1 : wrap64 (((d + 1 : Nat) : Int) - 1) = (d : Int) := by rw [show (((d + 1 : Nat) : Int) - 1) = (d : Int) by omega]; unfold wrap64; omega
  rw [e1]
  exact ⟨v, hr _, v, rfl, hV _ ((Past.refl _ _).setCell (.inl (by simp)) _), ⟨g, o, c, m, h.opens d (by omega)⟩, hw.setCell (.inl hpE) _⟩
theorem Spec.expr {n : Nat} (S : Spec n) {w : World} {p d : Nat} {ts : List Tok} (h : PAt w p d ts) (hD : parseF n (.operation 1) d ts ≠ .out) : Calls Tryz.prog 142 #[pV p] w (Ends p d [p] (parseF n (.operation 1) d ts) (VE w.heap.size) w) := by
  have O := S.operation 1 1 rfl h (by omega) (by omega) hD
  have O := Lib.hid O
  cases hr : parseF n (.operation 1) d ts with
  | out => exact absurd hr hD
  | bad c l =>
    rw [hr] at O
    clear hr hD S h
    go_enter Tryz.func142, Tryz.ntmps142
    go_wp2_with (first
      | (go_at_call 187; (with_reducible refine O.out.mono ?_); rintro e w2 hB; obtain ⟨b, rfl, hb1, hb2, hb3, hb4⟩ := hB))
    exact ⟨rfl, b, rfl, hb1, hb2, hb3, hb4⟩
  | ok x ts2 =>
    rw [hr] at O
    clear hr hD S h
    go_enter Tryz.func142, Tryz.ntmps142
    go_wp2_with (first
      | (go_at_call 187; (with_reducible refine O.out.mono ?_); rintro e w2 ⟨v, rfl, hv, hp2, hw2⟩))
    go_ret
    exact ⟨v, rfl, hv, hp2, hw2⟩
end Go.Proofs.YtoggkigfijgbfaaGreatDoor.P5
namespace Go.Proofs.YtoggkigfijgbfaaGreatDoor.P5
set_option maxRecDepth 20000
open Go.RowKit Go.Maps

theorem ends_any {w : World} {p d : Nat} {ts : List Tok} (h : PAt w p d ts) : Calls Tryz.prog 47 #[pV p] w fun e w' => e = .returned (.bool (endsT ts)) ∧ w' = w := by
  have S := Lib.hid (sign_any h)
  obtain ⟨g, o, c, m, h'⟩ := h
  have c0 := h'.c0
  obtain ⟨hl, hh⟩ := h'.hd
  have h0 := hh.c0
  have hb : (0 : Int) < (ts.length : Int) := by omega
  have hk : (((hdT ts).kind : Int) == 5) = ((hdT ts).kind == 5) := by rw [Bool.eq_iff_iff]; simp; omega
  unfold endsT
  generalize (hdT ts).kind = kk at *
  generalize sgnT ts = s at *
  clear h' hh
  cases h1 : (s == [101, 110, 100]) with
  | true =>
    go_enter Tryz.func47, Tryz.ntmps47
    go_wp2_with (go_at_call 84; (with_reducible refine S.out.mono ?_); rintro e w1 ⟨rfl, hq⟩; obtain rfl := hq.symm)
    go_ret
    exact ⟨rfl, rfl⟩
  | false =>
    cases h2 : (s == [101, 108, 115, 101]) with
    | true =>
      go_enter Tryz.func47, Tryz.ntmps47
      go_wp2_with (go_at_call 84; (with_reducible refine S.out.mono ?_); rintro e w1 ⟨rfl, hq⟩; obtain rfl := hq.symm)
      go_ret
      exact ⟨rfl, rfl⟩
    | false =>
      cases h3 : (s == [101, 108, 115, 101, 105, 102]) with
      | true =>
        go_enter Tryz.func47, Tryz.ntmps47
        go_wp2_with (go_at_call 84; (with_reducible refine S.out.mono ?_); rintro e w1 ⟨rfl, hq⟩; obtain rfl := hq.symm)
        go_ret
        exact ⟨rfl, rfl⟩
      | false =>
        cases h4 : (s == [99, 97, 116, 99, 104]) with
        | true =>
          go_enter Tryz.func47, Tryz.ntmps47
          go_wp2_with (go_at_call 84; (with_reducible refine S.out.mono ?_); rintro e w1 ⟨rfl, hq⟩; obtain rfl := hq.symm)
          go_ret
          exact ⟨rfl, rfl⟩
        | false =>
          go_enter Tryz.func47, Tryz.ntmps47
          go_wp2_with (go_at_call 84; (with_reducible refine S.out.mono ?_); rintro e w1 ⟨rfl, hq⟩; obtain rfl := hq.symm)
          go_ret
          exact ⟨rfl, rfl⟩
theorem constant_any {w : World} {p d : Nat} {ts : List Tok} (h : PAt w p d ts) : Calls Tryz.prog 256 #[pV p] w (Ends p d [p] (if constT (sgnT ts) = 0 then .bad 4 (linT ts) else .ok .nil ts) (fun _ _ v => v = iV (constT (sgnT ts))) w) := by
  have S := Lib.hid (sign_any h)
  have F := Lib.hid (fault_any h)
  have B := Lib.hid (bad_new h [p] 4 (linT ts) 31)
  have P := Lib.hid h
  unfold constT
  generalize sgnT ts = s at *
  clear h
  by_cases h1 : s = [110, 105, 108]
  · rw [if_pos h1]
    rw [if_neg (by decide)]
    subst h1
    go_enter Tryz.func256, Tryz.ntmps256
    go_wp2_with (first
      | (go_at_call 84; (with_reducible refine S.out.mono ?_); rintro e w1 ⟨rfl, hq⟩; obtain rfl := hq.symm)
      | (go_at_call 27; (with_reducible refine (F.out _).mono ?_); rintro e w2 ⟨rfl, rfl⟩))
    go_ret
    exact ⟨_, rfl, rfl, P.out, Past.refl _ _⟩
  · rw [if_neg h1]
    have q1 := beq_no h1
    by_cases h2 : s = [116, 114, 117, 101]
    · rw [if_pos h2]
      rw [if_neg (by decide)]
      subst h2
      go_enter Tryz.func256, Tryz.ntmps256
      go_wp2_with (first
        | (go_at_call 84; (with_reducible refine S.out.mono ?_); rintro e w1 ⟨rfl, hq⟩; obtain rfl := hq.symm)
        | (go_at_call 27; (with_reducible refine (F.out _).mono ?_); rintro e w2 ⟨rfl, rfl⟩))
      go_ret
      exact ⟨_, rfl, rfl, P.out, Past.refl _ _⟩
    · rw [if_neg h2]
      have q2 := beq_no h2
      by_cases h3 : s = [102, 97, 108, 115, 101]
      · rw [if_pos h3]
        rw [if_neg (by decide)]
        subst h3
        go_enter Tryz.func256, Tryz.ntmps256
        go_wp2_with (first
          | (go_at_call 84; (with_reducible refine S.out.mono ?_); rintro e w1 ⟨rfl, hq⟩; obtain rfl := hq.symm)
          | (go_at_call 27; (with_reducible refine (F.out _).mono ?_); rintro e w2 ⟨rfl, rfl⟩))
        go_ret
        exact ⟨_, rfl, rfl, P.out, Past.refl _ _⟩
      · rw [if_neg h3]
        have q3 := beq_no h3
        rw [if_pos rfl]
        clear h1 h2 h3
        go_enter Tryz.func256, Tryz.ntmps256
        go_wp2_with (first
          | (go_at_call 84; (with_reducible refine S.out.mono ?_); rintro e w1 ⟨rfl, hq⟩; obtain rfl := hq.symm)
          | (go_at_call 27; (with_reducible refine (F.out _).mono ?_); rintro e w2 ⟨rfl, rfl⟩))
        exact ⟨rfl, B.out⟩
end Go.Proofs.YtoggkigfijgbfaaGreatDoor.P5
namespace Go.Proofs.YtoggkigfijgbfaaGreatDoor.P5
set_option maxRecDepth 20000
open Go.RowKit Go.Maps
theorem ok_bind (x : Tree) (ts : List Tok) (f : Tree → List Tok → Res) : (Res.ok x ts).bind f = f x ts := rfl
theorem named_any {w : World} {p d : Nat} {ts : List Tok} (kind : Int) (h : PAt w p d ts) : Calls Tryz.prog 145 #[pV p, iV kind] w (Ends p d [p] (namedT kind ts) (VE w.heap.size) w) := by
  have hpl := h.lt
  have hD : namedT kind ts ≠ .out := by unfold namedT nameT; split <;> simp [Res.bind]
  unfold namedT at hD ⊢
  have D0 : nameT ts ≠ .out := bind_done hD
  have C0 := Lib.hid (fun (w : World) (h : PAt w p (d) ts) => name_any h)
  generalize nameT ts = r0 at hD D0 C0 ⊢
  cases r0 with
  | out => exact absurd rfl D0
  | bad c l =>
    clear hD D0
    go_enter Tryz.func145, Tryz.ntmps145
    go_wp2_with (first
      | (go_at_call 140; (with_reducible refine (C0.out _ ?_).mono ?_); (· (repeat' (first | assumption | refine PAt.alloc ?_ _ | refine PAt.set ?_ (by omega) _))); rintro e wb hB; obtain ⟨b', rfl, hb1, hb2, hb3, hb4⟩ := hB)
      | (go_at_call 49; (with_reducible refine (line_any (by (repeat' (first | assumption | refine PAt.alloc ?_ _ | refine PAt.set ?_ (by omega) _)))).mono ?_); rintro e wz ⟨rfl, hqz⟩; obtain rfl := hqz.symm))
    exact ⟨rfl, b', rfl, Nat.le_trans (by first | exact Nat.le_refl _ | omega | (simp; omega)) hb1, hb2, ((by repeat' (first | exact Past.refl _ _ | exact Past.mono (by assumption) (by simp) | refine Past.alloc ?_ _ | refine Past.setCell ?_ (.inl (by simp)) _ | refine Past.setCell ?_ (.inr (by omega)) _ | refine Past.trans ?_ (Past.mono (by assumption) (by simp)))) : Past [p] w _).then hb3 (by simp), hb4⟩
  | ok x0 ts0 =>
    rw [ok_bind] at hD ⊢
    clear hD
    go_enter Tryz.func145, Tryz.ntmps145
    go_wp2_with (first
      | (go_at_call 140; (with_reducible refine (C0.out _ ?_).mono ?_); (· (repeat' (first | assumption | refine PAt.alloc ?_ _ | refine PAt.set ?_ (by omega) _))); rintro e w0 ⟨v0, rfl, rfl, hp0, hw0⟩; have hz0 := hw0.size; (try simp at hz0))
      | (go_at_call 49; (with_reducible refine (line_any (by (repeat' (first | assumption | refine PAt.alloc ?_ _ | refine PAt.set ?_ (by omega) _)))).mono ?_); rintro e wz ⟨rfl, hqz⟩; obtain rfl := hqz.symm))
    go_ret
    exact ⟨_, rfl, ⟨at_ex (exC_new _ _ _ _ _ _ _ _ _ _ _ _) ⟨by omega, by simp⟩ rfl rfl (sl_nil _ _) (sl_nil _ _) (sl_nil _ _) (sl_nil _ _), rfl⟩, (by (repeat' (first | assumption | refine PAt.alloc ?_ _ | refine PAt.set ?_ (by omega) _))), (by repeat' (first | exact Past.refl _ _ | exact Past.mono (by assumption) (by simp) | refine Past.alloc ?_ _ | refine Past.setCell ?_ (.inl (by simp)) _ | refine Past.setCell ?_ (.inr (by omega)) _ | refine Past.trans ?_ (Past.mono (by assumption) (by simp))))⟩
theorem node_at {w w2 : World} {p : Nat} {cs : Array Value} {k l n : Int} {s : List UInt8} {T1 T2 : TypeId} (hp : p < w.heap.size) (hw : Past [p] ((w.alloc (.cells cs T1)).alloc (.cells #[iV k, iV l, iV n, sV s, .pointer none, .pointer none, .slice none 0 0, .slice none 0 0, .slice none 0 0, .slice none 0 0] T2)) w2) : ExC w2 (w.heap.size + 1) k l n s (.pointer none) (.pointer none) (.slice none 0 0) (.slice none 0 0) (.slice none 0 0) (.slice none 0 0) := by
  have h := exC_new (w.alloc (.cells cs T1)) k l n s (.pointer none) (.pointer none) (.slice none 0 0) (.slice none 0 0) (.slice none 0 0) (.slice none 0 0) T2
  have hz : (w.alloc (.cells cs T1)).heap.size = w.heap.size + 1 := by simp
  rw [hz] at h
  exact h.keep (hw.block _ h.lt (by simp; omega))
theorem node_ve {w2 : World} {lo b : Nat} {k l n : Int} {s : List UInt8} (h : ExC w2 b k l n s (.pointer none) (.pointer none) (.slice none 0 0) (.slice none 0 0) (.slice none 0 0) (.slice none 0 0)) (hb : lo ≤ b) : VE lo (.ex k l n s .nil .nil .nil .nil .nil .nil) w2 (pV b) :=
  ⟨at_ex h ⟨hb, h.lt⟩ rfl rfl (sl_nil _ _) (sl_nil _ _) (sl_nil _ _) (sl_nil _ _), rfl⟩
theorem past_drew {E : List Nat} {w w2 : World} (h : Past E w.drew w2) : Past E w w2 := ⟨h.os, h.tape, h.output, h.size, h.block⟩
set_option maxHeartbeats 2000000 in
theorem word_any {w : World} {p d : Nat} {ts : List Tok} (h : PAt w p d ts) : Calls Tryz.prog 233 #[pV p] w (Ends p d [p] (wordT ts) (VE w.heap.size) w) := by
  have hpl := h.lt
  have h' := h
  obtain ⟨g, o, c, m, h'⟩ := h'
  have hg : g < w.heap.size := by have := h'.gp; omega
  have c0 := h'.c0
  obtain ⟨hl, hh⟩ := h'.hd
  have h0 := hh.c0
  have h1 := hh.c1
  have h2 := hh.c2
  have h3 := hh.c3
  have hb : (0 : Int) < (ts.length : Int) := by omega
  have C := Lib.hid (fun (w : World) (h : PAt w p d ts) => constant_any h)
  unfold wordT linT
  by_cases k1 : (hdT ts).kind = 1
  · rw [if_pos k1]
    have q1 : (((hdT ts).kind : Int) == 1) = true := by rw [k1]; rfl
    have T := Lib.hid (fun (w : World) (h : PAt w p d ts) => take_any h (by omega))
    clear h' hh
    go_enter Tryz.func233, Tryz.ntmps233
    go_wp2_with fail
    go_region
    all_goals
      go_wp2_with (go_at_call 141; (with_reducible refine (T.out _ ?_).mono ?_); (· exact ab1); rintro e w2 ⟨rfl, hp2, hw2⟩)
      go_ret
      exact ⟨_, rfl, node_ve (node_at hpl (past_drew hw2)) (by omega), hp2, (((Past.refl _ _).alloc _).alloc _).trans (past_drew hw2)⟩
  · rw [if_neg k1]
    by_cases k2 : (hdT ts).kind = 2
    · rw [if_pos k2]
      have q1 : (((hdT ts).kind : Int) == 1) = false := by rw [k2]; rfl
      have q2 : (((hdT ts).kind : Int) == 2) = true := by rw [k2]; rfl
      have T := Lib.hid (fun (w : World) (h : PAt w p d ts) => take_any h (by omega))
      clear h' hh
      go_enter Tryz.func233, Tryz.ntmps233
      go_wp2_with fail
      go_region
      all_goals
        go_wp2_with (go_at_call 141; (with_reducible refine (T.out _ ?_).mono ?_); (· exact ab1); rintro e w2 ⟨rfl, hp2, hw2⟩)
        go_ret
        exact ⟨_, rfl, node_ve (node_at hpl (past_drew hw2)) (by omega), hp2, (((Past.refl _ _).alloc _).alloc _).trans (past_drew hw2)⟩
    · rw [if_neg k2]
      by_cases k3 : (hdT ts).kind = 3
      · rw [if_pos k3]
        have q1 : (((hdT ts).kind : Int) == 1) = false := by rw [k3]; rfl
        have q2 : (((hdT ts).kind : Int) == 2) = false := by rw [k3]; rfl
        have q3 : (((hdT ts).kind : Int) == 3) = true := by rw [k3]; rfl
        have T := Lib.hid (fun (w : World) (h : PAt w p d ts) => take_any h (by omega))
        clear h' hh
        go_enter Tryz.func233, Tryz.ntmps233
        go_wp2_with fail
        go_region
        all_goals
          go_wp2_with (go_at_call 141; (with_reducible refine (T.out _ ?_).mono ?_); (· exact ab1); rintro e w2 ⟨rfl, hp2, hw2⟩)
          go_ret
          exact ⟨_, rfl, node_ve (node_at hpl (past_drew hw2)) (by omega), hp2, (((Past.refl _ _).alloc _).alloc _).trans (past_drew hw2)⟩
      · rw [if_neg k3]
        have q1 : (((hdT ts).kind : Int) == 1) = false := beq_eq_false_iff_ne.2 (by omega)
        have q2 : (((hdT ts).kind : Int) == 2) = false := beq_eq_false_iff_ne.2 (by omega)
        have q3 : (((hdT ts).kind : Int) == 3) = false := beq_eq_false_iff_ne.2 (by omega)
        by_cases k4 : constT (sgnT ts) = 0
        · rw [if_pos k4]
          simp only [if_pos k4] at C
          clear h' hh k1 k2 k3
          go_enter Tryz.func233, Tryz.ntmps233
          go_wp2_with (go_at_call 256; (with_reducible refine (C.out _ ?_).mono ?_); (· exact ab1); rintro e wb hB; obtain ⟨b', rfl, hb1, hb2, hb3, hb4⟩ := hB)
          exact ⟨rfl, b', rfl, (by simp at hb1; omega), hb2, (((Past.refl _ _).alloc _).alloc _).trans hb3, hb4⟩
        · rw [if_neg k4]
          simp only [if_neg k4] at C
          have T := Lib.hid (fun (w : World) (h : PAt w p d ts) => take_any h (fun e => k4 (by unfold sgnT; rw [if_neg (by omega)]; rfl)))
          unfold exT
          clear h' hh k1 k2 k3
          go_enter Tryz.func233, Tryz.ntmps233
          go_wp2_with (first
            | (go_at_call 256; (with_reducible refine (C.out _ ?_).mono ?_); (· exact ab1); rintro e w1 ⟨v1, rfl, rfl, hp1, hw1⟩; have hN := node_at hpl hw1; have q0 := hN.c0; have f0 := hN.warm 0)
            | (go_at_call 141; (with_reducible refine (T.out _ ?_).mono ?_); (· exact ab1); rintro e w2 ⟨rfl, hp2, hw2⟩; have hN := (hN.set0 (constT (sgnT ts))).keep (hw2.block _ (by simp; exact hN.lt) (by simp; omega))))
          go_ret
          exact ⟨_, rfl, node_ve hN (by omega), hp2, (((((Past.refl _ _).alloc _).alloc _).trans hw1).setCell (.inr (by simp)) _).trans hw2⟩
end Go.Proofs.YtoggkigfijgbfaaGreatDoor.P5
