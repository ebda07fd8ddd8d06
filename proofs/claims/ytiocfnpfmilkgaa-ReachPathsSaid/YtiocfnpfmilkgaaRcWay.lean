/- reach.way and Path. -/
import Derived.Test.YtiocfnpfmilkgaaRcDel
namespace Go.Proofs.Ytiocfnpfmilkgaa
set_option maxRecDepth 20000
open Go.RowKit Go.Maps

/-- The way so far, and what is to come. -/
structure WayJ (g : List OB) (f : Nat → Nat) (full pre : List Nat) (cur left : Nat) : Prop where
  full : full = pre ++ (wayL g f left cur).tail
  dist : f cur = left + 1
theorem WayJ.start {g : List OB} {f : Nat → Nat} {a : Nat} (h : f a ≠ 0) : WayJ g f (wayL g f (f a - 1) a) [a] a (f a - 1) := by
  refine ⟨?_, by omega⟩
  cases f a - 1 <;> rfl
theorem WayJ.step {g : List OB} (hg : checkB g = true) {b : Nat} {f : Nat → Nat} (hd : Dist g b f) {full pre : List Nat} {cur k : Nat} (h : WayJ g f full pre cur (k + 1)) : WayJ g f full (pre ++ [minN (nearN g f cur)]) (minN (nearN g f cur)) k := by
  have hn := near_next hg hd (a := cur) (k := k) (by have := h.dist; omega)
  refine ⟨?_, hn.2⟩
  rw [h.full]
  show pre ++ wayL g f k (minN (nearN g f cur)) = _
  cases k <;> simp [wayL]
theorem WayJ.fin {g : List OB} {f : Nat → Nat} {full pre : List Nat} {cur : Nat} (h : WayJ g f full pre cur 0) : full = pre := by rw [h.full]; simp [wayL]
theorem way_nil {w : World} (A B : Option Addr) (n c bl d : Nat) :
    Calls Try.prog 71 #[gV A n c, .slice (some ⟨bl, 0, none⟩) (n + 1) (n + 1), .slice B 0 d] w fun e w' => e = .returned (.slice none 0 0) ∧ Below w.heap.size w w' := by
  go_enter Try.func71, Try.ntmps71
  go_wp2
  go_ret
  exact ⟨rfl, ((Below.refl _ _).alloc (Nat.le_refl _) _).alloc (by simp) _⟩
theorem way_none {w : World} (A : Option Addr) (n c bl d b4 a : Nat) (ha : a ≤ n) (c0 : w.cell? ⟨bl, a, none⟩ = some (.int .i64 0)) (x0 : w.cell? ⟨b4, 0, none⟩ = some (.int .i64 a)) :
    Calls Try.prog 71 #[gV A n c, .slice (some ⟨bl, 0, none⟩) (n + 1) (n + 1), .slice (some ⟨b4, 0, none⟩) 1 d] w fun e w' => e = .returned (.slice none 0 0) ∧ Below w.heap.size w w' := by
  have l0 := World.block_lt_of_cell? w _ c0
  have l1 := World.block_lt_of_cell? w _ x0
  go_enter Try.func71, Try.ntmps71
  go_wp2
  go_ret
  exact ⟨rfl, ((Below.refl _ _).alloc (Nat.le_refl _) _).alloc (by simp) _⟩
theorem own_form {w : World} {lo : Nat} {v : Value} {X : List Nat} (h : w.ownsRow lo 3 1 v (intsOf X).length (cellsI X)) (hne : X ≠ []) : ∃ bk cap cur, v = .slice (some ⟨bk, 0, none⟩) X.length cap ∧ lo ≤ bk ∧ w.heap[bk]? = some (.cells cur 3 (0, 0)) ∧ X.length ≤ cap ∧ cur.toList.take X.length = cellsI X := by
  have hl := intsOf_len X
  rcases h.2 with ⟨_, h1⟩ | ⟨bk, cap, cur, e, h1, h2, h3, h4, h5, h6⟩
  · rw [hl] at h1
    exact absurd (List.length_eq_zero_iff.1 h1) hne
  · rw [hl] at e h3 h6
    exact ⟨bk, cap, cur, e, h1, h2, h3, by simpa using h6⟩
structure WEnv (w0 w : World) (A : Option Addr) (n c b3 b4 bl p8 : Nat) (f : Nat → Nat) (left : Nat) : Prop where
  below : Below w0.heap.size w0 w
  c3 : w.cell? ⟨b3, 0, none⟩ = some (.slice A n c)
  c4 : w.cell? ⟨b4, 0, none⟩ = some (.slice (some ⟨bl, 0, none⟩) (n + 1) (n + 1))
  c8 : w.cell? ⟨p8, 0, none⟩ = some (.int .i64 left)
  row : RowL w bl (n + 1) f
theorem WEnv.frm {w0 w w' : World} {A : Option Addr} {n c b3 b4 bl p8 : Nat} {f : Nat → Nat} {left : Nat} (h : WEnv w0 w A n c b3 b4 bl p8 f left) {S : Nat → Prop} (hf : Frm S w w') (h3 : ¬ S b3) (h4 : ¬ S b4) (hl : ¬ S bl) (h8 : ¬ S p8) (hs : ∀ k, S k → w0.heap.size ≤ k) : WEnv w0 w' A n c b3 b4 bl p8 f left :=
  ⟨below_frm h.below hf hs, (hf.cell (World.block_lt_of_cell? w _ h.c3) h3).trans h.c3, (hf.cell (World.block_lt_of_cell? w _ h.c4) h4).trans h.c4, (hf.cell (World.block_lt_of_cell? w _ h.c8) h8).trans h.c8, h.row.frm hf hl⟩
/-- The row of the way is none of these. -/
def WNe (v : Value) (b3 b4 bl p8 : Nat) : Prop := ∀ k, v.ownBlock = some k → k ≠ b3 ∧ k ≠ b4 ∧ k ≠ bl ∧ k ≠ p8
theorem own_frm {w w' : World} {lo n : Nat} {v : Value} {xs : List Value} (h : w.ownsRow lo 3 1 v n xs) {S : Nat → Prop} (hf : Frm S w w') (hn : ∀ k, v.ownBlock = some k → ¬ S k) : w'.ownsRow lo 3 1 v n xs := by
  refine ⟨h.1, ?_⟩
  rcases h.2 with h2 | ⟨g, cap, cur, rfl, h1, h2, h3⟩
  · exact Or.inl h2
  · exact Or.inr ⟨g, cap, cur, rfl, h1, (hf.block g (Array.getElem?_eq_some_iff.1 h2).1 (hn g rfl)).trans h2, h3⟩
/-- Behind what was struck. -/
theorem way_at {w0 w U U2 : World} {A : Option Addr} {n c b3 b4 bl p8 bk lo m : Nat} {f : Nat → Nat} {left : Nat} {vv : Value} {xs : List Value} (E : WEnv w0 w A n c b3 b4 bl p8 f left) (hb : Below w.heap.size w U) (hf : Frm (fun k => k = bk) U U2) (hlo : w.heap.size ≤ bk) (hO : w.ownsRow lo 3 1 vv m xs) :
    WEnv w0 U2 A n c b3 b4 bl p8 f left ∧ U2.ownsRow lo 3 1 vv m xs ∧ Frm (fun k => k = bk) w U2 := by
  have l3 := World.block_lt_of_cell? w _ E.c3
  have l4 := World.block_lt_of_cell? w _ E.c4
  have l8 := World.block_lt_of_cell? w _ E.c8
  have ll := E.row.lt
  simp only at l3 l4 l8
  have hF := (Frm.of_below (fun k => k = bk) hb).trans hf
  exact ⟨E.frm hF (by omega) (by omega) (by omega) (by omega) (fun k hk => by subst hk; have := E.below.size; omega), own_frm hO hF (fun k hk e => by have := (hO.lt k hk).2; omega), hF⟩
theorem way_push {w0 w w5 : World} {A : Option Addr} {n c b3 b4 bl p8 m : Nat} {f : Nat → Nat} {left : Nat} {vv : Value} {xs : List Value} {o : Obj} (E : WEnv w0 w A n c b3 b4 bl p8 f left) (hO : w.ownsRow w0.heap.size 3 1 vv m xs) (hN : WNe vv b3 b4 bl p8) (hg : (w.alloc o).grownBy w5 vv.ownBlock) :
    WEnv w0 w5 A n c b3 b4 bl p8 f left ∧ Frm (fun k => vv.ownBlock = some k) w w5 := by
  have hF : Frm (fun k => vv.ownBlock = some k) w w5 := by
    refine ⟨hg.os, hg.tape, hg.output, Nat.le_trans (by simp) hg.size, fun k hk hn => ?_⟩
    exact (hg.block k (by simp; omega) (fun e => hn e.symm)).trans (Below.heap_alloc _ _ _ hk)
  exact ⟨E.frm hF (fun h => (hN _ h).1 rfl) (fun h => (hN _ h).2.1 rfl) (fun h => (hN _ h).2.2.1 rfl) (fun h => (hN _ h).2.2.2 rfl) (fun k hk => (hO.lt k hk).1), hF⟩
theorem way_next {w0 w w5 : World} {A : Option Addr} {n c b3 b4 bl p8 nx k : Nat} {f : Nat → Nat} {left : Nat} {vv v' : Value} {pre : List Nat} {o : Obj} (E : WEnv w0 w A n c b3 b4 bl p8 f left) (E5 : WEnv w0 w5 A n c b3 b4 bl p8 f left) (hN : WNe vv b3 b4 bl p8) (hb : b3 ≠ bl ∧ b4 ≠ bl)
    (hO5 : w5.ownsRow w0.heap.size 3 1 v' ((intsOf pre).length + 1) (cellsI pre ++ [.int .i64 nx])) (hat : v'.ownBlock = vv.ownBlock ∨ v'.ownBlock = some (w.alloc o).heap.size) :
    WEnv w0 (w5.alloc (.cells #[.int .i64 k] 3 (0, 0))) A n c b3 b4 bl w5.heap.size f k ∧ (w5.alloc (.cells #[.int .i64 k] 3 (0, 0))).ownsRow w0.heap.size 3 1 v' (intsOf (pre ++ [nx])).length (cellsI (pre ++ [nx])) ∧ WNe v' b3 b4 bl w5.heap.size ∧
      (w5.heap.size ≠ bl ∧ b3 ≠ bl ∧ b4 ≠ bl ∧ b3 ≠ w5.heap.size ∧ b4 ≠ w5.heap.size) ∧ (w5.alloc (.cells #[.int .i64 k] 3 (0, 0))).frozen? ⟨w5.heap.size, 0, none⟩ = false ∧ w0.heap.size ≤ w5.heap.size := by
  have l3 := World.block_lt_of_cell? w5 _ E5.c3
  have l4 := World.block_lt_of_cell? w5 _ E5.c4
  have ll := E5.row.lt
  have m3 := World.block_lt_of_cell? w _ E.c3
  have m4 := World.block_lt_of_cell? w _ E.c4
  have ml := E.row.lt
  simp only at l3 l4 m3 m4
  have hB : Below w5.heap.size w5 (w5.alloc (.cells #[.int .i64 k] 3 (0, 0))) := (Below.refl _ _).alloc (Nat.le_refl _) _
  have e1 : cellsI (pre ++ [nx]) = cellsI pre ++ [.int .i64 nx] := by simp [cellsI, intsOf]
  have e2 : (intsOf (pre ++ [nx])).length = (intsOf pre).length + 1 := by simp [intsOf]
  refine ⟨⟨E5.below.trans (hB.mono E5.below.size), (hB.cell (p := ⟨b3, 0, none⟩) l3).trans E5.c3, (hB.cell (p := ⟨b4, 0, none⟩) l4).trans E5.c4, by simp [go_sem], E5.row.below hB⟩, by rw [e1, e2]; exact hO5.alloc _, fun j hj => ?_, by omega, by simp [go_sem], E5.below.size⟩
  have h5 := (hO5.lt j hj).2
  rcases hat with h | h
  · rw [h] at hj
    have := hN j hj
    exact ⟨this.1, this.2.1, this.2.2.1, by omega⟩
  · rw [h] at hj
    have hj2 : j = w.heap.size + 1 := by injection hj with hj; simp at hj; exact hj.symm
    exact ⟨by omega, by omega, by omega, by omega⟩
theorem way_del {w0 w U : World} {A : Option Addr} {n c b3 b4 bl p8 bk cap : Nat} {f : Nat → Nat} {left : Nat} {X : List Nat} {cur : Array Value} (E : WEnv w0 w A n c b3 b4 bl p8 f left) (hb : Below w.heap.size w U) (hX : ∀ x ∈ X, x ≤ n) (hXl : X.length ≤ 1048576) (hlo : w.heap.size ≤ bk) (hcap : X.length ≤ cap) (hbk : U.heap[bk]? = some (.cells cur 3 (0, 0))) (hcur : cur.toList.take X.length = cellsI X) :
    Calls Try.prog 104 #[.slice (some ⟨bk, 0, none⟩) X.length cap, .func (.func 106) #[] #[bV b4, bV p8]] U fun e w' =>
      e = .returned (.slice (some ⟨bk, 0, none⟩) (X.filter fun x => f x == left).length cap) ∧ IntsAt w' (some ⟨bk, 0, none⟩) (intsOf (X.filter fun x => f x == left)) ∧ Frm (fun k => k = bk) U w' := by
  have l4 := World.block_lt_of_cell? w _ E.c4
  have l8 := World.block_lt_of_cell? w _ E.c8
  have ll := E.row.lt
  simp only at l4 l8
  have EU := E.frm (S := fun _ => False) (Frm.of_below _ hb) (fun h => h) (fun h => h) (fun h => h) (fun h => h) (fun _ h => h.elim)
  exact Del_any hX (by omega) hcap hbk hcur EU.c4 (fun x hx => EU.row.cell (by omega)) EU.c8 (by omega) (by omega) (by omega)
theorem wstart {w0 w : World} {A : Option Addr} {n c bl : Nat} {f : Nat → Nat} (hw : Below w0.heap.size w0 w) (hR : RowL w bl (n + 1) f) (left : Nat) :
    WEnv w0 (((w.alloc (.cells #[.slice A n c] 41 (0, 0))).alloc (.cells #[.slice (some ⟨bl, 0, none⟩) (n + 1) (n + 1)] 44 (0, 0))).alloc (.cells #[.int .i64 left] 3 (0, 0))) A n c w.heap.size (w.heap.size + 1) bl (w.heap.size + 1 + 1) f left := by
  have hb : Below w.heap.size w (((w.alloc (.cells #[.slice A n c] 41 (0, 0))).alloc (.cells #[.slice (some ⟨bl, 0, none⟩) (n + 1) (n + 1)] 44 (0, 0))).alloc (.cells #[.int .i64 left] 3 (0, 0))) := (((Below.refl _ _).alloc (Nat.le_refl _) _).alloc (by simp) _).alloc (by simp; omega) _
  exact ⟨hw.trans (hb.mono hw.size), by simp [go_sem], by simp [go_sem], by simp [go_sem], hR.below hb⟩
set_option maxHeartbeats 4000000 in
theorem way_some {w0 w : World} {A : Option Addr} {c : Nat} {g : List OB} (hg : GAt w0 A g) (hck : checkB g = true) (hn : g.length ≤ 900) (hh : ∀ m, (heldN g m).length ≤ 1048576) (hw : Below w0.heap.size w0 w) {b : Nat} (hb : thereN g b = true) {f : Nat → Nat} (hd : Dist g b f) {bl : Nat} (hR : RowL w bl (g.length + 1) f) {a : Nat} (ha : thereN g a = true) {left : Nat} (hfa : f a = left + 1)
    {bv d : Nat} (hv : w.ownsRow w0.heap.size 3 1 (.slice (some ⟨bv, 0, none⟩) 1 d) (intsOf [a]).length (cellsI [a])) (hvl : bv ≠ bl) :
    Calls Try.prog 71 #[gV A g.length c, .slice (some ⟨bl, 0, none⟩) (g.length + 1) (g.length + 1), .slice (some ⟨bv, 0, none⟩) 1 d] w (fun e w' => ∃ v, e = .returned v ∧ w'.ownsRow w0.heap.size 3 1 v (intsOf (wayL g f left a)).length (cellsI (wayL g f left a)) ∧ Below w0.heap.size w0 w') := by
  obtain ⟨i0, hi, hz0, hz1, hz2⟩ := info_parts int_info
  have hmf := hmf2
  have lv := (hv.lt bv rfl).2
  have x0 : w.cell? ⟨bv, 0, none⟩ = some (.int .i64 a) := by
    have := hv.cells (g := bv) rfl 0 (.int .i64 a) rfl
    rwa [add_zero_at] at this
  have han := (there_le ha).2
  have r0 : w.cell? ⟨bl, a, none⟩ = some (.int .i64 ((left : Int) + 1)) := by
    have := hR.cell (k := a) (by omega)
    rw [hfa, show (((left + 1 : Nat) : Int)) = (left : Int) + 1 by omega] at this
    exact this
  have ll := hR.lt
  have ST := Lib.hid (wstart (A := A) (c := c) hw hR left)
  have hfl : left + 1 ≤ 900 := by have := hd.le hck hb a; omega
  have HL : Hid (∀ W (m : Nat), Below w0.heap.size w0 W → thereN g m = true → Calls Try.prog 105 #[gV A g.length c, iV m] W (GivesInts (intsOf (heldN g m)) W)) := fun W m hW hm => held_nat (hg.below hW) (by omega) hm
  have HN : Hid (∀ m x, x ∈ heldN g m → thereN g x = true ∧ x ≤ g.length ∧ 1 ≤ x) := fun m x hx => by
    have h1 := held_there hck hx
    have h2 := there_le h1
    exact ⟨h1, h2.2, h2.1⟩
  have WJ : Hid (∀ pre cur k, WayJ g f (wayL g f left a) pre cur (k + 1) → WayJ g f (wayL g f left a) (pre ++ [minN (nearN g f cur)]) (minN (nearN g f cur)) k ∧ minN (nearN g f cur) ∈ heldN g cur ∧ (nearN g f cur) ≠ []) := fun pre cur k h => by
    have h1 := near_next hck hd (a := cur) (k := k) (by have := h.dist; omega)
    refine ⟨h.step hck hd, h1.1, ?_⟩
    obtain ⟨x, hx, e⟩ := hd.down (a := cur) (k := k) (by have := h.dist; omega)
    intro h0
    have : x ∈ nearN g f cur := List.mem_filter.2 ⟨hx, by have := h.dist; simp; omega⟩
    rw [h0] at this; cases this
  have W0 : Hid (WayJ g f (wayL g f left a) [a] a left) := by
    have := WayJ.start (g := g) (f := f) (a := a) (by omega)
    rw [hfa] at this
    exact this
  have WL : Hid ((wayL g f left a).length = left + 1) := wayL_len g f left a
  have hws := hw.size
  have TA := Lib.hid ha
  have HV := Lib.hid hv
  have HH := Lib.hid hh
  clear hg hck hh hw hb hd hR ha hfa hv
  generalize hfull : wayL g f left a = full at *
  clear hfull
  generalize g.length = n at *
  go_enter Try.func71, Try.ntmps71
  go_wp2_with fail
  refine at_world (fun W => WEnv w0 W A n c w.heap.size (w.heap.size + 1) bl (w.heap.size + 1 + 1) f left ∧ Below w.heap.size w W ∧ W.frozen? ⟨w.heap.size + 1 + 1, 0, none⟩ = false) ⟨ST.out, (((Below.refl _ _).alloc (Nat.le_refl _) _).alloc (by simp) _).alloc (by simp; omega) _, by simp [go_sem]⟩ fun V HV2 => ?_
  have EV := Lib.hid HV2.1
  have OV : Hid (V.ownsRow w0.heap.size 3 1 (.slice (some ⟨bv, 0, none⟩) 1 d) (intsOf [a]).length (cellsI [a])) := own_below HV.out HV2.2.1
  have FZ := Lib.hid HV2.2.2
  have NV : Hid (WNe (.slice (some ⟨bv, 0, none⟩) 1 d) w.heap.size (w.heap.size + 1) bl (w.heap.size + 1 + 1)) := fun k hk => by
    have : bv = k := by injection hk
    subst this
    exact ⟨by omega, by omega, hvl, by omega⟩
  have N34 : Hid (w.heap.size + 1 + 1 ≠ bl ∧ w.heap.size ≠ bl ∧ w.heap.size + 1 ≠ bl) := ⟨by omega, by omega, by omega⟩
  have LV : Hid (w.heap.size < V.heap.size) := World.block_lt_of_cell? V _ HV2.1.c3
  have hp8 : Hid (w0.heap.size ≤ w.heap.size + 1 + 1) := show _ ≤ _ by omega
  have n34 : w.heap.size ≠ w.heap.size + 1 + 1 ∧ w.heap.size + 1 ≠ w.heap.size + 1 + 1 := by omega
  clear HV2 ST HV
  generalize w.heap.size + 1 + 1 = p8 at *
  generalize w.heap.size + 1 = b4 at *
  obtain ⟨b3, hb3⟩ : ∃ b3, b3 = w.heap.size := ⟨_, rfl⟩
  rw [← hb3] at EV NV n34 N34 LV ⊢
  clear hb3 r0 x0 ll lv
  go_loopg [2, 7, 8] left (fun gg s2 s7 s8 wr => ∃ (vv : Value) (pre : List Nat) (cur k p : Nat), vv = s2 ∧ k ≤ gg ∧ s7 = .int .i64 cur ∧ s8 = .pointer (some ⟨p, 0, none⟩) ∧ Hid (WayJ g f full pre cur k) ∧ Hid (thereN g cur = true) ∧ Hid (pre.length + k = left + 1) ∧ Hid (WEnv w0 wr A n c b3 b4 bl p f k) ∧ Hid (wr.ownsRow w0.heap.size 3 1 vv (intsOf pre).length (cellsI pre)) ∧ Hid (WNe vv b3 b4 bl p) ∧ Hid (p ≠ bl ∧ b3 ≠ bl ∧ b4 ≠ bl ∧ b3 ≠ p ∧ b4 ≠ p) ∧ Hid (wr.frozen? ⟨p, 0, none⟩ = false) ∧ Hid (w0.heap.size ≤ p))
  case atStart => exact ⟨_, [a], a, left, p8, rfl, Nat.le_refl _, rfl, rfl, W0.out, TA.out, (Nat.add_comm 1 left), EV.out, OV.out, NV.out, ⟨N34.out.1, N34.out.2.1, N34.out.2.2, n34.1, n34.2⟩, FZ.out, hp8.out⟩
  case round =>
    obtain ⟨vv, pre, cur, k, p, rfl, hkg, rfl, rfl, J, TC, LP, E, OR, NR, NE, FR, PW⟩ := hrel
    have d3 := E.out.c3
    have d4 := E.out.c4
    have d8 := E.out.c8
    cases k with
    | zero =>
      have FN : Hid (full = pre) := J.out.fin
      go_wp2_with fail
      go_ret
      exact ⟨vv, rfl, by rw [FN.out]; exact OR.out, E.out.below⟩
    | succ k =>
      obtain ⟨J2, hmh, hnn⟩ := WJ.out pre cur k J.out
      have TN := Lib.hid (HN.out _ _ hmh).1
      have J3 := Lib.hid J2
      have FD := Lib.hid J.out.dist
      have hll := HH.out cur
      have NN := Lib.hid hnn
      have CALL := Lib.hid (HL.out wr cur E.out.below TC.out)
      clear J2 hmh hnn
      have hk9 : k ≤ 900 := by have := LP.out; omega
      have hgt : (((k + 1 : Nat) : Int) > 0) = True := eq_true (by omega)
      have hne : heldN g cur ≠ [] := fun h0 => NN.out (by unfold nearN; rw [h0]; rfl)
      have FXK : Hid ((heldN g cur).filter (fun x => f x == k + 1) = nearN g f cur) := show _ = _ by
        unfold nearN
        refine List.filter_congr fun x _ => ?_
        rw [FD.out]
        rfl
      have NP : Hid (∀ x ∈ nearN g f cur, 1 ≤ x) := fun x hx => (HN.out _ _ (List.mem_filter.1 hx).1).2.2
      have NLE : Hid ((nearN g f cur).length ≤ 1099511627776) := Nat.le_trans (List.length_filter_le _ _) (by omega)
      have PL := LP.out
      have hpn : (intsOf pre).length ≤ 901 := by rw [intsOf_len]; omega
      have hnear : iV (((minN (nearN g f cur) : Nat)) : Int) = .int .i64 (((minN (nearN g f cur) : Nat)) : Int) := rfl
      generalize hnx : minN (nearN g f cur) = nx at *
      have HNX := Lib.hid hnx
      clear hnx hnear
      go_wp2_with (first
        | (go_at_call 105; (with_reducible refine CALL.out.mono ?_); rintro e U ⟨v, rfl, hown, hb⟩; have BU := Lib.hid hb; go_loud (obtain ⟨bk, cap, cur2, rfl, hbk, hhb, hcap, hcur⟩ := own_form hown hne); have hbkl := (Array.getElem?_eq_some_iff.1 hhb).1; go_loud (have DEL := Lib.hid (way_del E.out hb (fun x hx => (HN.out _ x hx).2.1) hll hbk hcap hhb hcur)); clear hown hb hhb hcur)
        | (go_at_call 104; (with_reducible refine DEL.out.mono ?_); rintro e U2 ⟨rfl, hi2, hf2⟩; rw [FXK.out] at hi2 ⊢; have MIN := Min_any (c := cap) hi2 NN.out NP.out NLE.out; rw [HNX.out] at MIN; have MN := Lib.hid MIN; have E2 := Lib.hid (way_at E.out BU.out hf2 hbk OR.out); clear MIN hi2 hf2)
        | (go_at_call 107; (with_reducible refine MN.out.mono ?_); rintro e U3 ⟨rfl, h3⟩; obtain rfl := h3.symm)
        | (at_builtin; refine wpList_append_own_at _ rfl (.tmp 40) (.tmp 42) _ rfl w0.heap.size 3 i0 _ 1 8 Try.underlying44 hi hz0 hz1 hz2 rfl (by decide) _ _ _ rfl (E2.out.2.1.alloc _) ⟨U2.heap.size, 0, none⟩ 1 1 [.int .i64 nx] rfl rfl one_cell (by simp [Value.oneCell']) (by unfold maxLen; omega) (by omega) (by have := E2.out.1.below.size; simp; omega) ?_; intro v' w5 hown5 hg5 _ hat5; have P5 := way_push E2.out.1 E2.out.2.1 NR.out hg5; have c85 := P5.1.c8; have HO5 := Lib.hid hown5; have HG5 := Lib.hid hg5; have HA5 := Lib.hid hat5; have E5 := Lib.hid P5; clear hown5 hg5 hat5 P5))
      have NXT := Lib.hid (way_next (k := k) (pre := pre) (nx := nx) E2.out.1 E5.out.1 NR.out ⟨NE.out.2.1, NE.out.2.2.1⟩ HO5.out HA5.out)
      clear E5 HO5 HA5 HG5
      go_roundg k
      case measure => omega
      case rel => exact ⟨v', pre ++ [nx], nx, k, w5.heap.size, rfl, Nat.le_refl _, rfl, rfl, J3.out, TN.out, (show _ = _ by rw [List.length_append]; simp; have := LP.out; omega), NXT.out.1, NXT.out.2.1, NXT.out.2.2.1, NXT.out.2.2.2.1, NXT.out.2.2.2.2.1, NXT.out.2.2.2.2.2⟩
end Go.Proofs.Ytiocfnpfmilkgaa
