/- reach.lengths: the whole. -/
import Derived.Test.YtiocfnpfmilkgaaRcLen
namespace Go.Proofs.Ytiocfnpfmilkgaa
set_option maxRecDepth 20000
open Go.RowKit Go.Maps

structure LensI (w0 w : World) (g : List OB) (d : Nat → Nat) (b5 b6 b7 bl bh mb hi : Nat) (F : Nat → List Nat) (r : Nat) (K : List Nat) : Prop where
  below : Below w0.heap.size w0 w
  env : LEnv w g.length b5 b6 b7 bl bh mb hi F
  tab : ∃ L T, RowL w bl (g.length + 1) L ∧ MapT w mb T ∧ LenI g d r K L T
structure LensH (w0 w : World) (g : List OB) (d : Nat → Nat) (b5 b6 b7 bl bh mb hi : Nat) (F : Nat → List Nat) (r : Nat) (T : List Nat) : Prop where
  below : Below w0.heap.size w0 w
  env : LEnv w g.length b5 b6 b7 bl bh mb hi F
  set : MapT w mb T
  tab : ∃ L, RowL w bl (g.length + 1) L ∧ LenH d r L T
theorem below_frm {w0 w w' : World} (h : Below w0.heap.size w0 w) {S : Nat → Prop} (hf : Frm S w w') (hs : ∀ k, S k → w0.heap.size ≤ k) : Below w0.heap.size w0 w' :=
  ⟨hf.os.trans h.os, hf.tape.trans h.tape, hf.output.trans h.output, Nat.le_trans h.size hf.size, fun k hk => (hf.block k (Nat.lt_of_lt_of_le hk h.size) (fun e => by have := hs k e; omega)).trans (h.block k hk)⟩
theorem lens_rounds {w0 w : World} {g : List OB} (hck : checkB g = true) (hn : g.length ≤ 900) {b : Nat} (hb : thereN g b = true) {d : Nat → Nat} (hd : Dist g b d) {b5 b6 b7 bl bh mb hi : Nat} {F : Nat → List Nat} (hF : ∀ m x, x ∈ F m ↔ m ∈ heldN g x) (hFl : ∀ m, (F m).length ≤ 1048576000)
    (hB : Below w0.heap.size w0 w) (hE : LEnv w g.length b5 b6 b7 bl bh mb hi F) (hM : MapT w mb [b]) (hR : RowL w bl (g.length + 1) fun _ => 0) (hlo : w0.heap.size ≤ bl ∧ w0.heap.size ≤ mb) :
    Calls Try.prog 109 #[.map (some mb), .func (.func 110) #[] #[bV b5, bV b6, bV b7]] w fun e w' => e = .returned (.tuple #[]) ∧ RowL w' bl (g.length + 1) d ∧ Below w0.heap.size w0 w' ∧ w'.cell? ⟨b5, 0, none⟩ = some (.slice (some ⟨bl, 0, none⟩) (g.length + 1) (g.length + 1)) := by
  have hS : ∀ k, (k = bl ∨ k = mb) → w0.heap.size ≤ k := fun k hk => by rcases hk with rfl | rfl; exact hlo.1; exact hlo.2
  refine (rounds_any (mb := mb) (w := w) (enters_of Try.func110 (by kernel_rfl) rfl) (fun k => k = bl ∨ k = mb) (Or.inr rfl) (fun k hk => ?_) (fun r K W => LensI w0 W g d b5 b6 b7 bl bh mb hi F r K) (fun r T W => LensH w0 W g d b5 b6 b7 bl bh mb hi F r T) g.length (by omega)
    (fun r T W h => h.set) (fun r T W W' h hb => ?_) (fun r k K W h => ?_) (fun r T W K h hp hne => ?_) (fun r W h => ?_) (T0 := [b]) ?_).mono ?_
  · rcases hk with rfl | rfl
    · exact hR.lt
    · exact hM.lt
  · obtain ⟨L, h1, h2⟩ := h.tab
    exact ⟨below_frm h.below (Frm.of_below (fun _ => False) hb) (fun _ h => h.elim), h.env.frm (Frm.of_below (fun _ => False) hb) (fun _ h => h.elim), h.set.below hb h.set.lt, ⟨L, h1.below hb, h2⟩⟩
  · obtain ⟨L, T, hr, hm, hi2⟩ := h.tab
    have hkr : d k = r := hi2.todo k (by simp)
    have hkt := hd.there hck hb (a := k) (by have := hi2.pos; omega)
    have hkn := (there_le hkt).2
    refine ⟨by rw [← hkr]; exact hd.le hck hb k, T, hm, (hi2.nxt k).2 (Or.inl (by simp)), fun W' hM' hG => ?_⟩
    have hF1 : Frm (fun x => x = bl ∨ x = mb) W W' := (Frm.refl _ _).grown hG (Or.inr rfl)
    have hE' : LEnv W' g.length b5 b6 b7 bl bh mb hi F := h.env.frm hF1 fun _ h => h
    have hR' : RowL W' bl (g.length + 1) L := hr.frm ((Frm.refl (fun k => k = mb) _).grown hG rfl) h.env.ne.2.2.2.2.2.2
    refine (lenlook_any hE' hn hR' hM' k r hkn (hFl k) (fun x hx => (there_le (held_from hck ((hF k x).1 hx))).2)).mono ?_
    rintro e w' ⟨rfl, h1, ⟨T', h2, h3⟩, h4⟩
    refine ⟨rfl, ⟨below_frm h.below (hF1.trans h4) hS, hE'.frm h4 fun _ h => h, ⟨_, T', h1, h2, hi2.step hd hm.1 fun a => ?_⟩⟩, h4⟩
    rw [h3 a, hF k a]
  · obtain ⟨L, h1, h2⟩ := h.tab
    exact ⟨h.below, h.env, ⟨L, T, h1, h.set, h2.open hp h.set.1⟩⟩
  · obtain ⟨L, T, hr, hm, hi2⟩ := h.tab
    exact ⟨T, h.below, h.env, hm, ⟨L, hr, hi2.close hd⟩⟩
  · exact ⟨hB, hE, hM, ⟨_, hR, LenH.start hd⟩⟩
  · rintro e w' ⟨rfl, ⟨r, h⟩, hf⟩
    obtain ⟨L, h1, h2⟩ := h.tab
    rw [h2.fin hd] at h1
    exact ⟨rfl, h1, h.below, h.env.c5⟩
structure LStart (w W : World) (A : Option Addr) (n c b2 bl b5 : Nat) : Prop where
  below : Below w.heap.size w W
  c2 : W.cell? ⟨b2, 0, none⟩ = some (.slice A n c)
  row : RowL W bl (n + 1) fun _ => 0
  c5 : W.cell? ⟨b5, 0, none⟩ = some (.slice (some ⟨bl, 0, none⟩) (n + 1) (n + 1))
  ne : b5 ≠ bl ∧ w.heap.size ≤ bl ∧ bl < W.heap.size ∧ b5 < W.heap.size ∧ b2 < W.heap.size
theorem lstart (w : World) (A : Option Addr) (n c : Nat) : LStart w
    (((w.alloc (Obj.cells #[Value.slice A n c] 41 (0, 0))).alloc (Obj.cells (madeCells #[Value.int IntKind.i64 0] (n + 1)) 3 (0, 0))).alloc
      (Obj.cells #[Value.slice (some { block := w.heap.size + 1, off := 0 }) (n + 1) (n + 1)] 44 (0, 0)))
    A n c w.heap.size (w.heap.size + 1) (w.heap.size + 1 + 1) := by
  refine ⟨(((Below.refl _ _).alloc (Nat.le_refl _) _).alloc (by simp) _).alloc (by simp; omega) _, by simp [go_sem], ?_, by simp [go_sem], by simp; omega⟩
  have h := World.rowIs_made (w.alloc (Obj.cells #[Value.slice A n c] 41 (0, 0))) (.int .i64 0) (n + 1) 3
  have h := h.alloc (Obj.cells #[Value.slice (some { block := w.heap.size + 1, off := 0 }) (n + 1) (n + 1)] 44 (0, 0))
  have e : (w.alloc (Obj.cells #[Value.slice A n c] 41 (0, 0))).heap.size = w.heap.size + 1 := by simp
  rw [e] at h
  exact h
theorem set_put (V : World) (o : Obj) (b : Nat) (hb : b ≤ 1099511627776) : ∃ w2, (Instr.mapUpdate 110 (.map (some (V.heap.size + 1))) (iV b) (.agg #[])).run Try.prog ((V.alloc o).alloc (.map #[] 0)) = .ok () w2 ∧ MapT w2 (V.heap.size + 1) [b] ∧ ((V.alloc o).alloc (.map #[] 0)).grownBy w2 (some (V.heap.size + 1)) := by
  have h := MapT.made (V.alloc o)
  have e : (V.alloc o).heap.size = V.heap.size + 1 := by simp
  rw [e] at h
  obtain ⟨w2, h1, h2, h3⟩ := h.run_put b hb
  rw [if_neg (by simp)] at h2
  exact ⟨w2, h1, h2, h3⟩
theorem lens_env {w U V w2 : World} {A : Option Addr} {n c b2 bl b5 bh b : Nat} {F : Nat → List Nat} (hU : LStart w U A n c b2 bl b5) (hV : Below U.heap.size U V) (hS : HoldS V bh (n + 1) V.heap.size F) (hbh : U.heap.size ≤ bh) (hM : MapT w2 (V.heap.size + 1) [b])
    (hG : ((V.alloc (.cells #[.slice (some ⟨bh, 0, none⟩) (n + 1) (n + 1)] 93 (0, 0))).alloc (.map #[] 0)).grownBy w2 (some (V.heap.size + 1))) :
    Below w.heap.size w (w2.alloc (.cells #[.map (some (V.heap.size + 1))] 110 (0, 0))) ∧ LEnv (w2.alloc (.cells #[.map (some (V.heap.size + 1))] 110 (0, 0))) n b5 V.heap.size w2.heap.size bl bh (V.heap.size + 1) V.heap.size F ∧
      MapT (w2.alloc (.cells #[.map (some (V.heap.size + 1))] 110 (0, 0))) (V.heap.size + 1) [b] ∧ RowL (w2.alloc (.cells #[.map (some (V.heap.size + 1))] 110 (0, 0))) bl (n + 1) fun _ => 0 := by
  obtain ⟨n1, n2, n3, n4, n5⟩ := hU.ne
  have hsz := hV.size
  have fV : Frm (fun k => k = V.heap.size + 1) V (w2.alloc (.cells #[.map (some (V.heap.size + 1))] 110 (0, 0))) :=
    ((Frm.of_below (fun k => k = V.heap.size + 1) (((Below.refl _ _).alloc (Nat.le_refl _) _).alloc (by simp) _)).grown hG (show V.heap.size + 1 = V.heap.size + 1 from rfl)).trans (Frm.of_below (fun k => k = V.heap.size + 1) ((Below.refl _ _).alloc (Nat.le_refl _) _))
  have hg2 : V.heap.size + 1 + 1 ≤ w2.heap.size := by have := hG.size; simpa using this
  have nv : ∀ {k}, k < V.heap.size → ¬ (k = V.heap.size + 1) := fun h => by omega
  refine ⟨below_frm (hU.below.trans (hV.mono hU.below.size)) fV (fun k hk => by have := hU.below.size; omega), ⟨?_, ?_, ?_, ?_, ?_, by omega⟩, hM.keep (Below.heap_alloc _ _ _ (by omega)), ?_⟩
  · exact (fV.cell (p := ⟨b5, 0, none⟩) (by show b5 < _; omega) (nv (by show b5 < _; omega))).trans ((hV.cell (p := ⟨b5, 0, none⟩) n4).trans hU.c5)
  · have h1 : ((V.alloc (.cells #[.slice (some ⟨bh, 0, none⟩) (n + 1) (n + 1)] 93 (0, 0))).alloc (.map #[] 0)).cell? ⟨V.heap.size, 0, none⟩ = some (.slice (some ⟨bh, 0, none⟩) (n + 1) (n + 1)) := by simp [go_sem]
    have h2 := hG.cell h1 (by intro e; injection e with e; have : V.heap.size = V.heap.size + 1 := e; omega)
    exact (((Below.refl w2.heap.size w2).alloc (Nat.le_refl _) _).cell (p := ⟨V.heap.size, 0, none⟩) (by show V.heap.size < _; omega)).trans h2
  · simp [go_sem]
  · exact hS.frm fV fun k _ h2 => nv h2
  · refine ⟨n1, ?_, ?_, ?_, ?_, ?_, ?_⟩ <;> omega
  · exact (hU.row.below hV).frm fV (nv (by omega))
set_option maxHeartbeats 4000000 in
theorem lengths_any {w : World} {A : Option Addr} {c : Nat} {g : List OB} (hg : GAt w A g) (hck : checkB g = true) (hn : g.length ≤ 900) (hh : ∀ m, (heldN g m).length ≤ 1048576) {b : Nat} (hb : thereN g b = true) :
    Calls Try.prog 72 #[gV A g.length c, iV b] w fun e w' => ∃ bl, e = .returned (.slice (some ⟨bl, 0, none⟩) (g.length + 1) (g.length + 1)) ∧ RowL w' bl (g.length + 1) (distF g b) ∧ w.heap.size ≤ bl ∧ Below w.heap.size w w' := by
  have mk := run_make_ints (g.length + 1) (by omega)
  rw [show (((g.length + 1 : Nat) : Int)) = (g.length : Int) + 1 by omega] at mk
  have hmm := @run_makeMap Try.prog
  have hmf := hmf2
  have HO : Hid (∀ W, Below w.heap.size w W → Calls Try.prog 108 #[gV A g.length c] W fun e w' => ∃ b F, e = .returned (.slice (some ⟨b, 0, none⟩) (g.length + 1) (g.length + 1)) ∧ HoldS w' b (g.length + 1) w'.heap.size F ∧ (∀ m x, x ∈ F m ↔ m ∈ heldN g x) ∧ (∀ m, (F m).length ≤ 1048576000) ∧ W.heap.size ≤ b ∧ Below W.heap.size W w') := fun W hW => holdersOf_any (hg.below hW) hck hn hh
  have LR : Hid (∀ (W : World) (b5 b6 b7 bl bh mb hi : Nat) (F : Nat → List Nat) (_ : ∀ m x, x ∈ F m ↔ m ∈ heldN g x) (_ : ∀ m, (F m).length ≤ 1048576000) (_ : Below w.heap.size w W) (_ : LEnv W g.length b5 b6 b7 bl bh mb hi F) (_ : MapT W mb [b]) (_ : RowL W bl (g.length + 1) fun _ => 0) (_ : w.heap.size ≤ bl ∧ w.heap.size ≤ mb),
    Calls Try.prog 109 #[.map (some mb), .func (.func 110) #[] #[bV b5, bV b6, bV b7]] W fun e w' => e = .returned (.tuple #[]) ∧ RowL w' bl (g.length + 1) (distF g b) ∧ Below w.heap.size w w' ∧ w'.cell? ⟨b5, 0, none⟩ = some (.slice (some ⟨bl, 0, none⟩) (g.length + 1) (g.length + 1))) :=
    fun W b5 b6 b7 bl bh mb hi F h1 h2 h3 h4 h5 h6 h7 => lens_rounds hck hn hb (dist_is g b) h1 h2 h3 h4 h5 h6 h7
  have hbn := there_le hb
  clear hg hck hh hb
  generalize g.length = n at *
  go_enter Try.func72, Try.ntmps72
  go_upto_region 2 with fail
  refine at_world (fun W => LStart w W A n c w.heap.size (w.heap.size + 1) (w.heap.size + 1 + 1)) (lstart w A n c) fun U HU => ?_
  have hne := HU.ne
  have c2 := HU.c2
  have US := Lib.hid HU
  clear HU mk
  generalize w.heap.size + 1 + 1 = b5 at *
  generalize w.heap.size + 1 = bl at *
  obtain ⟨b2, hb2⟩ : ∃ b2, b2 = w.heap.size := ⟨_, rfl⟩
  rw [← hb2] at c2 ⊢
  clear hb2
  obtain ⟨h5l, hbl, hll, h5, -⟩ := hne
  go_wp2_with (first
    | (go_at_call 108; (with_reducible refine (HO.out _ US.out.below).mono ?_); rintro e V ⟨bh, F, rfl, hS, hF, hFl, hlo, hb⟩; have hmb : w.heap.size ≤ V.heap.size + 1 := (by have := hb.size; have := US.out.below.size; omega); have BV := Lib.hid hb; have HS := Lib.hid hS; have HF := Lib.hid hF; have HFl := Lib.hid hFl; clear hb hS hF hFl; obtain ⟨w2, hput, hM, hG⟩ := set_put V (Obj.cells #[Value.slice (some { block := bh, off := 0 }) (n + 1) (n + 1)] 93 (0, 0)) b (by omega); have LE := Lib.hid (lens_env US.out BV.out HS.out hlo hM hG); clear hM hG)
    | (go_at_call 109; (with_reducible refine (LR.out _ _ _ _ _ _ _ _ _ HF.out HFl.out LE.out.1 LE.out.2.1 LE.out.2.2.1 LE.out.2.2.2 (by exact ⟨hbl, hmb⟩)).mono ?_); rintro e w4 ⟨rfl, hr, hb, hc5⟩; have R4 := Lib.hid hr; have B4 := Lib.hid hb; clear hr hb))
  go_ret
  exact ⟨bl, rfl, R4.out, hbl, B4.out⟩
end Go.Proofs.Ytiocfnpfmilkgaa
