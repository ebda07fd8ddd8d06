/- trial.White, and the functions that it hands in. -/
import Derived.Test.YtjlobjgemhapaaaTrA
import Derived.Deep.DeepCutAuto
import Derived.IntWalk
namespace Go.Proofs.Ytjlobjgemhapaaa
set_option maxRecDepth 20000
open Go.RowKit Go.Maps Go.Sort Go.Shelf

theorem countG_at {g : List OB} {k : Nat} {o : OB} (h : g[k]? = some o) : countG g ((k : Int) + 1) = o.count := by
  unfold countG; rw [show ((k : Int) + 1 - 1).toNat = k by omega, h]
theorem markG_at {g : List OB} {k : Nat} {o : OB} (h : g[k]? = some o) : markG g ((k : Int) + 1) = o.mark := by
  unfold markG; rw [show ((k : Int) + 1 - 1).toNat = k by omega, h]
theorem nth_obj {g : List OB} {n : Int} (h1 : 1 ≤ n) (h2 : n ≤ g.length) : ∃ (k : Nat) (o : OB), n = (k : Int) + 1 ∧ g[k]? = some o ∧ k < g.length :=
  ⟨(n - 1).toNat, _, by omega, List.getElem?_eq_getElem (by omega), by omega⟩
set_option maxHeartbeats 2000000 in
theorem out1_any {w : World} {A : Option Addr} {c : Nat} {g : List OB} (hg : GAt w A g) (hn : g.length ≤ 900) {bg bh mb : Nat} (h0 : w.cell? ⟨bg, 0, none⟩ = some (.slice A g.length c)) (h1 : w.cell? ⟨bh, 0, none⟩ = some (.map (some mb))) {f : Int → Int} (hm : MapI w mb f) (n : Int) (hn1 : 1 ≤ n) (hn2 : n ≤ g.length) :
    Calls Try.prog 43 #[iV n, bV bg, bV bh] w fun e w' => e = .returned (.bool (decide (countG g n > f n))) ∧ Below w.heap.size w w' := by
  obtain ⟨k, o, rfl, ho, hk⟩ := nth_obj hn1 hn2
  obtain ⟨a, sA, sc, rfl, hal, ⟨c0, c1, c2, c3, c4⟩, hs⟩ := hg k o ho
  have hget : ∀ q, (Instr.lookup 58 (.map (some mb)) (.int .i64 ((k : Int) + 1)) false).run Try.prog (w.drewN q) = .ok (.int .i64 (f ((k : Int) + 1))) (w.drewN q) := fun q => (show MapI (w.drewN q) mb f from hm.keep rfl).run_get (k := (k : Int) + 1) ⟨by omega, by omega⟩
  have hget1 : (Instr.lookup 58 (.map (some mb)) (.int .i64 ((k : Int) + 1)) false).run Try.prog w.drew = .ok (.int .i64 (f ((k : Int) + 1))) w.drew := hget 1
  rw [countG_at ho]
  have hl2 : (a.add (k * 5)).block < w.heap.size := by rw [Go.ChangeShapes.block_add]; exact hal
  clear hg ho hs c0 c2 c3 c4 hm hn1 hn2
  generalize g.length = nn at *
  generalize f ((k : Int) + 1) = y at *
  generalize o.count = x at *
  have e : decide (x > y) = decide (y < x) := rfl
  rw [e]
  have hk900 : (k : Int) < 900 := by omega
  have e1 : IntKind.i64.wrap ((k : Int) + 1 - 1) = (k : Int) := (IntWalk.i64_in _ (by omega)).trans (by omega)
  have e5 : IntKind.i64.wrap (k : Int) = (k : Int) := IntWalk.i64_in _ (by omega)
  have e2 : (0 : Int) ≤ (k : Int) := by omega
  have e3 : ((k : Int)).toNat = k := by omega
  have e4 : (k : Int) < (nn : Int) := by omega
  go_enter Try.func43, Try.ntmps43
  go_wp2_with fail
  go_quiet (fail)
  go_wp2_with fail
  go_ret
  exact ⟨by simp, below_drewN (Below.refl _ _) _⟩
theorem zero_any {w : World} {bh mb : Nat} (h1 : w.cell? ⟨bh, 0, none⟩ = some (.map (some mb))) {f : Int → Int} (hm : MapI w mb f) (n : Int) (hn : wf64 n) :
    Calls Try.prog 44 #[iV n, bV bh] w fun e w' => e = .returned (.bool (f n == 0)) ∧ Below w.heap.size w w' := by
  have hget := hm.run_get hn
  clear hm hn
  generalize f n = y at *
  go_enter Try.func44, Try.ntmps44
  go_wp2_with fail
  go_ret
  exact ⟨rfl, Below.refl _ _⟩
theorem out1_yes {w : World} {A : Option Addr} {c : Nat} {g : List OB} (hg : GAt w A g) (hn : g.length ≤ 900) {bg bh mb : Nat} (h0 : w.cell? ⟨bg, 0, none⟩ = some (.slice A g.length c)) (h1 : w.cell? ⟨bh, 0, none⟩ = some (.map (some mb))) {f : Int → Int} (hm : MapI w mb f) :
    YesAt w (.func (.func 43) #[] #[bV bg, bV bh]) (fun n => 1 ≤ n ∧ n ≤ g.length) (fun n => decide (countG g n > f n)) :=
  ⟨_, _, rfl, fun _ _ => rfl, fun _ n hW hD => out1_any (hg.below hW) hn ((hW.cell (p := ⟨bg, 0, none⟩) (World.block_lt_of_cell? w _ h0)).trans h0) ((hW.cell (p := ⟨bh, 0, none⟩) (World.block_lt_of_cell? w _ h1)).trans h1) (hm.keep (hW.block _ hm.lt)) n hD.1 hD.2⟩
theorem zero_yes {w : World} {bh mb : Nat} (h1 : w.cell? ⟨bh, 0, none⟩ = some (.map (some mb))) {f : Int → Int} (hm : MapI w mb f) :
    YesAt w (.func (.func 44) #[] #[bV bh]) wf64 (fun n => f n == 0) :=
  ⟨_, _, rfl, fun _ _ => rfl, fun _ n hW hD => zero_any ((hW.cell (p := ⟨bh, 0, none⟩) (World.block_lt_of_cell? w _ h1)).trans h1) (hm.keep (hW.block _ hm.lt)) n hD⟩
theorem seen_held {g : List OB} (hn : g.length ≤ 900) {l : List Int} (h : ∀ x ∈ l, OkP g x) : ∀ x ∈ l.flatMap (heldG g), 1 ≤ x ∧ x ≤ 2147483647 := fun x hx => by
  obtain ⟨n, hn2, hx⟩ := List.mem_flatMap.1 hx
  have := looks_range (heldG_ok (h n hn2).1 hx).2
  omega
theorem below_d {W W' : World} (h : Below W.drew.heap.size W.drew W') : Below W.heap.size W W' := ⟨h.os, h.tape, h.output, h.size, h.block⟩
theorem below_ad {W W' : World} {o : Obj} (h : Below (W.alloc o).drew.heap.size (W.alloc o).drew W') : Below W.heap.size W W' := below_box (below_d h)
/-- A cell that was new stays. -/
def Stays (w : World) (b : Nat) (v : Value) : Prop := w.cell? ⟨b, 0, none⟩ = some v ∧ w.frozen? ⟨b, 0, none⟩ = false
theorem Stays.new {W W' : World} {x : Value} {T : TypeId} (h : Below (W.alloc (.cells #[x] T (0, 0))).heap.size (W.alloc (.cells #[x] T (0, 0))) W') : Stays W' W.heap.size x :=
  ⟨(h.cell (p := ⟨W.heap.size, 0, none⟩) (by simp)).trans (by simp [go_sem]), (h.frozen (p := ⟨W.heap.size, 0, none⟩) (by simp)).trans (by simp [go_sem])⟩
theorem Stays.new_d {W W' : World} {x : Value} {T : TypeId} (h : Below (W.alloc (.cells #[x] T (0, 0))).drew.heap.size (W.alloc (.cells #[x] T (0, 0))).drew W') : Stays W' W.heap.size x := Stays.new (below_d h)
theorem Stays.keep {W W' : World} {b : Nat} {x : Value} (k : Stays W b x) (h : Below W.heap.size W W') : Stays W' b x :=
  ⟨(h.cell (p := ⟨b, 0, none⟩) (World.block_lt_of_cell? W _ k.1)).trans k.1, (h.frozen (p := ⟨b, 0, none⟩) (World.block_lt_of_cell? W _ k.1)).trans k.2⟩
/-- A map in a box, and a list that was there. -/
structure Boxd (w W : World) (b mb : Nat) (A1 : Option Addr) (S Bl : List Int) : Prop where
  below : Below w.heap.size w W
  cell : W.cell? ⟨b, 0, none⟩ = some (.map (some mb))
  map : MapI W mb (cntF Bl)
  ints : IntsAt W A1 S
theorem Boxd.set {w w5 w8 : World} {b mb : Nat} {A1 : Option Addr} {S Bl : List Int} {x : Value} (hB : Below w.heap.size w w5) (h5 : Below w5.heap.size w5 w8) (k : Stays w8 b x) (hm : MapI w8 mb (cntF Bl)) (hi : IntsAt w5 A1 S) (hb : w5.heap.size ≤ b) : Boxd w (w8.setCell ⟨b, 0, none⟩ (.map (some mb))) b mb A1 S Bl := by
  have hne : mb ≠ b := by
    rintro rfl
    obtain ⟨D, ⟨es, clock, he, _⟩, _⟩ := hm
    have := k.1
    simp [World.cell?, he] at this
  refine ⟨(hB.trans (h5.mono hB.size)).setCell (Nat.le_trans hB.size hb) _, World.cell?_setCell_same _ _ _ k.1, hm.keep (Below.heap_setCell _ _ _ _ hne), fun i y hy => ?_⟩
  obtain ⟨ad, e, hl, hc⟩ := hi i y hy
  have hbk : (ad.add i).block = ad.block := Go.ChangeShapes.block_add _ _
  refine ⟨ad, e, by have := h5.size; simp; omega, ?_⟩
  rw [World.cell?_setCell_far _ _ _ _ (by rw [hbk]; show b ≠ ad.block; omega)]
  exact (h5.cell (p := ad.add i) (by rw [hbk]; exact hl)).trans hc
theorem Boxd.alloc {w w5 w8 : World} {mb : Nat} {A1 : Option Addr} {S Bl : List Int} {T : TypeId} (hB : Below w.heap.size w w5) (h5 : Below w5.heap.size w5 w8) (hm : MapI w8 mb (cntF Bl)) (hi : IntsAt w5 A1 S) : Boxd w (w8.alloc (.cells #[.map (some mb)] T (0, 0))) w8.heap.size mb A1 S Bl := by
  have h8 : Below w8.heap.size w8 (w8.alloc (.cells #[.map (some mb)] T (0, 0))) := (Below.refl _ _).alloc (Nat.le_refl _) _
  have h58 := h5.trans (h8.mono h5.size)
  exact ⟨hB.trans (h58.mono hB.size), by simp [go_sem], hm.keep (h8.block _ hm.lt), hi.below h58⟩
/-- Numbers in a row of the call's own. -/
def GivesIH (l : List Int) (w : World) (e : Ending) (w' : World) : Prop := ∃ A c, e = .returned (.slice A l.length c) ∧ IntsAt w' A l ∧ (∀ a, A = some a → w.heap.size ≤ a.block) ∧ Below w.heap.size w w'
set_option maxHeartbeats 4000000 in
theorem White_hi {w : World} {A : Option Addr} {c : Nat} {g : List OB} (hg : GAt w A g) (hn : g.length ≤ 900) (hs : ∀ o ∈ g, o.slots.length ≤ 1048576) {B : Option Addr} {d : Nat} {l : List Int} (hl : l.length ≤ 1099511627776) (h : IntsAt w B l) (hwf : ∀ x ∈ l, wf64 x) :
    Calls Try.prog 14 #[gV A g.length c, .slice B l.length d] w (GivesIH (whiteL g l) w) := by
  have SE : Hid (∀ W, Below w.heap.size w W → Calls Try.prog 12 #[gV A g.length c, .slice B l.length d] W (GivesI (seenL g l) W)) := fun W hW => (Seen_any (hg.below hW) hn hs hl (h.below hW) hwf).mono fun e w' h => GivesI.of h
  have OKS : Hid (∀ x ∈ seenL g l, OkP g x) := fun x hx => seen_ok hx
  have LS : Hid ((seenL g l).length ≤ 900) := Nat.le_trans (seen_len g l) hn
  rw [show whiteL g l = sortI ((seenL g l).filter fun n => cntF (followL g (looksB g) (outL g (seenL g l))) n == 0) from rfl]
  generalize seenL g l = S at *
  clear h hwf hl
  have HB : Hid (∀ W (C : Option Addr) (k : Nat), Below w.heap.size w W → IntsAt W C S → Calls Try.prog 41 #[gV A g.length c, .slice C S.length k] W (GivesI (S.flatMap (heldG g)) W)) := fun W C k hW hi => (heldBy_any (hg.below hW) hn hs (by have := LS.out; omega) hi (fun x hx => looks_range (OKS.out x hx).2)).mono fun e w' h => GivesI.of h
  have CO : Hid (∀ W (C : Option Addr) (k : Nat), IntsAt W C (S.flatMap (heldG g)) → Calls Try.prog 40 #[.slice C (S.flatMap (heldG g)).length k] W fun e w' => ∃ mb, e = .returned (.map (some mb)) ∧ MapI w' mb (cntF (S.flatMap (heldG g))) ∧ W.heap.size ≤ mb ∧ Below W.heap.size W w') := fun _ _ _ hi => tcount_any (by have := held_total hs S; have := LS.out; omega) hi (seen_held hn OKS.out)
  have PO : Hid (∀ W (C : Option Addr) (k bg bh mb : Nat), Below w.heap.size w W → IntsAt W C S → W.cell? ⟨bg, 0, none⟩ = some (.slice A g.length c) → W.cell? ⟨bh, 0, none⟩ = some (.map (some mb)) → MapI W mb (cntF (S.flatMap (heldG g))) → Calls Try.prog 42 #[.slice C S.length k, .func (.func 43) #[] #[bV bg, bV bh]] W (GivesI (outL g S) W)) := fun W C k bg bh mb hW hi h0 h1 hm =>
    (pick_any (by have := LS.out; omega) hi (out1_yes (hg.below hW) hn h0 h1 hm) (fun x hx => looks_range (OKS.out x hx).2)).mono fun e w' h => GivesI.of h
  have OKO : Hid (∀ x ∈ outL g S, OkP g x) := fun x hx => OKS.out x (List.mem_filter.1 hx).1
  have LK : Hid (∀ W, Below w.heap.size w W → Calls Try.prog 35 #[gV A g.length c] W fun e w' => ∃ b, e = .returned (.func (.func 87) #[] #[bV b]) ∧ YesAt w' (.func (.func 87) #[] #[bV b]) (fun _ => True) (looksB g) ∧ Below W.heap.size W w') := fun W hW => looksAt_any (hg.below hW) (by omega)
  have OL : Hid ((outL g S).length ≤ 900) := Nat.le_trans (List.length_filter_le _ _) LS.out
  have hfr : ∀ n, Fol g (looksB g) (outL g S) n → OkP g n := fun n h => by
    induction h with
    | root h _ => exact OKO.out _ h
    | step _ hx h2 ih => exact ⟨ih.1, h2⟩
  have FO : Hid (∀ W (C : Option Addr) (k : Nat) f, Below w.heap.size w W → IntsAt W C (outL g S) → YesAt W f (fun _ => True) (looksB g) → Calls Try.prog 34 #[gV A g.length c, .slice C (outL g S).length k, f] W (GivesI (followL g (looksB g) (outL g S)) W)) := fun W C k f hW hi hf =>
    (follow_any (hg.below hW) hn hs (hf.imp fun _ _ => trivial) (by have := OL.out; omega) hi (fun x hx => by have := looks_range (OKO.out x hx).2; exact ⟨by omega, by omega⟩) (OkP g) (ok_held hn) (fun x hx _ => OKO.out x hx)).mono fun e w' h => GivesI.of h
  have OKB : Hid (∀ x ∈ followL g (looksB g) (outL g S), 1 ≤ x ∧ x ≤ 2147483647) := fun x hx => by
    have := looks_range (hfr x (((follow_spec fun n h => looks_range h.whom).2 x).1 hx)).2
    omega
  have LB : Hid ((followL g (looksB g) (outL g S)).length ≤ 900) := Nat.le_trans (follow_len fun n h => looks_range h.whom) hn
  have CB : Hid (∀ W (C : Option Addr) (k : Nat), IntsAt W C (followL g (looksB g) (outL g S)) → Calls Try.prog 40 #[.slice C (followL g (looksB g) (outL g S)).length k] W fun e w' => ∃ mb, e = .returned (.map (some mb)) ∧ MapI w' mb (cntF (followL g (looksB g) (outL g S))) ∧ W.heap.size ≤ mb ∧ Below W.heap.size W w') := fun _ _ _ hi => tcount_any (by have := LB.out; omega) hi OKB.out
  have PZ : Hid (∀ W (C : Option Addr) (k bh mb : Nat), IntsAt W C S → W.cell? ⟨bh, 0, none⟩ = some (.map (some mb)) → MapI W mb (cntF (followL g (looksB g) (outL g S))) → Calls Try.prog 42 #[.slice C S.length k, .func (.func 44) #[] #[bV bh]] W (GivesInts (S.filter fun n => cntF (followL g (looksB g) (outL g S)) n == 0) W)) := fun _ _ _ _ _ hi h1 hm =>
    pick_any (by have := LS.out; omega) hi (zero_yes h1 hm) (fun x hx => by have := looks_range (OKS.out x hx).2; exact ⟨by omega, by omega⟩)
  have LW : Hid ((S.filter fun n => cntF (followL g (looksB g) (outL g S)) n == 0).length ≤ 900) := Nat.le_trans (List.length_filter_le _ _) LS.out
  clear hg hs hfr OKS OKO OKB OL
  generalize (S.filter fun n => cntF (followL g (looksB g) (outL g S)) n == 0) = Wh at *
  generalize followL g (looksB g) (outL g S) = Bl at *
  generalize outL g S = Ou at *
  generalize S.flatMap (heldG g) = He at *
  generalize looksB g = lk at *
  generalize g.length = n at *
  generalize l.length = nl at *
  have hmf := hmf2
  go_enter Try.func14, Try.ntmps14
  go_upto_region 1 with fail
  refine at_world (fun V => Below w.heap.size w V ∧ V.cell? ⟨w.heap.size, 0, none⟩ = some (.slice A n c) ∧ w.heap.size < V.heap.size) ⟨(Below.refl _ _).alloc (Nat.le_refl _) _, by simp [go_sem], by simp⟩ (fun V HV => ?_)
  obtain ⟨hb, c0, zV⟩ := HV
  have BV := Lib.hid hb
  clear hb
  obtain ⟨bg, hbg⟩ : ∃ bg, bg = w.heap.size := ⟨_, rfl⟩
  have EBG := Lib.hid hbg
  rw [← hbg] at c0 zV ⊢
  clear hbg
  go_upto_region 3 with (first
    | (go_at_call 12; (with_reducible refine (SE.out V BV.out).mono ?_); rintro e w1 ⟨A1, c1, rfl, hi1, hb1⟩; have B1 := Lib.hid (BV.out.trans (hb1.mono BV.out.size)); have x1 := (hb1.cell (p := ⟨bg, 0, none⟩) zV).trans c0; have z1 := Nat.lt_of_lt_of_le zV hb1.size; have I1 := Lib.hid hi1; clear hi1 hb1)
    | (go_at_call 41; (with_reducible refine (HB.out w1 A1 c1 B1.out I1.out).mono ?_); rintro e w2 ⟨A2, c2, rfl, hi2, hb2⟩; have B2 := Lib.hid (B1.out.trans (hb2.mono B1.out.size)); have x2 := (hb2.cell (p := ⟨bg, 0, none⟩) z1).trans x1; have z2 := Nat.lt_of_lt_of_le z1 hb2.size; have I2 := Lib.hid hi2; have J2 := Lib.hid (I1.out.below hb2); clear hi2 hb2)
    | (go_at_call 40; (with_reducible refine (CO.out w2 A2 c2 I2.out).mono ?_); rintro e w3 ⟨mb, rfl, hm3, hmb, hb3⟩; have B3 := Lib.hid (B2.out.trans (hb3.mono B2.out.size)); have x3 := (hb3.cell (p := ⟨bg, 0, none⟩) z2).trans x2; have z3 := Nat.lt_of_lt_of_le z2 hb3.size; have M3 := Lib.hid hm3; have J3 := Lib.hid (J2.out.below hb3); clear hm3 hmb hb3))
  refine at_world (fun W => Below w.heap.size w W ∧ W.cell? ⟨bg, 0, none⟩ = some (.slice A n c) ∧ W.cell? ⟨w3.heap.size, 0, none⟩ = some (.map (some mb)) ∧ MapI W mb (cntF He) ∧ IntsAt W A1 S ∧ bg < W.heap.size) ⟨B3.out.alloc B3.out.size _, by simp [go_sem, z3, x3], by simp [go_sem], M3.out.keep (Below.heap_alloc _ _ _ M3.out.lt), J3.out.below ((Below.refl _ _).alloc (Nat.le_refl _) _), by simp; omega⟩ (fun W4 HW => ?_)
  obtain ⟨hb4, x4, y4, hm4, hi4, z4⟩ := HW
  have B4 := Lib.hid hb4
  have P4 := Lib.hid (PO.out W4 A1 c1 bg w3.heap.size mb hb4 hi4 x4 y4 hm4)
  have I4 := Lib.hid hi4
  clear hb4 hm4 hi4 B1 B2 B3 J2 J3 M3 I1 I2 x1 x2 z1 z2
  go_upto_region 4 with (go_at_call 42; (with_reducible refine P4.out.mono ?_); rintro e w5 ⟨A5, c5, rfl, hi5, hb5⟩; have B5 := Lib.hid (B4.out.trans (hb5.mono B4.out.size)); have x5 := (hb5.cell (p := ⟨bg, 0, none⟩) z4).trans x4; have z5 := Nat.lt_of_lt_of_le z4 hb5.size; have I5 := Lib.hid hi5; have J5 := Lib.hid (I4.out.below hb5); clear hi5 hb5)
  clear I4 B4 P4 x4 y4 z4
  have K5 : ∀ o, (w5.alloc o).cell? ⟨bg, 0, none⟩ = some (.slice A n c) := fun o => (((Below.refl _ _).alloc (Nat.le_refl _) o).cell (p := ⟨bg, 0, none⟩) z5).trans x5
  go_region_law (first
    | (go_simp; go_at_call 35
       (refine Calls.mono (LK.out _ ?_) ?_)
       · first | exact B5.out.drew | exact (B5.out.alloc B5.out.size _).drew | exact B5.out
       rintro e w6 ⟨b6, rfl, hy6, hb6⟩
       have HB6 : Below w5.heap.size w5 w6 := by first | exact below_d hb6 | exact below_ad hb6
       have i6 := I5.out.below HB6
       have X6 := B5.out.trans (HB6.mono B5.out.size)
       have x6 := (HB6.cell (p := ⟨bg, 0, none⟩) z5).trans x5
       have z6 := Nat.lt_of_lt_of_le z5 HB6.size
       have K6 : ∀ o, (w6.alloc o).cell? ⟨bg, 0, none⟩ = some (.slice A n c) := fun o => (((Below.refl _ _).alloc (Nat.le_refl _) o).cell (p := ⟨bg, 0, none⟩) z6).trans x6
       try have k6 := Stays.new_d hb6)
    | (go_simp; go_at_call 34
       (refine Calls.mono (FO.out _ _ _ _ ?_ ?_ ?_) ?_)
       · first | exact X6 | exact X6.alloc X6.size _
       · first | exact i6 | exact i6.below ((Below.refl _ _).alloc (Nat.le_refl _) _)
       · first | exact hy6 | exact hy6.below ((Below.refl _ _).alloc (Nat.le_refl _) _)
       rintro e w7 ⟨A7, c7, rfl, hi7, hb7⟩
       have HB7 : Below w6.heap.size w6 w7 := by first | exact hb7 | exact below_box hb7
       try have k7 := k6.keep HB7
       try have k7 := Stays.new hb7)
    | (go_simp; go_at_call 40
       (refine Calls.mono (CB.out _ _ _ ?_) ?_)
       · first | exact hi7 | exact hi7.below ((Below.refl _ _).alloc (Nat.le_refl _) _)
       rintro e w8 ⟨mb8, rfl, hm8, hmb8, hb8⟩
       have HB8 : Below w7.heap.size w7 w8 := by first | exact hb8 | exact below_box hb8
       try have k8 := k7.keep HB8
       try have k8 := Stays.new hb8
       try have c8 := k8.1
       try have f8 := k8.2))
  all_goals
    have X8 : Below w5.heap.size w5 w8 := HB6.trans ((HB7.trans (HB8.mono HB7.size)).mono HB6.size)
    have s6 := HB6.size
    have s7 := HB7.size
    go_upto_region 5 with fail
    first
    | refine at_world (fun V => Boxd w V _ mb8 A1 S Bl) (Boxd.set B5.out X8 k8 hm8 J5.out (by omega)) (fun W9 HW9 => ?_)
    | refine at_world (fun V => Boxd w V _ mb8 A1 S Bl) (Boxd.alloc B5.out X8 hm8 J5.out) (fun W9 HW9 => ?_)
    have P9 := Lib.hid (PZ.out W9 A1 c1 _ mb8 HW9.ints HW9.cell HW9.map)
    have B9 := Lib.hid HW9.below
    clear HW9 X8 s6 s7 HB6 HB7 HB8 hb6 hb7 hb8 hm8 hmb8 hi7 hy6 i6 X6 x6 z6 K6 K5
    go_upto_region 6 with (go_at_call 42; (with_reducible refine P9.out.mono ?_); rintro e w10 ⟨v10, rfl, ho10, hb10⟩; have B10 := Lib.hid (B9.out.trans (hb10.mono B9.out.size)); have S10 := Lib.hid (Sort_any (RowA.of_own ho10) (by have := LW.out; omega)); have R10 := Lib.hid (RowA.of_own ho10); have Z10 := Lib.hid hb10.size; clear ho10 hb10)
    go_wp2_with (go_at_call 45; (with_reducible refine S10.out.mono ?_); rintro e w11 ⟨rfl, hr11, hf11⟩; have R11 := Lib.hid hr11; have F11 := Lib.hid hf11; clear hr11 hf11)
    go_ret
    obtain ⟨A', c', e, hi, hlo9⟩ := R11.out.ints
    subst e
    refine ⟨A', c', rfl, hi, fun a ha => Nat.le_trans B9.out.size (hlo9 a ha), B10.out.trans (F11.out.below B10.out.size fun k hk => ?_)⟩
    rcases R10.out with ⟨h, _⟩ | ⟨blk, cap, h, _, hlo, _⟩
    · rw [h] at hk; cases hk
    · rw [h] at hk
      have hk : blk = k := by simpa [Value.ownBlock] using hk
      have := B9.out.size
      omega
theorem White_any {w : World} {A : Option Addr} {c : Nat} {g : List OB} (hg : GAt w A g) (hn : g.length ≤ 900) (hs : ∀ o ∈ g, o.slots.length ≤ 1048576) {B : Option Addr} {d : Nat} {l : List Int} (hl : l.length ≤ 1099511627776) (h : IntsAt w B l) (hwf : ∀ x ∈ l, wf64 x) :
    Calls Try.prog 14 #[gV A g.length c, .slice B l.length d] w (GivesI (whiteL g l) w) :=
  (White_hi hg hn hs hl h hwf).mono fun _ _ ⟨A, c, h1, h2, _, h3⟩ => ⟨A, c, h1, h2, h3⟩
end Go.Proofs.Ytjlobjgemhapaaa
