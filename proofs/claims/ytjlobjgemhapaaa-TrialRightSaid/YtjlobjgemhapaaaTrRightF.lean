/- tallowlaw12.right by contract: a graph's counts made right. -/
import Derived.Test.YtjlobjgemhapaaaTrFour
import Derived.Test.YtjlobjgemhapaaaTrB
import Derived.ProofKit
import Derived.BigQuiet
import Derived.Deep.LoopGhost
import Derived.Deep.DeepCutAuto
import Derived.Deep.RegionLaw
import Derived.Maps.Own
import Derived.Maps.AppendAt
import Derived.Laws.AppendOwnNone
namespace Go.Proofs.Ytjlobjgemhapaaa.trRight
set_option maxRecDepth 20000
open Go.ChangeShapes Go.WideShapes Go.ChangeAt Go.RowKit Go.Maps Go.Sort

def upL (g : List OB) (q : Nat) : List Int := (List.range q).map (fun (i : Nat) => cntF (allRefs g) ((i : Int) + 1))
theorem at_lt {w : World} {b : Nat} {o : Obj} (h : w.heap[b]? = some o) : b < w.heap.size := (Array.getElem?_eq_some_iff.1 h).1
theorem heap_set_ne (w : World) (a : Addr) (v : Value) {k : Nat} (h : k ≠ a.block) : (w.setCell a v).heap[k]? = w.heap[k]? := by
  simp [World.setCell, Array.getElem?_modify, Ne.symm h]
theorem below_hi {w a b : World} (h : Below w.heap.size w a) (k : Below a.heap.size a b) : Below w.heap.size w b := h.trans (k.mono h.size)
theorem al (w : World) (o : Obj) : Below w.heap.size w (w.alloc o) := (Below.refl _ _).alloc (Nat.le_refl _) _
/-- The slice's cells hold the numbers; its block is one below lo. -/
def IntsLo (w : World) (A : Option Addr) (xs : List Int) (lo : Nat) : Prop := ∀ (i : Nat) x, xs[i]? = some x → ∃ ad, A = some ad ∧ ad.block < lo ∧ w.cell? (ad.add i) = some (.int .i64 x)
theorem _root_.Go.Proofs.Ytjlobjgemhapaaa.IntsAt.lo {w : World} {A : Option Addr} {xs : List Int} (h : IntsAt w A xs) : IntsLo w A xs w.heap.size := h
theorem IntsLo.below {w w' : World} {A : Option Addr} {xs : List Int} {lo : Nat} (h : IntsLo w A xs lo) (hb : Below w.heap.size w w') (hlo : lo ≤ w.heap.size) : IntsLo w' A xs lo := fun i x hx => by
  obtain ⟨ad, e, hl, hc⟩ := h i x hx
  exact ⟨ad, e, hl, (hb.cell (p := ad.add i) (by rw [Go.ChangeShapes.block_add]; omega)).trans hc⟩
theorem grown_drew {a b : World} {row : Option Nat} (h : a.grownBy b row) : a.grownBy b.drew row := ⟨h.os, h.tape, h.output, h.size, h.block⟩
theorem gcell {X W : World} {b : Nat} (h : X.grownBy W (some b)) {p : Addr} (hp : p.block < X.heap.size) (hne : p.block ≠ b) : W.cell? p = X.cell? p := by
  have := h.block p.block hp (by simpa using hne)
  simp only [World.cell?, this]
theorem gsize {X W : World} {b : Nat} (h : X.grownBy W (some b)) : X.heap.size ≤ W.heap.size := h.size
theorem g_set {X W : World} {b j : Nat} (h : X.grownBy W (some b)) (v : Value) : X.grownBy (W.setCell ⟨b, j, none⟩ v) (some b) := by
  refine ⟨h.os, h.tape, h.output, by simp [h.size], fun k hk hne => ?_⟩
  rw [heap_set_ne _ _ _ (by simpa using hne)]
  exact h.block k hk hne
theorem g_below {w0 X W : World} {b : Nat} (h : X.grownBy W (some b)) (hX : Below w0.heap.size w0 X) (hb : w0.heap.size ≤ b) : Below w0.heap.size w0 W :=
  ⟨h.os.trans hX.os, h.tape.trans hX.tape, h.output.trans hX.output, Nat.le_trans hX.size h.size, fun k hk => (h.block k (Nat.lt_of_lt_of_le hk hX.size) (by intro e; injection e with e; omega)).trans (hX.block k hk)⟩
/-- Own numbers: their block is none that was there before. -/
theorem ints_hi {w : World} {base : Nat} {v : Value} {xs : List Int} (h : w.ownsRow base 3 1 v xs.length (xs.map (Value.int .i64))) : ∃ (A : Option Addr) (c : Nat), v = .slice A xs.length c ∧ ∀ (i : Nat) x, xs[i]? = some x → ∃ ad, A = some ad ∧ base ≤ ad.block ∧ ad.block < w.heap.size ∧ w.cell? (ad.add i) = some (.int .i64 x) := by
  have h0 := h
  obtain ⟨_, ⟨rfl, h1⟩ | ⟨g, cap, cur, rfl, hb, hc, _⟩⟩ := h
  · rw [List.length_eq_zero_iff.1 h1]
    exact ⟨none, 0, rfl, fun i x hx => by simp at hx⟩
  · exact ⟨some ⟨g, 0, none⟩, cap, rfl, fun i x hx => ⟨_, rfl, hb, at_lt hc, h0.cells rfl i _ (by simp [hx])⟩⟩
theorem wpList_append_objs0 {ops : Array Oper} {rest : List Oper} {o : Oper} {a : Act} {w : World} {Q : Exit → Act → World → Prop} (hgd : o.guard = none) (s x : Operand)
    (ho : o.op = .call { callee := .builtin .append, args := #[s, x], argTypes := #[22, 22] }) (hs : a.eval s = .slice none 0 0) {A : Option Addr} {c : Nat} (hx : a.eval x = .slice A 0 c) (hA : A = none → c = 0)
    (h : ∀ w', Hid (Below w.heap.size w w') → wpList Try.prog ops Q rest (a.put o.dst (.slice none 0 0)) w') : wpList Try.prog ops Q (o :: rest) a w := by
  obtain ⟨i0, hi0, hz0, hz1, hz2⟩ := info_parts obj_info
  cases A with
  | none =>
    obtain rfl := hA rfl
    exact wpList_append_own_none hgd s x 22 ho w.heap.size 38 i0 5 Try.underlying22 hi0 (.slice none 0 0) 0 [] hs ⟨rfl, .inl ⟨rfl, rfl⟩⟩ hx (h w (Below.refl _ _))
  | some ad =>
    refine wpList_append_own_at _ hgd s x 22 ho w.heap.size 38 i0 _ 5 64 Try.underlying22 hi0 hz0 hz1 hz2 rfl (by decide) (.slice none 0 0) 0 [] hs ⟨rfl, .inl ⟨rfl, rfl⟩⟩ ad 0 c [] hx rfl (fun j u hu => by simp at hu) (fun u hu => by simp at hu) (by unfold maxLen; omega) (by omega) (Nat.le_refl _) ?_
    intro v' w' _ h2 h3 _
    obtain rfl := h3.2 ⟨rfl, rfl⟩
    exact h w' ⟨h2.os, h2.tape, h2.output, h2.size, fun k hk => h2.block k hk (by simp [Value.ownBlock])⟩
set_option maxHeartbeats 8000000 in
theorem right_none {A : Option Addr} {c : Nat} {B : Option Addr} {d : Nat} {more : List (Int × Int)} (hb2 : more.length ≤ 1048576) (hA : A = none → c = 0) {w : World} (hB : PairsAt w B more) :
    Calls Try.prog 19 #[gV A 0 c, .slice B more.length d] w fun e w' => e = .returned (gV none 0 0) ∧ Below w.heap.size w w' := by
  have E0 : ∀ (W : World) (A : Option Addr), GAt W A [] := fun W A i o ho => by simp at ho
  have CI : Hid (∀ W, Calls Try.prog 61 #[gV A 0 c] W (GivesI [] W)) := fun W => by
    have := Into_any (c := c) (E0 W A) (by decide)
    rwa [show intoL [] = [] from by kernel_rfl] at this
  have CR : Hid (∀ W, Below w.heap.size w W → Calls Try.prog 20 #[.slice B more.length d] W (GivesInts (refsL more) W)) := fun W hW => Refs_any _ _ _ _ (by omega) (pairs_below hB hW)
  have HA := Lib.hid hA
  clear hB hb2 hA
  generalize more.length = mn at *
  generalize refsL more = R at *
  generalize hrn : R.length = r at *
  have HRN := Lib.hid hrn
  clear hrn
  go_enter Try.func19, Try.ntmps19
  have e9 : ∀ o1 o2 : Obj, Below w.heap.size w ((w.alloc o1).alloc o2) := fun o1 o2 => below_hi (al w o1) ((al _ o2).mono (by simp))
  go_upto_region 1 with fail
  refine at_world (fun V => Below w.heap.size w V ∧ V.cell? ⟨w.heap.size, 0, none⟩ = some (.slice A 0 c) ∧ V.cell? ⟨w.heap.size + 1, 0, none⟩ = some (.slice none 0 0) ∧ V.frozen? ⟨w.heap.size + 1, 0, none⟩ = false ∧ w.heap.size + 1 < V.heap.size) ⟨e9 _ _, by simp [go_sem], by simp [go_sem], by simp [go_sem], by simp⟩ (fun V HV => ?_)
  obtain ⟨hV, c0, cr, fr, zV⟩ := HV
  have BV := Lib.hid hV
  clear hV e9 E0
  go_upto_region 3 with (first
    | (go_at_call 61; (with_reducible refine (CI.out _).mono ?_); rintro e w3 ⟨A1, c3, rfl, i1, hb⟩; have B3 := Lib.hid hb; have x3 := (hb.cell (p := ⟨w.heap.size, 0, none⟩) (show w.heap.size < _ by omega)).trans c0; have r3 := (hb.cell (p := ⟨w.heap.size + 1, 0, none⟩) zV).trans cr; have f3 := (hb.frozen (p := ⟨w.heap.size + 1, 0, none⟩) zV).trans fr; have z3 : w.heap.size + 1 < w3.heap.size := Nat.lt_of_lt_of_le zV hb.size; clear hb i1)
    | (go_at_call 20; (with_reducible refine (CR.out _ (below_hi BV.out B3.out)).mono ?_); rintro e w4 ⟨v9, rfl, ho9, hb9⟩; obtain ⟨A9, c9, rfl, -⟩ := ints_hi ho9; rw [HRN.out]; have B4 := Lib.hid hb9; have x4 := (hb9.cell (p := ⟨w.heap.size, 0, none⟩) (show w.heap.size < _ by omega)).trans x3; have r4 := (hb9.cell (p := ⟨w.heap.size + 1, 0, none⟩) z3).trans r3; have f4 := (hb9.frozen (p := ⟨w.heap.size + 1, 0, none⟩) z3).trans f3; have z4 : w.heap.size + 1 < w4.heap.size := Nat.lt_of_lt_of_le z3 hb9.size; clear ho9 hb9))
  go_upto_region 4 with fail
  refine at_world (S := fun W => Below w4.heap.size w4 W ∧ W.cell? ⟨w4.heap.size, 0, none⟩ = some (.slice none 0 0) ∧ W.frozen? ⟨w4.heap.size, 0, none⟩ = false ∧ w4.heap.size < W.heap.size) ⟨al _ _, by simp [go_sem], by simp [go_sem], by simp⟩ (fun V4 HV4 => ?_)
  obtain ⟨hV4, xh, fh, zV4⟩ := HV4
  have x5 := (hV4.cell (p := ⟨w.heap.size, 0, none⟩) (show w.heap.size < _ by omega)).trans x4
  have r5 := (hV4.cell (p := ⟨w.heap.size + 1, 0, none⟩) z4).trans r4
  have f5 := (hV4.frozen (p := ⟨w.heap.size + 1, 0, none⟩) z4).trans f4
  have BV4 : Hid (Below w.heap.size w V4) := below_hi (below_hi (below_hi BV.out B3.out) B4.out) hV4
  clear hV4 c0 cr fr x3 r3 f3 z3 CI CR x4 r4 f4
  obtain ⟨bg, hbg⟩ : ∃ bg, bg = w.heap.size := ⟨_, rfl⟩
  obtain ⟨br, hbr⟩ : ∃ br, br = w.heap.size + 1 := ⟨_, rfl⟩
  obtain ⟨bh, hbh⟩ : ∃ bh, bh = w4.heap.size := ⟨_, rfl⟩
  have LB : Hid (w.heap.size ≤ br ∧ w.heap.size ≤ bh ∧ br ≠ bh ∧ br < V4.heap.size) := (show _ ∧ _ from ⟨by omega, by omega, by omega, by omega⟩)
  rw [← hbr] at r5 f5 z4 ⊢
  rw [← hbg] at x5 ⊢
  rw [← hbh] at xh fh zV4 z4 ⊢
  clear hbg hbh hbr
  go_upto_region 5 with (at_builtin; refine wpList_append_objs0 (A := A) (c := c) (s := .tmp 15) (x := .tmp 17) ?_ ?_ ?_ ?_ HA.out ?_; (· exact rfl); (· exact rfl); (· exact rfl); (· exact rfl); intro w5 hb5; have xh5 := (hb5.out.cell (p := ⟨bh, 0, none⟩) zV4).trans xh; have fh5 := (hb5.out.frozen (p := ⟨bh, 0, none⟩) zV4).trans fh; have r6 := (hb5.out.cell (p := ⟨br, 0, none⟩) LB.out.2.2.2).trans r5; have f6 := (hb5.out.frozen (p := ⟨br, 0, none⟩) LB.out.2.2.2).trans f5)
  refine at_world (S := fun W => Below w.heap.size w W ∧ W.cell? ⟨bh, 0, none⟩ = some (.slice none 0 0) ∧ W.cell? ⟨br, 0, none⟩ = some (.slice none 0 0) ∧ W.frozen? ⟨br, 0, none⟩ = false) ⟨(below_hi BV4.out hb5.out).setCell LB.out.2.1 _, World.cell?_setCell_same _ _ _ xh5, (World.cell?_setCell_far _ _ _ _ (Ne.symm LB.out.2.2.1)).trans r6, by rw [World.frozen?_setCell]; exact f6⟩ (fun Y HX => ?_)
  obtain ⟨hX, yh, yr, yf⟩ := HX
  have BX := Lib.hid hX
  clear hX hb5 xh5 fh5 xh fh r6 f6 r5 f5 x5 zV4 z4
  go_wp2_with fail
  go_loopg [8] 1 (fun gg s10 wr => s10 = .int .i64 0 ∧ Hid (wr = Y))
  case atStart => exact ⟨rfl, rfl⟩
  case round =>
    obtain ⟨rfl, HW⟩ := hrel
    obtain rfl := HW.out
    go_wp2_with fail
    refine bodyPost_ret (v := gV none 0 0) (by simp [results, Try.results19, go_sem, yr]) rfl ?_
    exact ⟨rfl, BX.out.setCell LB.out.1 _⟩
set_option maxHeartbeats 16000000 in
theorem right_some {A : Option Addr} {c : Nat} {g : List OB} {B : Option Addr} {d : Nat} {more : List (Int × Int)} (hn : g.length ≤ 900) (hb1 : (g.map fun o => o.slots.length).sum ≤ 1048576) (hb2 : more.length ≤ 1048576) (hc : checkB g = true) (hne : g ≠ []) {w : World} (hg : GAt w A g) (hB : PairsAt w B more) :
    Calls Try.prog 19 #[gV A g.length c, .slice B more.length d] w fun e w' => ∃ b cap h, e = .returned (gV (some ⟨b, 0, none⟩) g.length cap) ∧ h.length = g.length ∧ HAt w w' b h ∧ StO g (refsL more) g.length h ∧ b < w'.heap.size ∧ Below w.heap.size w w' := by
  have G := Lib.hid hg
  have GB := Lib.hid hB
  have HNE := Lib.hid hne
  have CI : Hid (∀ W, Below w.heap.size w W → Calls Try.prog 61 #[gV A g.length c] W (GivesI (upL g g.length) W)) := fun W hW => by
    have := Into_any (c := c) (hg.below hW) (by omega)
    rwa [show intoL g = upL g g.length by simp [intoL, hc, upL]] at this
  have CR : Hid (∀ W, Below w.heap.size w W → Calls Try.prog 20 #[.slice B more.length d] W (GivesInts (refsL more) W)) := fun W hW => Refs_any _ _ _ _ (by omega) (pairs_below hB hW)
  have UL : Hid ((upL g g.length).length = g.length) := (show _ = _ by simp [upL])
  have UP : Hid (∀ k : Nat, k < g.length → (upL g g.length)[k]? = some (((allRefs g).count ((k : Int) + 1) : Nat) : Int)) := fun k hk => by
    have := (cnt_small (L := allRefs g) (m := 1048576) (refs_total (by omega)) (by omega) ((k : Int) + 1)).1
    simp [upL, hk, this]
  have TA : Hid ((allRefs g).length ≤ 1048576) := refs_total (by omega)
  have TR : Hid ((refsL more).length ≤ 1048576) := Nat.le_trans (refsL_len more) (by omega)
  have HN : Hid (g.length ≤ 1048576) := (show g.length ≤ 1048576 by omega)
  clear hg hB hb1 hb2 hc hne hn
  generalize upL g g.length = U at *
  generalize hgn : g.length = n at *
  generalize more.length = mn at *
  have HGN := Lib.hid hgn
  clear hgn
  generalize refsL more = R at *
  generalize hrn : R.length = r at *
  have HRN := Lib.hid hrn
  clear hrn
  go_enter Try.func19, Try.ntmps19
  have e9 : ∀ o1 o2 : Obj, Below w.heap.size w ((w.alloc o1).alloc o2) := fun o1 o2 => below_hi (al w o1) ((al _ o2).mono (by simp))
  go_upto_region 1 with fail
  refine at_world (fun V => Below w.heap.size w V ∧ V.cell? ⟨w.heap.size, 0, none⟩ = some (.slice A n c) ∧ V.cell? ⟨w.heap.size + 1, 0, none⟩ = some (.slice none 0 0) ∧ V.frozen? ⟨w.heap.size + 1, 0, none⟩ = false ∧ w.heap.size + 1 < V.heap.size) ⟨by first | exact e9 _ _ | trace_state, by simp [go_sem], by simp [go_sem], by simp [go_sem], by simp⟩ (fun V HV => ?_)
  obtain ⟨hV, c0, cr, fr, zV⟩ := HV
  have BV := Lib.hid hV
  clear hV e9
  go_upto_region 3 with (first
    | (go_at_call 61; (with_reducible refine (CI.out _ BV.out).mono ?_); rintro e w3 ⟨A1, c3, rfl, i1, hb⟩; rw [UL.out]; have I3 := Lib.hid i1; have B3 := Lib.hid hb; have x3 := (hb.cell (p := ⟨w.heap.size, 0, none⟩) (show w.heap.size < _ by omega)).trans c0; have r3 := (hb.cell (p := ⟨w.heap.size + 1, 0, none⟩) zV).trans cr; have f3 := (hb.frozen (p := ⟨w.heap.size + 1, 0, none⟩) zV).trans fr; have z3 : w.heap.size + 1 < w3.heap.size := Nat.lt_of_lt_of_le zV hb.size; clear hb i1)
    | (go_at_call 20; (with_reducible refine (CR.out _ (below_hi BV.out B3.out)).mono ?_); rintro e w4 ⟨v9, rfl, ho9, hb9⟩; obtain ⟨A9, c9, rfl, hr9⟩ := ints_hi ho9; rw [HRN.out]; have RX := Lib.hid hr9; have B4 := Lib.hid hb9; have x4 := (hb9.cell (p := ⟨w.heap.size, 0, none⟩) (show w.heap.size < _ by omega)).trans x3; have r4 := (hb9.cell (p := ⟨w.heap.size + 1, 0, none⟩) z3).trans r3; have f4 := (hb9.frozen (p := ⟨w.heap.size + 1, 0, none⟩) z3).trans f3; have z4 : w.heap.size + 1 < w4.heap.size := Nat.lt_of_lt_of_le z3 hb9.size; clear ho9 hb9 hr9))
  go_upto_region 4 with fail
  refine at_world (S := fun W => Below w4.heap.size w4 W ∧ W.cell? ⟨w4.heap.size, 0, none⟩ = some (.slice none 0 0) ∧ W.frozen? ⟨w4.heap.size, 0, none⟩ = false ∧ w4.heap.size < W.heap.size) ⟨al _ _, by simp [go_sem], by simp [go_sem], by simp⟩ (fun V4 HV4 => ?_)
  obtain ⟨hV4, xh, fh, zV4⟩ := HV4
  have B4' := Lib.hid hV4
  have x5 := (hV4.cell (p := ⟨w.heap.size, 0, none⟩) (show w.heap.size < _ by omega)).trans x4
  have BW4 : Hid (Below w.heap.size w w4) := below_hi (below_hi BV.out B3.out) B4.out
  have BV4 : Hid (Below w.heap.size w V4) := below_hi BW4.out hV4
  have F4 := B3.out.size
  clear hV4 c0 cr fr x3 r3 f3 z3 CI CR
  obtain ⟨bg, hbg⟩ : ∃ bg, bg = w.heap.size := ⟨_, rfl⟩
  obtain ⟨br, hbr⟩ : ∃ br, br = w.heap.size + 1 := ⟨_, rfl⟩
  obtain ⟨bh, hbh⟩ : ∃ bh, bh = w4.heap.size := ⟨_, rfl⟩
  have EBG := Lib.hid hbg
  have EBR := Lib.hid hbr
  have EBH := Lib.hid hbh
  rw [← hbr] at r4 f4 z4 ⊢
  rw [← hbg] at x4 x5 ⊢
  rw [← hbh] at xh fh zV4 z4 ⊢
  clear hbg hbh hbr
  go_upto_region 5 with (at_builtin; refine wpList_append_objs (w0 := w) (A := A) (c := c) (n := n) (g := g) (s := .tmp 15) (x := .tmp 17) ?_ ?_ ?_ ?_ HGN.out.symm G.out BV4.out (by have := HN.out; omega) HNE.out ?_; (· exact rfl); (· exact rfl); (· exact rfl); (· exact rfl); intro b cap w5 hH hbe hb5 hbl; have HBE := Lib.hid hbe; have xh5 := (hb5.out.cell (p := ⟨bh, 0, none⟩) zV4).trans xh; have fh5 := (hb5.out.frozen (p := ⟨bh, 0, none⟩) zV4).trans fh; clear hbe)
  have hbV : bh < b := by rw [HBE.out]; exact zV4
  refine at_world (S := fun W => Below w4.heap.size w4 W ∧ W.cell? ⟨bh, 0, none⟩ = some (.slice (some ⟨b, 0, none⟩) n cap) ∧ HAt w W b g ∧ b < W.heap.size) ⟨(below_hi B4'.out hb5.out).setCell (by show w4.heap.size ≤ bh; rw [EBH.out]; exact Nat.le_refl _) _, World.cell?_setCell_same _ _ _ xh5, hH.out.keep (heap_set_ne _ _ _ (Nat.ne_of_gt hbV)), by simpa using hbl.out⟩ (fun Y HX => ?_)
  obtain ⟨hX, yh, hhX, zY⟩ := HX
  have BX := Lib.hid hX
  have HY := Lib.hid hhX
  clear hX hhX hH hb5 hbl xh5 fh5 xh fh zV4
  have hw4 : bh = w4.heap.size := EBH.out
  have hw3 : w3.heap.size ≤ bh := by rw [hw4]; exact B4.out.size
  have hbgr : bg < bh := by have := EBG.out; have := EBR.out; omega
  have KC : Hid (∀ W, Y.grownBy W (some b) → ∀ p : Addr, p.block < bh → W.cell? p = w4.cell? p ∧ W.frozen? p = w4.frozen? p) := fun W hW p hp => by
    have hbl := hW.block p.block (by omega) (by intro e; injection e with e; omega)
    have h4 := BX.out.block p.block (by omega)
    refine ⟨?_, ?_⟩
    · simp only [World.cell?, hbl, h4]
    · simp only [World.frozen?, hbl, h4]
  have KI : Hid (∀ W, Y.grownBy W (some b) → W.cell? ⟨bh, 0, none⟩ = some (.slice (some ⟨b, 0, none⟩) n cap) ∧ bh < W.heap.size) := fun W hW => by
    have hs := gsize hW
    exact ⟨(gcell hW (p := ⟨bh, 0, none⟩) (show bh < _ by omega) (show bh ≠ b by omega)).trans yh, by omega⟩
  have KB : Hid (∀ W, Y.grownBy W (some b) → Below w.heap.size w W) := fun W hW => g_below hW (below_hi BW4.out BX.out) HY.out.1
  have KU : Hid (∀ W, Y.grownBy W (some b) → ∀ k : Nat, k < n → ∃ ad, A1 = some ad ∧ (ad.add k).block < W.heap.size ∧ (ad.add k).block ≠ b ∧ W.cell? (ad.add k) = some (.int .i64 (((allRefs g).count ((k : Int) + 1) : Nat) : Int))) := fun W hW k hk => by
    obtain ⟨ad, e, hl, hcc⟩ := (I3.out.lo.below B4.out (Nat.le_refl _)) k _ (UP.out k hk)
    have hbk : (ad.add k).block = ad.block := Go.ChangeShapes.block_add _ _
    have hs := gsize hW
    exact ⟨ad, e, by rw [hbk]; omega, by rw [hbk]; omega, (KC.out W hW (ad.add k) (by rw [hbk]; omega)).1.trans hcc⟩
  have KR : Hid (∀ W, Y.grownBy W (some b) → ∀ (k : Nat) x, R[k]? = some x → ∃ ad, A9 = some ad ∧ (ad.add k).block < W.heap.size ∧ (ad.add k).block ≠ b ∧ W.cell? (ad.add k) = some (.int .i64 x)) := fun W hW k x hk => by
    obtain ⟨ad, e, hl, hl2, hcc⟩ := RX.out k x hk
    have hbk : (ad.add k).block = ad.block := Go.ChangeShapes.block_add _ _
    have hs := gsize hW
    exact ⟨ad, e, by rw [hbk]; omega, by rw [hbk]; omega, (KC.out W hW (ad.add k) (by rw [hbk]; omega)).1.trans hcc⟩
  have KQ : Hid (∀ W, Y.grownBy W (some b) → W.cell? ⟨br, 0, none⟩ = some (.slice none 0 0) ∧ W.frozen? ⟨br, 0, none⟩ = false ∧ br < W.heap.size) := fun W hW => by
    have hs := gsize hW
    exact ⟨(KC.out W hW ⟨br, 0, none⟩ z4).1.trans r4, (KC.out W hW ⟨br, 0, none⟩ z4).2.trans f4, by omega⟩
  have hn20 := HN.out
  have zY0 : Hid (b < Y.heap.size) := zY
  have zbr : Hid (w.heap.size ≤ br ∧ br ≠ b) := (show _ ∧ _ from ⟨by have := EBR.out; omega, by omega⟩)
  clear I3 RX BX yh zY hbV hw4 hw3 hbgr r4 f4 z4 x4 x5 B4' BV4 BW4 F4 HBE EBH EBG EBR zV BV B3 B4 KC
  go_wp2_with fail
  go_loopg [8] n (fun gg s10 wr => ∃ (q : Nat) (h : List OB), q ≤ n ∧ n - q ≤ gg ∧ s10 = .int .i64 q ∧ Hid (HAt w wr b h) ∧ Hid (StO g R q h) ∧ Hid (Y.grownBy wr (some b)))
  case atStart => exact ⟨0, g, Nat.zero_le _, by omega, rfl, HY, StO.start g R, ⟨rfl, rfl, rfl, Nat.le_refl _, fun _ _ _ => rfl⟩⟩
  case round =>
    obtain ⟨q, h, hq, hgg, rfl, HR1, S1, GW⟩ := hrel
    obtain ⟨G1, rfl⟩ : ∃ G, G = gk := ⟨_, rfl⟩
    obtain ⟨x8, z8⟩ := KI.out _ GW.out
    have HL : Hid (h.length = n) := S1.out.like.1.symm.trans HGN.out
    by_cases hlt : q < n
    · obtain ⟨p, hp⟩ : ∃ p, h[q]? = some p := ⟨_, List.getElem?_eq_getElem (by rw [HL.out]; exact hlt)⟩
      obtain ⟨sA, sc, ⟨o0, o1, o2, o3, o4⟩, hs⟩ := HR1.out.2.2 q p hp
      have fz := HR1.out.2.1 (q * 5 + 1)
      obtain ⟨a1, rfl, zu, nu, u0⟩ := KU.out _ GW.out q hlt
      simp only at o1
      clear o2 o3 o4 hs
      have HP := Lib.hid hp
      clear hp
      cases hk : (p.kind == 0) with
      | true =>
        go_wp2_with fail
        go_roundg (n - (q + 1))
        case measure => omega
        case rel => exact ⟨q + 1, h, by omega, by omega, by go_num, HR1, S1.out.skip HP.out (by simpa using hk), GW⟩
      | false =>
        go_upto_region 10 with fail
        go_region
        have hk0 : p.kind ≠ 0 := by simpa using hk
        have I1 := Lib.hid (S1.out.enter HP.out hk0 rfl)
        have H1 := Lib.hid (HR1.out.set HP.out ((((allRefs g).count ((q : Int) + 1) : Nat) : Int)))
        have GW1 := Lib.hid (g_set (j := q * 5 + 1) GW.out (iV ((((allRefs g).count ((q : Int) + 1) : Nat) : Int))))
        clear o0 o1 fz u0 x8 z8 nu zu hk hk0 HP HR1
        go_wp2_with fail
        go_loopg [9] r (fun gg s9 w2 => ∃ (k : Nat) (h2 : List OB), k ≤ r ∧ r - k ≤ gg ∧ s9 = .int .i64 k ∧ Hid (HAt w w2 b h2) ∧ Hid (StI g R q k h2) ∧ Hid (Y.grownBy w2 (some b)))
        case atStart => exact ⟨0, _, Nat.zero_le _, by omega, rfl, H1.out.keep rfl, I1, grown_drew GW1.out⟩
        case round =>
          obtain ⟨k, h2, hkr, hgg2, rfl, HR2, S2, GW2⟩ := hrel
          have hr20 := TR.out
          by_cases hlt2 : k < r
          · obtain ⟨y, hy⟩ : ∃ y, R[k]? = some y := ⟨_, List.getElem?_eq_getElem (by rw [HRN.out]; exact hlt2)⟩
            obtain ⟨a2, rfl, zu2, nu2, u2⟩ := KR.out _ GW2.out k y hy
            have HYR := Lib.hid hy
            clear hy
            by_cases hyq : y = (q : Int) + 1
            · subst hyq
              obtain ⟨x8, z8⟩ := KI.out _ GW2.out
              obtain ⟨p2, hp2, -⟩ := S2.out.now
              obtain ⟨sA2, sc2, ⟨-, o1, -, -, -⟩, -⟩ := HR2.out.2.2 q p2 hp2
              have fz := HR2.out.2.1 (q * 5 + 1)
              simp only at o1
              have I3 := Lib.hid (S2.out.yes HYR.out hp2)
              have H3 := Lib.hid (HR2.out.set hp2 (p2.count + 1))
              have GW3 := Lib.hid (g_set (j := q * 5 + 1) GW2.out (iV (p2.count + 1)))
              obtain ⟨-, c1, c2⟩ := S2.out.range hp2 TA.out (by rw [HRN.out]; exact TR.out) (by decide)
              clear hp2
              go_wp2_with fail
              go_roundg (r - (k + 1))
              case measure => omega
              case rel => exact ⟨k + 1, _, by omega, by omega, by go_num, H3, I3, GW3⟩
            · go_wp2_with fail
              go_roundg (r - (k + 1))
              case measure => omega
              case rel => exact ⟨k + 1, h2, by omega, by omega, by go_num, HR2, S2.out.no HYR.out hyq, GW2⟩
          · have SF := Lib.hid (S2.out.out (by rw [HRN.out]; omega))
            clear hgg2 hkr
            go_wp2_with fail
            go_roundg (n - (q + 1))
            case measure => omega
            case rel => exact ⟨q + 1, h2, by omega, by omega, by go_num, HR2, SF, GW2⟩
    · have hqn : q = n := by omega
      obtain ⟨r8, f8, z9⟩ := KQ.out _ GW.out
      have BW := Lib.hid (KB.out _ GW.out)
      have zb : b < wr.heap.size := Nat.lt_of_lt_of_le zY0.out (gsize GW.out)
      have hcond : (decide ((q : Int) < (n : Int))) = false := by simp; omega
      go_wp2_with fail
      refine bodyPost_ret (v := gV (some ⟨b, 0, none⟩) n cap) (by simp [results, Try.results19, go_sem, r8]) rfl ?_
      exact ⟨b, cap, h, rfl, HL.out, HR1.out.keep (heap_set_ne _ _ _ (Ne.symm zbr.out.2)), hqn ▸ S1.out, by simpa using zb, BW.out.setCell zbr.out.1 _⟩
end Go.Proofs.Ytjlobjgemhapaaa.trRight
