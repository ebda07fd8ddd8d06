/- GraphRight, in its second form: counts made what slots hold, and what is held beside, are right; one that is made otherwise is told alone. -/
import Derived.Test.YtkkdgacdajojiaaGrRightA
import Derived.Test.YtkkdgacdajojiaaGrRightB
import Derived.Test.YtkkdgacdajojiaaGrWorks
import Derived.Test.YtkkdgacdajojiaaGrBulk
import Derived.Test.YtkkdgacdajojiaaLawPost
import Derived.ProofKit
import Derived.BigQuiet
import Derived.Deep.LoopGhost
import Derived.Deep.DeepCutAuto
import Derived.Deep.RegionLaw
import Derived.Maps.Own
import Derived.Maps.AppendAt
import Derived.Laws.AppendOwnNone
namespace Go.Proofs.Ytkkdgacdajojiaa.graphRight
set_option maxRecDepth 20000
open Go.ChangeShapes Go.WideShapes Go.ChangeAt Go.RowKit Go.Maps Go.Sort

theorem below_hi {w a b : World} (h : Below w.heap.size w a) (k : Below a.heap.size a b) : Below w.heap.size w b := h.trans (k.mono h.size)
theorem al (w : World) (o : Obj) : Below w.heap.size w (w.alloc o) := (Below.refl _ _).alloc (Nat.le_refl _) _
/-- The slice's cells hold the numbers; its block is one below lo. -/
def IntsLo (w : World) (A : Option Addr) (xs : List Int) (lo : Nat) : Prop := ∀ (i : Nat) x, xs[i]? = some x → ∃ ad, A = some ad ∧ ad.block < lo ∧ w.cell? (ad.add i) = some (.int .i64 x)
theorem _root_.Go.Proofs.Ytkkdgacdajojiaa.IntsAt.lo {w : World} {A : Option Addr} {xs : List Int} (h : IntsAt w A xs) : IntsLo w A xs w.heap.size := h
theorem IntsLo.below {w w' : World} {A : Option Addr} {xs : List Int} {lo : Nat} (h : IntsLo w A xs lo) (hb : Below w.heap.size w w') (hlo : lo ≤ w.heap.size) : IntsLo w' A xs lo := fun i x hx => by
  obtain ⟨ad, e, hl, hc⟩ := h i x hx
  exact ⟨ad, e, hl, (hb.cell (p := ad.add i) (by rw [Go.ChangeShapes.block_add]; omega)).trans hc⟩
theorem grown_drew {a b : World} {row : Option Nat} (h : a.grownBy b row) : a.grownBy b.drew row := ⟨h.os, h.tape, h.output, h.size, h.block⟩
theorem gcell {X W : World} {b : Nat} (h : X.grownBy W (some b)) {p : Addr} (hp : p.block < X.heap.size) (hne : p.block ≠ b) : W.cell? p = X.cell? p := by
  have := h.block p.block hp (by simpa using hne)
  simp only [World.cell?, this]
theorem gsize {X W : World} {b : Nat} (h : X.grownBy W (some b)) : X.heap.size ≤ W.heap.size := h.size
theorem g_set {X W : World} {b j : Nat} (h : X.grownBy W (some b)) (v : Value) : X.grownBy (W.setCell ⟨b, j, none⟩ v) (some b) := by
  refine ⟨h.os, h.tape, h.output, by simp [h.size], fun k hk hne => ?_⟩
  rw [heap_set_ne _ _ _ (by simpa using hne)]
  exact h.block k hk hne
theorem g_below {w0 X W : World} {b : Nat} (h : X.grownBy W (some b)) (hX : Below w0.heap.size w0 X) (hb : w0.heap.size ≤ b) : Below w0.heap.size w0 W :=
  ⟨h.os.trans hX.os, h.tape.trans hX.tape, h.output.trans hX.output, Nat.le_trans hX.size h.size, fun k hk => (h.block k (Nat.lt_of_lt_of_le hk hX.size) (by intro e; injection e with e; omega)).trans (hX.block k hk)⟩
/-- Own numbers: their block is none that was there before. -/
theorem ints_hi {w : World} {base : Nat} {v : Value} {xs : List Int} (h : w.ownsRow base 3 1 v xs.length (xs.map (Value.int .i64))) : ∃ (A : Option Addr) (c : Nat), v = .slice A xs.length c ∧ ∀ (i : Nat) x, xs[i]? = some x → ∃ ad, A = some ad ∧ base ≤ ad.block ∧ ad.block < w.heap.size ∧ w.cell? (ad.add i) = some (.int .i64 x) := by
  have h0 := h
  obtain ⟨_, ⟨rfl, h1⟩ | ⟨g, cap, cur, rfl, hb, hc, _⟩⟩ := h
  · rw [List.length_eq_zero_iff.1 h1]
    exact ⟨none, 0, rfl, fun i x hx => by simp at hx⟩
  · exact ⟨some ⟨g, 0, none⟩, cap, rfl, fun i x hx => ⟨_, rfl, hb, at_lt hc, h0.cells rfl i _ (by simp [hx])⟩⟩
theorem wpList_append_objs0 {ops : Array Oper} {rest : List Oper} {o : Oper} {a : Act} {w : World} {Q : Exit → Act → World → Prop} (hgd : o.guard = none) (s x : Operand)
    (ho : o.op = .call { callee := .builtin .append, args := #[s, x], argTypes := #[44, 44] }) (hs : a.eval s = .slice none 0 0) {A : Option Addr} {c : Nat} (hx : a.eval x = .slice A 0 c) (hA : A = none → c = 0)
    (h : ∀ w', Hid (Below w.heap.size w w') → wpList Try.prog ops Q rest (a.put o.dst (.slice none 0 0)) w') : wpList Try.prog ops Q (o :: rest) a w := by
  obtain ⟨i0, hi0, hz0, hz1, hz2⟩ := info_parts obj_info
  cases A with
  | none =>
    obtain rfl := hA rfl
    exact wpList_append_own_none hgd s x 44 ho w.heap.size 56 i0 5 Try.underlying44 hi0 (.slice none 0 0) 0 [] hs ⟨rfl, .inl ⟨rfl, rfl⟩⟩ hx (h w (Below.refl _ _))
  | some ad =>
    refine wpList_append_own_at _ hgd s x 44 ho w.heap.size 56 i0 _ 5 64 Try.underlying44 hi0 hz0 hz1 hz2 rfl (by decide) (.slice none 0 0) 0 [] hs ⟨rfl, .inl ⟨rfl, rfl⟩⟩ ad 0 c [] hx rfl (fun j u hu => by simp at hu) (fun u hu => by simp at hu) (by unfold maxLen; omega) (by omega) (Nat.le_refl _) ?_
    intro v' w' _ h2 h3 _
    obtain rfl := h3.2 ⟨rfl, rfl⟩
    exact h w' ⟨h2.os, h2.tape, h2.output, h2.size, fun k hk => h2.block k hk (by simp [Value.ownBlock])⟩
set_option maxHeartbeats 8000000 in
theorem walkF (A : Option Addr) (c : Nat) (g : List OB) (B : Option Addr) (d : Nat) (more : List (Int × Int)) (m : Int) (hz : g.length * 64 ≤ 140737488351232) (hm : more.length * 16 ≤ 140737488351232) (hc : checkB g = false) (w : World) (hg : GAt w A g) (hB : PairsAt w B more) :
    Calls Try.prog 11 #[gV A g.length c, .slice B more.length d, .int .i64 m] w fun e w' => e = .returned (.bool true) ∧ Below w.heap.size w w' := by
  have CA : Hid (∀ W, Below w.heap.size w W → Calls Try.prog 31 #[gV A g.length c] W fun e w' => e = .returned (.bool false) ∧ Below W.heap.size W w') := fun W hW => by
    have := Check_any (c := c) (hg.below hW) (by omega)
    rwa [hc] at this
  have CE : Hid (∀ W, Below w.heap.size w W → Calls Try.prog 38 #[gV A g.length c, .slice B more.length d] W (GivesI [] W)) := fun W hW => by
    have := Exact_any (c := c) (hg.below hW) (by omega) (pairs_below hB hW) (d := d) (by omega)
    rwa [show exactL g more = [] by simp [exactL, hc]] at this
  clear hg hB hc hz hm
  generalize g.length = n at *
  generalize more.length = mn at *
  go_enter Try.func11, Try.ntmps11
  go_wp2_with (first
    | (go_at_call 33; (with_reducible refine (works_true _).mono ?_); rintro e w1 ⟨rfl, hb⟩; have B1 := Lib.hid (below_box hb); have c1 := boxed hb (j := 0) rfl; have z1 : w.heap.size < w1.heap.size := (by have := hb.size; simp at this; omega); clear hb)
    | (go_at_call 31; (with_reducible refine (CA.out _ B1.out).mono ?_); rintro e w2 ⟨rfl, hb⟩; have B2 : Hid (Below w.heap.size w w2) := B1.out.trans (hb.mono B1.out.size); have c2 := (hb.cell (p := ⟨w.heap.size, 0, none⟩) z1).trans c1; have z2 : w.heap.size < w2.heap.size := Nat.lt_of_lt_of_le z1 hb.size; clear hb)
    | (go_at_call 38; (with_reducible refine (CE.out _ B2.out).mono ?_); rintro e w3 ⟨A3, c3, rfl, -, hb⟩; have B3 := Lib.hid (below_hi B2.out hb); clear hb))
  go_ret
  exact ⟨rfl, B3.out⟩
set_option maxHeartbeats 8000000 in
theorem walkE (A : Option Addr) (c : Nat) (B : Option Addr) (d : Nat) (more : List (Int × Int)) (m : Int) (hm : more.length * 16 ≤ 140737488351232) (_hl : -9223372036854775808 ≤ m) (_hu : m ≤ 9223372036854775807) (hA : A = none → c = 0) (w : World) (hB : PairsAt w B more) :
    Calls Try.prog 11 #[gV A 0 c, .slice B more.length d, .int .i64 m] w fun e w' => e = .returned (.bool true) ∧ Below w.heap.size w w' := by
  have E0 : ∀ (W : World) (A : Option Addr), GAt W A [] := fun W A i o ho => by simp at ho
  have CA : Hid (∀ W, Calls Try.prog 31 #[gV A 0 c] W fun e w' => e = .returned (.bool true) ∧ Below W.heap.size W w') := fun W => by
    have := Check_any (c := c) (E0 W A) (by decide)
    rwa [show checkB [] = true from by kernel_rfl] at this
  have CI : Hid (∀ W, Calls Try.prog 36 #[gV A 0 c] W (GivesI [] W)) := fun W => by
    have := Into_any (c := c) (E0 W A) (by decide)
    rwa [show intoL [] = [] from by kernel_rfl] at this
  have CR : Hid (∀ W, Below w.heap.size w W → Calls Try.prog 42 #[.slice B more.length d] W (GivesInts (refsL more) W)) := fun W hW => Refs_any _ _ _ _ (by omega) (pairs_below hB hW)
  have CE : Hid (∀ W, Below w.heap.size w W → Calls Try.prog 38 #[gV none 0 0, .slice B more.length d] W (GivesI [] W)) := fun W hW => by
    have := Exact_any (c := 0) (E0 W none) (by decide) (pairs_below hB hW) (d := d) (by omega)
    rwa [show exactL [] more = [] by simp [exactL, whichL, intsOf]] at this
  have HA := Lib.hid hA
  clear hB hm hA
  generalize more.length = mn at *
  go_enter Try.func11, Try.ntmps11
  go_upto_region 6 with (first
    | (go_at_call 33; (with_reducible refine (works_true _).mono ?_); rintro e w1 ⟨rfl, hb⟩; have B1 := Lib.hid (below_box hb); have c1 := boxed hb (j := 0) rfl; have z1 : w.heap.size < w1.heap.size := (by have := hb.size; simp at this; omega); clear hb)
    | (go_at_call 31; (with_reducible refine (CA.out _).mono ?_); rintro e w2 ⟨rfl, hb⟩; have B2 : Hid (Below w.heap.size w w2) := B1.out.trans (hb.mono B1.out.size); have c2 := (hb.cell (p := ⟨w.heap.size, 0, none⟩) z1).trans c1; have z2 : w.heap.size < w2.heap.size := Nat.lt_of_lt_of_le z1 hb.size; clear hb)
    | (go_at_call 36; (with_reducible refine (CI.out _).mono ?_); rintro e w3 ⟨A1, c3, rfl, i1, hb⟩; have B3 : Hid (Below w.heap.size w w3) := B2.out.trans (hb.mono B2.out.size); have x3 := (hb.cell (p := ⟨w.heap.size, 0, none⟩) z2).trans c2; have z3 : w.heap.size < w3.heap.size := Nat.lt_of_lt_of_le z2 hb.size; clear hb i1))
  go_upto_region 7 with fail
  refine at_world (S := fun W => Below w.heap.size w W ∧ W.cell? ⟨w.heap.size, 0, none⟩ = some (.slice A 0 c) ∧ W.cell? ⟨w3.heap.size, 0, none⟩ = some (.slice none 0 0) ∧ W.frozen? ⟨w3.heap.size, 0, none⟩ = false ∧ w3.heap.size < W.heap.size) ⟨below_hi B3.out (al _ _), by simp [go_sem, x3, z3], by simp [go_sem], by simp [go_sem], by simp⟩ (fun V HV => ?_)
  obtain ⟨hV, x0, xh, fh, zV⟩ := HV
  have BV := Lib.hid hV
  clear hV
  obtain ⟨bg, hbg⟩ : ∃ bg, bg = w.heap.size := ⟨_, rfl⟩
  obtain ⟨bh, hbh⟩ : ∃ bh, bh = w3.heap.size := ⟨_, rfl⟩
  have EBH : Hid (w.heap.size < bh) := (show _ < _ by rw [hbh]; exact z3)
  rw [← hbg] at x0 ⊢
  rw [← hbh] at xh fh zV ⊢
  clear hbg hbh
  go_upto_region 8 with (at_builtin; refine wpList_append_objs0 (A := A) (c := c) (s := .tmp 25) (x := .tmp 27) ?_ ?_ ?_ ?_ HA.out ?_; (· exact rfl); (· exact rfl); (· exact rfl); (· exact rfl); intro w4 hb4; have xh4 := (hb4.out.cell (p := ⟨bh, 0, none⟩) zV).trans xh; have fh4 := (hb4.out.frozen (p := ⟨bh, 0, none⟩) zV).trans fh; have zh4 : bh < w4.heap.size := Nat.lt_of_lt_of_le zV hb4.out.size)
  refine at_world (S := fun W => Below w.heap.size w W ∧ W.cell? ⟨bh, 0, none⟩ = some (.slice none 0 0) ∧ bh < W.heap.size) ⟨(below_hi BV.out hb4.out).setCell (Nat.le_of_lt EBH.out) _, World.cell?_setCell_same _ _ _ xh4, by simpa using zh4⟩ (fun X HX => ?_)
  obtain ⟨hX, yh, zX⟩ := HX
  have BX := Lib.hid hX
  clear hX
  go_upto_region 9 with (go_at_call 42; (with_reducible refine (CR.out _ BX.out).mono ?_); rintro e Y ⟨v9, rfl, ho9, hb9⟩; have BY := Lib.hid hb9; clear ho9 hb9)
  go_wp2_with fail
  go_loopg [10] 1 (fun gg s10 wr => s10 = .int .i64 0 ∧ Hid (Below X.heap.size X wr))
  case atStart => exact ⟨rfl, BY⟩
  case round =>
    obtain ⟨rfl, GW⟩ := hrel
    have x8 := (GW.out.cell (p := ⟨bh, 0, none⟩) zX).trans yh
    have z8 := Nat.lt_of_lt_of_le zX GW.out.size
    have BW : Hid (Below w.heap.size w wr) := below_hi BX.out GW.out
    go_upto_region 21 with (go_at_call 38; (with_reducible refine (CE.out _ BW.out).mono ?_); rintro e V2 ⟨A5, c5, rfl, -, hb⟩; have B2' := Lib.hid hb; have x9 := (hb.cell (p := ⟨bh, 0, none⟩) z8).trans x8; have z9 := Nat.lt_of_lt_of_le z8 hb.size; clear hb)
    by_cases h1 : m < 1
    · go_wp2_with fail
      go_ret
      exact ⟨rfl, below_hi BW.out B2'.out⟩
    · have h2 : (0 : Int) < m := by omega
      go_wp2_with fail
      go_ret
      exact ⟨rfl, below_hi BW.out B2'.out⟩
set_option maxHeartbeats 16000000 in
theorem walkT (A : Option Addr) (c : Nat) (g : List OB) (B : Option Addr) (d : Nat) (more : List (Int × Int)) (m : Int) (hz : g.length * 64 ≤ 140737488351232) (hm : more.length * 16 ≤ 140737488351232) (hl : -9223372036854775808 ≤ m) (hu : m ≤ 9223372036854775807)
    (hb1 : (g.map fun o => o.slots.length).sum + g.length ≤ 1048576) (hb2 : more.length + 1 ≤ 1048576) (hc : checkB g = true) (hne : g ≠ []) (w : World) (hg : GAt w A g) (hB : PairsAt w B more) :
    Calls Try.prog 11 #[gV A g.length c, .slice B more.length d, .int .i64 m] w fun e w' => e = .returned (.bool true) ∧ Below w.heap.size w w' := by
  have G := Lib.hid hg
  have GB := Lib.hid hB
  have HC := Lib.hid hc
  have HNE := Lib.hid hne
  have CA : Hid (∀ W, Below w.heap.size w W → Calls Try.prog 31 #[gV A g.length c] W fun e w' => e = .returned (.bool true) ∧ Below W.heap.size W w') := fun W hW => by
    have := Check_any (c := c) (hg.below hW) (by omega)
    rwa [hc] at this
  have CI : Hid (∀ W, Below w.heap.size w W → Calls Try.prog 36 #[gV A g.length c] W (GivesI (upL g g.length) W)) := fun W hW => by
    have := Into_any (c := c) (hg.below hW) (by omega)
    rwa [show intoL g = upL g g.length by simp [intoL, hc, upL]] at this
  have CR : Hid (∀ W, Below w.heap.size w W → Calls Try.prog 42 #[.slice B more.length d] W (GivesInts (refsL more) W)) := fun W hW => Refs_any _ _ _ _ (by omega) (pairs_below hB hW)
  have CE : Hid (∀ W h b cap, Below w.heap.size w W → HAt w W b h → h.length = g.length → Calls Try.prog 38 #[gV (some ⟨b, 0, none⟩) g.length cap, .slice B more.length d] W (GivesI (exactL h more) W)) := fun W h b cap hW hh hn => by
    have := Exact_any (c := cap) (hh.graph hW) (by omega) (pairs_below hB hW) (d := d) (by omega)
    rwa [hn] at this
  have UL : Hid ((upL g g.length).length = g.length) := (show _ = _ by simp [upL])
  have UP : Hid (∀ k : Nat, k < g.length → (upL g g.length)[k]? = some (((allRefs g).count ((k : Int) + 1) : Nat) : Int)) := fun k hk => by
    have := (cnt_small (L := allRefs g) (m := 1048576) (refs_total (by omega)) (by omega) ((k : Int) + 1)).1
    simp [upL, hk, this]
  have TA : Hid ((allRefs g).length ≤ 1048576) := refs_total (by omega)
  have TR : Hid ((refsL more).length ≤ 1048576) := Nat.le_trans (refsL_len more) (by omega)
  have HN : Hid (g.length ≤ 1048576) := (show g.length ≤ 1048576 by omega)
  clear hg hB hb1 hb2 hm hc hne
  generalize upL g g.length = U at *
  generalize hgn : g.length = n at *
  generalize hmn : more.length = mn at *
  have HGN := Lib.hid hgn
  clear hgn hmn
  generalize hR : refsL more = R at *
  generalize hrn : R.length = r at *
  have HR := Lib.hid hR
  have HRN := Lib.hid hrn
  clear hR hrn
  go_enter Try.func11, Try.ntmps11
  go_upto_region 6 with (first
    | (go_at_call 33; (with_reducible refine (works_true _).mono ?_); rintro e w1 ⟨rfl, hb⟩; have B1 := Lib.hid (below_box hb); have c1 := boxed hb (j := 0) rfl; have z1 : w.heap.size < w1.heap.size := (by have := hb.size; simp at this; omega); clear hb)
    | (go_at_call 31; (with_reducible refine (CA.out _ B1.out).mono ?_); rintro e w2 ⟨rfl, hb⟩; have B2 : Hid (Below w.heap.size w w2) := B1.out.trans (hb.mono B1.out.size); have c2 := (hb.cell (p := ⟨w.heap.size, 0, none⟩) z1).trans c1; have z2 : w.heap.size < w2.heap.size := Nat.lt_of_lt_of_le z1 hb.size; clear hb)
    | (go_at_call 36; (with_reducible refine (CI.out _ B2.out).mono ?_); rintro e w3 ⟨A1, c3, rfl, i1, hb⟩; rw [UL.out]; have I3 := Lib.hid i1; have B3 : Hid (Below w.heap.size w w3) := B2.out.trans (hb.mono B2.out.size); have x3 := (hb.cell (p := ⟨w.heap.size, 0, none⟩) z2).trans c2; have z3 : w.heap.size < w3.heap.size := Nat.lt_of_lt_of_le z2 hb.size; clear hb i1))
  go_upto_region 7 with fail
  refine at_world (S := fun W => Below w.heap.size w W ∧ IntsLo W A1 U w3.heap.size ∧ W.cell? ⟨w.heap.size, 0, none⟩ = some (.slice A n c) ∧ W.cell? ⟨w3.heap.size, 0, none⟩ = some (.slice none 0 0) ∧ W.frozen? ⟨w3.heap.size, 0, none⟩ = false ∧ w3.heap.size < W.heap.size) ⟨below_hi B3.out (al _ _), I3.out.lo.below (al _ _) (Nat.le_refl _), by simp [go_sem, x3, z3], by simp [go_sem], by simp [go_sem], by simp⟩ (fun V HV => ?_)
  obtain ⟨hV, iV, x0, xh, fh, zV⟩ := HV
  have BV := Lib.hid hV
  clear hV
  obtain ⟨bg, hbg⟩ : ∃ bg, bg = w.heap.size := ⟨_, rfl⟩
  obtain ⟨bh, hbh⟩ : ∃ bh, bh = w3.heap.size := ⟨_, rfl⟩
  have EBG := Lib.hid hbg
  have EBH : Hid (w.heap.size < bh) := (show _ < _ by rw [hbh]; exact z3)
  rw [← hbg] at x0 ⊢
  rw [← hbh] at xh fh zV iV ⊢
  have IU := Lib.hid iV
  clear hbg hbh iV
  go_upto_region 8 with (at_builtin; refine wpList_append_objs (w0 := w) (A := A) (c := c) (n := n) (g := g) (s := .tmp 25) (x := .tmp 27) ?_ ?_ ?_ ?_ HGN.out.symm G.out BV.out (by omega) HNE.out ?_; (· exact rfl); (· exact rfl); (· exact rfl); (· exact rfl); intro b cap w4 hH hbe hb4 hbl; have HBE := Lib.hid hbe; have xh4 := (hb4.out.cell (p := ⟨bh, 0, none⟩) zV).trans xh; have fh4 := (hb4.out.frozen (p := ⟨bh, 0, none⟩) zV).trans fh; clear hbe)
  have hbV : bh < b := by rw [HBE.out]; exact zV
  have hgh : bg < bh := by rw [EBG.out]; exact EBH.out
  refine at_world (S := fun W => Below w.heap.size w W ∧ IntsLo W A1 U bh ∧ W.cell? ⟨bg, 0, none⟩ = some (.slice A n c) ∧ W.cell? ⟨bh, 0, none⟩ = some (.slice (some ⟨b, 0, none⟩) n cap) ∧ HAt w W b g ∧ b < W.heap.size) ⟨(below_hi BV.out hb4.out).setCell (Nat.le_of_lt EBH.out) _, ?_, ?_, World.cell?_setCell_same _ _ _ xh4, hH.out.keep (heap_set_ne _ _ _ (Nat.ne_of_gt hbV)), by simpa using hbl.out⟩ (fun X HX => ?_)
  · intro i x hx
    obtain ⟨ad, e, hlo, hcc⟩ := IU.out i x hx
    refine ⟨ad, e, hlo, ?_⟩
    have hbk : (ad.add i).block = ad.block := Go.ChangeShapes.block_add _ _
    rw [World.cell?_setCell_far _ _ _ _ (by rw [hbk]; show bh ≠ ad.block; omega)]
    exact (hb4.out.cell (p := ad.add i) (by rw [hbk]; omega)).trans hcc
  · rw [World.cell?_setCell_far _ _ _ _ (show bh ≠ bg by omega)]
    exact (hb4.out.cell (p := ⟨bg, 0, none⟩) (show bg < _ by omega)).trans x0
  obtain ⟨hX, iX, y0, yh, hhX, zb⟩ := HX
  have BX := Lib.hid hX
  have IX := Lib.hid iX
  have HXX := Lib.hid hhX
  clear hX iX hhX IU BV hH hb4 hbl xh4 fh4 xh fh x0
  go_upto_region 9 with (go_at_call 42; (with_reducible refine (CR.out _ BX.out).mono ?_); rintro e Y ⟨v9, rfl, ho9, hb9⟩; obtain ⟨A9, c9, rfl, hr9⟩ := ints_hi ho9; rw [HRN.out]; have RX := Lib.hid hr9; have BY := Lib.hid hb9; clear ho9 hb9 hr9)
  have YX := BY.out.size
  have HY : Hid (HAt w Y b g) := HXX.out.keep (BY.out.block b zb)
  have hbw : w.heap.size ≤ b := HXX.out.1
  have zY : b < Y.heap.size := Nat.lt_of_lt_of_le zb YX
  have KI : Hid (∀ W, Y.grownBy W (some b) → W.cell? ⟨bh, 0, none⟩ = some (.slice (some ⟨b, 0, none⟩) n cap) ∧ bh < W.heap.size) := fun W hW => by
    have hs := gsize hW
    exact ⟨(gcell hW (p := ⟨bh, 0, none⟩) (show bh < _ by omega) (show bh ≠ b by omega)).trans ((BY.out.cell (p := ⟨bh, 0, none⟩) (show bh < _ by omega)).trans yh), by omega⟩
  have KB : Hid (∀ W, Y.grownBy W (some b) → Below w.heap.size w W) := fun W hW => g_below hW (below_hi BX.out BY.out) hbw
  have KU : Hid (∀ W, Y.grownBy W (some b) → ∀ k : Nat, k < n → ∃ ad, A1 = some ad ∧ (ad.add k).block < W.heap.size ∧ (ad.add k).block ≠ b ∧ W.cell? (ad.add k) = some (.int .i64 (((allRefs g).count ((k : Int) + 1) : Nat) : Int))) := fun W hW k hk => by
    obtain ⟨ad, e, hl, hcc⟩ := IX.out k _ (UP.out k hk)
    have hbk : (ad.add k).block = ad.block := Go.ChangeShapes.block_add _ _
    have hs := gsize hW
    exact ⟨ad, e, by rw [hbk]; omega, by rw [hbk]; omega, (gcell hW (p := ad.add k) (by rw [hbk]; omega) (by rw [hbk]; omega)).trans ((BY.out.cell (p := ad.add k) (by rw [hbk]; omega)).trans hcc)⟩
  have KR : Hid (∀ W, Y.grownBy W (some b) → ∀ (k : Nat) x, R[k]? = some x → ∃ ad, A9 = some ad ∧ (ad.add k).block < W.heap.size ∧ (ad.add k).block ≠ b ∧ W.cell? (ad.add k) = some (.int .i64 x)) := fun W hW k x hk => by
    obtain ⟨ad, e, hl, hl2, hcc⟩ := RX.out k x hk
    have hbk : (ad.add k).block = ad.block := Go.ChangeShapes.block_add _ _
    have hs := gsize hW
    exact ⟨ad, e, by rw [hbk]; omega, by rw [hbk]; omega, (gcell hW (p := ad.add k) (by rw [hbk]; omega) (by rw [hbk]; omega)).trans hcc⟩
  have hn20 := HN.out
  have zY0 : Hid (b < Y.heap.size) := zY
  clear IX RX BX BY HXX YX yh y0 EBH HBE EBG hbV hgh zV zb CA CI CR
  go_wp2_with fail
  go_loopg [10] n (fun gg s10 wr => ∃ (q : Nat) (h : List OB), q ≤ n ∧ n - q ≤ gg ∧ s10 = .int .i64 q ∧ Hid (HAt w wr b h) ∧ Hid (StO g R q h) ∧ Hid (Y.grownBy wr (some b)))
  case atStart => exact ⟨0, g, Nat.zero_le _, by omega, rfl, HY, StO.start g R, ⟨rfl, rfl, rfl, Nat.le_refl _, fun _ _ _ => rfl⟩⟩
  case round =>
    obtain ⟨q, h, hq, hgg, rfl, HR1, S1, GW⟩ := hrel
    obtain ⟨G1, rfl⟩ : ∃ G, G = gk := ⟨_, rfl⟩
    obtain ⟨x8, z8⟩ := KI.out _ GW.out
    have HL : Hid (h.length = n) := S1.out.like.1.symm.trans HGN.out
    by_cases hlt : q < n
    · obtain ⟨p, hp⟩ : ∃ p, h[q]? = some p := ⟨_, List.getElem?_eq_getElem (by rw [HL.out]; exact hlt)⟩
      obtain ⟨sA, sc, ⟨o0, o1, o2, o3, o4⟩, hs⟩ := HR1.out.2.2 q p hp
      have fz := HR1.out.2.1 (q * 5 + 1)
      obtain ⟨a1, rfl, zu, nu, u0⟩ := KU.out _ GW.out q hlt
      simp only at o1
      clear o2 o3 o4 hs
      have HP := Lib.hid hp
      clear hp
      cases hk : (p.kind == 0) with
      | true =>
        go_wp2_with fail
        go_roundg (n - (q + 1))
        case measure => omega
        case rel => exact ⟨q + 1, h, by omega, by omega, by go_num, HR1, S1.out.skip HP.out (by simpa using hk), GW⟩
      | false =>
        go_upto_region 13 with fail
        go_region
        have hk0 : p.kind ≠ 0 := by simpa using hk
        have I1 := Lib.hid (S1.out.enter HP.out hk0 rfl)
        have H1 := Lib.hid (HR1.out.set HP.out ((((allRefs g).count ((q : Int) + 1) : Nat) : Int)))
        have GW1 := Lib.hid (g_set (j := q * 5 + 1) GW.out (iV ((((allRefs g).count ((q : Int) + 1) : Nat) : Int))))
        clear o0 o1 fz u0 x8 z8 nu zu hk hk0 HP HR1
        go_wp2_with fail
        go_loopg [11] r (fun gg s11 w2 => ∃ (k : Nat) (h2 : List OB), k ≤ r ∧ r - k ≤ gg ∧ s11 = .int .i64 k ∧ Hid (HAt w w2 b h2) ∧ Hid (StI g R q k h2) ∧ Hid (Y.grownBy w2 (some b)))
        case atStart => exact ⟨0, _, Nat.zero_le _, by omega, rfl, H1.out.keep rfl, I1, grown_drew GW1.out⟩
        case round =>
          obtain ⟨k, h2, hkr, hgg2, rfl, HR2, S2, GW2⟩ := hrel
          have hr20 := TR.out
          by_cases hlt2 : k < r
          · obtain ⟨y, hy⟩ : ∃ y, R[k]? = some y := ⟨_, List.getElem?_eq_getElem (by rw [HRN.out]; exact hlt2)⟩
            obtain ⟨a2, rfl, zu2, nu2, u2⟩ := KR.out _ GW2.out k y hy
            have HYR := Lib.hid hy
            clear hy
            by_cases hyq : y = (q : Int) + 1
            · subst hyq
              obtain ⟨x8, z8⟩ := KI.out _ GW2.out
              obtain ⟨p2, hp2, -⟩ := S2.out.now
              obtain ⟨sA2, sc2, ⟨-, o1, -, -, -⟩, -⟩ := HR2.out.2.2 q p2 hp2
              have fz := HR2.out.2.1 (q * 5 + 1)
              simp only at o1
              have I3 := Lib.hid (S2.out.yes HYR.out hp2)
              have H3 := Lib.hid (HR2.out.set hp2 (p2.count + 1))
              have GW3 := Lib.hid (g_set (j := q * 5 + 1) GW2.out (iV (p2.count + 1)))
              obtain ⟨-, c1, c2⟩ := S2.out.range hp2 TA.out (by rw [HRN.out]; exact TR.out) (by decide)
              clear hp2
              go_wp2_with fail
              go_roundg (r - (k + 1))
              case measure => omega
              case rel => exact ⟨k + 1, _, by omega, by omega, by go_num, H3, I3, GW3⟩
            · go_wp2_with fail
              go_roundg (r - (k + 1))
              case measure => omega
              case rel => exact ⟨k + 1, h2, by omega, by omega, by go_num, HR2, S2.out.no HYR.out hyq, GW2⟩
          · have SF := Lib.hid (S2.out.out (by rw [HRN.out]; omega))
            clear hgg2 hkr
            go_wp2_with fail
            go_roundg (n - (q + 1))
            case measure => omega
            case rel => exact ⟨q + 1, h2, by omega, by omega, by go_num, HR2, SF, GW2⟩
    · have hqn : q = n := by omega
      have SN : Hid (StO g (refsL more) q h) := (show _ from by rw [HR.out]; exact S1.out)
      have LQ : Hid (h.length ≤ q) := (show h.length ≤ q by rw [HL.out]; omega)
      have TRM : Hid ((refsL more).length ≤ 1048576) := (show _ ≤ _ by rw [HR.out, HRN.out]; exact TR.out)
      have E1 : Hid (∀ W, Below w.heap.size w W → HAt w W b h → Calls Try.prog 38 #[gV (some ⟨b, 0, none⟩) n cap, .slice B mn d] W (GivesI [] W)) := fun W hW hh => by
        have := CE.out W h b cap hW hh HL.out
        rwa [SN.out.exact LQ.out TA.out TRM.out (by decide)] at this
      have BW := Lib.hid (KB.out _ GW.out)
      have zb : b < wr.heap.size := Nat.lt_of_lt_of_le zY0.out (gsize GW.out)
      clear hgg hq
      have hcond : (decide ((q : Int) < (n : Int))) = false := by simp; omega
      go_upto_region 21 with (go_at_call 38; (with_reducible refine (E1.out _ BW.out HR1.out).mono ?_); rintro e V2 ⟨A5, c5, rfl, -, hb⟩; have B2 := Lib.hid hb; have x9 := (hb.cell (p := ⟨bh, 0, none⟩) z8).trans x8; have z9 := Nat.lt_of_lt_of_le z8 hb.size; clear hb)
      have HR2 : Hid (HAt w V2 b h) := HR1.out.keep (B2.out.block b zb)
      have BW2 : Hid (Below w.heap.size w V2) := below_hi BW.out B2.out
      by_cases h1 : m < 1
      · go_wp2_with fail
        go_ret
        exact ⟨rfl, BW2.out⟩
      by_cases h2 : (n : Int) < m
      · go_wp2_with fail
        go_ret
        exact ⟨rfl, BW2.out⟩
      obtain ⟨i, rfl⟩ : ∃ i : Nat, m = (i : Int) + 1 := ⟨(m - 1).toNat, by omega⟩
      have hin : i < n := by omega
      obtain ⟨p, hp⟩ : ∃ p, h[i]? = some p := ⟨_, List.getElem?_eq_getElem (by rw [HL.out]; exact hin)⟩
      obtain ⟨sA, sc, ⟨o0, o1, o2, o3, o4⟩, hs⟩ := HR2.out.2.2 i p hp
      have fz := HR2.out.2.1 (i * 5 + 1)
      simp only at o1
      clear o2 o3 o4 hs
      cases hk : (p.kind == 0) with
      | true =>
        go_wp2_with fail
        go_ret
        exact ⟨rfl, BW2.out⟩
      | false =>
        have hk0 : p.kind ≠ 0 := by simpa using hk
        have hpr := SN.out.range LQ.out hp hk0 TA.out TRM.out (by decide)
        obtain ⟨c1', c2'⟩ := hpr
        have E2 : Hid (∀ W, Below w.heap.size w W → HAt w W b (h.set i { p with count := p.count + 1 }) → Calls Try.prog 38 #[gV (some ⟨b, 0, none⟩) n cap, .slice B mn d] W (GivesI [(i : Int) + 1] W)) := fun W hW hh => by
          have := CE.out W _ b cap hW hh (by rw [List.length_set]; exact HL.out)
          rwa [SN.out.one HC.out LQ.out TA.out TRM.out (by decide) hp hk0] at this
        have H4 := Lib.hid (HR2.out.set hp (p.count + 1))
        have BW4 := Lib.hid (BW2.out.setCell (p := ⟨b, i * 5 + 1, none⟩) hbw (iV (p.count + 1)))
        clear hp hk0
        go_wp2_with (first
          | (go_at_call 38; (with_reducible refine (E2.out _ BW4.out H4.out).mono ?_); rintro e V5 ⟨A6, c6, rfl, i6, hb⟩; have B5 := Lib.hid (below_hi BW4.out hb); clear hb)
          | (go_at_call_of 43 A6; have HH := ints_call (c := c6) [(i : Int) + 1] 3 i6 (by simp) 1 rfl (.cells #[.int .i64 ((i : Int) + 1)] 3 (0, 0)) rfl; (with_reducible refine HH.mono ?_); clear HH; rintro e V6 ⟨rfl, hb⟩; have B6 := Lib.hid (below_hi B5.out (below_hi (al _ _) hb)); clear hb))
        go_ret
        exact ⟨rfl, B6.out⟩
theorem walk (A : Option Addr) (c : Nat) (g : List OB) (B : Option Addr) (d : Nat) (more : List (Int × Int)) (m : Int) (hA : A = none → c = 0) (hz : g.length * 64 ≤ 140737488351232) (hb1 : (g.map fun o => o.slots.length).sum + g.length ≤ 1048576)
    (hm : more.length * 16 ≤ 140737488351232) (hb2 : more.length + 1 ≤ 1048576) (hl : -9223372036854775808 ≤ m) (hu : m ≤ 9223372036854775807) (w : World) (hg : GAt w A g) (hB : PairsAt w B more) :
    Calls Try.prog 11 #[.agg #[.slice A g.length c], .slice B more.length d, .int .i64 m] w fun e w' => e = .returned (.bool true) ∧ Below w.heap.size w w' := by
  cases hc : checkB g with
  | false => exact walkF A c g B d more m hz hm hc w hg hB
  | true =>
    by_cases hne : g = []
    · subst hne
      exact walkE A c B d more m hm hl hu hA w hB
    · exact walkT A c g B d more m hz hm hl hu hb1 hb2 hc hne w hg hB
theorem own : ownKnob Try.prog.godebug = none := by kernel_rfl
theorem laidOut : laidOutB Try.prog = true := by kernel_rfl
noncomputable def laidWorld (os : Os) : World := World.holding Try.prog os ⟨#[], #[], []⟩
set_option maxRecDepth 100000 in
theorem contract (H : Type) (enc : TypeId × Value → H) (W : World) (base : Nat) (args : Array Value) (ds gs : List (DataW H)) (before : List MemPlace)
    (hval : ∀ (j : Nat) t v, Try.f11.params[j]? = some t → args[j]? = some v → Value.okWide Try.prog W .any base t v)
    (hW : DataW.Whole enc Try.prog Try.f11.params.toList Rows.graphRightSpec.vars false W args.toList ds gs before)
    (hsz0 : (DataW.weightsEach Try.prog (Try.f11.params.toList ++ (Rows.OpenSpec.upto Rows.graphRightSpec).bare.plain.varTypes Try.prog) (ds ++ gs)).all (· ≤ reachBytes) = true) (_hL : laidMet Try.prog Rows.graphRightUptoRow.laid W) (hk : Rows.uptoSmall H (ds ++ gs) = true) :
    Calls Try.prog 11 args W fun e W' => ∃ v, e = .returned v ∧ Rows.graphRightSpec.post enc Try.prog Try.f11 false true false false W args v W' := by
  have hW' := hW
  obtain ⟨p, q, hA0, hV, rfl, hfz, hnd⟩ := hW
  have hA : DataW.TrodAll enc Try.prog W 0 (fun _ => true) true Try.f11.params.toList args.toList ds p := hA0
  have hsz := hsz0
  rw [Try.params11] at hA hval hsz
  obtain ⟨v0, vs0, d0, ds0, p0, q0, hargs, rfl, rfl, h0, r0⟩ := trodAll_cons hA
  obtain ⟨v1, vs1, d1, ds1, p1, q1, rfl, rfl, rfl, h1, r1⟩ := trodAll_cons r0
  obtain ⟨v2, vs2, d2, ds2, p2, q2, rfl, rfl, rfl, h2, r2⟩ := trodAll_cons r1
  obtain ⟨rfl, rfl, rfl⟩ := trodAll_nil r2
  obtain rfl : args = #[v0, v1, v2] := by cases args; simp_all
  obtain ⟨rfl, rfl⟩ := trodVars_none hV
  have hbulk := bulks.bound hk
  obtain ⟨A0, c0, l0, rfl, t0, w0, z0, x0⟩ := open_graph_b (hval 0 46 v0 rfl rfl) h0 (size_of hsz (j := 0) rfl rfl)
  have y0 := Nat.le_trans x0 (Nat.le_trans (bulks.part_le (d := d0) (by simp)) hbulk)
  obtain ⟨A1, c1, l1, rfl, w1, z1, x1⟩ := open_more_b (hval 1 22 v1 rfl rfl) h1 (size_of hsz (j := 1) rfl rfl)
  have y1 := Nat.le_trans x1 (Nat.le_trans (bulks.part_le (d := d1) (by simp)) hbulk)
  obtain ⟨a2, rfl, rfl, rfl, w2⟩ := open_int Try.underlying3 (hval 2 3 v2 rfl rfl) h2
  obtain ⟨l2, u2⟩ := of_wf_i64 w2
  clear hA0 hsz hsz0
  simp only [List.append_nil] at hW'
  refine (walk A0 c0 l0 A1 c1 l1 a2 t0 z0 y0 z1 y1 l2 u2 W w0 w1 ).mono fun e W' ⟨he, hb⟩ => ?_
  subst he
  exact ⟨_, rfl, law_post laidOut (by kernel_rfl) (by kernel_rfl) Try.underlying4 hW' hb rfl⟩

theorem laid_met (os : Os) : laidMet Try.prog Rows.graphRightUptoRow.laid ((laidWorld os).forCall (fun _ _ => 0) ⟨#[], #[.agg #[.slice none 0 0], .slice none 0 0, .int .i64 0], []⟩).memory :=
  laidMet_of_run' 8 (by kernel_rfl) (by kernel_rfl)
theorem reads (os : Os) {H : Type} (enc : TypeId × Value → H) : ∃ places, DataW.whole enc Try.prog ((laidWorld os).forCall (fun _ _ => 0) ⟨#[], #[.agg #[.slice none 0 0], .slice none 0 0, .int .i64 0], []⟩).memory Try.f11.params.toList Rows.graphRightSpec.vars false (#[.agg #[.slice none 0 0], .slice none 0 0, .int .i64 0] : Array Value).toList 8 = some ([.agg [.nil], .nil, .lit (.int .i64 0)], [], places) :=
  ⟨[], by kernel_rfl⟩

set_option maxRecDepth 100000 in
theorem lifted (os : Os) (started : os.Started) (H : Type) (enc : TypeId × Value → H) (F : Stop.Interp) :
    ReturnsInHanded {} Try.checked os 11 .any ((Rows.OpenSpec.upto Rows.graphRightSpec).preRow enc Try.prog Try.f11 Rows.graphRightUptoRow.domain false Rows.graphRightUptoRow.laid) (((Rows.OpenSpec.upto Rows.graphRightSpec).at F).post enc Try.prog Try.f11 false true false false) := by
  obtain ⟨places, hx⟩ := reads os enc
  refine returnsInHanded_of_row (C := Try.checked) (s := (Rows.OpenSpec.upto Rows.graphRightSpec)) own started (by kernel_rfl) Try.func11
    (witness_row_atRef (enc := enc) (C := Try.checked) false (laidWorld os) #[.agg #[.slice none 0 0], .slice none 0 0, .int .i64 0] rfl (by kernel_rfl) (by kernel_rfl) (by kernel_rfl)
      (OpenSpec.preRow_of_cond 8 hx (by kernel_rfl) (fun k hk => by cases hk; kernel_rfl) (by kernel_rfl) (laid_met os))) ?_
  intro W base args ds gs before hval hW _ hcond hsz hL _ _
  exact contract H enc W base args ds gs before hval hW hsz hL (hcond _ rfl)

/-- The row. -/
theorem holds : Rows.GraphRightUptoSaid :=
  OpenClaim.holds_of_cond 11 Try.f11 rfl rfl rfl rfl rfl rfl rfl ⟨rfl, rfl, rfl, rfl, rfl⟩ rfl rfl rfl rfl rfl (by kernel_rfl) Try.func11 (by kernel_rfl)
    (of_decide_eq_true (by kernel_rfl)) (by unfold Func.isWrapper; first | (rw [if_pos (by decide +kernel)]; kernel_rfl) | (rw [if_neg (by decide +kernel)]; exact ⟨rfl, rfl⟩))
    (fun os started H enc _ F => by rw [OpenClaim.pre_eq_preRow]; exact lifted os started H enc F)
end Go.Proofs.Ytkkdgacdajojiaa.graphRight
