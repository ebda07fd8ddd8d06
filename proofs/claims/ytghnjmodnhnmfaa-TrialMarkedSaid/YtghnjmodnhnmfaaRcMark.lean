/- reach.marks$1: the mark that calls itself. -/
import Derived.Test.YtghnjmodnhnmfaaRcRounds
import Derived.Test.YtghnjmodnhnmfaaRcMarkM
namespace Go.Proofs.Ytghnjmodnhnmfaa
set_option maxRecDepth 20000
open Go.RowKit Go.Maps

theorem held_nat {w : World} {A : Option Addr} {c : Nat} {g : List OB} (hg : GAt w A g) (hn : g.length * 64 ≤ 140737488355328) {m : Nat} (hm : thereN g m = true) :
    Calls Try.prog 130 #[gV A g.length c, iV m] w (GivesInts (intsOf (heldN g m)) w) := by
  obtain ⟨h1, h2⟩ := there_le hm
  obtain ⟨k, rfl⟩ : ∃ k, m = k + 1 := ⟨m - 1, by omega⟩
  have := held_any (c := c) hg hn (k := k) (by omega)
  rw [show (((k + 1 : Nat) : Int)) = (k : Int) + 1 by omega]
  exact this
theorem held_len {w : World} {A : Option Addr} {g : List OB} (hg : GAt w A g) (m : Nat) : (heldN g m).length ≤ 8796093022208 := by
  cases m with
  | zero => exact Nat.zero_le _
  | succ k =>
    rw [held_succ]
    cases ho : g[k]? with
    | none => exact Nat.zero_le _
    | some o =>
      obtain ⟨a, sA, sc, _, _, _, hs⟩ := hg k o ho
      have h1 := refsL_len o.slots
      have h2 := hs.2
      show ((refsL o.slots).map Int.toNat).length ≤ _
      rw [List.length_map]
      omega
abbrev bB (b : Bool) : Value := .bool b
abbrev markF (b5 b6 b2 b7 : Nat) : Value := .func (.func 165) #[] #[bV b5, bV b6, bV b2, bV b7]
/-- What the mark's variables hold. -/
structure MEnv (w0 w : World) (A : Option Addr) (n c b5 b6 b2 b7 bm : Nat) : Prop where
  below : Below w0.heap.size w0 w
  c5 : w.cell? ⟨b5, 0, none⟩ = some (.slice (some ⟨bm, 0, none⟩) (n + 1) (n + 1))
  c2 : w.cell? ⟨b2, 0, none⟩ = some (.slice A n c)
  c7 : w.cell? ⟨b7, 0, none⟩ = some (markF b5 b6 b2 b7)
  ne : b5 ≠ bm ∧ b2 ≠ bm ∧ b7 ≠ bm
  lo : w0.heap.size ≤ bm
theorem MEnv.frm {w0 w w' : World} {A : Option Addr} {n c b5 b6 b2 b7 bm : Nat} (h : MEnv w0 w A n c b5 b6 b2 b7 bm) (hf : Frm (fun k => k = bm) w w') : MEnv w0 w' A n c b5 b6 b2 b7 bm := by
  obtain ⟨n5, n2, n7⟩ := h.ne
  refine ⟨?_, ?_, ?_, ?_, h.ne, h.lo⟩
  · exact ⟨hf.os.trans h.below.os, hf.tape.trans h.below.tape, hf.output.trans h.below.output, Nat.le_trans h.below.size hf.size, fun k hk => (hf.block k (Nat.lt_of_lt_of_le hk h.below.size) (by have := h.lo; omega)).trans (h.below.block k hk)⟩
  · exact (hf.cell (World.block_lt_of_cell? w _ h.c5) n5).trans h.c5
  · exact (hf.cell (World.block_lt_of_cell? w _ h.c2) n2).trans h.c2
  · exact (hf.cell (World.block_lt_of_cell? w _ h.c7) n7).trans h.c7
def RowB (w : World) (b n : Nat) (M : Nat → Bool) : Prop := w.rowIs b 4 n fun i => bB (M i)
theorem RowB.frm {w w' : World} {b n : Nat} {M : Nat → Bool} (h : RowB w b n M) {S : Nat → Prop} (hf : Frm S w w') (hn : ¬ S b) : RowB w' b n M := h.of_block (hf.block _ h.lt hn)
theorem RowB.below {w w' : World} {b n : Nat} {M : Nat → Bool} (h : RowB w b n M) (hb : Below w.heap.size w w') : RowB w' b n M := h.of_block (hb.block _ h.lt)
theorem RowB.set {w : World} {b n m : Nat} {M : Nat → Bool} (h : RowB w b n M) : RowB (w.setCell ⟨b, m, none⟩ (.bool true)) b n (setM M m) := by
  refine (World.rowIs.set h m (.bool true)).congr fun i _ => ?_
  unfold setM
  by_cases e : i = m
  · subst e; simp
  · have : (i == m) = false := by simpa using e
    simp [e, this]
set_option maxHeartbeats 4000000 in
theorem mark_any {w0 : World} {A : Option Addr} {c : Nat} {g : List OB} (hg : GAt w0 A g) (hck : checkB g = true) (hn : g.length ≤ 900) (b5 b6 b2 b7 bm : Nat) :
    ∀ (q : Nat) (M : Nat → Bool) (m deep : Nat) (w : World), unm (g.length + 1) M < q → deep + unm (g.length + 1) M ≤ g.length + 1 → thereN g m = true → MEnv w0 w A g.length c b5 b6 b2 b7 bm → RowB w bm (g.length + 1) M →
      Calls Try.prog 165 #[iV m, iV deep, bV b5, bV b6, bV b2, bV b7] w fun e w' => e = .returned (.tuple #[]) ∧ ∃ M', RowB w' bm (g.length + 1) M' ∧ Marks g m M M' ∧ Frm (fun k => k = bm) w w' := by
  intro q
  induction q with
  | zero =>
    intro M m deep w hq
    exact absurd hq (Nat.not_lt_zero _)
  | succ q ih =>
    intro M m deep w hq hd hm hE hR
    have hE' := Lib.hid hE
    obtain ⟨hbl, c5, c2, c7, hne, hlo⟩ := hE
    have hml := (there_le hm).2
    have hcm : w.cell? ⟨bm, m, none⟩ = some (.bool (M m)) := World.rowIs.cell hR (by omega)
    have hfz : w.frozen? ⟨bm, m, none⟩ = false := World.rowIs.frozen hR m
    have RR := Lib.hid hR
    have IH := Lib.hid ih
    have HM := Lib.hid hm
    clear ih hR hm hbl
    have HL := Lib.hid (fun W (hW : Below w0.heap.size w0 W) => held_nat (c := c) (hg.below hW) (by omega) HM.out)
    cases hMm : M m with
    | true =>
      rw [hMm] at hcm
      clear hq
      generalize g.length = n at *
      go_enter Try.func165, Try.ntmps165
      go_wp2_with fail
      refine bodyPost_ret (results_none rfl _ _ _) rfl ?_
      exact ⟨rfl, M, RR.out, Marks.done hMm, Frm.refl _ _⟩
    | false =>
      rw [hMm] at hcm
      have hu := unm_set (n := g.length + 1) (m := m) (by omega) hMm
      have hdp : ((deep : Int) == 1000) = false := not_eq (by omega)
      have ED := Lib.hid hd
      have EQ := Lib.hid hq
      have EU := Lib.hid hu
      have dlt : deep ≤ 901 := by omega
      have R1 : Hid (RowB (w.setCell ⟨bm, m, none⟩ (.bool true)) bm (g.length + 1) (setM M m)) := RR.out.set
      have F1 : Hid (Frm (fun k => k = bm) w (w.setCell ⟨bm, m, none⟩ (.bool true))) := Frm.set (S := fun k => k = bm) (p := ⟨bm, m, none⟩) (Frm.refl _ w) (show bm = bm from rfl) _
      have E1 : Hid (MEnv w0 (w.setCell ⟨bm, m, none⟩ (.bool true)) A g.length c b5 b6 b2 b7 bm) := hE'.out.frm F1.out
      clear hd hq hu
      generalize hgn : g.length = n at *
      go_enter Try.func165, Try.ntmps165
      go_wp2_with (go_at_call 130; (with_reducible refine (HL.out _ E1.out.below).mono ?_); rintro e V ⟨v, rfl, hown, hb⟩; have FV := Lib.hid (F1.out.trans (Frm.of_below (fun k => k = bm) hb)); have EV := Lib.hid (hE'.out.frm FV.out); have RV := Lib.hid (R1.out.below hb); obtain ⟨RA, rc, rfl, hri, hra⟩ := ints_of_own2 hown; have RI := Lib.hid hri; have RB := Lib.hid hra; clear hown hb hri hra)
      have hbw := RR.out.lt
      have NS : Hid (∀ a, RA = some a → ¬ (a.block = bm)) := fun a ha hs => by
        have := RB.out a ha
        simp at this
        omega
      have LK : Hid ((intsOf (heldN g m)).length = (heldN g m).length) := show _ = _ from intsOf_len _
      have HH : Hid (∀ (i x : Nat), (heldN g m)[i]? = some x → thereN g x = true) := fun i x hx => held_there hck (List.mem_of_getElem? hx)
      clear RB
      rw [LK.out]
      have hll := held_len hg m
      go_loopg [26] (heldN g m).length (fun gg s26 wr => ∃ j : Nat, j ≤ (heldN g m).length ∧ (heldN g m).length - j ≤ gg ∧ s26 = .int .i64 j ∧ Hid (Frm (fun k => k = bm) V wr) ∧ Hid (∃ M1, RowB wr bm (n + 1) M1 ∧ MarkJ g m M M1 j))
      case atStart => exact ⟨0, Nat.zero_le _, by omega, rfl, Frm.refl _ _, ⟨_, RV.out, MarkJ.start⟩⟩
      case round =>
        obtain ⟨j, hj, hg2, rfl, FW, QQ⟩ := hrel
        by_cases hlt : j < (heldN g m).length
        · obtain ⟨x, hx⟩ : ∃ x, (heldN g m)[j]? = some x := ⟨_, List.getElem?_eq_getElem hlt⟩
          obtain ⟨ad, e, hal, hc⟩ := (ints_frm FW.out RI.out NS.out) j x (intsOf_get hx)
          subst e
          obtain ⟨M1, hR1, hJ1⟩ := QQ.out
          have hl2 : (ad.add j).block < wr.heap.size := by rw [Go.ChangeShapes.block_add]; exact hal
          have EW := Lib.hid (EV.out.frm FW.out)
          have d7 := EW.out.c7
          have CALL : Hid (Calls Try.prog 165 #[iV x, iV ((deep : Int) + 1), bV b5, bV b6, bV b2, bV b7] wr fun e w' => e = .returned (.tuple #[]) ∧ ∃ M', RowB w' bm (n + 1) M' ∧ Marks g x M1 M' ∧ Frm (fun k => k = bm) wr w') := by
            have hu1 := unm_mono (n := n + 1) hJ1.le
            have := EU.out
            have := EQ.out
            have := ED.out
            have h := IH.out M1 x (deep + 1) wr (by omega) (by omega) (HH.out j x hx) EW.out hR1
            rw [show (((deep + 1 : Nat) : Int)) = (deep : Int) + 1 by omega] at h
            exact h
          have JJ := Lib.hid hJ1
          have HX := Lib.hid hx
          clear hR1 hJ1 hx QQ
          go_wp2_with (go_at_call 165; (with_reducible refine CALL.out.mono ?_); rintro e w4 ⟨rfl, M2, hR2, hM2, hF2⟩; have F4 := Lib.hid hF2; have Q4 : Hid (∃ M1, RowB w4 bm (n + 1) M1 ∧ MarkJ g m M M1 (j + 1)) := ⟨M2, hR2, JJ.out.step HX.out hM2⟩; clear hR2 hM2 hF2)
          go_roundg ((heldN g m).length - (j + 1))
          case measure => omega
          case rel => exact ⟨j + 1, by omega, by omega, by go_num, FW.out.trans F4.out, Q4.out⟩
        · obtain ⟨M1, hR1, hJ1⟩ := QQ.out
          have R9 := Lib.hid hR1
          have hle : (heldN g m).length ≤ j := Nat.le_of_not_lt hlt
          have J9 := Lib.hid (hJ1.fin hle)
          clear hR1 hJ1 QQ
          go_wp2_with fail
          refine bodyPost_end (results_none rfl _ _ _) rfl ?_
          exact ⟨rfl, M1, R9.out, J9.out, FV.out.trans FW.out⟩
end Go.Proofs.Ytghnjmodnhnmfaa
