/- RcMarkM: What a mark says of what was marked before and behind it: plain. No walk. | RcMark: reach.marks$1: the mark that calls itself. | RcMarks: reach.marks: what can be reached. | RcFrom: reach.From and Lost. | RcHoldM: A row of rows of numbers in memory, each row the call's own; what holders' rows say. No walk. | RcHold: reach.holdersOf: which objects hold which. -/
import Derived.Test.YtjlobjgemhapaaaOldV
import Derived.Test.YtjlobjgemhapaaaOldR
import Derived.Test.YtjlobjgemhapaaaOldR
import Derived.Deep.RegionHeld3
import Derived.Deep.QuietTactic
import Derived.BigQuiet
import Derived.Maps.AppendAt
namespace Go.Proofs.Ytjlobjgemhapaaa
set_option maxRecDepth 20000
set_option maxRecDepth 20000

def unm (n : Nat) (M : Nat → Bool) : Nat := (List.range n).countP fun i => !M i
def setM (M : Nat → Bool) (m : Nat) : Nat → Bool := fun x => x == m || M x
theorem unm_mono {n : Nat} {M M' : Nat → Bool} (h : ∀ x, M x = true → M' x = true) : unm n M' ≤ unm n M := by
  unfold unm
  refine List.countP_mono_left fun x _ hx => ?_
  cases hM : M x with
  | false => rfl
  | true => rw [h x hM] at hx; cases hx
theorem unm_set {n m : Nat} {M : Nat → Bool} (hm : m < n) (h : M m = false) : unm n (setM M m) + 1 ≤ unm n M := by
  have key : ∀ L : List Nat, m ∈ L → L.countP (fun i => !setM M m i) + 1 ≤ L.countP fun i => !M i := by
    intro L
    have le : ∀ L : List Nat, L.countP (fun i => !setM M m i) ≤ L.countP fun i => !M i := fun L => by
      refine List.countP_mono_left fun x _ hx => ?_
      cases hM : M x with
      | false => rfl
      | true => unfold setM at hx; rw [hM] at hx; simp at hx
    induction L with
    | nil => intro h; cases h
    | cons y r ih =>
      intro hy
      simp only [List.countP_cons]
      by_cases e : y = m
      · subst e
        have e1 : (!setM M y y) = false := by simp [setM]
        have e2 : (!M y) = true := by rw [h]; rfl
        rw [e1, e2]
        have := le r
        simp only [if_true, Bool.false_eq_true, if_false]
        omega
      · have hr : m ∈ r := by
          rcases List.mem_cons.1 hy with h | h
          · exact absurd h.symm e
          · exact h
        have e1 : (!setM M m y) = !M y := by
          have : (y == m) = false := by simpa using e
          simp [setM, this]
        rw [e1]
        have := ih hr
        omega
  exact key _ (List.mem_range.2 hm)
theorem unm_le (n : Nat) (M : Nat → Bool) : unm n M ≤ n := Nat.le_trans List.countP_le_length (by simp)
theorem unm_pos {n m : Nat} {M : Nat → Bool} (hm : m < n) (h : M m = false) : 1 ≤ unm n M := by
  have := unm_set hm h
  omega
/-- Behind a mark of m. -/
structure Marks (g : List OB) (m : Nat) (M M' : Nat → Bool) : Prop where
  le : ∀ x, M x = true → M' x = true
  has : M' m = true
  new : ∀ x, M' x = true → M x = true ∨ (Rch g [m] x ∧ ∀ y ∈ heldN g x, M' y = true)
theorem Marks.done {g : List OB} {m : Nat} {M : Nat → Bool} (h : M m = true) : Marks g m M M := ⟨fun _ h => h, h, fun _ h => Or.inl h⟩
/-- While the objects that m holds are gone through: those up to j. -/
structure MarkJ (g : List OB) (m : Nat) (M M' : Nat → Bool) (j : Nat) : Prop where
  le : ∀ x, setM M m x = true → M' x = true
  new : ∀ x, M' x = true → setM M m x = true ∨ (Rch g [m] x ∧ ∀ y ∈ heldN g x, M' y = true)
  got : ∀ i x, i < j → (heldN g m)[i]? = some x → M' x = true
theorem MarkJ.start {g : List OB} {m : Nat} {M : Nat → Bool} : MarkJ g m M (setM M m) 0 := ⟨fun _ h => h, fun _ h => Or.inl h, fun _ _ h => absurd h (Nat.not_lt_zero _)⟩
theorem MarkJ.step {g : List OB} {m x j : Nat} {M M1 M2 : Nat → Bool} (h : MarkJ g m M M1 j) (hx : (heldN g m)[j]? = some x) (k : Marks g x M1 M2) : MarkJ g m M M2 (j + 1) := by
  have hm : x ∈ heldN g m := List.mem_of_getElem? hx
  refine ⟨fun y hy => k.le _ (h.le y hy), fun y hy => ?_, fun i y hi hy => ?_⟩
  · rcases k.new y hy with h1 | ⟨h1, h2⟩
    · rcases h.new y h1 with h3 | ⟨h3, h4⟩
      · exact Or.inl h3
      · exact Or.inr ⟨h3, fun z hz => k.le _ (h4 z hz)⟩
    · refine Or.inr ⟨h1.mono fun z hz => ?_, h2⟩
      simp at hz; subst hz
      exact .step (.root (by simp)) hm
  · by_cases e : i = j
    · subst e
      rw [hx] at hy; injection hy with hy; subst hy
      exact k.has
    · exact k.le _ (h.got i y (by omega) hy)
theorem MarkJ.fin {g : List OB} {m j : Nat} {M M1 : Nat → Bool} (h : MarkJ g m M M1 j) (hj : (heldN g m).length ≤ j) : Marks g m M M1 := by
  refine ⟨fun x hx => h.le x (by simp [setM, hx]), h.le m (by simp [setM]), fun x hx => ?_⟩
  rcases h.new x hx with h1 | h1
  · simp only [setM, Bool.or_eq_true, beq_iff_eq] at h1
    rcases h1 with rfl | h1
    · refine Or.inr ⟨.root (by simp), fun y hy => ?_⟩
      obtain ⟨i, hi⟩ := List.getElem?_of_mem hy
      exact h.got i y (Nat.lt_of_lt_of_le (List.getElem?_eq_some_iff.1 hi).1 hj) hi
    · exact Or.inl h1
  · exact Or.inr h1
/-- While the roots are gone through: what is left of them. -/
structure MarkR (g : List OB) (from_ : List Nat) (todo : List Nat) (M : Nat → Bool) : Prop where
  all : ∀ x ∈ from_, M x = true ∨ x ∈ todo
  fine : ∀ x, M x = true → Rch g from_ x ∧ ∀ y ∈ heldN g x, M y = true
theorem MarkR.step {g : List OB} {f todo : List Nat} {m : Nat} {M M' : Nat → Bool} (h : MarkR g f (m :: todo) M) (hm : m ∈ f) (k : Marks g m M M') : MarkR g f todo M' := by
  refine ⟨fun x hx => ?_, fun x hx => ?_⟩
  · rcases h.all x hx with h1 | h1
    · exact Or.inl (k.le x h1)
    · rcases List.mem_cons.1 h1 with rfl | h1
      · exact Or.inl k.has
      · exact Or.inr h1
  · rcases k.new x hx with h1 | ⟨h1, h2⟩
    · obtain ⟨h3, h4⟩ := h.fine x h1
      exact ⟨h3, fun y hy => k.le _ (h4 y hy)⟩
    · exact ⟨h1.mono fun z hz => by simp at hz; subst hz; exact .root hm, h2⟩
theorem MarkR.fin {g : List OB} {f : List Nat} {M : Nat → Bool} (h : MarkR g f [] M) : M = reachB g f := by
  refine reach_eq (fun m hm => ?_) (fun m x hm hx => (h.fine m hm).2 x hx) (fun m hm => (h.fine m hm).1)
  rcases h.all m hm with h1 | h1
  · exact h1
  · cases h1
end Go.Proofs.Ytjlobjgemhapaaa
namespace Go.Proofs.Ytjlobjgemhapaaa
set_option maxRecDepth 20000
set_option maxRecDepth 20000
open Go.RowKit Go.Maps

theorem held_nat {w : World} {A : Option Addr} {c : Nat} {g : List OB} (hg : GAt w A g) (hn : g.length * 64 ≤ 140737488355328) {m : Nat} (hm : thereN g m = true) :
    Calls Try.prog 155 #[gV A g.length c, iV m] w (GivesInts (intsOf (heldN g m)) w) := by
  obtain ⟨h1, h2⟩ := there_le hm
  obtain ⟨k, rfl⟩ : ∃ k, m = k + 1 := ⟨m - 1, by omega⟩
  have := held_any (c := c) hg hn (k := k) (by omega)
  rw [show (((k + 1 : Nat) : Int)) = (k : Int) + 1 by omega]
  exact this
theorem held_len {w : World} {A : Option Addr} {g : List OB} (hg : GAt w A g) (m : Nat) : (heldN g m).length ≤ 8796093022208 := by
  cases m with
  | zero => exact Nat.zero_le _
  | succ k =>
    rw [held_succ]
    cases ho : g[k]? with
    | none => exact Nat.zero_le _
    | some o =>
      obtain ⟨a, sA, sc, _, _, _, hs⟩ := hg k o ho
      have h1 := refsL_len o.slots
      have h2 := hs.2
      show ((refsL o.slots).map Int.toNat).length ≤ _
      rw [List.length_map]
      omega
abbrev bB (b : Bool) : Value := .bool b
abbrev markF (b5 b6 b2 b7 : Nat) : Value := .func (.func 154) #[] #[bV b5, bV b6, bV b2, bV b7]
/-- What the mark's variables hold. -/
structure MEnv (w0 w : World) (A : Option Addr) (n c b5 b6 b2 b7 bm : Nat) : Prop where
  below : Below w0.heap.size w0 w
  c5 : w.cell? ⟨b5, 0, none⟩ = some (.slice (some ⟨bm, 0, none⟩) (n + 1) (n + 1))
  c2 : w.cell? ⟨b2, 0, none⟩ = some (.slice A n c)
  c7 : w.cell? ⟨b7, 0, none⟩ = some (markF b5 b6 b2 b7)
  ne : b5 ≠ bm ∧ b2 ≠ bm ∧ b7 ≠ bm
  lo : w0.heap.size ≤ bm
theorem MEnv.frm {w0 w w' : World} {A : Option Addr} {n c b5 b6 b2 b7 bm : Nat} (h : MEnv w0 w A n c b5 b6 b2 b7 bm) (hf : Frm (fun k => k = bm) w w') : MEnv w0 w' A n c b5 b6 b2 b7 bm := by
  obtain ⟨n5, n2, n7⟩ := h.ne
  refine ⟨?_, ?_, ?_, ?_, h.ne, h.lo⟩
  · exact ⟨hf.os.trans h.below.os, hf.tape.trans h.below.tape, hf.output.trans h.below.output, Nat.le_trans h.below.size hf.size, fun k hk => (hf.block k (Nat.lt_of_lt_of_le hk h.below.size) (by have := h.lo; omega)).trans (h.below.block k hk)⟩
  · exact (hf.cell (World.block_lt_of_cell? w _ h.c5) n5).trans h.c5
  · exact (hf.cell (World.block_lt_of_cell? w _ h.c2) n2).trans h.c2
  · exact (hf.cell (World.block_lt_of_cell? w _ h.c7) n7).trans h.c7
def RowB (w : World) (b n : Nat) (M : Nat → Bool) : Prop := w.rowIs b 4 n fun i => bB (M i)
theorem RowB.frm {w w' : World} {b n : Nat} {M : Nat → Bool} (h : RowB w b n M) {S : Nat → Prop} (hf : Frm S w w') (hn : ¬ S b) : RowB w' b n M := h.of_block (hf.block _ h.lt hn)
theorem RowB.below {w w' : World} {b n : Nat} {M : Nat → Bool} (h : RowB w b n M) (hb : Below w.heap.size w w') : RowB w' b n M := h.of_block (hb.block _ h.lt)
theorem RowB.set {w : World} {b n m : Nat} {M : Nat → Bool} (h : RowB w b n M) : RowB (w.setCell ⟨b, m, none⟩ (.bool true)) b n (setM M m) := by
  refine (World.rowIs.set h m (.bool true)).congr fun i _ => ?_
  unfold setM
  by_cases e : i = m
  · subst e; simp
  · have : (i == m) = false := by simpa using e
    simp [e, this]
set_option maxHeartbeats 4000000 in
theorem mark_any {w0 : World} {A : Option Addr} {c : Nat} {g : List OB} (hg : GAt w0 A g) (hck : checkB g = true) (hn : g.length ≤ 900) (b5 b6 b2 b7 bm : Nat) :
    ∀ (q : Nat) (M : Nat → Bool) (m deep : Nat) (w : World), unm (g.length + 1) M < q → deep + unm (g.length + 1) M ≤ g.length + 1 → thereN g m = true → MEnv w0 w A g.length c b5 b6 b2 b7 bm → RowB w bm (g.length + 1) M →
      Calls Try.prog 154 #[iV m, iV deep, bV b5, bV b6, bV b2, bV b7] w fun e w' => e = .returned (.tuple #[]) ∧ ∃ M', RowB w' bm (g.length + 1) M' ∧ Marks g m M M' ∧ Frm (fun k => k = bm) w w' := by
  intro q
  induction q with
  | zero =>
    intro M m deep w hq
    exact absurd hq (Nat.not_lt_zero _)
  | succ q ih =>
    intro M m deep w hq hd hm hE hR
    have hE' := Lib.hid hE
    obtain ⟨hbl, c5, c2, c7, hne, hlo⟩ := hE
    have hml := (there_le hm).2
    have hcm : w.cell? ⟨bm, m, none⟩ = some (.bool (M m)) := World.rowIs.cell hR (by omega)
    have hfz : w.frozen? ⟨bm, m, none⟩ = false := World.rowIs.frozen hR m
    have RR := Lib.hid hR
    have IH := Lib.hid ih
    have HM := Lib.hid hm
    clear ih hR hm hbl
    have HL := Lib.hid (fun W (hW : Below w0.heap.size w0 W) => held_nat (c := c) (hg.below hW) (by omega) HM.out)
    cases hMm : M m with
    | true =>
      rw [hMm] at hcm
      clear hq
      generalize g.length = n at *
      go_enter Try.func154, Try.ntmps154
      go_wp2_with fail
      refine bodyPost_ret (results_none rfl _ _ _) rfl ?_
      exact ⟨rfl, M, RR.out, Marks.done hMm, Frm.refl _ _⟩
    | false =>
      rw [hMm] at hcm
      have hu := unm_set (n := g.length + 1) (m := m) (by omega) hMm
      have hdp : ((deep : Int) == 1000) = false := not_eq (by omega)
      have ED := Lib.hid hd
      have EQ := Lib.hid hq
      have EU := Lib.hid hu
      have dlt : deep ≤ 901 := by omega
      have R1 : Hid (RowB (w.setCell ⟨bm, m, none⟩ (.bool true)) bm (g.length + 1) (setM M m)) := RR.out.set
      have F1 : Hid (Frm (fun k => k = bm) w (w.setCell ⟨bm, m, none⟩ (.bool true))) := Frm.set (S := fun k => k = bm) (p := ⟨bm, m, none⟩) (Frm.refl _ w) (show bm = bm from rfl) _
      have E1 : Hid (MEnv w0 (w.setCell ⟨bm, m, none⟩ (.bool true)) A g.length c b5 b6 b2 b7 bm) := hE'.out.frm F1.out
      clear hd hq hu
      generalize hgn : g.length = n at *
      go_enter Try.func154, Try.ntmps154
      go_wp2_with (go_at_call 155; (with_reducible refine (HL.out _ E1.out.below).mono ?_); rintro e V ⟨v, rfl, hown, hb⟩; have FV := Lib.hid (F1.out.trans (Frm.of_below (fun k => k = bm) hb)); have EV := Lib.hid (hE'.out.frm FV.out); have RV := Lib.hid (R1.out.below hb); obtain ⟨RA, rc, rfl, hri, hra⟩ := ints_of_own2 hown; have RI := Lib.hid hri; have RB := Lib.hid hra; clear hown hb hri hra)
      have hbw := RR.out.lt
      have NS : Hid (∀ a, RA = some a → ¬ (a.block = bm)) := fun a ha hs => by
        have := RB.out a ha
        simp at this
        omega
      have LK : Hid ((intsOf (heldN g m)).length = (heldN g m).length) := show _ = _ from intsOf_len _
      have HH : Hid (∀ (i x : Nat), (heldN g m)[i]? = some x → thereN g x = true) := fun i x hx => held_there hck (List.mem_of_getElem? hx)
      clear RB
      rw [LK.out]
      have hll := held_len hg m
      go_loopg [26] (heldN g m).length (fun gg s26 wr => ∃ j : Nat, j ≤ (heldN g m).length ∧ (heldN g m).length - j ≤ gg ∧ s26 = .int .i64 j ∧ Hid (Frm (fun k => k = bm) V wr) ∧ Hid (∃ M1, RowB wr bm (n + 1) M1 ∧ MarkJ g m M M1 j))
      case atStart => exact ⟨0, Nat.zero_le _, by omega, rfl, Frm.refl _ _, ⟨_, RV.out, MarkJ.start⟩⟩
      case round =>
        obtain ⟨j, hj, hg2, rfl, FW, QQ⟩ := hrel
        by_cases hlt : j < (heldN g m).length
        · obtain ⟨x, hx⟩ : ∃ x, (heldN g m)[j]? = some x := ⟨_, List.getElem?_eq_getElem hlt⟩
          obtain ⟨ad, e, hal, hc⟩ := (ints_frm FW.out RI.out NS.out) j x (intsOf_get hx)
          subst e
          obtain ⟨M1, hR1, hJ1⟩ := QQ.out
          have hl2 : (ad.add j).block < wr.heap.size := by rw [Go.ChangeShapes.block_add]; exact hal
          have EW := Lib.hid (EV.out.frm FW.out)
          have d7 := EW.out.c7
          have CALL : Hid (Calls Try.prog 154 #[iV x, iV ((deep : Int) + 1), bV b5, bV b6, bV b2, bV b7] wr fun e w' => e = .returned (.tuple #[]) ∧ ∃ M', RowB w' bm (n + 1) M' ∧ Marks g x M1 M' ∧ Frm (fun k => k = bm) wr w') := by
            have hu1 := unm_mono (n := n + 1) hJ1.le
            have := EU.out
            have := EQ.out
            have := ED.out
            have h := IH.out M1 x (deep + 1) wr (by omega) (by omega) (HH.out j x hx) EW.out hR1
            rw [show (((deep + 1 : Nat) : Int)) = (deep : Int) + 1 by omega] at h
            exact h
          have JJ := Lib.hid hJ1
          have HX := Lib.hid hx
          clear hR1 hJ1 hx QQ
          go_wp2_with (go_at_call 154; (with_reducible refine CALL.out.mono ?_); rintro e w4 ⟨rfl, M2, hR2, hM2, hF2⟩; have F4 := Lib.hid hF2; have Q4 : Hid (∃ M1, RowB w4 bm (n + 1) M1 ∧ MarkJ g m M M1 (j + 1)) := ⟨M2, hR2, JJ.out.step HX.out hM2⟩; clear hR2 hM2 hF2)
          go_roundg ((heldN g m).length - (j + 1))
          case measure => omega
          case rel => exact ⟨j + 1, by omega, by omega, by go_num, FW.out.trans F4.out, Q4.out⟩
        · obtain ⟨M1, hR1, hJ1⟩ := QQ.out
          have R9 := Lib.hid hR1
          have hle : (heldN g m).length ≤ j := Nat.le_of_not_lt hlt
          have J9 := Lib.hid (hJ1.fin hle)
          clear hR1 hJ1 QQ
          go_wp2_with fail
          refine bodyPost_end (results_none rfl _ _ _) rfl ?_
          exact ⟨rfl, M1, R9.out, J9.out, FV.out.trans FW.out⟩
end Go.Proofs.Ytjlobjgemhapaaa
namespace Go.Proofs.Ytjlobjgemhapaaa
set_option maxRecDepth 20000
set_option maxRecDepth 20000
open Go.RowKit Go.Maps

theorem bool_info : (Try.prog.info? 4).map (fun i => (i.zero, i.size, i.bytes)) = some (some (.bool false), 1, 1) := by kernel_rfl
theorem run_make_bools (n : Nat) (hn : n ≤ 1099511627776) (w : World) : (Instr.makeSlice 117 (.int .i64 ((n : Int) + 1)) (.int .i64 ((n : Int) + 1))).run Try.prog w = .ok (.slice (some ⟨w.heap.size, 0, none⟩) (n + 1) (n + 1)) (w.alloc (.cells (madeCells #[.bool false] (n + 1)) 4 (0, 0))) := by
  have := run_make_row' (P := Try.prog) 117 4 (.bool false) 1 Try.underlying117 bool_info rfl .i64 .i64 (n + 1) (by omega) (by omega) w
  rw [show (((n + 1 : Nat) : Int)) = (n : Int) + 1 by omega] at this
  exact this
theorem look_any {w0 : World} {A : Option Addr} {c : Nat} {g : List OB} (hg : GAt w0 A g) (hck : checkB g = true) (hn : g.length ≤ 900) (b5 b6 b2 b7 bm : Nat) (M : Nat → Bool) (m r : Nat) (w : World) (hm : thereN g m = true) (hE : MEnv w0 w A g.length c b5 b6 b2 b7 bm) (hR : RowB w bm (g.length + 1) M) :
      Calls Try.prog 157 #[iV m, iV r, bV b7] w fun e w' => e = .returned (.tuple #[]) ∧ ∃ M', RowB w' bm (g.length + 1) M' ∧ Marks g m M M' ∧ Frm (fun k => k = bm) w w' := by
  have CALL := Lib.hid (mark_any hg hck hn b5 b6 b2 b7 bm _ M m 0 w (Nat.lt_succ_self _) (by have := unm_le (g.length + 1) M; omega) hm hE hR)
  have c7 := hE.c7
  have z0 : ((0 : Nat) : Int) = 0 := rfl
  rw [z0] at CALL
  clear hE hR hm hg hck
  go_enter Try.func157, Try.ntmps157
  go_wp2_with (go_at_call 154; (with_reducible refine CALL.out.mono ?_); rintro e w4 ⟨rfl, hM⟩; have H4 := Lib.hid hM; clear hM)
  refine bodyPost_end (results_none rfl _ _ _) rfl ?_
  exact ⟨rfl, H4.out⟩
theorem mem_erase_perm {T K : List Nat} {k : Nat} (h : T.Perm (k :: K)) : (T.erase k).Perm K := by
  have := h.erase k
  simpa using this
/-- What rounds keeps of marks. -/
structure MarkI (w0 w : World) (A : Option Addr) (c : Nat) (g : List OB) (b5 b6 b2 b7 bm mb : Nat) (f : List Nat) (r : Nat) (K : List Nat) : Prop where
  env : MEnv w0 w A g.length c b5 b6 b2 b7 bm
  set : ∃ T, MapT w mb T ∧ T.Perm K
  row : ∃ M, RowB w bm (g.length + 1) M ∧ MarkR g f K M
  sub : ∀ x ∈ K, x ∈ f
  one : r = 1
structure MarkH (w0 w : World) (A : Option Addr) (c : Nat) (g : List OB) (b5 b6 b2 b7 bm mb : Nat) (f : List Nat) (r : Nat) (T : List Nat) : Prop where
  env : MEnv w0 w A g.length c b5 b6 b2 b7 bm
  set : MapT w mb T
  row : ∃ M, RowB w bm (g.length + 1) M ∧ MarkR g f T M
  sub : ∀ x ∈ T, x ∈ f
  one : T ≠ [] → r = 1
theorem MEnv.frm2 {w0 w w' : World} {A : Option Addr} {n c b5 b6 b2 b7 bm : Nat} (h : MEnv w0 w A n c b5 b6 b2 b7 bm) {S : Nat → Prop} (hf : Frm S w w') (h5 : ¬ S b5) (h2 : ¬ S b2) (h7 : ¬ S b7) (hl : ∀ k, S k → w0.heap.size ≤ k) : MEnv w0 w' A n c b5 b6 b2 b7 bm :=
  ⟨⟨hf.os.trans h.below.os, hf.tape.trans h.below.tape, hf.output.trans h.below.output, Nat.le_trans h.below.size hf.size, fun k hk => (hf.block k (Nat.lt_of_lt_of_le hk h.below.size) (fun e => by have := hl k e; omega)).trans (h.below.block k hk)⟩,
    (hf.cell (World.block_lt_of_cell? w _ h.c5) h5).trans h.c5, (hf.cell (World.block_lt_of_cell? w _ h.c2) h2).trans h.c2, (hf.cell (World.block_lt_of_cell? w _ h.c7) h7).trans h.c7, h.ne, h.lo⟩
theorem marks_rounds {w w1 : World} {A : Option Addr} {c : Nat} {g : List OB} (hg : GAt w A g) (hck : checkB g = true) (hn : g.length ≤ 900) {f : List Nat} (hft : ∀ x ∈ f, thereN g x = true) {b5 b6 b2 b7 bm mb : Nat} (hE : MEnv w w1 A g.length c b5 b6 b2 b7 bm)
    {T : List Nat} (hM : MapT w1 mb T) (hT : ∀ x, x ∈ T ↔ x ∈ f) (hR : RowB w1 bm (g.length + 1) fun _ => false) (h5 : b5 ≠ mb) (h2 : b2 ≠ mb) (h7 : b7 ≠ mb) (hbm : bm ≠ mb) (hlo : w.heap.size ≤ mb) :
    Calls Try.prog 156 #[.map (some mb), .func (.func 157) #[] #[bV b7]] w1 fun e w' => e = .returned (.tuple #[]) ∧ RowB w' bm (g.length + 1) (reachB g f) ∧ Below w.heap.size w w' ∧ w'.cell? ⟨b5, 0, none⟩ = some (.slice (some ⟨bm, 0, none⟩) (g.length + 1) (g.length + 1)) := by
  obtain ⟨n5, n2, n7⟩ := hE.ne
  refine (rounds_any (mb := mb) (w := w1) (enters_of Try.func157 (by kernel_rfl) rfl) (fun k => k = bm ∨ k = mb) (Or.inr rfl) (fun k hk => ?_) (fun r K W => MarkI w W A c g b5 b6 b2 b7 bm mb f r K) (fun r T W => MarkH w W A c g b5 b6 b2 b7 bm mb f r T) 1 (by omega)
    (fun r T W h => h.set) (fun r T W W' h hb => ?_) (fun r k K W h => ?_) (fun r T W K h hp hne => ?_) (fun r W h => ?_) (T0 := T) ?_).mono ?_
  · rcases hk with rfl | rfl
    · exact hR.lt
    · exact hM.lt
  · obtain ⟨M, hm1, hm2⟩ := h.row
    exact ⟨h.env.frm2 (Frm.of_below (fun _ => False) hb) (fun h => h) (fun h => h) (fun h => h) (fun k hk => hk.elim), h.set.below hb h.set.lt, ⟨M, hm1.below hb, hm2⟩, h.sub, h.one⟩
  · obtain ⟨T, hT1, hT2⟩ := h.set
    refine ⟨by rw [h.one]; exact Nat.le_refl _, T, hT1, hT2.symm.mem_iff.1 (by simp), fun W' hM' hG => ?_⟩
    obtain ⟨M, hm1, hm2⟩ := h.row
    have hF : Frm (fun k => k = bm ∨ k = mb) W W' := (Frm.refl _ _).grown hG (Or.inr rfl)
    have hE' : MEnv w W' A g.length c b5 b6 b2 b7 bm := h.env.frm2 ((Frm.refl (fun k => k = mb) _).grown hG rfl) h5 h2 h7 (fun k hk => by subst hk; exact hlo)
    have hR' : RowB W' bm (g.length + 1) M := hm1.frm ((Frm.refl (fun k => k = mb) _).grown hG rfl) hbm
    refine (look_any hg hck hn b5 b6 b2 b7 bm M k r W' (hft k (h.sub k (by simp))) hE' hR').mono ?_
    rintro e w' ⟨rfl, M', hr, hk, hf⟩
    refine ⟨rfl, ⟨hE'.frm hf, ⟨_, hM'.keep (hf.block _ hM'.lt (Ne.symm hbm)), mem_erase_perm hT2⟩, ⟨M', hr, hm2.step (h.sub k (by simp)) hk⟩, fun x hx => h.sub x (by simp [hx]), h.one⟩, hf.mono fun k hk => Or.inl hk⟩
  · obtain ⟨M, hm1, hm2⟩ := h.row
    refine ⟨h.env, ⟨T, h.set, hp.symm⟩, ⟨M, hm1, fun x hx => ?_, hm2.fine⟩, fun x hx => h.sub x (hp.mem_iff.1 hx), h.one (fun e => hne (by subst e; exact hp.eq_nil))⟩
    rcases hm2.all x hx with h1 | h1
    · exact Or.inl h1
    · exact Or.inr (hp.mem_iff.2 h1)
  · obtain ⟨T, hT1, hT2⟩ := h.set
    obtain rfl := hT2.eq_nil
    exact ⟨[], h.env, hT1, h.row, (fun x hx => by cases hx), fun h => absurd rfl h⟩
  · exact ⟨hE, hM, ⟨_, hR, fun x hx => Or.inr ((hT x).2 hx), fun x hx => by cases hx⟩, fun x hx => (hT x).1 hx, fun _ => rfl⟩
  · rintro e w' ⟨rfl, ⟨r, h⟩, hf⟩
    obtain ⟨M, hm1, hm2⟩ := h.row
    rw [← hm2.fin]
    exact ⟨rfl, hm1, h.env.below, h.env.c5⟩
/-- Where the loop over the roots begins. -/
structure MStart (w W : World) (A : Option Addr) (n c b2 bm b5 mb b6 b7 : Nat) : Prop where
  below : Below w.heap.size w W
  c2 : W.cell? ⟨b2, 0, none⟩ = some (.slice A n c)
  row : RowB W bm (n + 1) fun _ => false
  c5 : W.cell? ⟨b5, 0, none⟩ = some (.slice (some ⟨bm, 0, none⟩) (n + 1) (n + 1))
  map : MapT W mb []
  c6 : W.cell? ⟨b6, 0, none⟩ = some (.map (some mb))
  c7 : W.cell? ⟨b7, 0, none⟩ = some (markF b5 b6 b2 b7)
  ne : b5 ≠ bm ∧ b2 ≠ bm ∧ b7 ≠ bm ∧ b5 ≠ mb ∧ b2 ≠ mb ∧ b7 ≠ mb ∧ b6 ≠ mb ∧ bm ≠ mb
  lo : w.heap.size ≤ bm ∧ w.heap.size ≤ mb
  lt : bm < W.heap.size ∧ mb < W.heap.size
theorem mstart (w : World) (A : Option Addr) (n c : Nat) : MStart w
    ((((((w.alloc (Obj.cells #[Value.slice A n c] 24 (0, 0))).alloc (Obj.cells (madeCells #[Value.bool false] (n + 1)) 4 (0, 0))).alloc
      (Obj.cells #[Value.slice (some { block := w.heap.size + 1, off := 0 }) (n + 1) (n + 1)] 117 (0, 0))).alloc (Obj.map #[] 0)).alloc
      (Obj.cells #[Value.map (some (w.heap.size + 1 + 1 + 1))] 174 (0, 0))).alloc
      (Obj.cells #[markF (w.heap.size + 1 + 1) (w.heap.size + 1 + 1 + 1 + 1) w.heap.size (w.heap.size + 1 + 1 + 1 + 1 + 1)] 175 (0, 0)))
    A n c w.heap.size (w.heap.size + 1) (w.heap.size + 1 + 1) (w.heap.size + 1 + 1 + 1) (w.heap.size + 1 + 1 + 1 + 1) (w.heap.size + 1 + 1 + 1 + 1 + 1) := by
  refine ⟨?_, ?_, ?_, ?_, ?_, ?_, ?_, by omega, by omega, by simp⟩
  · exact ((((((Below.refl _ _).alloc (Nat.le_refl _) _).alloc (by simp) _).alloc (by simp; omega) _).alloc (by simp; omega) _).alloc (by simp; omega) _).alloc (by simp; omega) _
  · simp [go_sem]
  · have h := World.rowIs_made (w.alloc (Obj.cells #[Value.slice A n c] 24 (0, 0))) (.bool false) (n + 1) 4
    have h := (((h.alloc (Obj.cells #[Value.slice (some { block := w.heap.size + 1, off := 0 }) (n + 1) (n + 1)] 117 (0, 0))).alloc (Obj.map #[] 0)).alloc (Obj.cells #[Value.map (some (w.heap.size + 1 + 1 + 1))] 174 (0, 0))).alloc (Obj.cells #[markF (w.heap.size + 1 + 1) (w.heap.size + 1 + 1 + 1 + 1) w.heap.size (w.heap.size + 1 + 1 + 1 + 1 + 1)] 175 (0, 0))
    have e : (w.alloc (Obj.cells #[Value.slice A n c] 24 (0, 0))).heap.size = w.heap.size + 1 := by simp
    rw [e] at h
    exact h
  · simp [go_sem]
  · have h := MapT.made (((w.alloc (Obj.cells #[Value.slice A n c] 24 (0, 0))).alloc (Obj.cells (madeCells #[Value.bool false] (n + 1)) 4 (0, 0))).alloc (Obj.cells #[Value.slice (some { block := w.heap.size + 1, off := 0 }) (n + 1) (n + 1)] 117 (0, 0)))
    have e : (((w.alloc (Obj.cells #[Value.slice A n c] 24 (0, 0))).alloc (Obj.cells (madeCells #[Value.bool false] (n + 1)) 4 (0, 0))).alloc (Obj.cells #[Value.slice (some { block := w.heap.size + 1, off := 0 }) (n + 1) (n + 1)] 117 (0, 0))).heap.size = w.heap.size + 1 + 1 + 1 := by simp
    rw [e] at h
    exact (h.keep (Below.heap_alloc _ _ _ (by simp))).keep (Below.heap_alloc _ _ _ (by simp))
  · simp [go_sem]
  · simp [go_sem]
set_option maxHeartbeats 4000000 in
theorem marks_any {w : World} {A : Option Addr} {c : Nat} {g : List OB} (hg : GAt w A g) (hck : checkB g = true) (hn : g.length ≤ 900) {B : Option Addr} {d : Nat} {f : List Nat} (hf : IntsAt w B (intsOf f)) (hfl : f.length ≤ 8796093022208) (hft : ∀ x ∈ f, thereN g x = true) :
    Calls Try.prog 103 #[gV A g.length c, .slice B f.length d] w fun e w' => ∃ bm, e = .returned (.slice (some ⟨bm, 0, none⟩) (g.length + 1) (g.length + 1)) ∧ RowB w' bm (g.length + 1) (reachB g f) ∧ w.heap.size ≤ bm ∧ Below w.heap.size w w' := by
  have mk := run_make_bools g.length (by omega)
  have hmm := @run_makeMap Try.prog
  have hmf := hmf2
  have LK : Hid (∀ (b5 b6 b2 b7 bm : Nat) (M : Nat → Bool) (m r : Nat) (W : World) (_ : thereN g m = true) (_ : MEnv w W A g.length c b5 b6 b2 b7 bm) (_ : RowB W bm (g.length + 1) M),
      Calls Try.prog 157 #[iV m, iV r, bV b7] W fun e w' => e = .returned (.tuple #[]) ∧ ∃ M', RowB w' bm (g.length + 1) M' ∧ Marks g m M M' ∧ Frm (fun k => k = bm) W w') := fun b5 b6 b2 b7 bm M m r W => look_any hg hck hn b5 b6 b2 b7 bm M m r W
  have HG := Lib.hid hg
  have HC := Lib.hid hck
  have FI := Lib.hid hf
  have FT := Lib.hid hft
  have GET : Hid (∀ i, i < f.length → ∃ p, f[i]? = some p) := fun i hi => ⟨_, List.getElem?_eq_getElem hi⟩
  clear hg hck hf hft
  have HN0 : ∃ n, Hid (g.length = n) := ⟨_, rfl⟩
  generalize hgn : g.length = n at *
  have HN : Hid (g.length = n) := hgn
  clear hgn HN0
  go_enter Try.func103, Try.ntmps103
  go_wp2_with fail
  refine at_world (fun W => MStart w W A n c w.heap.size (w.heap.size + 1) (w.heap.size + 1 + 1) (w.heap.size + 1 + 1 + 1) (w.heap.size + 1 + 1 + 1 + 1) (w.heap.size + 1 + 1 + 1 + 1 + 1)) (mstart w A n c) fun V HV => ?_
  have hlo := HV.lo
  have hlt := HV.lt
  have HS := Lib.hid HV
  clear HV mk
  generalize w.heap.size + 1 + 1 + 1 + 1 + 1 = b7 at *
  generalize w.heap.size + 1 + 1 + 1 + 1 = b6 at *
  generalize w.heap.size + 1 + 1 + 1 = mb at *
  generalize w.heap.size + 1 + 1 = b5 at *
  generalize w.heap.size + 1 = bm at *
  obtain ⟨b2, hb2⟩ : ∃ b2, b2 = w.heap.size := ⟨_, rfl⟩
  rw [← hb2] at HS ⊢
  clear hb2
  have HS2 := Lib.hid HS.out
  obtain ⟨hbl, c2, hrow, c5, hmap, c6, c7, hne, -, -⟩ := HS2.out
  have l6 := World.block_lt_of_cell? V _ c6
  have BV := Lib.hid hbl
  have M0 := Lib.hid hmap
  have RV := Lib.hid hrow
  have EV : Hid (MEnv w V A n c b5 b6 b2 b7 bm) := ⟨hbl, c5, c2, c7, ⟨hne.1, hne.2.1, hne.2.2.1⟩, hlo.1⟩
  clear hrow hmap hbl c2 c5 c7
  go_loopg [19] f.length (fun gg s19 wr => ∃ k : Nat, k ≤ f.length ∧ f.length - k ≤ gg ∧ s19 = .int .i64 k ∧ Hid (∃ T, MapT wr mb T ∧ ∀ x, x ∈ T ↔ x ∈ f.take k) ∧ Hid (V.grownBy wr (some mb)))
  case atStart => exact ⟨0, Nat.zero_le _, by omega, rfl, ⟨[], M0.out, by simp⟩, grown_below (Below.refl _ _)⟩
  case round =>
    obtain ⟨k, hk, hgg, rfl, QQ, GG⟩ := hrel
    obtain ⟨T, hM, hT⟩ := QQ.out
    have d6 : wr.cell? ⟨b6, 0, none⟩ = some (.map (some mb)) := GG.out.cell c6 (by intro e; injection e with e; exact hne.2.2.2.2.2.2.1 e)
    by_cases hlt : k < f.length
    · obtain ⟨x, hx⟩ := GET.out k hlt
      have hx9 := (there_le (FT.out x (List.mem_of_getElem? hx))).2
      obtain ⟨ad, e, hal, hc⟩ := (FI.out) k x (intsOf_get hx)
      subst e
      have d0 : wr.cell? (ad.add k) = some (.int .i64 x) := GG.out.cell ((BV.out.cell (by rw [Go.ChangeShapes.block_add]; exact hal)).trans hc) (by rw [Go.ChangeShapes.block_add]; intro e; injection e with e; omega)
      obtain ⟨w', hput, hM', hG'⟩ := hM.run_put x (by have := HN.out; omega)
      have Q2 : Hid (∃ T, MapT w' mb T ∧ ∀ x, x ∈ T ↔ x ∈ f.take (k + 1)) := ⟨_, hM', fun y => by
        rw [List.take_add_one, hx]
        by_cases e : x ∈ T
        · rw [if_pos e, hT y]
          have := (hT x).1 e
          constructor
          · intro h; simp [h]
          · intro h
            rcases List.mem_append.1 h with h | h
            · exact h
            · simp at h; subst h; exact this
        · rw [if_neg e, List.mem_cons, hT y]
          simp [Or.comm]⟩
      have G2 := Lib.hid (grown_trans GG.out hG')
      clear hM' hG' hM hT QQ hx hc
      go_wp2_with fail
      go_roundg (f.length - (k + 1))
      case measure => omega
      case rel => exact ⟨k + 1, by omega, by omega, by go_num, Q2.out, G2.out⟩
    · have hkn : k = f.length := by omega
      have Q2 : Hid (MapT wr mb T ∧ ∀ x, x ∈ T ↔ x ∈ f) := ⟨hM, fun x => by rw [hT x, hkn, List.take_of_length_le (Nat.le_refl _)]⟩
      clear hM hT QQ hkn
      have CALL := Lib.hid (marks_rounds HG.out HC.out (by have := HN.out; omega) FT.out (w1 := wr) (A := A) (c := c) (b5 := b5) (b6 := b6) (b2 := b2) (b7 := b7) (bm := bm) (mb := mb) (f := f) (T := T) (by rw [HN.out]; exact EV.out.frm2 (S := fun k => k = mb) ((Frm.refl _ _).grown GG.out rfl) hne.2.2.2.1 hne.2.2.2.2.1 hne.2.2.2.2.2.1 (fun k hk => by subst hk; exact hlo.2)) Q2.out.1 Q2.out.2 (by rw [HN.out]; exact RV.out.frm (S := fun k => k = mb) ((Frm.refl _ _).grown GG.out rfl) hne.2.2.2.2.2.2.2) hne.2.2.2.1 hne.2.2.2.2.1 hne.2.2.2.2.2.1 hne.2.2.2.2.2.2.2 hlo.2)
      go_wp2_with (go_at_call 156; (with_reducible refine CALL.out.mono ?_); rintro e w4 ⟨rfl, hr, hb, hc5⟩; rw [HN.out] at hr hc5; have R4 := Lib.hid hr; have B4 := Lib.hid hb; clear hr hb)
      go_ret
      exact ⟨bm, rfl, R4.out, hlo.1, B4.out⟩
end Go.Proofs.Ytjlobjgemhapaaa
namespace Go.Proofs.Ytjlobjgemhapaaa
set_option maxRecDepth 20000
set_option maxRecDepth 20000
open Go.RowKit Go.Maps

theorem objs_len (g : List OB) (l : List (Int × Int)) : (objsN g l).length ≤ l.length := by
  unfold objsN
  refine Nat.le_trans (List.length_filter_le _ _) ?_
  rw [List.length_map]
  exact refsL_len l
theorem RowB.cell {w : World} {b n : Nat} {M : Nat → Bool} (h : RowB w b n M) {k : Nat} (hk : k < n) : w.cell? ⟨b, k, none⟩ = some (.bool (M k)) := World.rowIs.cell h hk
set_option maxHeartbeats 4000000 in
theorem fromLost_any {w : World} {A : Option Addr} {c : Nat} {g : List OB} (hg : GAt w A g) (hn : g.length ≤ 900) {B : Option Addr} {d : Nat} {l : List (Int × Int)} (hl : l.length * 16 ≤ 140737488355328) (h : PairsAt w B l) (can : Bool) :
    Calls Try.prog 63 #[gV A g.length c, .slice B l.length d, .bool can] w (GivesInts (intsOf (fromL g l can)) w) := by
  obtain ⟨i0, hi, hz0, hz1, hz2⟩ := info_parts int_info
  have CH : Hid (∀ W, Below w.heap.size w W → Calls Try.prog 18 #[gV A g.length c] W fun e w' => e = .returned (.bool (checkB g)) ∧ Below W.heap.size W w') := fun W hW => Check_any (hg.below hW) (by omega)
  cases hc : checkB g with
  | false =>
    rw [show fromL g l can = [] by unfold fromL; rw [hc]; rfl]
    rw [hc] at CH
    clear hg hc h hl
    generalize g.length = n at *
    generalize l.length = nl at *
    go_enter Try.func63, Try.ntmps63
    go_wp2_with (go_at_call 18; (with_reducible refine (CH.out _ ((Below.refl _ _).alloc (Nat.le_refl _) _)).mono ?_); rintro e w1 ⟨rfl, hb⟩; have B1 := Lib.hid (below_box hb); clear hb)
    go_ret
    exact ⟨_, rfl, World.ownsRow_nil _ _ _ _, B1.out⟩
  | true =>
    rw [show fromL g l can = whichL (fun m o => o.kind != 0 && (reachB g (objsN g l) m == can)) g by unfold fromL; rw [hc]; rfl]
    rw [hc] at CH
    have OB : Hid (∀ W, Below w.heap.size w W → Calls Try.prog 104 #[gV A g.length c, .slice B l.length d] W (GivesInts (intsOf (objsN g l)) W)) := fun W hW => objects_any (hg.below hW) (by omega) hl (pairs_below h hW)
    have MK : Hid (∀ W C cc, Below w.heap.size w W → IntsAt W C (intsOf (objsN g l)) → Calls Try.prog 103 #[gV A g.length c, .slice C (intsOf (objsN g l)).length cc] W fun e w' => ∃ bm, e = .returned (.slice (some ⟨bm, 0, none⟩) (g.length + 1) (g.length + 1)) ∧ RowB w' bm (g.length + 1) (reachB g (objsN g l)) ∧ Below W.heap.size W w') := fun W C cc hW hi => by
      rw [intsOf_len]
      refine (marks_any (d := cc) (hg.below hW) hc hn hi (by have := objs_len g l; omega) (fun x hx => objs_there hx)).mono ?_
      rintro e w' ⟨bm, rfl, h1, -, h2⟩
      exact ⟨bm, rfl, h1, h2⟩
    have TH : Hid (∀ W (k : Nat), Below w.heap.size w W → k < g.length → Calls Try.prog 105 #[gV A g.length c, iV ((k : Int) + 1)] W fun e w' => e = .returned (.bool (thereN g (k + 1))) ∧ Below W.heap.size W w') := fun W k hW hk => by
      have := isThere_nat (c := c) (hg.below hW) (by omega) (k + 1) (by omega)
      rw [show (((k + 1 : Nat) : Int)) = (k : Int) + 1 by omega] at this
      exact this
    have GET : Hid (∀ i, i < g.length → ∃ p, g[i]? = some p) := fun i hi => ⟨_, List.getElem?_eq_getElem hi⟩
    have FULL : Hid (g.take g.length = g) := List.take_of_length_le (Nat.le_refl _)
    generalize hR : reachB g (objsN g l) = R at *
    have WS : Hid (∀ (k : Nat) (o : Proofs.Ytjlobjgemhapaaa.OB), g[k]? = some o → whichL (fun m o => o.kind != 0 && (R m == can)) (g.take (k + 1)) = whichL (fun m o => o.kind != 0 && (R m == can)) (g.take k) ++ if (thereN g (k + 1) && (R (k + 1) == can)) then [k + 1] else []) := fun k o ho => by
      rw [which_snoc ho, there_at ho]
    have W0 : Hid (whichL (fun m o => o.kind != 0 && (R m == can)) (g.take 0) = []) := (rfl : whichL _ [] = [])
    have LEN : Hid (∀ k, (intsOf (whichL (fun m o => o.kind != 0 && (R m == can)) (g.take k))).length ≤ k) := fun k => by
      rw [intsOf_len]
      exact Nat.le_trans (which_len _ _) (List.length_take_le _ _)
    have WF : Hid (whichL (fun m o => o.kind != 0 && (R m == can)) g = whichL (fun m o => o.kind != 0 && (R m == can)) (g.take g.length)) := show _ = _ by rw [FULL.out]
    rw [WF.out]
    generalize hP : (fun k => whichL (fun m o => o.kind != 0 && (R m == can)) (g.take k)) = P
    have hPk : ∀ k, whichL (fun m o => o.kind != 0 && (R m == can)) (g.take k) = P k := fun k => by rw [← hP]
    simp only [hPk] at WS W0 LEN WF ⊢
    clear hPk hP hR WF FULL
    generalize objsN g l = X at *
    clear hg hc h hl
    generalize g.length = n at *
    generalize l.length = nl at *
    go_enter Try.func63, Try.ntmps63
    go_upto_region 3 with (go_at_call 18; (with_reducible refine (CH.out _ ((Below.refl _ _).alloc (Nat.le_refl _) _)).mono ?_); rintro e V ⟨rfl, hb⟩; have BV := Lib.hid (below_box hb); have c0 := boxed hb (j := 0) rfl; have zV : w.heap.size < V.heap.size := (by have := hb.size; simp at this; omega); clear hb)
    have c0' : V.cell? ⟨w.heap.size, 0, none⟩ = some (.slice A n c) := c0
    clear c0
    have CX : Hid (∀ W, Below V.heap.size V W → W.cell? ⟨w.heap.size, 0, none⟩ = some (.slice A n c)) := fun W hW => (hW.cell (p := ⟨w.heap.size, 0, none⟩) zV).trans c0'
    go_region_held3 (fun w' => w'.cell? ⟨w.heap.size, 0, none⟩ = some (.slice A n c) ∧ Below V.heap.size V w') (first | exact ⟨c0', (Below.refl _ _).drew⟩ | exact held_keep (fun W => CX.out W) (by assumption) (by assumption))
      (first
      | (go_at_call 104; (with_reducible refine (OB.out _ (by exact BV.out.trans ((by assumption : _ ∧ Below V.heap.size V _).2.mono BV.out.size))).mono ?_); rintro e w1 ⟨v1, rfl, hown1, hb1⟩; obtain ⟨C1, cc1, rfl, hi1⟩ := ints_of_own hown1; clear hown1)
      | (go_at_call 103; (with_reducible refine (MK.out _ _ _ (by exact BV.out.trans ((by assumption : _ ∧ Below V.heap.size V _).2.mono BV.out.size)) (by assumption)).mono ?_); rintro e w2 ⟨bm, rfl, hr2, hb2⟩))
    have HV : w2.cell? ⟨w.heap.size, 0, none⟩ = some (.slice A n c) ∧ Below V.heap.size V w2 := by assumption
    obtain ⟨x2, hb9⟩ := HV
    have B2 : Hid (Below w.heap.size w w2) := BV.out.trans (hb9.mono BV.out.size)
    have z2 : w.heap.size < w2.heap.size := Nat.lt_of_lt_of_le zV hb9.size
    have RR := Lib.hid hr2
    have hbl := hr2.lt
    clear hr2 hb2 hb9 hb1 hi1
    go_wp2_with fail
    go_loopw [8, 22] (fun v i wr => ∃ k : Nat, k ≤ n ∧ i = .int .i64 k ∧ wr.ownsRow w2.heap.size 3 1 v (intsOf (P k)).length ((intsOf (P k)).map (Value.int .i64)) ∧ Below w2.heap.size w2 wr) (fun _ i _ => n - (RowKit.intOf i).toNat)
    case atStart => exact ⟨0, Nat.zero_le _, rfl, (show World.ownsRow _ _ _ _ _ _ _ by rw [W0.out]; exact World.ownsRow_nil _ _ _ _), Below.refl _ _⟩
    case round =>
      obtain ⟨k, hk, rfl, hown, hb⟩ := hrel
      by_cases hlt : k < n
      · obtain ⟨o, ho⟩ := GET.out k hlt
        have x0 : wr.cell? ⟨w.heap.size, 0, none⟩ = some (.slice A n c) := (hb.cell (p := ⟨w.heap.size, 0, none⟩) z2).trans x2
        have r0 : wr.cell? ⟨bm, k + 1, none⟩ = some (.bool (R (k + 1))) := (hb.cell (p := ⟨bm, k + 1, none⟩) hbl).trans (RR.out.cell (by omega))
        have ED := Lib.hid (WS.out k o ho)
        have O := Lib.hid hown
        have BB := Lib.hid hb
        have L1 := LEN.out k
        have CALL := Lib.hid (TH.out wr k (B2.out.trans (BB.out.mono B2.out.size)) hlt)
        clear hown hb ho
        cases hq : thereN g (k + 1) with
        | true =>
          cases hy : (R (k + 1) == can) with
          | true =>
            rw [hq] at CALL
            have E1 : Hid (intsOf (P (k + 1)) = intsOf (P k) ++ [(k : Int) + 1]) := show _ = _ by rw [ED.out, hq, hy, Bool.and_self, if_pos rfl, intsOf_snoc]; rfl
            clear hq
            generalize R (k + 1) = y at *
            go_wp2_with (first
              | (go_at_call 105; refine CALL.out.mono ?_; rintro e w4 ⟨rfl, hb4⟩; have B4 := Lib.hid hb4; have r4 : w4.cell? ⟨bm, k + 1, none⟩ = some (.bool y) := (hb4.cell (p := ⟨bm, k + 1, none⟩) (Nat.lt_of_lt_of_le hbl BB.out.size)).trans r0; clear hb4)
              | (at_builtin; refine wpList_append_own _ rfl (.tmp 38) (.tmp 40) _ rfl w2.heap.size 3 i0 _ 1 8 Try.underlying25 hi hz0 hz1 hz2 rfl (by decide) _ _ _ rfl ((own_below O.out B4.out).alloc _) ⟨w4.heap.size, 0, none⟩ 1 1 [.int .i64 ((k : Int) + 1)] rfl rfl one_cell (by simp [Value.oneCell']) (by unfold maxLen; omega) (by omega) (by have := BB.out.size; have := B4.out.size; simp; omega) ?_; intro v' w5 hown5 hg5 _))
            have R5 := refs_step (own_below O.out B4.out) (BB.out.trans (B4.out.mono BB.out.size)) hown5 hg5 E1.out
            clear hown5 hg5
            go_roundw
            case rel => exact ⟨k + 1, by omega, by go_num, R5.1, R5.2⟩
            case measure => simp [RowKit.intOf]; omega
          | false =>
            rw [hq] at CALL
            have E1 : Hid (intsOf (P (k + 1)) = intsOf (P k)) := show _ = _ by rw [ED.out, hq, hy]; simp
            clear hq
            generalize R (k + 1) = y at *
            go_wp2_with (go_at_call 105; refine CALL.out.mono ?_; rintro e w4 ⟨rfl, hb4⟩; have B4 := Lib.hid hb4; have r4 : w4.cell? ⟨bm, k + 1, none⟩ = some (.bool y) := (hb4.cell (p := ⟨bm, k + 1, none⟩) (Nat.lt_of_lt_of_le hbl BB.out.size)).trans r0; clear hb4)
            go_roundw
            case rel => exact ⟨k + 1, by omega, by go_num, by rw [E1.out]; exact own_below O.out B4.out, BB.out.trans (B4.out.mono BB.out.size)⟩
            case measure => simp [RowKit.intOf]; omega
        | false =>
          rw [hq] at CALL
          have E1 : Hid (intsOf (P (k + 1)) = intsOf (P k)) := show _ = _ by rw [ED.out, hq]; simp
          clear hq
          go_wp2_with (go_at_call 105; refine CALL.out.mono ?_; rintro e w4 ⟨rfl, hb4⟩; have B4 := Lib.hid hb4; clear hb4)
          go_roundw
          case rel => exact ⟨k + 1, by omega, by go_num, by rw [E1.out]; exact own_below O.out B4.out, BB.out.trans (B4.out.mono BB.out.size)⟩
          case measure => simp [RowKit.intOf]; omega
      · have O := Lib.hid hown
        have BB := Lib.hid hb
        have hkn : k = n := by omega
        clear hown hb
        go_wp2_with fail
        go_ret
        have O2 := O.out
        rw [hkn] at O2
        exact ⟨_, rfl, own_less O2 (by omega), B2.out.trans (BB.out.mono B2.out.size)⟩
theorem Lost_any {w : World} {A : Option Addr} {c : Nat} {g : List OB} (hg : GAt w A g) (hn : g.length ≤ 900) {B : Option Addr} {d : Nat} {l : List (Int × Int)} (hl : l.length * 16 ≤ 140737488355328) (h : PairsAt w B l) :
    Calls Try.prog 22 #[gV A g.length c, .slice B l.length d] w (GivesInts (intsOf (fromL g l false)) w) := by
  have CH : Hid (∀ W, Below w.heap.size w W → Calls Try.prog 63 #[gV A g.length c, .slice B l.length d, .bool false] W (GivesInts (intsOf (fromL g l false)) W)) := fun W hW => fromLost_any (hg.below hW) hn hl (pairs_below h hW) false
  clear hg h hl
  generalize g.length = n at *
  generalize l.length = nl at *
  go_enter Try.func22, Try.ntmps22
  go_wp2_with (go_at_call 63; (with_reducible refine (CH.out _ ((Below.refl _ _).alloc (Nat.le_refl _) _)).mono ?_); rintro e w1 hG; obtain ⟨v, rfl, hw, hb⟩ := gives_box hG)
  go_ret
  exact ⟨v, rfl, hw, hb⟩
end Go.Proofs.Ytjlobjgemhapaaa
namespace Go.Proofs.Ytjlobjgemhapaaa
set_option maxRecDepth 20000
set_option maxRecDepth 20000
open Go.RowKit Go.Maps

abbrev cellsI (l : List Nat) : List Value := (intsOf l).map (Value.int .i64)
/-- Block b: n rows, the k-th of them holds F k; each in a block of its own, of which P speaks. -/
def HoldR (w : World) (lo b n : Nat) (P : Nat → Prop) (F : Nat → List Nat) (vs : Nat → Value) : Prop :=
  w.rowIs b 25 n vs ∧ (∀ k, k < n → w.ownsRow lo 3 1 (vs k) (intsOf (F k)).length (cellsI (F k))) ∧
    (∀ j k, j < n → k < n → j ≠ k → (vs j).ownBlock = none ∨ (vs j).ownBlock ≠ (vs k).ownBlock) ∧ (∀ k x, k < n → (vs k).ownBlock = some x → P x)
def updF (F : Nat → List Nat) (m x : Nat) : Nat → List Nat := fun k => if k = m then F k ++ [x] else F k
theorem HoldR.below {w w' : World} {lo b n : Nat} {P : Nat → Prop} {F : Nat → List Nat} {vs : Nat → Value} (h : HoldR w lo b n P F vs) (hb : Below w.heap.size w w') : HoldR w' lo b n P F vs :=
  ⟨h.1.of_block (hb.block _ h.1.lt), fun k hk => own_below (h.2.1 k hk) hb, h.2.2.1, h.2.2.2⟩
theorem HoldR.weak {w : World} {lo b n : Nat} {P P' : Nat → Prop} {F : Nat → List Nat} {vs : Nat → Value} (h : HoldR w lo b n P F vs) (hp : ∀ x, x < w.heap.size → P x → P' x) : HoldR w lo b n P' F vs :=
  ⟨h.1, h.2.1, h.2.2.1, fun k x hk hx => hp x ((h.2.1 k hk).lt x hx).2 (h.2.2.2 k x hk hx)⟩
theorem HoldR.congr {w : World} {lo b n : Nat} {P : Nat → Prop} {F F' : Nat → List Nat} {vs : Nat → Value} (h : HoldR w lo b n P F vs) (e : F = F') : HoldR w lo b n P F' vs := e ▸ h
/-- A row has got one more. -/
theorem HoldR.push {w w1 w2 : World} {lo b n m x : Nat} {P : Nat → Prop} {F : Nat → List Nat} {vs : Nat → Value} {v' : Value} (h : HoldR w lo b n P F vs) (hlo : b < lo) (hm : m < n) (h1 : Below w.heap.size w w1)
    (ho : w2.ownsRow lo 3 1 v' ((intsOf (F m)).length + 1) (cellsI (F m) ++ [.int .i64 x])) (hg : w1.grownBy w2 (vs m).ownBlock) (hat : v'.ownBlock = (vs m).ownBlock ∨ v'.ownBlock = some w1.heap.size) (hP : P w1.heap.size)
    (S : Nat → Prop) (hSb : S b) (hSP : ∀ x, lo ≤ x → P x → S x) :
    HoldR (w2.setCell ⟨b, m, none⟩ v') lo b n P (updF F m x) (fun j => if j = m then v' else vs j) ∧ Frm S w (w2.setCell ⟨b, m, none⟩ v') := by
  obtain ⟨hr, hown, hap, hp⟩ := h
  have hb1 : b < w1.heap.size := Nat.lt_of_lt_of_le hr.lt h1.size
  have hmb : ∀ y, (vs m).ownBlock = some y → lo ≤ y ∧ y < w.heap.size := fun y hy => (hown m hm).lt y hy
  have hnb : some b ≠ (vs m).ownBlock := fun e => by have := (hmb b e.symm).1; omega
  have r2 : w2.rowIs b 25 n vs := (hr.of_block (h1.block _ hr.lt)).of_block (hg.block _ hb1 hnb)
  have hl2 := ho.lt
  refine ⟨⟨r2.set m v', fun k hk => ?_, fun j k hj hk hjk => ?_, fun k y hk hy => ?_⟩, ?_⟩
  · by_cases e : k = m
    · subst e
      simp only [if_true, updF]
      have ho' : w2.ownsRow lo 3 1 v' (intsOf (F k ++ [x])).length (cellsI (F k ++ [x])) := by
        have e1 : cellsI (F k ++ [x]) = cellsI (F k) ++ [.int .i64 x] := by simp [cellsI, intsOf]
        have e2 : (intsOf (F k ++ [x])).length = (intsOf (F k)).length + 1 := by simp [intsOf]
        rw [e1, e2]; exact ho
      refine ho'.kept (w' := w2.setCell ⟨b, k, none⟩ v') (row := some b) ⟨rfl, rfl, rfl, by simp [World.setCell], fun i hi hne => Below.heap_setCell _ _ _ _ (by rintro rfl; exact hne rfl)⟩ ?_
      refine Or.inr fun e => ?_
      have := (hl2 b e).1
      omega
    · simp only [if_neg e, updF]
      have o1 := own_below (hown k hk) h1
      have hne : (vs k).ownBlock = none ∨ (vs k).ownBlock ≠ (vs m).ownBlock := hap k m hk hm e
      have o2 := o1.kept hg hne
      refine o2.kept (w' := w2.setCell ⟨b, m, none⟩ v') (row := some b) ⟨rfl, rfl, rfl, by simp [World.setCell], fun i hi hne => Below.heap_setCell _ _ _ _ (by rintro rfl; exact hne rfl)⟩ ?_
      refine Or.inr fun e => ?_
      have := ((hown k hk).lt b e).1
      omega
  · by_cases e1 : j = m
    · by_cases e2 : k = m
      · omega
      · simp only [if_pos e1, if_neg e2]
        rcases hat with e | e
        · rw [e]
          exact hap m k hm hk (by omega)
        · right
          rw [e]
          intro e3
          have := ((hown k hk).lt _ e3.symm).2
          have := h1.size
          omega
    · by_cases e2 : k = m
      · simp only [if_neg e1, if_pos e2]
        rcases hat with e | e
        · rw [e]
          exact hap j m hj hm e1
        · right
          rw [e]
          intro e3
          have := ((hown j hj).lt _ e3).2
          have := h1.size
          omega
      · simp only [if_neg e1, if_neg e2]
        exact hap j k hj hk hjk
  · by_cases e : k = m
    · simp only [if_pos e] at hy
      rcases hat with e2 | e2
      · rw [e2] at hy; exact hp m y hm hy
      · rw [e2] at hy; injection hy with hy; subst hy; exact hP
    · simp only [if_neg e] at hy
      exact hp k y hk hy
  · have f1 : Frm S w w2 := by
      refine ⟨hg.os.trans h1.os, hg.tape.trans h1.tape, hg.output.trans h1.output, Nat.le_trans h1.size hg.size, fun k hk hn => ?_⟩
      refine (hg.block k (Nat.lt_of_lt_of_le hk h1.size) fun e => hn ?_).trans (h1.block k hk)
      exact hSP k (hmb k e.symm).1 (hp m k hm e.symm)
    exact f1.set (p := ⟨b, m, none⟩) hSb _
/-- The rows as they are read. -/
def HoldS (w : World) (b n hi : Nat) (F : Nat → List Nat) : Prop :=
  b < hi ∧ hi ≤ w.heap.size ∧ ∀ m, m < n → ∃ A c, w.cell? ⟨b, m, none⟩ = some (.slice A (intsOf (F m)).length c) ∧ IntsAt w A (intsOf (F m)) ∧ ∀ a, A = some a → b ≤ a.block ∧ a.block < hi
theorem HoldS.frm {w w' : World} {b n hi : Nat} {F : Nat → List Nat} (h : HoldS w b n hi F) {S : Nat → Prop} (hf : Frm S w w') (hn : ∀ k, b ≤ k → k < hi → ¬ S k) : HoldS w' b n hi F := by
  refine ⟨h.1, Nat.le_trans h.2.1 hf.size, fun m hm => ?_⟩
  obtain ⟨A, c, h1, h2, h3⟩ := h.2.2 m hm
  exact ⟨A, c, (hf.cell (p := ⟨b, m, none⟩) (Nat.lt_of_lt_of_le h.1 h.2.1) (hn b (Nat.le_refl _) h.1)).trans h1, ints_frm hf h2 (fun a ha => hn _ (h3 a ha).1 (h3 a ha).2), h3⟩
theorem HoldR.read {w : World} {lo b n : Nat} {P : Nat → Prop} {F : Nat → List Nat} {vs : Nat → Value} (h : HoldR w lo b n P F vs) (hlo : b < lo) : HoldS w b n w.heap.size F := by
  refine ⟨h.1.lt, Nat.le_refl _, fun m hm => ?_⟩
  obtain ⟨A, c, e, hi, ha⟩ := ints_of_own2 (h.2.1 m hm)
  refine ⟨A, c, by rw [← e]; exact h.1.cell hm, hi, fun a hA => ⟨by have := ha a hA; omega, ?_⟩⟩
  subst hA
  exact ((h.2.1 m hm).lt a.block (by rw [e]; rfl)).2

/-! Which objects hold which: plain -/
/-- While the objects up to k, and of the next one j that it holds, are gone through. -/
structure HoldJ (g : List OB) (k j B : Nat) (F : Nat → List Nat) : Prop where
  mem : ∀ m x, x ∈ F m ↔ (x ≤ k ∧ m ∈ heldN g x) ∨ (x = k + 1 ∧ ∃ i, i < j ∧ (heldN g (k + 1))[i]? = some m)
  len : ∀ m, (F m).length ≤ k * B + j
theorem HoldJ.start {g : List OB} {B : Nat} : HoldJ g 0 0 B fun _ => [] := by
  refine ⟨fun m x => ?_, fun m => by simp⟩
  constructor
  · intro h; cases h
  · rintro (⟨h1, h2⟩ | ⟨_, i, h1, _⟩)
    · obtain rfl : x = 0 := by omega
      cases h2
    · omega
theorem HoldJ.step {g : List OB} {k j B m : Nat} {F : Nat → List Nat} (h : HoldJ g k j B F) (hm : (heldN g (k + 1))[j]? = some m) : HoldJ g k (j + 1) B (updF F m (k + 1)) := by
  refine ⟨fun y x => ?_, fun y => ?_⟩
  · unfold updF
    by_cases e : y = m
    · subst e
      rw [if_pos rfl, List.mem_append, h.mem y x]
      constructor
      · rintro ((h1 | ⟨h1, i, h2, h3⟩) | h1)
        · exact Or.inl h1
        · exact Or.inr ⟨h1, i, by omega, h3⟩
        · simp at h1; exact Or.inr ⟨h1, j, by omega, hm⟩
      · rintro (h1 | ⟨h1, i, h2, h3⟩)
        · exact Or.inl (Or.inl h1)
        · exact Or.inr (by simp [h1])
    · rw [if_neg e, h.mem y x]
      constructor
      · rintro (h1 | ⟨h1, i, h2, h3⟩)
        · exact Or.inl h1
        · exact Or.inr ⟨h1, i, by omega, h3⟩
      · rintro (h1 | ⟨h1, i, h2, h3⟩)
        · exact Or.inl h1
        · refine Or.inr ⟨h1, i, ?_, h3⟩
          by_cases e2 : i = j
          · subst e2
            rw [hm] at h3; injection h3 with h3
            exact absurd h3.symm e
          · omega
  · have := h.len y
    unfold updF
    split
    · rw [List.length_append]; simp; omega
    · omega
theorem HoldJ.next {g : List OB} {k j B : Nat} {F : Nat → List Nat} (h : HoldJ g k j B F) (hj : j = (heldN g (k + 1)).length) (hB : j ≤ B) : HoldJ g (k + 1) 0 B F := by
  refine ⟨fun m x => ?_, fun m => by have := h.len m; rw [Nat.succ_mul]; omega⟩
  rw [h.mem m x]
  constructor
  · rintro (⟨h1, h2⟩ | ⟨rfl, i, h2, h3⟩)
    · exact Or.inl ⟨by omega, h2⟩
    · exact Or.inl ⟨Nat.le_refl _, List.mem_of_getElem? h3⟩
  · rintro (⟨h1, h2⟩ | ⟨_, i, h2, _⟩)
    · by_cases e : x = k + 1
      · subst e
        obtain ⟨i, hi⟩ := List.getElem?_of_mem h2
        exact Or.inr ⟨rfl, i, by rw [hj]; exact (List.getElem?_eq_some_iff.1 hi).1, hi⟩
      · exact Or.inl ⟨by omega, h2⟩
    · omega
theorem HoldJ.fin {g : List OB} {B : Nat} {F : Nat → List Nat} (h : HoldJ g g.length 0 B F) : ∀ m x, x ∈ F m ↔ m ∈ heldN g x := fun m x => by
  rw [h.mem m x]
  constructor
  · rintro (⟨_, h⟩ | ⟨_, i, h, _⟩)
    · exact h
    · omega
  · intro hx
    refine Or.inl ⟨?_, hx⟩
    cases x with
    | zero => cases hx
    | succ k =>
      rw [held_succ] at hx
      cases ho : g[k]? with
      | none => rw [ho] at hx; cases hx
      | some o => have := (List.getElem?_eq_some_iff.1 ho).1; omega
end Go.Proofs.Ytjlobjgemhapaaa
namespace Go.Proofs.Ytjlobjgemhapaaa
set_option maxRecDepth 20000
set_option maxRecDepth 20000
open Go.RowKit Go.Maps

theorem ints_info : (Try.prog.info? 25).map (fun i => (i.zero, i.size, i.bytes)) = some (some (.slice none 0 0), 1, 24) := by kernel_rfl
theorem hold_start (w : World) (n : Nat) (P : Nat → Prop) (lo : Nat) : HoldR (w.alloc (.cells (madeCells #[.slice none 0 0] (n + 1)) 25 (0, 0))) lo w.heap.size (n + 1) P (fun _ => []) fun _ => .slice none 0 0 :=
  ⟨World.rowIs_made w (.slice none 0 0) (n + 1) 25, fun _ _ => World.ownsRow_nil _ _ _ _, fun _ _ _ _ _ => Or.inl rfl, fun _ _ _ h => by cases h⟩
theorem slice_of_own {w : World} {base n : Nat} {v : Value} {xs : List Value} (h : w.ownsRow base 3 1 v n xs) : ∃ A c, v = .slice A n c := by
  rcases h.2 with ⟨rfl, h1⟩ | ⟨g, cap, cur, rfl, _, hg, _⟩
  · subst h1; exact ⟨none, 0, rfl⟩
  · exact ⟨_, _, rfl⟩
/-- The block of a row that is not the rows'. -/
def OffR (RA : Option Addr) : Nat → Prop := fun k => ¬ ∃ a, RA = some a ∧ a.block = k
end Go.Proofs.Ytjlobjgemhapaaa
