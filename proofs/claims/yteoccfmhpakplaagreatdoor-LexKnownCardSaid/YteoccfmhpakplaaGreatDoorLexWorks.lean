/- lex.Tokens at a text whose words are known; 'works' of the statements. -/
import Derived.Test.YteoccfmhpakplaaGreatDoorLexSame
import Derived.ProofKit
namespace Go.Proofs.YteoccfmhpakplaaGreatDoor
set_option maxRecDepth 20000
open Go.RowKit

theorem Tokens_ok (s : ByteArray) (l : List Tok) (n at_ : Nat) (w : World) (hE : Env4 w) (h : lexL s.data.toList = ⟨l, 0, at_⟩) (hn : l.length = n) :
    Calls Tryz.prog 9 #[.string s] w fun e w' => ∃ A c, e = .returned (.tuple #[.slice A n c, .nilIface]) ∧ TokAt w' A l ∧ Below w.heap.size w w' := by
  refine (Tokens_any s w hE).mono ?_
  rintro e w' hG
  rw [h] at hG
  rcases hG with ⟨_, v, rfl, hr, hb⟩ | ⟨hne, _⟩
  · obtain ⟨A, c, rfl, hA⟩ := hr.form
    exact ⟨A, c, by rw [hn], hA, hb⟩
  · exact absurd rfl hne
theorem Tokens_bad (s : ByteArray) (l : List Tok) (c : Int) (at_ : Nat) (L : Int) (w : World) (hE : Env4 w) (h : lexL s.data.toList = ⟨l, c, at_⟩) (hc : c ≠ 0) (hL : (at_ : Int) = L) :
    Calls Tryz.prog 9 #[.string s] w fun e w' => ∃ b, e = .returned (.tuple #[.slice none 0 0, .iface 48 (.pointer (some ⟨b, 0, none⟩))]) ∧ b < w'.heap.size ∧ w'.cell? ⟨b, 0, none⟩ = some (.int .i64 c) ∧ w'.cell? ⟨b, 1, none⟩ = some (.int .i64 L) ∧ Below w.heap.size w w' := by
  subst hL
  refine (Tokens_any s w hE).mono ?_
  rintro e w' hG
  rw [h] at hG
  rcases hG with ⟨h0, _⟩ | ⟨_, b, rfl, _, h1, h2, h3, h4⟩
  · exact absurd h0 hc
  · exact ⟨b, rfl, h1, h2, h3, h4⟩
theorem lex_w1 : lexL (ByteArray.mk #[120, 61, 49, 46, 46, 121]).data.toList = ⟨[⟨1, [120], 0, 0⟩, ⟨4, [61], 0, 0⟩, ⟨2, [49], 1, 0⟩, ⟨4, [46, 46], 0, 0⟩, ⟨1, [121], 0, 0⟩, ⟨5, [], 0, 0⟩], 0, 0⟩ := by kernel_rfl
theorem lex_w2 : lexL (ByteArray.mk #[97, 10, 49, 120]).data.toList = ⟨[], 14, 1⟩ := by kernel_rfl
theorem lex_w3 : lexL (ByteArray.mk #[10]).data.toList = ⟨[⟨5, [], 0, 1⟩], 0, 1⟩ := by kernel_rfl
/-- The cells of one token of a list. -/
structure CellsOf (w : World) (g k : Nat) (t : Tok) : Prop where
  lt : g < w.heap.size
  c0 : w.cell? ⟨g, k * 4, none⟩ = some (.int .i64 t.kind)
  c1 : w.cell? ⟨g, k * 4 + 1, none⟩ = some (.string ⟨t.text.toArray⟩)
  c2 : w.cell? ⟨g, k * 4 + 2, none⟩ = some (.int .i64 t.num)
  c3 : w.cell? ⟨g, k * 4 + 3, none⟩ = some (.int .i64 t.line)
theorem TokAt.blk {w : World} {A : Option Addr} {l : List Tok} (h : TokAt w A l) (hl : l ≠ []) : ∃ g, A = some ⟨g, 0, none⟩ := by
  match l, hl with
  | t :: r, _ =>
    obtain ⟨g, e, _⟩ := h.at_ 0 t rfl
    exact ⟨g, e⟩
theorem TokAt.get {w : World} {g : Nat} {l : List Tok} (h : TokAt w (some ⟨g, 0, none⟩) l) (k : Nat) (t : Tok) (hk : l[k]? = some t) : CellsOf w g k t := by
  obtain ⟨g', e, hl, c0, c1, c2, c3⟩ := h.at_ k t hk
  obtain rfl : g = g' := by injection e with e; injection e
  exact ⟨hl, c0, c1, c2, c3⟩
theorem CellsOf.below {w w' : World} {g k : Nat} {t : Tok} (h : CellsOf w g k t) (hb : Below w.heap.size w w') : CellsOf w' g k t :=
  ⟨Nat.lt_of_lt_of_le h.lt hb.size, (hb.cell (p := ⟨g, k * 4, none⟩) h.lt).trans h.c0, (hb.cell (p := ⟨g, k * 4 + 1, none⟩) h.lt).trans h.c1, (hb.cell (p := ⟨g, k * 4 + 2, none⟩) h.lt).trans h.c2, (hb.cell (p := ⟨g, k * 4 + 3, none⟩) h.lt).trans h.c3⟩
set_option maxHeartbeats 8000000 in
/-- works. -/
theorem works_true (w : World) (hE : Env4 w) : Calls Tryz.prog 13 #[] w fun e w' => e = .returned (.bool true) ∧ Below w.heap.size w w' := by
  have T1 := Lib.hid (fun w hE => Tokens_ok ⟨#[120, 61, 49, 46, 46, 121]⟩ _ 6 _ w hE lex_w1 rfl)
  have T2 := Lib.hid (fun w hE => Tokens_bad ⟨#[97, 10, 49, 120]⟩ _ 14 1 1 w hE lex_w2 (by decide) rfl)
  have T3 := Lib.hid (fun w hE => Tokens_ok ⟨#[10]⟩ _ 1 _ w hE lex_w3 rfl)
  have E := Lib.hid hE
  have R1 := Reserved_yes ⟨#[101, 110, 100]⟩
  have R2 := Reserved_no ⟨#[111, 117, 116]⟩
  have R1 := Lib.hid (fun w => R1 w (by decide))
  have R2 := Lib.hid (fun w => R2 w (by decide))
  clear hE
  go_enter Tryz.func13, Tryz.ntmps13
  go_wp2_with (first
    | (go_at_call 9; with_reducible refine (T1.out _ E.out).mono ?_; rintro e w1 ⟨A, c, rfl, hA, hb1⟩; obtain ⟨g, rfl⟩ := hA.blk (by simp); have HA := Lib.hid hA; have E1 := Lib.hid (E.out.below hb1); have B1 := Lib.hid hb1; clear hA hb1)
    | (go_at_call 9; with_reducible refine (T2.out _ E1.out).mono ?_; rintro e w2 ⟨b, rfl, hlt2, hf0, hf1, hb2⟩; have HF0 := Lib.hid hf0; have HF1 := Lib.hid hf1; have HLT := Lib.hid hlt2; have E2 := Lib.hid (E1.out.below hb2); have HA2 := Lib.hid (HA.out.below hb2); have B2 := Lib.hid (B1.out.trans (hb2.mono B1.out.size)); clear hf0 hf1 hb2 hlt2)
    | (go_at_call 9; with_reducible refine (T3.out _ E2.out).mono ?_; rintro e w3 ⟨A3, c3, rfl, hA3, hb3⟩; obtain ⟨g3, rfl⟩ := hA3.blk (by simp); have HA3 := Lib.hid hA3; have E3 := Lib.hid (E2.out.below hb3); have B3 := Lib.hid (B2.out.trans (hb3.mono B2.out.size)); have x := (HA2.out.below hb3).get 0 _ rfl; have x0 := x.c0; have x1 := x.c1; have x2 := x.c2; have x3 := x.c3; replace x := (HA2.out.below hb3).get 2 _ rfl; have y0 := x.c0; have y1 := x.c1; have y2 := x.c2; have y3 := x.c3; replace x := (HA2.out.below hb3).get 3 _ rfl; have z1 := x.c1; replace x := (HA2.out.below hb3).get 5 _ rfl; have v0 := x.c0; have TS := Lib.hid (told_some b 14 1 w3 (by decide) (Nat.lt_of_lt_of_le HLT.out hb3.size) ((hb3.cell (p := ⟨b, 0, none⟩) HLT.out).trans HF0.out) ((hb3.cell (p := ⟨b, 1, none⟩) HLT.out).trans HF1.out) E3.out.err); clear x hA3 hb3)
    | (go_at_call 11; refine TS.out.mono ?_; rintro e w4 ⟨rfl, hb4⟩; have q3 := (HA3.out.below hb4).get 0 _ rfl; have q3 := q3.c3; have B4 := Lib.hid (B3.out.trans (hb4.mono B3.out.size)); clear hb4)
    | (go_at_call 14; with_reducible refine (R1.out _).mono ?_; rintro e w5 ⟨rfl, hq⟩; obtain rfl := hq.symm)
    | (go_at_call 14; with_reducible refine (R2.out _).mono ?_; rintro e w6 ⟨rfl, hq⟩; obtain rfl := hq.symm))

  go_ret
  exact ⟨rfl, B4.out⟩
end Go.Proofs.YteoccfmhpakplaaGreatDoor
