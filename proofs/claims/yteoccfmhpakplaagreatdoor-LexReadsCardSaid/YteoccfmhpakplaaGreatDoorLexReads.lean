/- LexReads: any text: the program's tokens, or its fault, are the document's; the argument reads as it did. Conditions: none but the form's own reach; the listed variables as the program's text lays them. -/
import Derived.Test.YteoccfmhpakplaaGreatDoorLexFrame
import Derived.Test.YteoccfmhpakplaaGreatDoorTie
import Derived.Test.YteoccfmhpakplaaGreatDoorCards
namespace Go.Proofs.YteoccfmhpakplaaGreatDoor.lexReads
set_option maxRecDepth 20000
open Go.ChangeShapes Go.WideShapes Go.ChangeAt Go.RowKit

theorem tokF_count : ∀ (f : Nat) (t : List UInt8) (l : Nat), (tokF f t l).toks.length ≤ t.length + 1 := by
  intro f
  induction f with
  | zero => intro t l; cases t <;> simp [tokF]
  | succ f ih =>
    intro t l
    match t with
    | [] => simp [tokF]
    | c :: r =>
      rw [tokF]
      by_cases h0 : kindL (c :: r) = 0
      · rw [if_pos h0]
        have h := ih ((c :: r).drop (blanksL (c :: r)).length) (l + (blanksL (c :: r)).count 10)
        rw [List.length_drop] at h
        omega
      · rw [if_neg h0]
        by_cases he : (wordL (c :: r)).err = 0
        · rw [if_pos he]
          have hp := (word_pos (by simp) h0 he)
          have h := ih ((c :: r).drop (wordL (c :: r)).size) l
          rw [List.length_drop] at h
          unfold pushL
          split
          · simp only [List.length_cons] at *; omega
          · omega
        · rw [if_neg he]; simp
theorem lex_count {t : List UInt8} : (lexL t).toks.length ≤ 32769 := by
  unfold lexL
  split
  · simp
  · have := tokF_count t.length t 0
    show (tokF t.length t 0).toks.length ≤ _
    omega
theorem LTokens_ok (s : ByteArray) (l : List Tok) (n at_ : Nat) (w : World) (h : lexL s.data.toList = ⟨l, 0, at_⟩) (hn : l.length = n) :
    Calls Tryz.prog 10 #[.string s] w fun e w' => ∃ A c, e = .returned (.tuple #[.slice A n c, .agg #[.int .i64 0, .int .i64 0]]) ∧ TokAt w' A l ∧ Below w.heap.size w w' := by
  refine (LTokens_any s w).mono ?_
  rintro e w' hG
  rw [h] at hG
  rcases hG with ⟨_, v, rfl, hr, hb⟩ | ⟨hne, _⟩
  · obtain ⟨A, c, rfl, hA⟩ := hr.form
    exact ⟨A, c, by rw [hn], hA, hb⟩
  · exact absurd rfl hne
theorem LTokens_bad (s : ByteArray) (l : List Tok) (c : Int) (at_ : Nat) (w : World) (h : lexL s.data.toList = ⟨l, c, at_⟩) (hc : c ≠ 0) :
    Calls Tryz.prog 10 #[.string s] w fun e w' => e = .returned (.tuple #[.slice none 0 0, .agg #[.int .i64 c, .int .i64 at_]]) ∧ Below w.heap.size w w' := by
  refine (LTokens_any s w).mono ?_
  rintro e w' hG
  rw [h] at hG
  rcases hG with ⟨h0, _⟩ | ⟨_, rfl, hb⟩
  · exact absurd h0 hc
  · exact ⟨rfl, hb⟩
theorem fault_lt {w1 w2 : World} {b : Nat} {o : Obj} (h : b < w1.heap.size) (hb : Below w1.heap.size w1 w2) : b < (w2.alloc o).heap.size := by
  have := hb.size; simp; omega
theorem fault_cell {w1 w2 : World} {b j : Nat} {v : Value} {o : Obj} (h : b < w1.heap.size) (hv : w1.cell? ⟨b, j, none⟩ = some v) (hb : Below w1.heap.size w1 w2) : (w2.alloc o).cell? ⟨b, j, none⟩ = some v :=
  (World.cell?_alloc_lt _ _ ⟨b, j, none⟩ (Nat.lt_of_lt_of_le h hb.size)).trans ((hb.cell (p := ⟨b, j, none⟩) h).trans hv)
theorem err_alloc {w : World} {o : Obj} (h : ErrTypeAt w) : ErrTypeAt (w.alloc o) := h.below h.lt ((Below.refl _ _).alloc (Nat.le_refl _) _)
set_option maxHeartbeats 4000000 in
theorem walk_ok (s : ByteArray) (l : List Tok) (n at_ : Nat) (h : lexL s.data.toList = ⟨l, 0, at_⟩) (hn : l.length = n) (hb : n ≤ 32769) (w : World) (hE : Env4 w) :
    Calls Tryz.prog 3 #[.string s] w fun e w' => e = .returned (.bool true) ∧ Below w.heap.size w w' := by
  have T := Lib.hid (fun w hE => Tokens_ok s l n at_ w hE h hn)
  have L := Lib.hid (fun w => LTokens_ok s l n at_ w h hn)
  have S := fun A B ca cb w hA hB => Same_any A B ca cb l w (by omega) hA hB
  rw [hn] at S
  have S := Lib.hid S
  have E := Lib.hid hE
  clear hE h hn
  go_enter Tryz.func3, Tryz.ntmps3
  go_wp2_with (first
    | (go_at_call 9; with_reducible refine (T.out _ E.out).mono ?_; rintro e w1 ⟨A, c, rfl, hA, hb1⟩; have HA := Lib.hid hA; have B1 := Lib.hid hb1; clear hA hb1)
    | (go_at_call 10; with_reducible refine (L.out _).mono ?_; rintro e w2 ⟨B, d, rfl, hB, hb2⟩; have HA2 := Lib.hid (HA.out.below hb2); have HB := Lib.hid hB; have B2 := Lib.hid (B1.out.trans (hb2.mono B1.out.size)); clear hB hb2)
    | (go_at_call 11; refine (told_none _).mono ?_; rintro e w3 ⟨rfl, hb3⟩; have hq := Lib.hid (below_box hb3); have HA3 := Lib.hid (HA2.out.below hq.out); have HB3 := Lib.hid (HB.out.below hq.out); have B3 := Lib.hid (B2.out.trans (hq.out.mono B2.out.size)); clear hb3)
    | (go_at_call 12; refine (S.out _ _ _ _ _ HA3.out HB3.out).mono ?_; rintro e w4 ⟨rfl, hb4⟩; have B4 := Lib.hid (B3.out.trans (hb4.mono B3.out.size)); clear hb4)
    | (go_at_call 13; refine (works_true _ (E.out.below B4.out)).mono ?_; rintro e w5 ⟨rfl, hb5⟩))
  go_ret
  exact ⟨rfl, B4.out.trans (hb5.mono B4.out.size)⟩
set_option maxHeartbeats 4000000 in
theorem walk_bad (s : ByteArray) (l : List Tok) (c : Int) (at_ : Nat) (h : lexL s.data.toList = ⟨l, c, at_⟩) (hc : c ≠ 0) (w : World) (hE : Env4 w) :
    Calls Tryz.prog 3 #[.string s] w fun e w' => e = .returned (.bool true) ∧ Below w.heap.size w w' := by
  have T := Lib.hid (fun w hE => Tokens_bad s l c at_ at_ w hE h hc rfl)
  have L := Lib.hid (fun w => LTokens_bad s l c at_ w h hc)
  have S := Lib.hid (fun A B ca cb w hA hB => Same_any A B ca cb [] w (by decide) hA hB)
  have E := Lib.hid hE
  have N : Hid (∀ w, TokAt w none []) := fun w => ⟨fun k t hk => by simp at hk⟩
  have HC := Lib.hid hc
  clear hE h hc
  go_enter Tryz.func3, Tryz.ntmps3
  go_wp2_with (first
    | (go_at_call 9; with_reducible refine (T.out _ E.out).mono ?_; rintro e w1 ⟨b, rfl, hlt, h0, h1, hb1⟩; have HLT := Lib.hid hlt; have H0 := Lib.hid h0; have H1 := Lib.hid h1; have B1 := Lib.hid hb1; clear hb1 hlt h0 h1)
    | (go_at_call 10; with_reducible refine (L.out _).mono ?_; rintro e w2 ⟨rfl, hb2⟩; have K2 := Lib.hid hb2; have B2 := Lib.hid (B1.out.trans (hb2.mono B1.out.size)); clear hb2)
    | (go_at_call 11; refine (told_some b c at_ _ HC.out (fault_lt HLT.out K2.out) (fault_cell HLT.out H0.out K2.out) (fault_cell HLT.out H1.out K2.out) (err_alloc (E.out.below B2.out).err)).mono ?_; rintro e w3 ⟨rfl, hb3⟩; have B3 := Lib.hid (B2.out.trans ((below_box hb3).mono B2.out.size)); clear hb3)
    | (go_at_call 12; refine (S.out _ _ _ _ _ (N.out _) (N.out _)).mono ?_; rintro e w4 ⟨rfl, hb4⟩; have B4 := Lib.hid (B3.out.trans (hb4.mono B3.out.size)); clear hb4)
    | (go_at_call 13; refine (works_true _ (E.out.below B4.out)).mono ?_; rintro e w5 ⟨rfl, hb5⟩))
  go_ret
  exact ⟨rfl, B4.out.trans (hb5.mono B4.out.size)⟩
theorem walk (s : ByteArray) (_u0 : s.size ≤ 281474976710656) (w : World) (hE : Env4 w) :
    Calls Tryz.prog 3 #[.string s] w fun e w' => e = .returned (.bool true) ∧ Below w.heap.size w w' := by
  have hc := lex_count (t := s.data.toList)
  cases h : lexL s.data.toList with
  | mk l c at_ =>
    rw [h] at hc
    by_cases h0 : c = 0
    · subst h0; exact walk_ok s l _ at_ h rfl hc w hE
    · exact walk_bad s l c at_ h h0 w hE
set_option maxRecDepth 100000 in
theorem contract (H : Type) (enc : TypeId × Value → H) (W : World) (base : Nat) (args : Array Value) (ds gs : List (DataW H)) (before : List MemPlace)
    (hval : ∀ (j : Nat) t v, Tryz.f3.params[j]? = some t → args[j]? = some v → Value.okWide Tryz.prog W .any base t v)
    (hW : DataW.Whole enc Tryz.prog Tryz.f3.params.toList Rows.lexReadsSpec.vars false W args.toList ds gs before)
    (hsz0 : (DataW.weightsEach Tryz.prog (Tryz.f3.params.toList ++ (OpenSpec.ofChange Rows.lexReadsSpec).bare.plain.varTypes Tryz.prog) (ds ++ gs)).all (· ≤ reachBytes) = true) (hL : laidMetH Tryz.prog Rows.lexReadsRow.laid W) :
    Calls Tryz.prog 3 args W fun e W' => ∃ v, e = .returned v ∧ Rows.lexReadsSpec.post enc Tryz.prog Tryz.f3 false true false false W args v W' := by
  have hW' := hW
  obtain ⟨p, q, hA0, hV, rfl, hfz, hnd⟩ := hW
  have hA : DataW.TrodAll enc Tryz.prog W 0 (fun _ => true) true Tryz.f3.params.toList args.toList ds p := hA0
  have hsz := hsz0
  rw [Tryz.params3] at hA hval hsz
  obtain ⟨v0, vs0, d0, ds0, p0, q0, hargs, rfl, rfl, h0, r0⟩ := trodAll_cons hA
  obtain ⟨rfl, rfl, rfl⟩ := trodAll_nil r0
  obtain rfl : args = #[v0] := by cases args; simp_all
  obtain ⟨rfl, rfl⟩ := trodVars_none hV
  obtain ⟨a0, rfl, rfl, rfl, w0⟩ := Go.ChangeMaps.open_string Tryz.underlying9 (hval 0 9 v0 rfl rfl) h0
  have u0 := str_reach (sized_string hsz (j := 0) (t := 9) rfl rfl)
  clear hA0 hsz hsz0
  simp only [List.append_nil] at hW'
  refine (walk a0 u0 W (env_of_laid hL)).mono fun e W' ⟨he, hb⟩ => ?_
  subst he
  exact ⟨_, rfl, law_post laidOut (by kernel_rfl) (by kernel_rfl) Tryz.underlying4 hW' hb rfl⟩

theorem laid_met (os : Os) : laidMetH Tryz.prog Rows.lexReadsRow.laid ((laidWorld os).forCall (fun _ _ => 0) ⟨#[], #[.string ⟨#[]⟩], []⟩).memory :=
  laid_metH os _ (laidMet_of_run' 8 (by kernel_rfl) (by kernel_rfl)) (by kernel_rfl)
theorem reads (os : Os) {H : Type} (enc : TypeId × Value → H) : ∃ places, DataW.whole enc Tryz.prog ((laidWorld os).forCall (fun _ _ => 0) ⟨#[], #[.string ⟨#[]⟩], []⟩).memory Tryz.f3.params.toList Rows.lexReadsSpec.vars false (#[.string ⟨#[]⟩] : Array Value).toList 8 = some ([.lit (.string [])], [], places) :=
  ⟨[], by kernel_rfl⟩

set_option maxRecDepth 100000 in
theorem lifted (os : Os) (started : os.Started) (H : Type) (enc : TypeId × Value → H) (F : Stop.Interp) :
    ReturnsInHanded {} Tryz.checked os 3 .any ((OpenSpec.ofChange Rows.lexReadsSpec).preRow enc Tryz.prog Tryz.f3 Rows.lexReadsRow.domain false Rows.lexReadsRow.laid) (((OpenSpec.ofChange Rows.lexReadsSpec).at F).post enc Tryz.prog Tryz.f3 false true false false) := by
  obtain ⟨places, hx⟩ := reads os enc
  refine returnsInHanded_of_row (C := Tryz.checked) (s := (OpenSpec.ofChange Rows.lexReadsSpec)) own started (by kernel_rfl) Tryz.func3
    (witness_row_atRef (enc := enc) (C := Tryz.checked) false (laidWorld os) #[.string ⟨#[]⟩] rfl (by kernel_rfl) (by kernel_rfl) (by kernel_rfl)
      (OpenSpec.preRow_of_cond 8 hx (by kernel_rfl) (fun k hk => by cases hk) (by kernel_rfl) (laid_met os))) ?_
  intro W base args ds gs before hval hW _ _ hsz hL _ _
  exact contract H enc W base args ds gs before hval hW hsz hL

theorem said : Rows.LexReadsSaid :=
  OpenClaim.holds_of_cond 3 Tryz.f3 rfl rfl rfl rfl rfl rfl rfl ⟨rfl, rfl, rfl, rfl, rfl⟩ rfl rfl rfl rfl rfl (by kernel_rfl) Tryz.func3 (by kernel_rfl)
    (of_decide_eq_true (by kernel_rfl)) (by unfold Func.isWrapper; first | (rw [if_pos (by decide +kernel)]; kernel_rfl) | (rw [if_neg (by decide +kernel)]; exact ⟨rfl, rfl⟩))
    (fun os started H enc _ F => by rw [OpenClaim.pre_eq_preRow]; exact lifted os started H enc F)

/-- No parameter wants a stand-in; the program's own looks are off: what the card asks. -/
theorem plain (f : FuncId) (fn : Func) (hf : Tryz.pinned.checked.prog.funcNamed "tallow/tallowlaw04.LexReads" = some f) (hfn : Tryz.pinned.checked.prog.funcs[f]? = some fn) :
    Rows.lexReadsCard.stood.looks = Tryz.pinned.checked.prog.looks [] ∧ ∀ (j : Nat) t, fn.params[j]? = some t → Tryz.pinned.checked.prog.wantsStandIn t = false := by
  obtain rfl : f = 3 := Option.some.inj ((show Tryz.prog.funcNamed "tallow/tallowlaw04.LexReads" = some 3 by kernel_rfl).symm.trans hf) |>.symm
  obtain rfl : fn = Tryz.f3 := (Option.some.inj (Tryz.func3.symm.trans hfn)).symm
  refine ⟨by kernel_rfl, fun j t ht => ?_⟩
  rw [Tryz.params3] at ht
  have hm : t ∈ ([9] : List TypeId) := by simpa using Array.mem_of_getElem? ht
  have ha : ([9] : List TypeId).all (fun t => !Tryz.prog.wantsStandIn t) = true := by kernel_rfl
  have hb := List.all_eq_true.1 ha t hm
  have hc : Tryz.prog.wantsStandIn t = false := by simpa using hb
  exact hc

/-- THE CARD. -/
theorem card : Rows.LexReadsCardSaid :=
  Claim7.holds_tied_plain_at .later [] _ _ _ _ said (fun _ h => by cases h) (by kernel_rfl) (fun _ h => by cases h) lexReads_row_tie rfl ⟨rfl, rfl⟩ (by kernel_rfl) rfl plain (by kernel_rfl)
end Go.Proofs.YteoccfmhpakplaaGreatDoor.lexReads
