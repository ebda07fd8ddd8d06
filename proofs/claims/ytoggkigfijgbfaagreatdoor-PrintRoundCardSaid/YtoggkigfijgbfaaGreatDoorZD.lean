/- strengths: the map of the operators between two. | What the lexer's tokens are: the end last, short texts. No walk. | Parse's deferred closure: a fault that was given up by a panic becomes the error. -/
import Derived.Test.YtoggkigfijgbfaaGreatDoorZB
import Derived.Recover
import Derived.RegionTactic
namespace Go.Proofs.YtoggkigfijgbfaaGreatDoor.P5
set_option maxRecDepth 20000
open Go.RowKit Go.Maps

abbrev kS (s : List UInt8) : Lit := .string s
abbrev vI (n : Int) : DataW Unit := .lit (.int .i64 n)
/-- A map that reads as a plain function. -/
def IsStr (D : DataW Unit) (f : List UInt8 → Int) : Prop := IsMap D ∧ ∀ s, D.atKey (kS s) (vI 0) = vI (f s)
theorem IsStr.put {D : DataW Unit} {f : List UInt8 → Int} (h : IsStr D f) (k : List UInt8) (n : Int) : IsStr (D.put (kS k) (vI n)) (fun s => if s = k then n else f s) := by
  refine ⟨h.1.put _ _, fun s => ?_⟩
  show (D.put (kS k) (vI n)).atKey (kS s) (vI 0) = vI (if s = k then n else f s)
  by_cases e : s = k
  · subst e
    rw [if_pos rfl]
    exact atKey_put_same h.1 (show WideAt.IsKeyLit (kS s) from trivial) _ _
  · rw [if_neg e, atKey_put_other (fun q => e (by injection q))]
    exact h.2 s
def strD : DataW Unit := ((((((((((((((((((((DataW.map []).put (kS [111, 114]) (vI 1)).put (kS [97, 110, 100]) (vI 2)).put (kS [60]) (vI 3)).put (kS [60, 61]) (vI 3)).put (kS [62]) (vI 3)).put (kS [62, 61]) (vI 3)).put (kS [61, 61]) (vI 3)).put (kS [126, 61]) (vI 3)).put (kS [124]) (vI 4)).put (kS [126]) (vI 5)).put (kS [38]) (vI 6)).put (kS [60, 60]) (vI 7)).put (kS [62, 62]) (vI 7)).put (kS [46, 46]) (vI 8)).put (kS [43]) (vI 9)).put (kS [45]) (vI 9)).put (kS [42]) (vI 10)).put (kS [47, 47]) (vI 10)).put (kS [37]) (vI 10))
theorem strD_is : IsStr strD (fun s => (strengthT s : Int)) := by
  have h0 : IsStr (DataW.map []) (fun _ => 0) := ⟨⟨_, rfl⟩, fun _ => rfl⟩
  have h1 := h0.put [111, 114] 1
  have h2 := h1.put [97, 110, 100] 2
  have h3 := h2.put [60] 3
  have h4 := h3.put [60, 61] 3
  have h5 := h4.put [62] 3
  have h6 := h5.put [62, 61] 3
  have h7 := h6.put [61, 61] 3
  have h8 := h7.put [126, 61] 3
  have h9 := h8.put [124] 4
  have h10 := h9.put [126] 5
  have h11 := h10.put [38] 6
  have h12 := h11.put [60, 60] 7
  have h13 := h12.put [62, 62] 7
  have h14 := h13.put [46, 46] 8
  have h15 := h14.put [43] 9
  have h16 := h15.put [45] 9
  have h17 := h16.put [42] 10
  have h18 := h17.put [47, 47] 10
  have h19 := h18.put [37] 10
  refine ⟨h19.1, fun s => (h19.2 s).trans ?_⟩
  congr 2
  unfold strengthT
  by_cases e0 : s = [111, 114]
  · subst e0; rfl
  by_cases e1 : s = [97, 110, 100]
  · subst e1; rfl
  by_cases e2 : s = [60]
  · subst e2; rfl
  by_cases e3 : s = [60, 61]
  · subst e3; rfl
  by_cases e4 : s = [62]
  · subst e4; rfl
  by_cases e5 : s = [62, 61]
  · subst e5; rfl
  by_cases e6 : s = [61, 61]
  · subst e6; rfl
  by_cases e7 : s = [126, 61]
  · subst e7; rfl
  by_cases e8 : s = [124]
  · subst e8; rfl
  by_cases e9 : s = [126]
  · subst e9; rfl
  by_cases e10 : s = [38]
  · subst e10; rfl
  by_cases e11 : s = [60, 60]
  · subst e11; rfl
  by_cases e12 : s = [62, 62]
  · subst e12; rfl
  by_cases e13 : s = [46, 46]
  · subst e13; rfl
  by_cases e14 : s = [43]
  · subst e14; rfl
  by_cases e15 : s = [45]
  · subst e15; rfl
  by_cases e16 : s = [42]
  · subst e16; rfl
  by_cases e17 : s = [47, 47]
  · subst e17; rfl
  by_cases e18 : s = [37]
  · subst e18; rfl
  simp only [e0, e1, e2, e3, e4, e5, e6, e7, e8, e9, e10, e11, e12, e13, e14, e15, e16, e17, e18, if_false]; rfl
theorem wf_small {n : Int} (h0 : 0 ≤ n) (h1 : n ≤ 10) : (Lit.int .i64 n).wf = true := by
  have e1 : IntKind.i64.min = -9223372036854775808 := rfl
  have e2 : IntKind.i64.max = 9223372036854775807 := rfl
  simp [Lit.wf, e1, e2]
  omega
theorem wpList_insert_own5 {H : Type} {P : Program} (w : World) {ops : Array Oper} {rest : List Oper} {o : Oper} {a : Act} {Q : Exit → Act → World → Prop}
    (hg : o.guard = none) (m x v : Operand) (t : TypeId) (hop : o.op = Op.insert t m x v)
    (k e : TypeId) (K : Keyed P k) (ht : P.underlying t = some (.map k e)) (R : Value → Option (DataW H × List MemPlace)) (b n : Nat) (D : DataW H)
    (hm : a.eval m = .map (some b)) (hown : w.ownsMap P k R b n D) (hn : n < maxLen) (key val : Value) (kl : Lit) (hx : a.eval x = key) (hv : a.eval v = val) (hkey : keyOf P k key = some kl)
    (d : DataW H) (ps : List MemPlace) (hval : R val = some (d, ps))
    (hK : ∀ w', w'.ownsMap P k R b (n + 1) (D.put kl d) → w.grownBy w' (some b) → wpList P ops Q rest (a.put o.dst undef) w') :
    wpList P ops Q (o :: rest) a w := by
  refine wpList_plain hg fun K' hK' => ?_
  obtain ⟨w', hrun, r1, r2⟩ := hown.update K ht hn hkey hval
  unfold Oper.wp
  simp [execOp, hop, hm, hx, hv, hrun, Result.andThen]
  exact hK' _ _ (hK w' r1 r2)
set_option maxHeartbeats 4000000 in
theorem strengths_any (w : World) : Calls Tryz.prog 25 #[] w fun e w' => e = .returned (.map (some w.heap.size)) ∧ StrAt w' w.heap.size ∧ Below w.heap.size w w' := by
  have hmm := @run_makeMap Tryz.prog
  have h0 : (w.alloc (.map #[] 0)).ownsMap Tryz.prog 9 (plainElem (H := Unit) Tryz.prog 3) w.heap.size 0 (.map []) := World.ownsMap_made _ _ _ _
  have b0 : Below w.heap.size w (w.alloc (.map #[] 0)) := (Below.refl _ _).alloc (Nat.le_refl _) _
  have hgrow : ∀ {wa wb : World}, Below w.heap.size w wa → wa.grownBy wb (some w.heap.size) → Below w.heap.size w wb := fun ha hb => ha.grown hb ha.size (fun j hj => by cases hj; exact Nat.le_refl _)
  go_enter Tryz.func25, Tryz.ntmps25
  go_wp2_with (refine wpList_insert_own5 _ rfl _ _ _ 60 rfl 9 3 (string_keyed Tryz.underlying9) Tryz.underlying60 _ w.heap.size 0 _ rfl h0 (by decide) _ _ _ rfl rfl (str_key [111, 114] (by decide)) _ [] (plainElem_int Tryz.underlying3 (wf_small (n := 1) (by decide) (by decide))) ?_)
  intro w1 h1 g1
  have b1 := hgrow b0 g1
  clear h0 b0 g1
  go_wp2_with (refine wpList_insert_own5 _ rfl _ _ _ 60 rfl 9 3 (string_keyed Tryz.underlying9) Tryz.underlying60 _ w.heap.size 1 _ rfl h1 (by decide) _ _ _ rfl rfl (str_key [97, 110, 100] (by decide)) _ [] (plainElem_int Tryz.underlying3 (wf_small (n := 2) (by decide) (by decide))) ?_)
  intro w2 h2 g2
  have b2 := hgrow b1 g2
  clear h1 b1 g2
  go_wp2_with (refine wpList_insert_own5 _ rfl _ _ _ 60 rfl 9 3 (string_keyed Tryz.underlying9) Tryz.underlying60 _ w.heap.size 2 _ rfl h2 (by decide) _ _ _ rfl rfl (str_key [60] (by decide)) _ [] (plainElem_int Tryz.underlying3 (wf_small (n := 3) (by decide) (by decide))) ?_)
  intro w3 h3 g3
  have b3 := hgrow b2 g3
  clear h2 b2 g3
  go_wp2_with (refine wpList_insert_own5 _ rfl _ _ _ 60 rfl 9 3 (string_keyed Tryz.underlying9) Tryz.underlying60 _ w.heap.size 3 _ rfl h3 (by decide) _ _ _ rfl rfl (str_key [60, 61] (by decide)) _ [] (plainElem_int Tryz.underlying3 (wf_small (n := 3) (by decide) (by decide))) ?_)
  intro w4 h4 g4
  have b4 := hgrow b3 g4
  clear h3 b3 g4
  go_wp2_with (refine wpList_insert_own5 _ rfl _ _ _ 60 rfl 9 3 (string_keyed Tryz.underlying9) Tryz.underlying60 _ w.heap.size 4 _ rfl h4 (by decide) _ _ _ rfl rfl (str_key [62] (by decide)) _ [] (plainElem_int Tryz.underlying3 (wf_small (n := 3) (by decide) (by decide))) ?_)
  intro w5 h5 g5
  have b5 := hgrow b4 g5
  clear h4 b4 g5
  go_wp2_with (refine wpList_insert_own5 _ rfl _ _ _ 60 rfl 9 3 (string_keyed Tryz.underlying9) Tryz.underlying60 _ w.heap.size 5 _ rfl h5 (by decide) _ _ _ rfl rfl (str_key [62, 61] (by decide)) _ [] (plainElem_int Tryz.underlying3 (wf_small (n := 3) (by decide) (by decide))) ?_)
  intro w6 h6 g6
  have b6 := hgrow b5 g6
  clear h5 b5 g6
  go_wp2_with (refine wpList_insert_own5 _ rfl _ _ _ 60 rfl 9 3 (string_keyed Tryz.underlying9) Tryz.underlying60 _ w.heap.size 6 _ rfl h6 (by decide) _ _ _ rfl rfl (str_key [61, 61] (by decide)) _ [] (plainElem_int Tryz.underlying3 (wf_small (n := 3) (by decide) (by decide))) ?_)
  intro w7 h7 g7
  have b7 := hgrow b6 g7
  clear h6 b6 g7
  go_wp2_with (refine wpList_insert_own5 _ rfl _ _ _ 60 rfl 9 3 (string_keyed Tryz.underlying9) Tryz.underlying60 _ w.heap.size 7 _ rfl h7 (by decide) _ _ _ rfl rfl (str_key [126, 61] (by decide)) _ [] (plainElem_int Tryz.underlying3 (wf_small (n := 3) (by decide) (by decide))) ?_)
  intro w8 h8 g8
  have b8 := hgrow b7 g8
  clear h7 b7 g8
  go_wp2_with (refine wpList_insert_own5 _ rfl _ _ _ 60 rfl 9 3 (string_keyed Tryz.underlying9) Tryz.underlying60 _ w.heap.size 8 _ rfl h8 (by decide) _ _ _ rfl rfl (str_key [124] (by decide)) _ [] (plainElem_int Tryz.underlying3 (wf_small (n := 4) (by decide) (by decide))) ?_)
  intro w9 h9 g9
  have b9 := hgrow b8 g9
  clear h8 b8 g9
  go_wp2_with (refine wpList_insert_own5 _ rfl _ _ _ 60 rfl 9 3 (string_keyed Tryz.underlying9) Tryz.underlying60 _ w.heap.size 9 _ rfl h9 (by decide) _ _ _ rfl rfl (str_key [126] (by decide)) _ [] (plainElem_int Tryz.underlying3 (wf_small (n := 5) (by decide) (by decide))) ?_)
  intro w10 h10 g10
  have b10 := hgrow b9 g10
  clear h9 b9 g10
  go_wp2_with (refine wpList_insert_own5 _ rfl _ _ _ 60 rfl 9 3 (string_keyed Tryz.underlying9) Tryz.underlying60 _ w.heap.size 10 _ rfl h10 (by decide) _ _ _ rfl rfl (str_key [38] (by decide)) _ [] (plainElem_int Tryz.underlying3 (wf_small (n := 6) (by decide) (by decide))) ?_)
  intro w11 h11 g11
  have b11 := hgrow b10 g11
  clear h10 b10 g11
  go_wp2_with (refine wpList_insert_own5 _ rfl _ _ _ 60 rfl 9 3 (string_keyed Tryz.underlying9) Tryz.underlying60 _ w.heap.size 11 _ rfl h11 (by decide) _ _ _ rfl rfl (str_key [60, 60] (by decide)) _ [] (plainElem_int Tryz.underlying3 (wf_small (n := 7) (by decide) (by decide))) ?_)
  intro w12 h12 g12
  have b12 := hgrow b11 g12
  clear h11 b11 g12
  go_wp2_with (refine wpList_insert_own5 _ rfl _ _ _ 60 rfl 9 3 (string_keyed Tryz.underlying9) Tryz.underlying60 _ w.heap.size 12 _ rfl h12 (by decide) _ _ _ rfl rfl (str_key [62, 62] (by decide)) _ [] (plainElem_int Tryz.underlying3 (wf_small (n := 7) (by decide) (by decide))) ?_)
  intro w13 h13 g13
  have b13 := hgrow b12 g13
  clear h12 b12 g13
  go_wp2_with (refine wpList_insert_own5 _ rfl _ _ _ 60 rfl 9 3 (string_keyed Tryz.underlying9) Tryz.underlying60 _ w.heap.size 13 _ rfl h13 (by decide) _ _ _ rfl rfl (str_key [46, 46] (by decide)) _ [] (plainElem_int Tryz.underlying3 (wf_small (n := 8) (by decide) (by decide))) ?_)
  intro w14 h14 g14
  have b14 := hgrow b13 g14
  clear h13 b13 g14
  go_wp2_with (refine wpList_insert_own5 _ rfl _ _ _ 60 rfl 9 3 (string_keyed Tryz.underlying9) Tryz.underlying60 _ w.heap.size 14 _ rfl h14 (by decide) _ _ _ rfl rfl (str_key [43] (by decide)) _ [] (plainElem_int Tryz.underlying3 (wf_small (n := 9) (by decide) (by decide))) ?_)
  intro w15 h15 g15
  have b15 := hgrow b14 g15
  clear h14 b14 g15
  go_wp2_with (refine wpList_insert_own5 _ rfl _ _ _ 60 rfl 9 3 (string_keyed Tryz.underlying9) Tryz.underlying60 _ w.heap.size 15 _ rfl h15 (by decide) _ _ _ rfl rfl (str_key [45] (by decide)) _ [] (plainElem_int Tryz.underlying3 (wf_small (n := 9) (by decide) (by decide))) ?_)
  intro w16 h16 g16
  have b16 := hgrow b15 g16
  clear h15 b15 g16
  go_wp2_with (refine wpList_insert_own5 _ rfl _ _ _ 60 rfl 9 3 (string_keyed Tryz.underlying9) Tryz.underlying60 _ w.heap.size 16 _ rfl h16 (by decide) _ _ _ rfl rfl (str_key [42] (by decide)) _ [] (plainElem_int Tryz.underlying3 (wf_small (n := 10) (by decide) (by decide))) ?_)
  intro w17 h17 g17
  have b17 := hgrow b16 g17
  clear h16 b16 g17
  go_wp2_with (refine wpList_insert_own5 _ rfl _ _ _ 60 rfl 9 3 (string_keyed Tryz.underlying9) Tryz.underlying60 _ w.heap.size 17 _ rfl h17 (by decide) _ _ _ rfl rfl (str_key [47, 47] (by decide)) _ [] (plainElem_int Tryz.underlying3 (wf_small (n := 10) (by decide) (by decide))) ?_)
  intro w18 h18 g18
  have b18 := hgrow b17 g18
  clear h17 b17 g18
  go_wp2_with (refine wpList_insert_own5 _ rfl _ _ _ 60 rfl 9 3 (string_keyed Tryz.underlying9) Tryz.underlying60 _ w.heap.size 18 _ rfl h18 (by decide) _ _ _ rfl rfl (str_key [37] (by decide)) _ [] (plainElem_int Tryz.underlying3 (wf_small (n := 10) (by decide) (by decide))) ?_)
  intro w19 h19 g19
  have b19 := hgrow b18 g19
  clear h18 b18 g19
  go_wp2
  go_ret
  exact ⟨rfl, ⟨19, strD, h19, strD_is.2⟩, b19⟩
end Go.Proofs.YtoggkigfijgbfaaGreatDoor.P5
namespace Go.Proofs.YtoggkigfijgbfaaGreatDoor.P5
set_option maxRecDepth 20000

theorem unq_short (q : List UInt8) (h : (unqL q).2 = 0) : (unqL q).1.length ≤ 4096 := by
  unfold unqL at h ⊢
  generalize (midL q).bind readL = r at h ⊢
  cases r with
  | none => exact Nat.zero_le _
  | some s =>
    revert h
    show (if 4096 < s.length then (([], 3) : List UInt8 × Int) else (s, 0)).2 = 0 → (if 4096 < s.length then (([], 3) : List UInt8 × Int) else (s, 0)).1.length ≤ 4096
    split
    · intro h; simp
    · intro _; show s.length ≤ 4096; omega
theorem word_fine {t : List UInt8} (hne : t ≠ []) (h0 : kindL t ≠ 0) (he : (wordL t).err = 0) (hl : t.length ≤ 32768) : (wordL t).kind ≠ 5 ∧ (wordL t).text.length ≤ 32768 := by
  have hp := word_pos hne h0 he
  have h5 : kindL t ≠ 5 := fun e => hne ((kind_nil_iff t).1 e)
  have hk := kind_le t
  have hh : (headL (kindL t) t).length ≤ 32768 := by omega
  unfold wordL readW at he ⊢
  generalize headL (kindL t) t = w at he hh ⊢
  by_cases k1 : kindL t = 1
  · rw [if_pos k1] at he ⊢
    unfold nameW at he ⊢
    split
    · rename_i q; rw [if_pos q] at he; exact absurd he (by decide)
    · refine ⟨?_, hh⟩
      show (if reservedB w = true then 4 else 1) ≠ 5
      split <;> decide
  · rw [if_neg k1] at he ⊢
    by_cases k2 : kindL t = 2
    · rw [if_pos k2] at he ⊢
      unfold intW at he ⊢
      split
      · exact ⟨(show (2 : Nat) ≠ 5 by decide), hh⟩
      · rename_i q
        rw [if_neg q] at he
        have he : wordE (parseE w) = 0 := he
        unfold wordE at he
        split at he
        · exact absurd he (by decide)
        · exact absurd he q
    · rw [if_neg k2] at he ⊢
      by_cases k3 : kindL t = 3
      · rw [if_pos k3] at he ⊢
        unfold strW at he ⊢
        by_cases q : (unqL w).2 = 0
        · rw [if_pos q]
          exact ⟨(show (3 : Nat) ≠ 5 by decide), by have := unq_short w q; show (unqL w).1.length ≤ _; omega⟩
        · rw [if_neg q] at he
          have he : wordE (unqL w).2 = 0 := he
          unfold wordE at he
          split at he
          · exact absurd he (by decide)
          · exact absurd he q
      · rw [if_neg k3] at he ⊢
        unfold signW at he ⊢
        split
        · rename_i q; rw [if_pos q] at he; exact absurd he (by decide)
        · exact ⟨(show (4 : Nat) ≠ 5 by decide), hh⟩
theorem wf_cons {t : Tok} {ts : List Tok} (h : t.kind ≠ 5) (hw : WFT ts) : WFT (t :: ts) := by
  cases ts with
  | nil => exact hw.elim
  | cons u r => exact ⟨h, hw⟩
theorem lexed_wf : ∀ (n : Nat) (u : List UInt8) (l : Nat) (ts : List Tok) (m : Nat), u.length ≤ n → u.length ≤ 32768 → tokL u l = ⟨ts, 0, m⟩ → WFT ts ∧ ts.length ≤ u.length + 1 ∧ ∀ t, t ∈ ts → t.text.length ≤ 32768 := by
  intro n
  have nil : ∀ (l : Nat) (ts : List Tok) (m : Nat), tokL [] l = ⟨ts, 0, m⟩ → WFT ts ∧ ts.length ≤ ([] : List UInt8).length + 1 ∧ ∀ t, t ∈ ts → t.text.length ≤ 32768 := by
    intro l ts m h
    rw [tokL_nil] at h
    injection h with h1 _ _
    subst h1
    exact ⟨rfl, by simp, by simp⟩
  induction n with
  | zero =>
    intro u l ts m hu hl h
    obtain rfl : u = [] := List.length_eq_zero_iff.1 (by omega)
    exact nil l ts m h
  | succ n ih =>
    intro u l ts m hu hl h
    by_cases hne : u = []
    · subst hne; exact nil l ts m h
    by_cases h0 : kindL u = 0
    · rw [tokL_blank l h0] at h
      have hp := blanks_pos h0
      obtain ⟨a, b, c⟩ := ih _ _ _ _ (by rw [List.length_drop]; omega) (by rw [List.length_drop]; omega) h
      rw [List.length_drop] at b
      exact ⟨a, by omega, c⟩
    by_cases he : (wordL u).err = 0
    · rw [tokL_word l hne h0 he] at h
      have hp := word_pos hne h0 he
      have hf := word_fine hne h0 he hl
      cases hr : tokL (u.drop (wordL u).size) l with
      | mk ts' e' m' =>
        rw [hr] at h
        unfold pushL at h
        simp only [] at h
        by_cases h' : e' = 0
        · rw [if_pos h'] at h
          injection h with h1 h2 h3
          subst h'; subst h3
          obtain ⟨a, b, c⟩ := ih _ _ _ _ (by rw [List.length_drop]; omega) (by rw [List.length_drop]; omega) hr
          rw [List.length_drop] at b
          subst h1
          refine ⟨wf_cons hf.1 a, by rw [List.length_cons]; omega, fun t ht => ?_⟩
          rcases List.mem_cons.1 ht with rfl | ht
          · exact hf.2
          · exact c t ht
        · rw [if_neg h'] at h
          injection h with h1 h2 h3
          exact absurd h2 h'
    · rw [tokL_bad l hne h0 he] at h
      injection h with h1 h2 h3
      exact absurd h2 he
theorem lex_wf {u : List UInt8} {ts : List Tok} {m : Nat} (h : lexL u = ⟨ts, 0, m⟩) : WFT ts ∧ ts.length ≤ 32769 ∧ ∀ t, t ∈ ts → t.text.length ≤ 32768 := by
  unfold lexL at h
  split at h
  · injection h with _ h2 _; exact absurd h2 (by decide)
  · obtain ⟨a, b, c⟩ := lexed_wf _ u 0 ts m (Nat.le_refl _) (by omega) h
    exact ⟨a, by omega, c⟩
/-- A source: its statements, or what is wrong first. -/
def sourceF (n : Nat) (t : List UInt8) : Res :=
  if (lexL t).err = 0 then (parseF n .stmts 0 (lexL t).toks).bind fun x ts => if (hdT ts).kind = 5 then .ok x ts else .bad 4 (linT ts) else .bad (lexL t).err (lexL t).line
end Go.Proofs.YtoggkigfijgbfaaGreatDoor.P5
namespace Go.Proofs.YtoggkigfijgbfaaGreatDoor.P5
set_option maxRecDepth 20000
open Go.RowKit Go.Maps

theorem assert_fault (v : Value) (w : World) : (Instr.typeAssert (.iface 59 v) 20 59 false).run Tryz.prog w = .ok v w := by kernel_rfl
theorem catch_idle (a b : Nat) (w : World) :
    CallsD Tryz.prog 24 #[pV a, pV b] .returning w fun e u' w' => e = .returned (.tuple #[]) ∧ u' = .returning ∧ w' = w := by
  refine callsD_of_wpS Tryz.func24 rfl fun c₀ cs hu => ?_
  apply wpS_seq
  apply wpS_region
  simp [wpOpsS, go_sem, recoverD, hu, Tryz.ntmps24, Exit.thenS]
  apply wpS_seq
  apply wpS_region
  simp [wpOpsS, go_sem, Exit.thenS]
  refine wpS_cond (t := false) (by simp [Act.eval, Array.replicate]) ?_
  simp only [Bool.false_eq_true, if_false]
  refine wpS_of_wp (wp_skip ?_)
  cases c₀
  simp_all [bodyPostS, results, Tryz.results24]
theorem catch_panic (a b f : Nat) (w : World) (x : Value) (hab : a ≠ b) (ha : w.cell? ⟨a, 0, none⟩ = some x) (fa : w.frozen? ⟨a, 0, none⟩ = false) (y : Value) (hb : w.cell? ⟨b, 0, none⟩ = some y) (fb : w.frozen? ⟨b, 0, none⟩ = false) :
    CallsD Tryz.prog 24 #[pV a, pV b] (.panicking [{ v := .iface 59 (pV f), recovered := false }]) w fun e u' w' =>
      e = .returned (.tuple #[]) ∧ u' = .panicking [{ v := .iface 59 (pV f), recovered := true }] ∧ w'.cell? ⟨a, 0, none⟩ = some (.slice none 0 0) ∧ w'.cell? ⟨b, 0, none⟩ = some (.iface 59 (pV f)) ∧ Past [a, b] w w' := by
  refine callsD_of_wpS Tryz.func24 rfl fun c₀ cs hu => ?_
  apply wpS_seq
  apply wpS_region
  simp [wpOpsS, go_sem, recoverD, hu, Tryz.ntmps24, Exit.thenS]
  apply wpS_seq
  apply wpS_region
  simp [wpOpsS, go_sem, Exit.thenS]
  refine wpS_cond (t := true) (by simp [Act.eval, Array.replicate]) ?_
  simp only [if_true]
  refine wpS_of_wp ?_
  change Code.wp _ _ _ { tmps := #[pV a, pV b, .iface 59 (pV f), .iface 59 (pV f), .iface 59 (pV f), .bool true, undef, undef, undef], defers := [] } _
  have hba : b ≠ a := Ne.symm hab
  have TA := assert_fault
  go_region
  all_goals
    refine ⟨rfl, _, rfl, .tuple #[], results_none rfl _ _ _, rfl, rfl, ?_, ?_, ?_⟩
    · first | exact (cell_set_block hba _).trans (World.cell?_setCell_same _ _ _ (by simpa using ha)) | exact World.cell?_setCell_same _ _ _ ((cell_set_block hba _).trans (by simpa using ha))
    · first | exact World.cell?_setCell_same _ _ _ ((cell_set_block hab _).trans (by simpa using hb)) | exact (cell_set_block hab _).trans (World.cell?_setCell_same _ _ _ (by simpa using hb))
    · exact ((Past.refl [a, b] w).drew.setCell (.inl (by simp)) _).setCell (.inl (by simp)) _
end Go.Proofs.YtoggkigfijgbfaaGreatDoor.P5
