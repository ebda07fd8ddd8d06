/- The document's own tokens of a text. -/
import Derived.Test.YteoccfmhpakplaaGreatDoorLexRefD
import Derived.Test.YteoccfmhpakplaaGreatDoorLexTokens
namespace Go.Proofs.YteoccfmhpakplaaGreatDoor
set_option maxRecDepth 20000
open Go.RowKit

/-- What tallowref04.Tokens hands back. -/
def GivesR (r : Lexed) (w : World) (e : Ending) (w' : World) : Prop :=
  (r.err = 0 ∧ ∃ v, e = .returned (.tuple #[v, .agg #[.int .i64 0, .int .i64 0]]) ∧ TokRow w.heap.size v r.toks w' ∧ Below w.heap.size w w') ∨
  (r.err ≠ 0 ∧ e = .returned (.tuple #[.slice none 0 0, .agg #[.int .i64 r.err, .int .i64 r.line]]) ∧ Below w.heap.size w w')
theorem load_fault {W : World} {b : Nat} {v0 v1 : Value} (h0 : W.cell? ⟨b, 0, none⟩ = some v0) (h1 : W.cell? ⟨b, 1, none⟩ = some v1) : (loadVar 29 ⟨b, 0, none⟩).run Tryz.prog W = .ok (.agg #[v0, v1]) W := by
  have ha := Tryz.isAgg29
  simp only [loadVar, Sem.run_bind, ha, Result.andThen]
  simp [go_sem, h0, h1]
theorem results_tmp_cell {fn : Func} {p u : Tmp} {ty : TypeId} (h : fn.results = #[.tmp u, .cell p ty]) (tmps : Array Value) (P : Program) (w : World) :
    (results fn tmps).run P w = ((asAddr (tmps.getD p undef)).run P w).andThen fun a w1 => ((loadVar ty a).run P w1).andThen fun x w2 => .ok (.tuple #[tmps.getD u undef, x]) w2 := by
  simp only [results, h]
  simp [Sem.run_bind, Result.andThen]
theorem ret_tmp_fault {fn : Func} {R : Ending → World → Prop} {a : Act} {W : World} {p u : Tmp} {b : Nat} {v0 v1 : Value} (h : fn.results = #[.tmp u, .cell p 29]) (hp : a.tmps.getD p undef = .pointer (some ⟨b, 0, none⟩))
    (h0 : W.cell? ⟨b, 0, none⟩ = some v0) (h1 : W.cell? ⟨b, 1, none⟩ = some v1) (hd : a.defers = []) (hR : R (.returned (.tuple #[a.tmps.getD u undef, .agg #[v0, v1]])) W) : bodyPost Tryz.prog fn R .ret a W := by
  refine bodyPost_ret (v := .tuple #[a.tmps.getD u undef, .agg #[v0, v1]]) ?_ hd hR
  rw [results_tmp_cell h, hp]
  simp only [asAddr, Sem.run_pure, Result.andThen_ok, load_fault h0 h1]
theorem LTokens_long (s : ByteArray) (w : World) (h : 32768 < s.size) : Calls Tryz.prog 10 #[.string s] w (GivesR ⟨[], 3, 0⟩ w) := by
  go_enter Tryz.func10, Tryz.ntmps10
  go_wp2_with fail
  refine ret_tmp_fault rfl rfl (v0 := .int .i64 3) (v1 := .int .i64 0) (by simp [go_sem]) (by simp [go_sem]) rfl ?_
  exact .inr ⟨by decide, rfl, (Below.refl _ _).alloc (Nat.le_refl _) _⟩
/-- A blank alone; a remark. -/
theorem blank_not {c : UInt8} {r : List UInt8} (h : blankB c = true) : Lib.hasPrefix (c :: r) [45, 45] = false := by
  rw [prefix_take]
  refine beq_eq_false_iff_ne.2 fun e => ?_
  have : c = 45 := by
    have := congrArg List.head? e
    simpa using this
  subst this; revert h; decide
theorem kind_blank {c : UInt8} {r : List UInt8} (h : blankB c = true) : kindL (c :: r) = 0 := by
  unfold kindL; simp only []; rw [if_pos (.inl h)]
theorem tokL_run : ∀ (r : List UInt8) (l : Nat), tokL r l = tokL (r.drop (r.takeWhile blankB).length) (l + (r.takeWhile blankB).count 10)
  | [], l => rfl
  | c :: r, l => by
    cases hb : blankB c with
    | false => rw [List.takeWhile_cons, hb]; simp
    | true =>
      rw [tokL_blank l (kind_blank hb)]
      unfold blanksL
      rw [blank_not hb]; simp
theorem tokL_space {c : UInt8} {r : List UInt8} (l : Nat) (h : blankB c = true) : tokL (c :: r) l = tokL r (l + if c = 10 then 1 else 0) := by
  rw [tokL_run (c :: r), tokL_run r, List.takeWhile_cons, h]
  simp only [if_pos, List.length_cons, List.drop_succ_cons, List.count_cons, beq_iff_eq]
  congr 1
  omega
theorem count_feed (r : List UInt8) : (r.takeWhile (· != 10)).count 10 = 0 := by
  rw [List.count_eq_zero]
  intro h
  have := mem_tw h
  revert this; decide
theorem tokL_remark {t : List UInt8} (l : Nat) (h : Lib.hasPrefix t [45, 45] = true) : tokL t l = tokL (t.drop (t.takeWhile (· != 10)).length) l := by
  have hk : kindL t = 0 := by
    match t, h with
    | c :: r, h => unfold kindL; simp only []; rw [if_pos (.inr h)]
  rw [tokL_blank l hk]
  unfold blanksL
  rw [if_pos h, count_feed, Nat.add_zero]
theorem blank_iff {c : UInt8} : blankB c = true ↔ c = 32 ∨ c = 9 ∨ c = 13 ∨ c = 10 := by
  unfold blankB
  simp only [Bool.or_eq_true, beq_iff_eq, ← UInt8.toNat_inj]
  simp [or_assoc]
/-- How far the text was gone through. -/
structure FarR (s : ByteArray) (w : World) (i line : Nat) (acc : List Tok) (v : Value) (wr : World) : Prop where
  row : TokRow (w.heap.size + 1) v acc wr
  c0 : wr.cell? ⟨w.heap.size, 0, none⟩ = some (.int .i64 0)
  c1 : wr.cell? ⟨w.heap.size, 1, none⟩ = some (.int .i64 0)
  f0 : wr.frozen? ⟨w.heap.size, 0, none⟩ = false
  f1 : wr.frozen? ⟨w.heap.size, 1, none⟩ = false
  below : Below w.heap.size w wr
  lt : w.heap.size < wr.heap.size
  goes : lexL s.data.toList = glueL acc (tokL (s.data.toList.drop i) line)
  inside : i ≤ s.size
  room : acc.length ≤ i
  lines : line ≤ i
theorem FarR.step {s : ByteArray} {w wr : World} {i j line line' : Nat} {acc : List Tok} {v : Value} (h : FarR s w i line acc v wr) (hij : i ≤ j) (hj : j ≤ s.size) (hl : line' ≤ j) (hg : tokL (s.data.toList.drop i) line = tokL (s.data.toList.drop j) line') : FarR s w j line' acc v wr :=
  { h with goes := by rw [h.goes, hg], inside := hj, room := Nat.le_trans h.room hij, lines := hl }
/-- Behind the end's token. -/
theorem FarR.finish {s : ByteArray} {w wr w2 w3 : World} {line : Nat} {acc : List Tok} {v v2 : Value} {o : Obj} (h : FarR s w s.size line acc v wr)
    (ho : w2.ownsRow (w.heap.size + 1) 41 4 v2 (acc.length + 1) (tokCells acc ++ [.int .i64 5, .string ⟨#[]⟩, .int .i64 0, .int .i64 line])) (hg : (wr.alloc o).grownBy w2 v.ownBlock)
    (h3 : w3 = (w2.setCell ⟨w.heap.size, 0, none⟩ (.int .i64 0)).setCell ⟨w.heap.size, 1, none⟩ (.int .i64 0)) :
    GivesR (lexL s.data.toList) w (.returned (.tuple #[v2, .agg #[.int .i64 0, .int .i64 0]])) w3 := by
  have e : lexL s.data.toList = ⟨acc ++ [⟨5, [], 0, line⟩], 0, line⟩ := by
    rw [h.goes, List.drop_eq_nil_of_le (by rw [size_toList]; omega), tokL_nil]; rfl
  rw [e, h3]
  have hb : Below w.heap.size w w2 := (h.below.alloc h.below.size o).grown hg (by have := h.below.size; simp; omega) fun k hk => by have := (h.row.own.lt k hk).1; omega
  exact .inl ⟨rfl, v2, rfl, (TokRow.mk (ownsRow_setCell_below (ownsRow_setCell_below (TokRow.more (t := ⟨5, [], 0, line⟩) ho).own (a := ⟨w.heap.size, 0, none⟩) (Nat.lt_succ_self _) _) (a := ⟨w.heap.size, 1, none⟩) (Nat.lt_succ_self _) _)).low (Nat.le_succ _), (hb.setCell (p := ⟨w.heap.size, 0, none⟩) (Nat.le_refl _) _).setCell (p := ⟨w.heap.size, 1, none⟩) (Nat.le_refl _) _⟩
/-- Behind a word. -/
theorem FarR.word {s : ByteArray} {w wr w2 wa w3 : World} {i line : Nat} {acc : List Tok} {v v2 : Value} (h : FarR s w i line acc v wr) (hi : i < s.size) (hk : kindL (s.data.toList.drop i) ≠ 0) (he : (wordL (s.data.toList.drop i)).err = 0)
    (hb : Below wr.heap.size wr w2) (hba : Below w2.heap.size w2 wa)
    (ho : w3.ownsRow (w.heap.size + 1) 41 4 v2 (acc.length + 1) (tokCells acc ++ [.int .i64 (wordL (s.data.toList.drop i)).kind, .string ⟨(wordL (s.data.toList.drop i)).text.toArray⟩, .int .i64 (wordL (s.data.toList.drop i)).num, .int .i64 line])) (hg : wa.grownBy w3 v.ownBlock) :
    FarR s w (i + (wordL (s.data.toList.drop i)).size) line (acc ++ [⟨(wordL (s.data.toList.drop i)).kind, (wordL (s.data.toList.drop i)).text, (wordL (s.data.toList.drop i)).num, line⟩]) v2 w3 ∧ 1 ≤ (wordL (s.data.toList.drop i)).size ∧ i + (wordL (s.data.toList.drop i)).size ≤ s.size := by
  have hlen : (s.data.toList.drop i).length = s.size - i := by rw [List.length_drop, size_toList]
  have hne : s.data.toList.drop i ≠ [] := fun e => by rw [e] at hlen; simp at hlen; omega
  have hp := word_pos hne hk he
  have hr := h.room
  have hl := h.lines
  have hlt := h.lt
  have h2 : w.heap.size < w2.heap.size := Nat.lt_of_lt_of_le hlt hb.size
  have ha : w.heap.size < wa.heap.size := Nat.lt_of_lt_of_le h2 hba.size
  have h3 := hg.size
  have cell3 : ∀ p : Addr, p.block = w.heap.size → w3.cell? p = wr.cell? p ∧ w3.frozen? p = wr.frozen? p := by
    intro p hpb
    have g := hg.block p.block (by omega) (fun e => by have := (h.row.own.lt _ e.symm).1; omega)
    exact ⟨(World.cell?_of_block g).trans ((hba.cell (by omega)).trans (hb.cell (by omega))), (World.frozen?_of_block g).trans ((hba.frozen (by omega)).trans (hb.frozen (by omega)))⟩
  refine ⟨⟨TokRow.more (t := ⟨_, _, _, line⟩) ho, (cell3 ⟨w.heap.size, 0, none⟩ rfl).1.trans h.c0, (cell3 ⟨w.heap.size, 1, none⟩ rfl).1.trans h.c1, (cell3 ⟨w.heap.size, 0, none⟩ rfl).2.trans h.f0, (cell3 ⟨w.heap.size, 1, none⟩ rfl).2.trans h.f1, ?_, by omega, ?_, by omega, ?_, by omega⟩, hp.1, by omega⟩
  · exact ((h.below.trans (hb.mono (by omega))).trans (hba.mono (by omega))).grown hg (by omega) fun k hk => by have := (h.row.own.lt k hk).1; omega
  · rw [h.goes, tokL_word line hne hk he, glue_push, List.drop_drop]
  · rw [List.length_append]; simp only [List.length_cons, List.length_nil]; omega
theorem FarR.bad {s : ByteArray} {w wr : World} {i line : Nat} {acc : List Tok} {v : Value} (h : FarR s w i line acc v wr) (hi : i < s.size) (hk : kindL (s.data.toList.drop i) ≠ 0) (he : (wordL (s.data.toList.drop i)).err ≠ 0) :
    lexL s.data.toList = ⟨[], (wordL (s.data.toList.drop i)).err, line⟩ := by
  have hlen : (s.data.toList.drop i).length = s.size - i := by rw [List.length_drop, size_toList]
  have hne : s.data.toList.drop i ≠ [] := fun e => by rw [e] at hlen; simp at hlen; omega
  rw [h.goes, tokL_bad line hne hk he]
  unfold glueL
  rw [if_neg he]
theorem fault_cells {s : ByteArray} {w wr w2 : World} {k line : Nat} {acc : List Tok} {v : Value} {o : Obj} (h : FarR s w k line acc v wr) (hg : (wr.alloc o).grownBy w2 v.ownBlock) :
    w2.cell? ⟨w.heap.size, 0, none⟩ = some (.int .i64 0) ∧ w2.cell? ⟨w.heap.size, 1, none⟩ = some (.int .i64 0) ∧ w2.frozen? ⟨w.heap.size, 0, none⟩ = false ∧ w2.frozen? ⟨w.heap.size, 1, none⟩ = false := by
  have hlt := h.lt
  have g := hg.block w.heap.size (by simp; omega) (fun e => by have := (h.row.own.lt _ e.symm).1; omega)
  exact ⟨(World.cell?_of_block (a := ⟨w.heap.size, 0, none⟩) g).trans ((World.cell?_alloc_lt _ _ ⟨w.heap.size, 0, none⟩ hlt).trans h.c0), (World.cell?_of_block (a := ⟨w.heap.size, 1, none⟩) g).trans ((World.cell?_alloc_lt _ _ ⟨w.heap.size, 1, none⟩ hlt).trans h.c1),
    (World.frozen?_of_block (a := ⟨w.heap.size, 0, none⟩) g).trans ((World.frozen?_alloc_old _ _ ⟨w.heap.size, 0, none⟩ (Nat.ne_of_lt hlt)).trans h.f0), (World.frozen?_of_block (a := ⟨w.heap.size, 1, none⟩) g).trans ((World.frozen?_alloc_old _ _ ⟨w.heap.size, 1, none⟩ (Nat.ne_of_lt hlt)).trans h.f1)⟩
theorem fault_keep {s : ByteArray} {w wr w2 : World} {k line : Nat} {acc : List Tok} {v : Value} (h : FarR s w k line acc v wr) (hb : Below wr.heap.size wr w2) :
    w2.cell? ⟨w.heap.size, 0, none⟩ = some (.int .i64 0) ∧ w2.cell? ⟨w.heap.size, 1, none⟩ = some (.int .i64 0) ∧ w2.frozen? ⟨w.heap.size, 0, none⟩ = false ∧ w2.frozen? ⟨w.heap.size, 1, none⟩ = false := by
  have hlt := h.lt
  exact ⟨(hb.cell (p := ⟨w.heap.size, 0, none⟩) hlt).trans h.c0, (hb.cell (p := ⟨w.heap.size, 1, none⟩) hlt).trans h.c1, (hb.frozen (p := ⟨w.heap.size, 0, none⟩) hlt).trans h.f0, (hb.frozen (p := ⟨w.heap.size, 1, none⟩) hlt).trans h.f1⟩
set_option maxHeartbeats 8000000 in
theorem LTokens_goes (s : ByteArray) (w : World) (h : ¬ 32768 < s.size) : Calls Tryz.prog 10 #[.string s] w (GivesR (lexL s.data.toList) w) := by
  obtain ⟨i9, hi, hz0, hz1, hz2⟩ := info_parts tok_info
  have hs := size_toList s
  have hq : decide ((32768 : Int) < (s.size : Int)) = false := decide_eq_false (by omega)
  have hS : s.size ≤ 32768 := by omega
  have F0 : Hid (FarR s w 0 0 [] (.slice none 0 0) (w.alloc (.cells #[.int .i64 0, .int .i64 0] 29))) :=
    ⟨TokRow.nil _ _, by simp [go_sem], by simp [go_sem], by simp [go_sem], by simp [go_sem], (Below.refl _ _).alloc (Nat.le_refl _) _, by simp, by rw [glue_nil]; unfold lexL; rw [if_neg (by omega)]; rfl, by omega, by simp, by omega⟩
  clear hs h
  go_enter Tryz.func10, Tryz.ntmps10
  go_wp2_with fail
  go_loopw [4, 5, 6] (fun v l i wr => ∃ (k line : Nat) (acc : List Tok), l = .int .i64 line ∧ i = .int .i64 k ∧ k ≤ s.size ∧ line ≤ k ∧ Hid (FarR s w k line acc v wr)) (fun _ _ i _ => s.size - (intOf i).toNat)
  case atStart => exact ⟨0, 0, [], rfl, rfl, by omega, by omega, F0⟩
  case round =>
    obtain ⟨k, line, acc, rfl, rfl, hk, hline, hF⟩ := hrel
    clear F0 hq
    have hroom := hF.out.room
    by_cases hlt : k < s.size
    · have hget := Lib.hid (byte_at hlt)
      have hdrop : Hid (s.data.toList.drop k = s[k] :: s.data.toList.drop (k + 1)) := drop_cons (byte_at hlt)
      by_cases h10 : s[k] = 10
      · have q10 : ((s[k].toNat : Int) == 10) = true := beq_byte h10
        have q32 : ((s[k].toNat : Int) == 32) = false := by rw [h10]; rfl
        have q9 : ((s[k].toNat : Int) == 9) = false := by rw [h10]; rfl
        have q13 : ((s[k].toNat : Int) == 13) = false := by rw [h10]; rfl
        have R := Lib.hid (hF.out.step (j := k + 1) (line' := line + 1) (by omega) (by omega) (by omega) (by rw [hdrop.out, tokL_space line (blank_iff.2 (.inr (.inr (.inr h10)))), if_pos h10]))
        clear h10
        go_wp2_with fail
        go_roundw
        case rel => exact ⟨k + 1, line + 1, acc, by go_num, by go_num, by omega, by omega, R⟩
        case measure => simp [intOf]; omega
      · have q10 : ((s[k].toNat : Int) == 10) = false := bne_byte h10
        by_cases hc : s[k] = 32
        · have R := Lib.hid (hF.out.step (j := k + 1) (line' := line) (by omega) (by omega) (by omega) (by rw [hdrop.out, tokL_space line (blank_iff.2 (.inl hc)), if_neg h10]; rfl))
          have q32 : ((s[k].toNat : Int) == 32) = true := beq_byte hc
          clear hc h10
          go_wp2_with fail
          go_roundw
          case rel => exact ⟨k + 1, line, acc, rfl, by go_num, by omega, by omega, R⟩
          case measure => simp [intOf]; omega
        · have q32 : ((s[k].toNat : Int) == 32) = false := bne_byte hc
          by_cases hc9 : s[k] = 9
          · replace hc := hc9
            clear hc9
            have R := Lib.hid (hF.out.step (j := k + 1) (line' := line) (by omega) (by omega) (by omega) (by rw [hdrop.out, tokL_space line (blank_iff.2 (.inr (.inl hc))), if_neg h10]; rfl))
            have q9 : ((s[k].toNat : Int) == 9) = true := beq_byte hc
            clear hc h10
            go_wp2_with fail
            go_roundw
            case rel => exact ⟨k + 1, line, acc, rfl, by go_num, by omega, by omega, R⟩
            case measure => simp [intOf]; omega
          · have q9 : ((s[k].toNat : Int) == 9) = false := bne_byte hc9
            by_cases hc13 : s[k] = 13
            · replace hc := hc13
              clear hc13
              have R := Lib.hid (hF.out.step (j := k + 1) (line' := line) (by omega) (by omega) (by omega) (by rw [hdrop.out, tokL_space line (blank_iff.2 (.inr (.inr (.inl hc)))), if_neg h10]; rfl))
              have q13 : ((s[k].toNat : Int) == 13) = true := beq_byte hc
              clear hc h10
              go_wp2_with fail
              go_roundw
              case rel => exact ⟨k + 1, line, acc, rfl, by go_num, by omega, by omega, R⟩
              case measure => simp [intOf]; omega
            · have q13 : ((s[k].toNat : Int) == 13) = false := bne_byte hc13
              have hnb : ¬ blankB s[k] = true := by rw [blank_iff]; rintro (h | h | h | h) <;> contradiction
              clear hc hc9 hc13
              by_cases hrm : k + 1 < s.size
              · have qr : decide ((k : Int) + 1 < (s.size : Int)) = true := decide_eq_true (by omega)
                have hget1 : s.data.toList.drop (k + 1) = s[k + 1] :: s.data.toList.drop (k + 2) := drop_cons (byte_at hrm)
                by_cases h45 : s[k] = 45
                · have p45 : ((s[k].toNat : Int) == 45) = true := beq_byte h45
                  by_cases g45 : s[k + 1] = 45
                  · have r45 : ((s[k + 1].toNat : Int) == 45) = true := beq_byte g45
                    have hpre : Hid (Lib.hasPrefix (s.data.toList.drop k) [45, 45] = true) := by
                      rw [Hid, hdrop.out, hget1, h45, g45, prefix_take]; rfl
                    have HL : Hid ((s.data.toList.drop k).length = s.size - k) := by rw [Hid, List.length_drop, size_toList]
                    clear hnb h10 h45 g45 hget1
                    go_wp2_with fail
                    go_loop [6] (fun i => ∃ m j : Nat, i = .int .i64 m ∧ m ≤ s.size ∧ Hid (k + j = m) ∧ Hid (((s.data.toList.drop k).take j).all (· != 10) = true)) (fun i => s.size - (intOf i).toNat)
                    case atStart => exact ⟨k, 0, rfl, by omega, rfl, rfl⟩
                    case round =>
                      obtain ⟨m, j, rfl, hm, HM, hall⟩ := hrel
                      have done : Hid (s.size ≤ m ∨ (∃ c, (s.data.toList.drop k)[j]? = some c ∧ c = 10) → FarR s w m line acc u4 wr ∧ k < m) := by
                        intro hx
                        have hmj := HM.out
                        have hj : ((s.data.toList.drop k).takeWhile (· != 10)).length = j := by
                          refine takeWhile_upto (by rw [HL.out]; omega) hall.out ?_
                          rcases hx with h | ⟨c, h1, h2⟩
                          · exact .inl (by rw [HL.out]; omega)
                          · exact .inr ⟨c, h1, by rw [h2]; rfl⟩
                        have hpos : 1 ≤ j := by
                          rw [← hj]
                          obtain ⟨r, hr⟩ := hasPrefix_iff.1 hpre.out
                          rw [hr, List.cons_append, List.takeWhile_cons]; simp
                        exact ⟨hF.out.step (by omega) hm (by omega) (by rw [tokL_remark line hpre.out, hj, List.drop_drop, hmj]), by omega⟩
                      by_cases hjm : m < s.size
                      · have hgm : Hid ((s.data.toList.drop k)[j]? = some s[m]) := by have hm2 := HM.out; subst hm2; exact drop_at hjm
                        have qm : decide ((m : Int) < (s.size : Int)) = true := decide_eq_true (by omega)
                        by_cases hm10 : s[m] = 10
                        · have qq : ((s[m].toNat : Int) != 10) = false := by rw [hm10]; rfl
                          have R := done.out (.inr ⟨_, hgm.out, hm10⟩)
                          have hkm := R.2
                          replace R := Lib.hid R.1
                          clear hm10 done
                          go_wp2_with fail
                          go_roundw
                          case rel => exact ⟨m, line, acc, rfl, rfl, by omega, by omega, R⟩
                          case measure => simp [intOf]; omega
                        · have qq : ((s[m].toNat : Int) != 10) = true := bne_iff_ne.2 (fun e => hm10 (UInt8.toNat_inj.1 (by show s[m].toNat = 10; omega)))
                          have R := Lib.hid (all_snoc hall.out hgm.out (bne_iff_ne.2 hm10))
                          clear hm10 done
                          go_wp2_with fail
                          go_round
                          case rel => exact ⟨m + 1, j + 1, by go_num, by omega, by have := HM.out; show k + (j + 1) = m + 1; omega, R⟩
                          case measure => simp [intOf]; omega
                      · have R := done.out (.inl (by omega))
                        have hkm := R.2
                        replace R := Lib.hid R.1
                        have qm : decide ((m : Int) < (s.size : Int)) = false := decide_eq_false (by omega)
                        clear done
                        go_wp2_with fail
                        go_roundw
                        case rel => exact ⟨m, line, acc, rfl, rfl, by omega, by omega, R⟩
                        case measure => simp [intOf]; omega
                  · have r45 : ((s[k + 1].toNat : Int) == 45) = false := bne_byte g45
                    have hnr : ¬ Lib.hasPrefix (s.data.toList.drop k) [45, 45] = true := by
                      intro hp
                      obtain ⟨r, hr⟩ := hasPrefix_iff.1 hp
                      rw [hdrop.out] at hr
                      rw [hget1] at hr
                      simp only [List.cons_append, List.nil_append, List.cons.injEq] at hr
                      exact g45 hr.2.1
                    clear h45 g45 hget1
                    have hk0 : kindL (s.data.toList.drop k) ≠ 0 := by
                      intro e0
                      have := kind_cases s[k] (s.data.toList.drop (k + 1))
                      rw [← hdrop.out] at this
                      rcases this with ⟨g | g, _⟩ | ⟨_, ⟨_, e⟩ | ⟨_, _, e⟩ | ⟨_, _, _, e⟩ | ⟨_, _, _, e⟩⟩
                      · exact hnb g
                      · exact hnr g
                      all_goals omega
                    by_cases herr : (wordL (s.data.toList.drop k)).err = 0
                    · have N : Hid (∀ w, Calls Tryz.prog 26 #[.string s, .int .i64 k] w fun e w' => e = .returned (.tuple #[.agg (tokV (wordL (s.data.toList.drop k)).kind ⟨(wordL (s.data.toList.drop k)).text.toArray⟩ (wordL (s.data.toList.drop k)).num 0), .int .i64 (wordL (s.data.toList.drop k)).size, .int .i64 0]) ∧ Below w.heap.size w w') := by
                        intro w
                        refine (Lword_any s k w (by omega) hlt hk0).mono ?_
                        rintro e w' ⟨kd, tx, nm, z, rfl, hW, hb⟩
                        obtain ⟨rfl, rfl, rfl, rfl⟩ := hW herr
                        exact ⟨by rw [herr], hb⟩
                      have FW := Lib.hid (fun w2 wa w3 v2 => hF.out.word (w2 := w2) (wa := wa) (w3 := w3) (v2 := v2) hlt hk0 herr)
                      clear hk0 herr hnb hnr h10
                      generalize (wordL (s.data.toList.drop k)).kind = kd at *
                      generalize (wordL (s.data.toList.drop k)).text = tx at *
                      generalize (wordL (s.data.toList.drop k)).num = nm at *
                      generalize (wordL (s.data.toList.drop k)).size = z at *
                      go_wp2_with (first
                        | (go_at_call 26; with_reducible refine (N.out _).mono ?_; rintro e w2 ⟨rfl, hb2⟩)
                        | (at_builtin; refine wpList_append_own _ rfl (.tmp 92) (.tmp 94) _ rfl (w.heap.size + 1) 41 i9 _ 4 40 Tryz.underlying22 hi hz0 hz1 hz2 rfl (by decide) _ _ _ rfl (((own_below hF.out.row.own hb2).alloc _).alloc _) _ _ _ [.int .i64 kd, .string ⟨tx.toArray⟩, .int .i64 nm, .int .i64 line] rfl rfl (cells_at _ _ _ _ (by simp)) (by simp [Value.oneCell']) (by unfold maxLen; omega) (by omega) (by have := hF.out.lt; have := hb2.size; simp; omega) ?_; intro v2 w3 hown2 hg2 _; have R := FW.out _ _ _ _ hb2 (((Below.refl _ _).alloc (Nat.le_refl _) _).alloc (by simp) _) hown2 hg2; have z1 := R.2.1; have z2 := R.2.2; replace R := Lib.hid R.1; clear hown2 hg2 hb2))
                      go_roundw
                      case rel => exact ⟨k + z, line, _, rfl, by go_num, by omega, by omega, R⟩
                      case measure => simp [intOf]; omega
                    · have N : Hid (∀ w, Calls Tryz.prog 26 #[.string s, .int .i64 k] w fun e w' => ∃ (kd : Nat) (tx : ByteArray) (nm z : Int), e = .returned (.tuple #[.agg (tokV kd tx nm 0), .int .i64 z, .int .i64 (wordL (s.data.toList.drop k)).err]) ∧ Below w.heap.size w w') := by
                        intro w
                        refine (Lword_any s k w (by omega) hlt hk0).mono ?_
                        rintro e w' ⟨kd, tx, nm, z, rfl, _, hb⟩
                        exact ⟨kd, tx, nm, z, rfl, hb⟩
                      have BAD := Lib.hid (hF.out.bad hlt hk0 herr)
                      have HERR := Lib.hid herr
                      have e0 : ((wordL (s.data.toList.drop k)).err != 0) = true := bne_iff_ne.2 herr
                      clear hk0 herr hnb hnr h10
                      generalize (wordL (s.data.toList.drop k)).err = er at *
                      go_wp2_with (go_at_call 26; with_reducible refine (N.out _).mono ?_; rintro e w2 ⟨kd, tx, nm, z, rfl, hb2⟩; obtain ⟨c0, c1, f0, f1⟩ := fault_keep hF.out hb2; have B2 := Lib.hid (hF.out.below.trans (hb2.mono hF.out.below.size)); have hlw : w.heap.size < w2.heap.size := Nat.lt_of_lt_of_le hF.out.lt hb2.size; clear hb2)
                      refine ret_tmp_fault rfl rfl (v0 := .int .i64 er) (v1 := .int .i64 line) (by rw [World.cell?_alloc_lt _ _ ⟨w.heap.size, 0, none⟩ (by simpa using hlw)]; simp [go_sem, c0]) (by rw [World.cell?_alloc_lt _ _ ⟨w.heap.size, 1, none⟩ (by simpa using hlw)]; simp [go_sem, c1]) rfl ?_
                      rw [BAD.out]
                      exact .inr ⟨HERR.out, rfl, ((B2.out.setCell (p := ⟨w.heap.size, 0, none⟩) (Nat.le_refl _) _).setCell (p := ⟨w.heap.size, 1, none⟩) (Nat.le_refl _) _).alloc (by simp; omega) _⟩
                · have p45 : ((s[k].toNat : Int) == 45) = false := bne_byte h45
                  have hnr : ¬ Lib.hasPrefix (s.data.toList.drop k) [45, 45] = true := by
                    intro hp
                    obtain ⟨r, hr⟩ := hasPrefix_iff.1 hp
                    rw [hdrop.out] at hr
                    simp only [List.cons_append, List.nil_append, List.cons.injEq] at hr
                    exact h45 hr.1
                  clear h45 hget1
                  have hk0 : kindL (s.data.toList.drop k) ≠ 0 := by
                    intro e0
                    have := kind_cases s[k] (s.data.toList.drop (k + 1))
                    rw [← hdrop.out] at this
                    rcases this with ⟨g | g, _⟩ | ⟨_, ⟨_, e⟩ | ⟨_, _, e⟩ | ⟨_, _, _, e⟩ | ⟨_, _, _, e⟩⟩
                    · exact hnb g
                    · exact hnr g
                    all_goals omega
                  by_cases herr : (wordL (s.data.toList.drop k)).err = 0
                  · have N : Hid (∀ w, Calls Tryz.prog 26 #[.string s, .int .i64 k] w fun e w' => e = .returned (.tuple #[.agg (tokV (wordL (s.data.toList.drop k)).kind ⟨(wordL (s.data.toList.drop k)).text.toArray⟩ (wordL (s.data.toList.drop k)).num 0), .int .i64 (wordL (s.data.toList.drop k)).size, .int .i64 0]) ∧ Below w.heap.size w w') := by
                      intro w
                      refine (Lword_any s k w (by omega) hlt hk0).mono ?_
                      rintro e w' ⟨kd, tx, nm, z, rfl, hW, hb⟩
                      obtain ⟨rfl, rfl, rfl, rfl⟩ := hW herr
                      exact ⟨by rw [herr], hb⟩
                    have FW := Lib.hid (fun w2 wa w3 v2 => hF.out.word (w2 := w2) (wa := wa) (w3 := w3) (v2 := v2) hlt hk0 herr)
                    clear hk0 herr hnb hnr h10
                    generalize (wordL (s.data.toList.drop k)).kind = kd at *
                    generalize (wordL (s.data.toList.drop k)).text = tx at *
                    generalize (wordL (s.data.toList.drop k)).num = nm at *
                    generalize (wordL (s.data.toList.drop k)).size = z at *
                    go_wp2_with (first
                      | (go_at_call 26; with_reducible refine (N.out _).mono ?_; rintro e w2 ⟨rfl, hb2⟩)
                      | (at_builtin; refine wpList_append_own _ rfl (.tmp 92) (.tmp 94) _ rfl (w.heap.size + 1) 41 i9 _ 4 40 Tryz.underlying22 hi hz0 hz1 hz2 rfl (by decide) _ _ _ rfl (((own_below hF.out.row.own hb2).alloc _).alloc _) _ _ _ [.int .i64 kd, .string ⟨tx.toArray⟩, .int .i64 nm, .int .i64 line] rfl rfl (cells_at _ _ _ _ (by simp)) (by simp [Value.oneCell']) (by unfold maxLen; omega) (by omega) (by have := hF.out.lt; have := hb2.size; simp; omega) ?_; intro v2 w3 hown2 hg2 _; have R := FW.out _ _ _ _ hb2 (((Below.refl _ _).alloc (Nat.le_refl _) _).alloc (by simp) _) hown2 hg2; have z1 := R.2.1; have z2 := R.2.2; replace R := Lib.hid R.1; clear hown2 hg2 hb2))
                    go_roundw
                    case rel => exact ⟨k + z, line, _, rfl, by go_num, by omega, by omega, R⟩
                    case measure => simp [intOf]; omega
                  · have N : Hid (∀ w, Calls Tryz.prog 26 #[.string s, .int .i64 k] w fun e w' => ∃ (kd : Nat) (tx : ByteArray) (nm z : Int), e = .returned (.tuple #[.agg (tokV kd tx nm 0), .int .i64 z, .int .i64 (wordL (s.data.toList.drop k)).err]) ∧ Below w.heap.size w w') := by
                      intro w
                      refine (Lword_any s k w (by omega) hlt hk0).mono ?_
                      rintro e w' ⟨kd, tx, nm, z, rfl, _, hb⟩
                      exact ⟨kd, tx, nm, z, rfl, hb⟩
                    have BAD := Lib.hid (hF.out.bad hlt hk0 herr)
                    have HERR := Lib.hid herr
                    have e0 : ((wordL (s.data.toList.drop k)).err != 0) = true := bne_iff_ne.2 herr
                    clear hk0 herr hnb hnr h10
                    generalize (wordL (s.data.toList.drop k)).err = er at *
                    go_wp2_with (go_at_call 26; with_reducible refine (N.out _).mono ?_; rintro e w2 ⟨kd, tx, nm, z, rfl, hb2⟩; obtain ⟨c0, c1, f0, f1⟩ := fault_keep hF.out hb2; have B2 := Lib.hid (hF.out.below.trans (hb2.mono hF.out.below.size)); have hlw : w.heap.size < w2.heap.size := Nat.lt_of_lt_of_le hF.out.lt hb2.size; clear hb2)
                    refine ret_tmp_fault rfl rfl (v0 := .int .i64 er) (v1 := .int .i64 line) (by rw [World.cell?_alloc_lt _ _ ⟨w.heap.size, 0, none⟩ (by simpa using hlw)]; simp [go_sem, c0]) (by rw [World.cell?_alloc_lt _ _ ⟨w.heap.size, 1, none⟩ (by simpa using hlw)]; simp [go_sem, c1]) rfl ?_
                    rw [BAD.out]
                    exact .inr ⟨HERR.out, rfl, ((B2.out.setCell (p := ⟨w.heap.size, 0, none⟩) (Nat.le_refl _) _).setCell (p := ⟨w.heap.size, 1, none⟩) (Nat.le_refl _) _).alloc (by simp; omega) _⟩
              · have qr : decide ((k : Int) + 1 < (s.size : Int)) = false := decide_eq_false (by omega)
                have hnr : ¬ Lib.hasPrefix (s.data.toList.drop k) [45, 45] = true := by
                  intro hp
                  obtain ⟨r, hr⟩ := hasPrefix_iff.1 hp
                  rw [hdrop.out] at hr
                  have h2 := congrArg List.length hr
                  simp only [List.length_cons, List.length_append, List.length_drop, size_toList, List.length_nil] at h2
                  omega
                have hk0 : kindL (s.data.toList.drop k) ≠ 0 := by
                  intro e0
                  have := kind_cases s[k] (s.data.toList.drop (k + 1))
                  rw [← hdrop.out] at this
                  rcases this with ⟨g | g, _⟩ | ⟨_, ⟨_, e⟩ | ⟨_, _, e⟩ | ⟨_, _, _, e⟩ | ⟨_, _, _, e⟩⟩
                  · exact hnb g
                  · exact hnr g
                  all_goals omega
                by_cases herr : (wordL (s.data.toList.drop k)).err = 0
                · have N : Hid (∀ w, Calls Tryz.prog 26 #[.string s, .int .i64 k] w fun e w' => e = .returned (.tuple #[.agg (tokV (wordL (s.data.toList.drop k)).kind ⟨(wordL (s.data.toList.drop k)).text.toArray⟩ (wordL (s.data.toList.drop k)).num 0), .int .i64 (wordL (s.data.toList.drop k)).size, .int .i64 0]) ∧ Below w.heap.size w w') := by
                    intro w
                    refine (Lword_any s k w (by omega) hlt hk0).mono ?_
                    rintro e w' ⟨kd, tx, nm, z, rfl, hW, hb⟩
                    obtain ⟨rfl, rfl, rfl, rfl⟩ := hW herr
                    exact ⟨by rw [herr], hb⟩
                  have FW := Lib.hid (fun w2 wa w3 v2 => hF.out.word (w2 := w2) (wa := wa) (w3 := w3) (v2 := v2) hlt hk0 herr)
                  clear hk0 herr hnb hnr h10
                  generalize (wordL (s.data.toList.drop k)).kind = kd at *
                  generalize (wordL (s.data.toList.drop k)).text = tx at *
                  generalize (wordL (s.data.toList.drop k)).num = nm at *
                  generalize (wordL (s.data.toList.drop k)).size = z at *
                  go_wp2_with (first
                    | (go_at_call 26; with_reducible refine (N.out _).mono ?_; rintro e w2 ⟨rfl, hb2⟩)
                    | (at_builtin; refine wpList_append_own _ rfl (.tmp 92) (.tmp 94) _ rfl (w.heap.size + 1) 41 i9 _ 4 40 Tryz.underlying22 hi hz0 hz1 hz2 rfl (by decide) _ _ _ rfl (((own_below hF.out.row.own hb2).alloc _).alloc _) _ _ _ [.int .i64 kd, .string ⟨tx.toArray⟩, .int .i64 nm, .int .i64 line] rfl rfl (cells_at _ _ _ _ (by simp)) (by simp [Value.oneCell']) (by unfold maxLen; omega) (by omega) (by have := hF.out.lt; have := hb2.size; simp; omega) ?_; intro v2 w3 hown2 hg2 _; have R := FW.out _ _ _ _ hb2 (((Below.refl _ _).alloc (Nat.le_refl _) _).alloc (by simp) _) hown2 hg2; have z1 := R.2.1; have z2 := R.2.2; replace R := Lib.hid R.1; clear hown2 hg2 hb2))
                  go_roundw
                  case rel => exact ⟨k + z, line, _, rfl, by go_num, by omega, by omega, R⟩
                  case measure => simp [intOf]; omega
                · have N : Hid (∀ w, Calls Tryz.prog 26 #[.string s, .int .i64 k] w fun e w' => ∃ (kd : Nat) (tx : ByteArray) (nm z : Int), e = .returned (.tuple #[.agg (tokV kd tx nm 0), .int .i64 z, .int .i64 (wordL (s.data.toList.drop k)).err]) ∧ Below w.heap.size w w') := by
                    intro w
                    refine (Lword_any s k w (by omega) hlt hk0).mono ?_
                    rintro e w' ⟨kd, tx, nm, z, rfl, _, hb⟩
                    exact ⟨kd, tx, nm, z, rfl, hb⟩
                  have BAD := Lib.hid (hF.out.bad hlt hk0 herr)
                  have HERR := Lib.hid herr
                  have e0 : ((wordL (s.data.toList.drop k)).err != 0) = true := bne_iff_ne.2 herr
                  clear hk0 herr hnb hnr h10
                  generalize (wordL (s.data.toList.drop k)).err = er at *
                  go_wp2_with (go_at_call 26; with_reducible refine (N.out _).mono ?_; rintro e w2 ⟨kd, tx, nm, z, rfl, hb2⟩; obtain ⟨c0, c1, f0, f1⟩ := fault_keep hF.out hb2; have B2 := Lib.hid (hF.out.below.trans (hb2.mono hF.out.below.size)); have hlw : w.heap.size < w2.heap.size := Nat.lt_of_lt_of_le hF.out.lt hb2.size; clear hb2)
                  refine ret_tmp_fault rfl rfl (v0 := .int .i64 er) (v1 := .int .i64 line) (by rw [World.cell?_alloc_lt _ _ ⟨w.heap.size, 0, none⟩ (by simpa using hlw)]; simp [go_sem, c0]) (by rw [World.cell?_alloc_lt _ _ ⟨w.heap.size, 1, none⟩ (by simpa using hlw)]; simp [go_sem, c1]) rfl ?_
                  rw [BAD.out]
                  exact .inr ⟨HERR.out, rfl, ((B2.out.setCell (p := ⟨w.heap.size, 0, none⟩) (Nat.le_refl _) _).setCell (p := ⟨w.heap.size, 1, none⟩) (Nat.le_refl _) _).alloc (by simp; omega) _⟩
    · obtain rfl : k = s.size := by omega
      clear hlt
      have q : decide ((s.size : Int) < (s.size : Int)) = false := decide_eq_false (by omega)
      go_wp2_with (at_builtin; refine wpList_append_own _ rfl (.tmp 99) (.tmp 102) _ rfl (w.heap.size + 1) 41 i9 _ 4 40 Tryz.underlying22 hi hz0 hz1 hz2 rfl (by decide) _ _ _ rfl (hF.out.row.own.alloc _) _ _ _ [.int .i64 5, .string ⟨#[]⟩, .int .i64 0, .int .i64 line] rfl rfl (cells_new _ _ _) (by simp [Value.oneCell']) (by unfold maxLen; omega) (by omega) (by have := hF.out.lt; simp; omega) ?_; intro v2 w2 hown2 hg2 _; obtain ⟨c0, c1, f0, f1⟩ := fault_cells hF.out hg2; have R := Lib.hid (fun w3 h3 => hF.out.finish (w3 := w3) hown2 hg2 h3); clear hown2 hg2)
      refine ret_tmp_fault rfl rfl (v0 := .int .i64 0) (v1 := .int .i64 0) (by simp [go_sem, c0]) (by simp [go_sem, c1]) rfl ?_
      exact R.out _ rfl
/-- tallowref04.Tokens, at every text. -/
theorem LTokens_any (s : ByteArray) (w : World) : Calls Tryz.prog 10 #[.string s] w (GivesR (lexL s.data.toList) w) := by
  by_cases h : 32768 < s.size
  · have e : lexL s.data.toList = ⟨[], 3, 0⟩ := by unfold lexL; rw [if_pos (by rw [size_toList]; exact h)]
    rw [e]; exact LTokens_long s w h
  · exact LTokens_goes s w h
end Go.Proofs.YteoccfmhpakplaaGreatDoor
