/- LexStore: Two laws of a walk: a whole array into the block that was laid last, in one step; and so out of it. | LexRefA: The document's own words, the small contracts: reserved words, digits, letters, how far a name goes, where a string ends in its line. | LexRefB: The document's own signs: how many bytes the sign has that begins at a place. | LexMath2: Where a string ends in its line, and what is read of it; digits with a letter behind. No walk, no program. | LexRefC: The document's own word: digits, a string, whatever begins at a place. | LexRefD: The document's own word, whatever begins at a place. | LexRefT: The document's own tokens of a text. | LexTold: What the laws ask of errors and of lists: errors.Is at a fault, told, Same. | LexSame: The document's own 'Same' at two lists of the same tokens. -/
import Derived.Test.YtoggkigfijgbfaaGreatDoorZA
import Derived.Deep.WholeRow
import Derived.Test.YtoggkigfijgbfaaGreatDoorZOldLex
import Derived.RegionTactic
import Derived.Test.YtoggkigfijgbfaaGreatDoorZOldNum
import Derived.Lib.IfaceEq
import Derived.Stop.IfaceNil
import Derived.Deep.RegionWith
import Derived.Deep.AppendLies
namespace Go.Proofs.YtoggkigfijgbfaaGreatDoor
set_option maxRecDepth 20000
open Go.RowKit

end Go.Proofs.YtoggkigfijgbfaaGreatDoor
namespace Go.Proofs.YtoggkigfijgbfaaGreatDoor
set_option maxRecDepth 20000
set_option maxRecDepth 20000
open Go.RowKit

/-- Where a string's end is looked for in its line. -/
def quotedR (t : List UInt8) : Nat := match closeR false (t.drop 1) with | some n => n + 1 | none => 0
end Go.Proofs.YtoggkigfijgbfaaGreatDoor
namespace Go.Proofs.YtoggkigfijgbfaaGreatDoor
set_option maxRecDepth 20000
set_option maxRecDepth 20000
open Go.RowKit

def twoL : List (List UInt8) := [[47, 47], [60, 60], [62, 62], [61, 61], [126, 61], [60, 61], [62, 61]]
theorem prefix_take {t x : List UInt8} : Lib.hasPrefix t x = (t.take x.length == x) := by
  rw [Bool.eq_iff_iff, hasPrefix_iff, beq_iff_eq]
  constructor
  · rintro ⟨r, rfl⟩; simp
  · intro h; exact ⟨t.drop x.length, by rw [← List.take_append_drop x.length t, h]; simp⟩
def twoT (k : Nat) : ByteArray := ⟨(twoL.getD k []).toArray⟩
/-- The array of the call's own. -/
structure TwoAt (w wr : World) : Prop where
  cell : ∀ k, k < 7 → wr.cell? ⟨w.heap.size, k, none⟩ = some (.string (twoT k))
  below : Below w.heap.size w wr
theorem TwoAt.drew {w wr : World} (h : TwoAt w wr) : TwoAt w wr.drew := ⟨h.cell, h.below.drew⟩
end Go.Proofs.YtoggkigfijgbfaaGreatDoor
namespace Go.Proofs.YtoggkigfijgbfaaGreatDoor
set_option maxRecDepth 20000

theorem closeF_of_R : ∀ (l : List UInt8) (e : Bool) (n : Nat), closeR e l = some n → closeF e l = some n
  | [], _, _, h => by cases h
  | c :: r, e, n, h => by
    unfold closeR at h
    unfold closeF
    split at h
    · cases h
    · split at h
      · obtain ⟨m, hm, rfl⟩ := Option.map_eq_some_iff.1 h
        rename_i he
        rw [if_pos he, closeF_of_R r _ _ hm]; rfl
      · rename_i he
        rw [if_neg he]
        split at h
        · obtain ⟨m, hm, rfl⟩ := Option.map_eq_some_iff.1 h
          rename_i hc
          rw [if_pos hc, closeF_of_R r _ _ hm]; rfl
        · rename_i hc
          rw [if_neg hc]
          split at h
          · rename_i h3; rw [if_pos h3]; exact h
          · obtain ⟨m, hm, rfl⟩ := Option.map_eq_some_iff.1 h
            rename_i h3
            rw [if_neg h3, closeF_of_R r _ _ hm]; rfl
theorem close_plain {c : UInt8} {r : List UInt8} (h10 : c ≠ 10) (h92 : c ≠ 92) (h34 : c ≠ 34) : closeR false (c :: r) = (closeR false r).map (· + 1) := by
  rw [closeR, if_neg h10, if_neg (by simp), if_neg h92, if_neg h34]
theorem close_esc {d : UInt8} {r : List UInt8} (h10 : d ≠ 10) : closeR false (92 :: d :: r) = (closeR false r).map (· + 2) := by
  rw [closeR, if_neg (by decide), if_neg (by simp), if_pos rfl, closeR, if_neg h10, if_pos rfl]
  cases closeR false r <;> rfl
theorem byteO_fine {d b : UInt8} (h : byteO d = some b) : d ≠ 10 := by
  rintro rfl; rw [show byteO 10 = none by decide] at h; cases h
theorem hexO_fine {h : UInt8} {n : Nat} (g : hexO h = some n) : h ≠ 10 ∧ h ≠ 92 ∧ h ≠ 34 := by
  refine ⟨?_, ?_, ?_⟩
  · rintro rfl; rw [show hexO 10 = none by decide] at g; cases g
  · rintro rfl; rw [show hexO 92 = none by decide] at g; cases g
  · rintro rfl; rw [show hexO 34 = none by decide] at g; cases g
theorem self_fine {c : UInt8} (h : selfB c = true) : c ≠ 10 ∧ c ≠ 92 ∧ c ≠ 34 := by
  refine ⟨?_, ?_, ?_⟩ <;> (rintro rfl; revert h; decide)
/-- One item of a text is gone over whole. -/
theorem close_one {t : List UInt8} {b : UInt8} {n : Nat} (h : oneL t = some (b, n)) (x : List UInt8) : closeR false (t ++ x) = (closeR false (t.drop n ++ x)).map (· + n) := by
  match t, h with
  | c :: r, h =>
    simp only [oneL] at h
    split at h
    · rename_i hc
      subst hc
      match r, h with
      | d :: r, h =>
        simp only [afterL] at h
        split at h
        · rename_i b' hb
          cases h
          rw [List.cons_append, List.cons_append, close_esc (byteO_fine hb)]; rfl
        · split at h
          · rename_i hd
            subst hd
            match r, h with
            | y :: z :: r, h =>
              simp only [hexL, hex2] at h
              split at h
              · rename_i u v hu hv
                cases h
                obtain ⟨y1, y2, y3⟩ := hexO_fine hu
                obtain ⟨z1, z2, z3⟩ := hexO_fine hv
                rw [List.cons_append, List.cons_append, List.cons_append, List.cons_append, close_esc (by decide), close_plain y1 y2 y3, close_plain z1 z2 z3]
                show _ = (closeR false (r ++ x)).map (· + 4)
                cases closeR false (r ++ x) <;> rfl
              · cases h
          · cases h
    · split at h
      · rename_i hs
        cases h
        obtain ⟨c1, c2, c3⟩ := self_fine hs
        rw [List.cons_append, close_plain c1 c2 c3]; rfl
      · cases h
theorem close_read : ∀ (k : Nat) (mid s x : List UInt8), mid.length ≤ k → readL mid = some s → closeR false (mid ++ 34 :: x) = some (mid.length + 1) := by
  intro k
  induction k with
  | zero =>
    intro mid s x hk h
    obtain rfl : mid = [] := List.length_eq_zero_iff.1 (by omega)
    rfl
  | succ k ih =>
    intro mid s x hk h
    match mid, hk, h with
    | [], _, _ => rfl
    | c :: r, hk, h =>
      cases ho : oneL (c :: r) with
      | none => rw [readL_none (by simp) ho] at h; cases h
      | some y =>
        obtain ⟨b, n⟩ := y
        have hp := oneL_pos ho
        rw [readL_some ho, Option.map_eq_some_iff] at h
        obtain ⟨s', h', _⟩ := h
        rw [close_one ho, ih _ _ x (by rw [List.length_drop]; omega) h']
        simp only [Option.map_some, List.length_drop, Option.some.injEq]
        omega
/-- A text that is read between two quotes ends in its line. -/
theorem close_mid {r : List UInt8} {k : Nat} {mid s : List UInt8} (hm : midL ((34 :: r).take k) = some mid) (hr : readL mid = some s) : closeR false r = some (mid.length + 1) := by
  unfold midL at hm
  split at hm
  · rename_i hc
    obtain ⟨h2, _, hl⟩ := hc
    rw [Option.some.injEq] at hm
    have hk : 2 ≤ k := by
      have : ((34 :: r).take k).length ≤ k := List.length_take_le _ _
      omega
    obtain ⟨k, rfl⟩ : ∃ j, k = j + 1 := ⟨k - 1, by omega⟩
    rw [List.take_succ_cons] at h2 hl hm
    have hlen : (r.take k).length ≤ r.length := by rw [List.length_take]; omega
    rw [List.length_cons] at h2
    have e1 : r.take k = mid ++ [34] := by
      have hne : r.take k ≠ [] := by intro e; rw [e] at h2; simp at h2
      have hl2 : (r.take k).getLast? = some 34 := by
        cases hq : r.take k with
        | nil => exact absurd hq hne
        | cons y l => rw [hq] at hl; rw [List.getLast?_cons_cons] at hl; exact hl
      obtain ⟨ys, hys⟩ := List.getLast?_eq_some_iff.1 hl2
      rw [List.drop_one, List.tail_cons, List.length_cons, hys] at hm
      rw [hys, ← hm, List.length_append]
      simp
    have e3 : r = mid ++ 34 :: r.drop k := by
      conv => lhs; rw [← List.take_append_drop k r, e1]
      simp
    rw [e3]
    exact close_read _ _ _ _ (Nat.le_refl _) hr
  · cases hm
theorem unq_none {r : List UInt8} (h : closeR false r = none) (k : Nat) : unqL ((34 :: r).take k) = ([], 4) := by
  unfold unqL
  cases hm : midL ((34 :: r).take k) with
  | none => rfl
  | some mid =>
    rw [Option.bind_some]
    cases hr : readL mid with
    | none => rfl
    | some s => rw [close_mid hm hr] at h; cases h
theorem mem_tw {p : UInt8 → Bool} : ∀ {l : List UInt8} {x : UInt8}, x ∈ l.takeWhile p → p x = true
  | c :: l, x, h => by
    rw [List.takeWhile_cons] at h
    split at h
    · rename_i hc
      rcases List.mem_cons.1 h with rfl | h
      · exact hc
      · exact mem_tw h
    · cases h
/-- The document's string and the program's. -/
theorem str_none {r : List UInt8} (h : quotedR (34 :: r) = 0) : strW ((34 :: r).take (quotedN (34 :: r))) = badW 14 := by
  have hc : closeR false r = none := by
    unfold quotedR at h
    rw [List.drop_one, List.tail_cons] at h
    cases g : closeR false r with
    | none => rfl
    | some n => rw [g] at h; simp at h
  unfold strW
  rw [unq_none hc]; rfl
theorem str_some {r : List UInt8} (h : quotedR (34 :: r) ≠ 0) : quotedN (34 :: r) = quotedR (34 :: r) ∧ quotedR (34 :: r) ≤ (34 :: r).length := by
  have e : quotedN (34 :: r) = quotedR (34 :: r) := by
    unfold quotedR quotedN at *
    rw [List.drop_one, List.tail_cons] at *
    cases g : closeR false r with
    | none => rw [g] at h; exact absurd rfl h
    | some n => rw [closeF_of_R _ _ _ g]
  exact ⟨e, by rw [← e]; exact quotedN_le _ (by simp)⟩
end Go.Proofs.YtoggkigfijgbfaaGreatDoor
namespace Go.Proofs.YtoggkigfijgbfaaGreatDoor
set_option maxRecDepth 20000
set_option maxRecDepth 20000
open Go.RowKit

end Go.Proofs.YtoggkigfijgbfaaGreatDoor
namespace Go.Proofs.YtoggkigfijgbfaaGreatDoor
set_option maxRecDepth 20000
set_option maxRecDepth 20000
open Go.RowKit

end Go.Proofs.YtoggkigfijgbfaaGreatDoor
namespace Go.Proofs.YtoggkigfijgbfaaGreatDoor
set_option maxRecDepth 20000
set_option maxRecDepth 20000
open Go.RowKit

/-- What tallowref04.Tokens hands back. -/
def GivesR (r : Lexed) (w : World) (e : Ending) (w' : World) : Prop :=
  (r.err = 0 ∧ ∃ v, e = .returned (.tuple #[v, .agg #[.int .i64 0, .int .i64 0]]) ∧ TokRow w.heap.size v r.toks w' ∧ Below w.heap.size w w') ∨
  (r.err ≠ 0 ∧ e = .returned (.tuple #[.slice none 0 0, .agg #[.int .i64 r.err, .int .i64 r.line]]) ∧ Below w.heap.size w w')
/-- A blank alone; a remark. -/
theorem blank_not {c : UInt8} {r : List UInt8} (h : blankB c = true) : Lib.hasPrefix (c :: r) [45, 45] = false := by
  rw [prefix_take]
  refine beq_eq_false_iff_ne.2 fun e => ?_
  have : c = 45 := by
    have := congrArg List.head? e
    simpa using this
  subst this; revert h; decide
theorem kind_blank {c : UInt8} {r : List UInt8} (h : blankB c = true) : kindL (c :: r) = 0 := by
  unfold kindL; simp only []; rw [if_pos (.inl h)]
theorem tokL_run : ∀ (r : List UInt8) (l : Nat), tokL r l = tokL (r.drop (r.takeWhile blankB).length) (l + (r.takeWhile blankB).count 10)
  | [], l => rfl
  | c :: r, l => by
    cases hb : blankB c with
    | false => rw [List.takeWhile_cons, hb]; simp
    | true =>
      rw [tokL_blank l (kind_blank hb)]
      unfold blanksL
      rw [blank_not hb]; simp
theorem tokL_space {c : UInt8} {r : List UInt8} (l : Nat) (h : blankB c = true) : tokL (c :: r) l = tokL r (l + if c = 10 then 1 else 0) := by
  rw [tokL_run (c :: r), tokL_run r, List.takeWhile_cons, h]
  simp only [if_pos, List.length_cons, List.drop_succ_cons, List.count_cons, beq_iff_eq]
  congr 1
  omega
theorem count_feed (r : List UInt8) : (r.takeWhile (· != 10)).count 10 = 0 := by
  rw [List.count_eq_zero]
  intro h
  have := mem_tw h
  revert this; decide
theorem tokL_remark {t : List UInt8} (l : Nat) (h : Lib.hasPrefix t [45, 45] = true) : tokL t l = tokL (t.drop (t.takeWhile (· != 10)).length) l := by
  have hk : kindL t = 0 := by
    match t, h with
    | c :: r, h => unfold kindL; simp only []; rw [if_pos (.inr h)]
  rw [tokL_blank l hk]
  unfold blanksL
  rw [if_pos h, count_feed, Nat.add_zero]
/-- How far the text was gone through. -/
structure FarR (s : ByteArray) (w : World) (i line : Nat) (acc : List Tok) (v : Value) (wr : World) : Prop where
  row : TokRow (w.heap.size + 1) v acc wr
  c0 : wr.cell? ⟨w.heap.size, 0, none⟩ = some (.int .i64 0)
  c1 : wr.cell? ⟨w.heap.size, 1, none⟩ = some (.int .i64 0)
  f0 : wr.frozen? ⟨w.heap.size, 0, none⟩ = false
  f1 : wr.frozen? ⟨w.heap.size, 1, none⟩ = false
  below : Below w.heap.size w wr
  lt : w.heap.size < wr.heap.size
  goes : lexL s.data.toList = glueL acc (tokL (s.data.toList.drop i) line)
  inside : i ≤ s.size
  room : acc.length ≤ i
  lines : line ≤ i
theorem FarR.step {s : ByteArray} {w wr : World} {i j line line' : Nat} {acc : List Tok} {v : Value} (h : FarR s w i line acc v wr) (hij : i ≤ j) (hj : j ≤ s.size) (hl : line' ≤ j) (hg : tokL (s.data.toList.drop i) line = tokL (s.data.toList.drop j) line') : FarR s w j line' acc v wr :=
  { h with goes := by rw [h.goes, hg], inside := hj, room := Nat.le_trans h.room hij, lines := hl }
/-- Behind the end's token. -/
theorem FarR.finish {s : ByteArray} {w wr w2 w3 : World} {line : Nat} {acc : List Tok} {v v2 : Value} {o : Obj} (h : FarR s w s.size line acc v wr)
    (ho : w2.ownsRow (w.heap.size + 1) 66 4 v2 (acc.length + 1) (tokCells acc ++ [.int .i64 5, .string ⟨#[]⟩, .int .i64 0, .int .i64 line])) (hg : (wr.alloc o).grownBy w2 v.ownBlock)
    (h3 : w3 = (w2.setCell ⟨w.heap.size, 0, none⟩ (.int .i64 0)).setCell ⟨w.heap.size, 1, none⟩ (.int .i64 0)) :
    GivesR (lexL s.data.toList) w (.returned (.tuple #[v2, .agg #[.int .i64 0, .int .i64 0]])) w3 := by
  have e : lexL s.data.toList = ⟨acc ++ [⟨5, [], 0, line⟩], 0, line⟩ := by
    rw [h.goes, List.drop_eq_nil_of_le (by rw [size_toList]; omega), tokL_nil]; rfl
  rw [e, h3]
  have hb : Below w.heap.size w w2 := (h.below.alloc h.below.size o).grown hg (by have := h.below.size; simp; omega) fun k hk => by have := (h.row.own.lt k hk).1; omega
  exact .inl ⟨rfl, v2, rfl, (TokRow.mk (ownsRow_setCell_below (ownsRow_setCell_below (TokRow.more (t := ⟨5, [], 0, line⟩) ho).own (a := ⟨w.heap.size, 0, none⟩) (Nat.lt_succ_self _) _) (a := ⟨w.heap.size, 1, none⟩) (Nat.lt_succ_self _) _)).low (Nat.le_succ _), (hb.setCell (p := ⟨w.heap.size, 0, none⟩) (Nat.le_refl _) _).setCell (p := ⟨w.heap.size, 1, none⟩) (Nat.le_refl _) _⟩
/-- Behind a word. -/
theorem FarR.word {s : ByteArray} {w wr w2 wa w3 : World} {i line : Nat} {acc : List Tok} {v v2 : Value} (h : FarR s w i line acc v wr) (hi : i < s.size) (hk : kindL (s.data.toList.drop i) ≠ 0) (he : (wordL (s.data.toList.drop i)).err = 0)
    (hb : Below wr.heap.size wr w2) (hba : Below w2.heap.size w2 wa)
    (ho : w3.ownsRow (w.heap.size + 1) 66 4 v2 (acc.length + 1) (tokCells acc ++ [.int .i64 (wordL (s.data.toList.drop i)).kind, .string ⟨(wordL (s.data.toList.drop i)).text.toArray⟩, .int .i64 (wordL (s.data.toList.drop i)).num, .int .i64 line])) (hg : wa.grownBy w3 v.ownBlock) :
    FarR s w (i + (wordL (s.data.toList.drop i)).size) line (acc ++ [⟨(wordL (s.data.toList.drop i)).kind, (wordL (s.data.toList.drop i)).text, (wordL (s.data.toList.drop i)).num, line⟩]) v2 w3 ∧ 1 ≤ (wordL (s.data.toList.drop i)).size ∧ i + (wordL (s.data.toList.drop i)).size ≤ s.size := by
  have hlen : (s.data.toList.drop i).length = s.size - i := by rw [List.length_drop, size_toList]
  have hne : s.data.toList.drop i ≠ [] := fun e => by rw [e] at hlen; simp at hlen; omega
  have hp := word_pos hne hk he
  have hr := h.room
  have hl := h.lines
  have hlt := h.lt
  have h2 : w.heap.size < w2.heap.size := Nat.lt_of_lt_of_le hlt hb.size
  have ha : w.heap.size < wa.heap.size := Nat.lt_of_lt_of_le h2 hba.size
  have h3 := hg.size
  have cell3 : ∀ p : Addr, p.block = w.heap.size → w3.cell? p = wr.cell? p ∧ w3.frozen? p = wr.frozen? p := by
    intro p hpb
    have g := hg.block p.block (by omega) (fun e => by have := (h.row.own.lt _ e.symm).1; omega)
    exact ⟨(World.cell?_of_block g).trans ((hba.cell (by omega)).trans (hb.cell (by omega))), (World.frozen?_of_block g).trans ((hba.frozen (by omega)).trans (hb.frozen (by omega)))⟩
  refine ⟨⟨TokRow.more (t := ⟨_, _, _, line⟩) ho, (cell3 ⟨w.heap.size, 0, none⟩ rfl).1.trans h.c0, (cell3 ⟨w.heap.size, 1, none⟩ rfl).1.trans h.c1, (cell3 ⟨w.heap.size, 0, none⟩ rfl).2.trans h.f0, (cell3 ⟨w.heap.size, 1, none⟩ rfl).2.trans h.f1, ?_, by omega, ?_, by omega, ?_, by omega⟩, hp.1, by omega⟩
  · exact ((h.below.trans (hb.mono (by omega))).trans (hba.mono (by omega))).grown hg (by omega) fun k hk => by have := (h.row.own.lt k hk).1; omega
  · rw [h.goes, tokL_word line hne hk he, glue_push, List.drop_drop]
  · rw [List.length_append]; simp only [List.length_cons, List.length_nil]; omega
theorem FarR.bad {s : ByteArray} {w wr : World} {i line : Nat} {acc : List Tok} {v : Value} (h : FarR s w i line acc v wr) (hi : i < s.size) (hk : kindL (s.data.toList.drop i) ≠ 0) (he : (wordL (s.data.toList.drop i)).err ≠ 0) :
    lexL s.data.toList = ⟨[], (wordL (s.data.toList.drop i)).err, line⟩ := by
  have hlen : (s.data.toList.drop i).length = s.size - i := by rw [List.length_drop, size_toList]
  have hne : s.data.toList.drop i ≠ [] := fun e => by rw [e] at hlen; simp at hlen; omega
  rw [h.goes, tokL_bad line hne hk he]
  unfold glueL
  rw [if_neg he]
end Go.Proofs.YtoggkigfijgbfaaGreatDoor
namespace Go.Proofs.YtoggkigfijgbfaaGreatDoor
set_option maxRecDepth 20000
set_option maxRecDepth 20000
open Go.RowKit Go.Extern.Stop Go.Stop Go.Extern

/-- What 'TypeOf(target).Comparable()' makes at an error's number. -/
theorem isFactsE : ∃ b : Addr, (∀ (v : Value) (w : World), (callFunc 57 #[.iface 29 v]).run Tryz.prog w = .ok (.value (.iface 146 (.agg #[.pointer (some b)]))) w) ∧
    ∀ w : World, (callFunc 299 #[.agg #[.pointer (some b)]]).run Tryz.prog w = .ok (.value (.bool true)) w :=
  ⟨⟨Tryz.prog.globals.size, 29, none⟩, fun v w => by kernel_rfl, fun w => by kernel_rfl⟩
theorem isCompE : (Tryz.prog.info? 29).map (·.comparable) = some true := by kernel_rfl
theorem noIsF (v : Value) (xT : TypeId) (w : World) : (Instr.typeAssert (.iface 59 v) xT 158 true).run Tryz.prog w = .ok (.tuple #[.nilIface, .bool false]) w := run_typeAssert_lacksB Tryz.underlying158 (by kernel_rfl) (by kernel_rfl) v xT w
theorem hasUnwrapF (v : Value) (xT : TypeId) (w : World) : (Instr.typeAssert (.iface 59 v) xT 153 true).run Tryz.prog w = .ok (.tuple #[.iface 59 v, .bool true]) w := run_typeAssert_hasB Tryz.underlying153 (by kernel_rfl) v xT w
set_option maxHeartbeats 2000000 in
/-- errors.Is at a fault and its own number. -/
theorem is_fault (pb : Nat) (c : Int) (w : World) (h0 : w.cell? ⟨pb, 0, none⟩ = some (.int .i64 c)) :
    Calls Tryz.prog 34 #[.iface 59 (.pointer (some ⟨pb, 0, none⟩)), .iface 29 (.int .i64 c)] w fun e w' => e = .returned (.bool true) ∧ w' = w := by
  obtain ⟨b0, tT, cT⟩ := isFactsE
  have nW := noIsF
  have uW := hasUnwrapF
  have heq := Lib.run_eql_iface_int (P := Tryz.prog) (tx := 29) w (k := .i64) c c Tryz.underlying26 isCompE Tryz.underlying29
  rw [beq_self_eq_true] at heq
  have hty := run_eql_iface_types (P := Tryz.prog) 59 29 (.pointer (some ⟨pb, 0, none⟩)) (.int .i64 c) Tryz.underlying26 (by decide) w
  go_enter Tryz.func34, Tryz.ntmps34
  go_wp2
  refine wp_loop_rounds 2 ?_
  rw [rounds_succ]
  go_wp2
  rw [rounds_succ]
  go_wp2
  go_ret
  exact ⟨rfl, rfl⟩
end Go.Proofs.YtoggkigfijgbfaaGreatDoor
namespace Go.Proofs.YtoggkigfijgbfaaGreatDoor
set_option maxRecDepth 20000
set_option maxRecDepth 20000
open Go.RowKit

theorem tokCells_at : ∀ (l : List Tok) (k : Nat) (t : Tok), l[k]? = some t → (tokCells l)[k * 4]? = some (.int .i64 t.kind) ∧ (tokCells l)[k * 4 + 1]? = some (.string ⟨t.text.toArray⟩) ∧ (tokCells l)[k * 4 + 2]? = some (.int .i64 t.num) ∧ (tokCells l)[k * 4 + 3]? = some (.int .i64 t.line)
  | [], k, t, h => by simp at h
  | x :: r, 0, t, h => by
    simp at h; subst h
    exact ⟨rfl, rfl, rfl, rfl⟩
  | x :: r, k + 1, t, h => by
    have := tokCells_at r k t (by simpa using h)
    have e : ∀ j, (tokCells (x :: r))[(k + 1) * 4 + j]? = (tokCells r)[k * 4 + j]? := by
      intro j
      rw [show (k + 1) * 4 + j = (k * 4 + j) + 1 + 1 + 1 + 1 by omega]; rfl
    exact ⟨(e 0).trans this.1, (e 1).trans this.2.1, (e 2).trans this.2.2.1, (e 3).trans this.2.2.2⟩
/-- A slice's cells hold those tokens. -/
structure TokAt (w : World) (A : Option Addr) (l : List Tok) : Prop where
  at_ : ∀ k t, l[k]? = some t → ∃ g, A = some ⟨g, 0, none⟩ ∧ g < w.heap.size ∧ w.cell? ⟨g, k * 4, none⟩ = some (.int .i64 t.kind) ∧ w.cell? ⟨g, k * 4 + 1, none⟩ = some (.string ⟨t.text.toArray⟩) ∧ w.cell? ⟨g, k * 4 + 2, none⟩ = some (.int .i64 t.num) ∧ w.cell? ⟨g, k * 4 + 3, none⟩ = some (.int .i64 t.line)
theorem TokRow.form {B : Nat} {v : Value} {l : List Tok} {w : World} (h : TokRow B v l w) : ∃ A c, v = .slice A l.length c ∧ TokAt w A l := by
  by_cases hn : 0 < l.length
  · obtain ⟨g, cap, hv, _, hlt⟩ := h.own.form hn
    subst hv
    have hc := h.own.cells (g := g) rfl
    have e : ∀ j, (⟨g, 0, none⟩ : Addr).add j = ⟨g, j, none⟩ := fun j => by unfold Addr.add; split <;> simp_all
    refine ⟨_, _, rfl, ⟨fun k t hk => ?_⟩⟩
    obtain ⟨c0, c1, c2, c3⟩ := tokCells_at l k t hk
    exact ⟨g, rfl, hlt, by have := hc _ _ c0; rwa [e] at this, by have := hc _ _ c1; rwa [e] at this, by have := hc _ _ c2; rwa [e] at this, by have := hc _ _ c3; rwa [e] at this⟩
  · have hl : l = [] := List.length_eq_zero_iff.1 (by omega)
    subst hl
    rcases h.own.2 with ⟨rfl, _⟩ | ⟨g, cap, cur, rfl, _⟩
    · exact ⟨_, _, rfl, ⟨fun k t hk => by simp at hk⟩⟩
    · exact ⟨_, _, rfl, ⟨fun k t hk => by simp at hk⟩⟩
theorem TokAt.below {w w' : World} {A : Option Addr} {l : List Tok} (h : TokAt w A l) (hb : Below w.heap.size w w') : TokAt w' A l := by
  refine ⟨fun k t hk => ?_⟩
  obtain ⟨g, e, hl, c0, c1, c2, c3⟩ := h.at_ k t hk
  exact ⟨g, e, Nat.lt_of_lt_of_le hl hb.size, (hb.cell (p := ⟨g, k * 4, none⟩) hl).trans c0, (hb.cell (p := ⟨g, k * 4 + 1, none⟩) hl).trans c1, (hb.cell (p := ⟨g, k * 4 + 2, none⟩) hl).trans c2, (hb.cell (p := ⟨g, k * 4 + 3, none⟩) hl).trans c3⟩
theorem TokRow.below {B : Nat} {v : Value} {l : List Tok} {w w' : World} (h : TokRow B v l w) (hb : Below w.heap.size w w') : TokRow B v l w' := ⟨own_below h.own hb⟩
end Go.Proofs.YtoggkigfijgbfaaGreatDoor
