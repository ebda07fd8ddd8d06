/- LexBack: any text, cut at 1000 bytes, and any list of kinds of blanks: its words, written again with blanks, remarks or line feeds between them, are the same words, each on its line; what is wrong has no words; the arguments read as they did. Conditions: none but the form's own reach; the listed variables as the program's text lays them. -/
import Derived.Test.YteoccfmhpakplaaGreatDoorLexFrame
import Derived.Test.YteoccfmhpakplaaGreatDoorLexFill
import Derived.Test.YteoccfmhpakplaaGreatDoorLexBackM
import Derived.Test.YteoccfmhpakplaaGreatDoorTie
import Derived.Test.YteoccfmhpakplaaGreatDoorCards
import Derived.BigQuiet
import Derived.Deep.QuietTactic
import Derived.Lib.AppendStr
import Derived.Deep.CutRange
import Derived.Test.YteoccfmhpakplaaGreatDoorLexStore
import Derived.ChangeSlices
namespace Go.Proofs.YteoccfmhpakplaaGreatDoor.lexBack
set_option maxRecDepth 20000
open Go.ChangeShapes Go.WideShapes Go.ChangeAt Go.RowKit

/-- A word's text in the model. -/
def textS (k : Nat) (s : ByteArray) : ByteArray := if k = 3 then ⟨(quoteL s.data.toList).toArray⟩ else s
theorem textS_data (k : Nat) (l : List UInt8) (n : Int) (i : Nat) : (textS k ⟨l.toArray⟩).data.toList = textL ⟨k, l, n, i⟩ := by
  unfold textS textL
  by_cases h : k = 3
  · rw [if_pos h, if_pos h]
  · rw [if_neg h, if_neg h]
theorem text_any (k : Nat) (s : ByteArray) (n l : Int) (w : World) (hs : s.size ≤ 1048576) : Calls Tryz.prog 16 #[.agg #[.int .i64 k, .string s, .int .i64 n, .int .i64 l]] w fun e w' => e = .returned (.string (textS k s)) ∧ Below w.heap.size w w' := by
  have Q := Lib.hid (fun w => Quote_any s w hs)
  unfold textS
  by_cases h : k = 3
  · subst h
    rw [if_pos rfl]
    go_enter Tryz.func16, Tryz.ntmps16
    go_wp2_with (go_at_call 18; refine (Q.out _).mono ?_; rintro e w2 ⟨rfl, hb2⟩; have B := Lib.hid (((Below.refl _ _).alloc (Nat.le_refl w.heap.size) (.cells #[.int .i64 3, .string s, .int .i64 n, .int .i64 l] 41)).trans (hb2.mono (by simp))); clear hb2)
    go_ret
    exact ⟨rfl, B.out⟩
  · rw [if_neg h]
    have q : ((k : Int) == 3) = false := beq_eq_false_iff_ne.2 (by omega)
    go_enter Tryz.func16, Tryz.ntmps16
    go_wp2_with fail
    go_ret
    exact ⟨rfl, (Below.refl _ _).alloc (Nat.le_refl _) _⟩
theorem strCells_bytes (s : ByteArray) : Lib.strCells s = Lib.byteCells s.data.toList := by
  unfold Lib.byteCells
  apply List.ext_getElem?
  intro j
  simp [Lib.strCells]
/-- Bytes that came in. -/
structure BytesAt (w : World) (a : Addr) (n : Nat) (kb : Nat → Nat) : Prop where
  at_ : ∀ i, i < n → a.block < w.heap.size ∧ w.cell? (a.add i) = some (.int .u8 (kb i)) ∧ kb i < 256
theorem BytesAt.below {w w' : World} {a : Addr} {n : Nat} {kb : Nat → Nat} (h : BytesAt w a n kb) (hb : Below w.heap.size w w') : BytesAt w' a n kb := by
  refine ⟨fun i hi => ?_⟩
  obtain ⟨h1, h2, h3⟩ := h.at_ i hi
  exact ⟨Nat.lt_of_lt_of_le h1 hb.size, (hb.cell (by rw [Go.ChangeShapes.block_add]; exact h1)).trans h2, h3⟩
theorem own_apart {w : World} {base : Nat} {e1 e2 : TypeId} {s1 s2 n1 n2 : Nat} {v1 v2 : Value} {x1 x2 : List Value} (h1 : w.ownsRow base e1 s1 v1 n1 x1) (h2 : w.ownsRow base e2 s2 v2 n2 x2) (he : e1 ≠ e2) : v1.ownBlock = none ∨ v1.ownBlock ≠ v2.ownBlock := by
  rcases h1.2 with ⟨rfl, _⟩ | ⟨g, cap, cur, rfl, _, hg, _⟩
  · exact .inl rfl
  · refine .inr ?_
    rcases h2.2 with ⟨rfl, _⟩ | ⟨g', cap', cur', rfl, _, hg', _⟩
    · simp [Value.ownBlock]
    · intro hq
      have : g = g' := by simpa [Value.ownBlock] using hq
      subst this
      rw [hg] at hg'
      injection hg' with hg'
      injection hg' with _ h3
      exact he h3
/-- The text that is joined, and the lines, both rows of the call's own. -/
structure JoinAt (w wr : World) (vb vl : Value) (bs : List UInt8) (ls : List Int) : Prop where
  ob : wr.ownsRow w.heap.size 5 1 vb bs.length (Lib.byteCells bs)
  ol : wr.ownsRow w.heap.size 3 1 vl ls.length (ls.map (Value.int .i64))
  below : Below w.heap.size w wr
theorem JoinAt.nil (w : World) : JoinAt w w (.slice none 0 0) (.slice none 0 0) [] [] := ⟨⟨rfl, .inl ⟨rfl, rfl⟩⟩, ⟨rfl, .inl ⟨rfl, rfl⟩⟩, Below.refl _ _⟩
theorem JoinAt.keep {w w1 w2 : World} {vb vl : Value} {bs : List UInt8} {ls : List Int} (h : JoinAt w w1 vb vl bs ls) (hb : Below w1.heap.size w1 w2) : JoinAt w w2 vb vl bs ls :=
  ⟨own_below h.ob hb, own_below h.ol hb, h.below.trans (hb.mono h.below.size)⟩
theorem JoinAt.line {w w1 w2 : World} {vb vl vl2 : Value} {bs : List UInt8} {ls : List Int} {o : Obj} {x : Int} (h : JoinAt w w1 vb vl bs ls) (ho : w2.ownsRow w.heap.size 3 1 vl2 (ls.length + 1) (ls.map (Value.int .i64) ++ [.int .i64 x])) (hg : (w1.alloc o).grownBy w2 vl.ownBlock) : JoinAt w w2 vb vl2 bs (ls ++ [x]) := by
  have hl := h.ol.alloc o
  have hb := h.ob.alloc o
  refine ⟨hb.kept hg (own_apart hb hl (by decide)), ?_, ?_⟩
  · rw [List.length_append, List.map_append]; exact ho
  · have hB := h.below.alloc h.below.size o
    exact hB.grown hg hB.size (fun k hk => (h.ol.lt k hk).1)
theorem JoinAt.text {w w1 w2 : World} {vb vl vb2 : Value} {bs : List UInt8} {ls : List Int} {s : ByteArray} (h : JoinAt w w1 vb vl bs ls) (ho : w2.ownsRow w.heap.size 5 1 vb2 (bs.length + s.size) (Lib.byteCells bs ++ Lib.strCells s)) (hg : w1.grownBy w2 vb.ownBlock) : JoinAt w w2 vb2 vl (bs ++ s.data.toList) ls := by
  refine ⟨?_, h.ol.kept hg (own_apart h.ol h.ob (by decide)), ?_⟩
  · rw [List.length_append, size_toList, Lib.byteCells_append, ← strCells_bytes]; exact ho
  · exact h.below.grown hg h.below.size (fun k hk => (h.ob.lt k hk).1)
theorem int_info : (Tryz.prog.info? 3).map (fun i => (i.zero, i.size, i.bytes)) = some (some (.int .i64 0), 1, 8) := by kernel_rfl
def linesN (kf : Nat → Nat) : Nat → List Int
  | 0 => []
  | i + 1 => linesN kf i ++ [(lineN kf i : Int)]
theorem linesN_length (kf : Nat → Nat) : ∀ i, (linesN kf i).length = i
  | 0 => rfl
  | i + 1 => by rw [linesN, List.length_append, linesN_length kf i]; rfl
theorem linesN_at (kf : Nat → Nat) : ∀ (i j : Nat), j < i → (linesN kf i)[j]? = some (lineN kf j : Int)
  | 0, _, h => by omega
  | i + 1, j, h => by
    rw [linesN]
    by_cases e : j = i
    · subst e
      rw [List.getElem?_append_right (by rw [linesN_length]; exact Nat.le_refl _), linesN_length]
      simp
    · rw [List.getElem?_append_left (by rw [linesN_length]; omega)]
      exact linesN_at kf i j (by omega)
/-- The blanks as the statement lays them. -/
structure Blanks (w : World) (b : Nat) : Prop where
  lt : b < w.heap.size
  c0 : w.cell? ⟨b, 0, none⟩ = some (.string ⟨#[32]⟩)
  c1 : w.cell? ⟨b, 1, none⟩ = some (.string ⟨#[10]⟩)
  c2 : w.cell? ⟨b, 2, none⟩ = some (.string ⟨#[9, 13, 32]⟩)
  c3 : w.cell? ⟨b, 3, none⟩ = some (.string ⟨#[32, 45, 45, 32, 120, 32, 43, 32, 49, 32, 34, 32, 36, 10]⟩)
theorem Blanks.below {w w' : World} {b : Nat} (h : Blanks w b) (hb : Below w.heap.size w w') : Blanks w' b :=
  ⟨Nat.lt_of_lt_of_le h.lt hb.size, (hb.cell (p := ⟨b, 0, none⟩) h.lt).trans h.c0, (hb.cell (p := ⟨b, 1, none⟩) h.lt).trans h.c1, (hb.cell (p := ⟨b, 2, none⟩) h.lt).trans h.c2, (hb.cell (p := ⟨b, 3, none⟩) h.lt).trans h.c3⟩
theorem between_size : (Tryz.prog.info? 37).map (·.size) = some 4 := by kernel_rfl
theorem cut_size (s : ByteArray) (m : Nat) : (s.extract 0 (min (s.size : Int) (m : Int)).toNat).size ≤ m := by
  rw [← size_toList, Lib.extract_data, List.length_take]; omega
set_option maxHeartbeats 8000000 in
theorem walk_bad (s : ByteArray) (_u0 : s.size ≤ 281474976710656) (t : ByteArray) (ht : s.extract 0 (min (s.size : Int) 1000).toNat = t) (K : Value) (l : List Tok) (c : Int) (at_ : Nat) (h : lexL t.data.toList = ⟨l, c, at_⟩) (hc : c ≠ 0) (w : World) (hE : Env4 w) :
    Calls Tryz.prog 5 #[.string s, K] w fun e w' => e = .returned (.bool true) ∧ Below w.heap.size w w' := by
  have T := Lib.hid (fun w hE => Tokens_bad t l c at_ at_ w hE h hc rfl)
  have E := Lib.hid hE
  clear hE h hc
  go_enter Tryz.func5, Tryz.ntmps5
  go_wp2_with (first
    | (go_at_call 13; refine (works_true _ E.out).mono ?_; rintro e w0 ⟨rfl, hb0⟩; have B := Lib.hid hb0; clear hb0)
    | (go_at_call 9; with_reducible refine (T.out _ (E.out.below B.out)).mono ?_; rintro e w1 ⟨b, rfl, hlt, h0, h1, hb1⟩; replace B := Lib.hid (B.out.trans (hb1.mono B.out.size)); clear hlt h0 h1 hb1))
  go_ret
  exact ⟨rfl, B.out⟩

set_option maxHeartbeats 40000000 in
theorem walk_none (s : ByteArray) (_u0 : s.size ≤ 281474976710656) (t : ByteArray) (ht : s.extract 0 (min (s.size : Int) 1000).toNat = t) (ck : Nat) (kf : Nat → Nat) (hkf : ∀ i, kf i = 0) (ts : List Tok) (m n : Nat) (h : lexL t.data.toList = ⟨ts, 0, m⟩) (hn : ts.length = n + 1) (hn1 : n ≤ 1000)
    (hj : ∀ i, i ≤ n + 1 → (joinN ts kf i).length ≤ 16000) (htx : ∀ i, i < n + 1 → (textL (tokAt ts i)).length ≤ 1000 ∧ (tokAt ts i).text.length ≤ 1000)
    (hlex : lexL (joinN ts kf (n + 1)) = ⟨toksN ts kf n ++ [⟨5, [], 0, lineN kf (n + 1)⟩], 0, lineN kf (n + 1)⟩) (w : World) (hE : Env4 w)  :
    Calls Tryz.prog 5 #[.string s, .slice none 0 ck] w fun e w' => e = .returned (.bool true) ∧ Below w.heap.size w w' := by
  have T := Lib.hid (fun w hE => Tokens_ok t ts (n + 1) m w hE h hn)
  have T2 := Lib.hid (fun w hE => Tokens_ok ⟨(joinN ts kf (n + 1)).toArray⟩ (toksN ts kf n ++ [⟨5, [], 0, lineN kf (n + 1)⟩]) (n + 1) (lineN kf (n + 1)) w hE hlex (by rw [List.length_append, toksN_length]; rfl))
  have E := Lib.hid hE
  have HJ := Lib.hid hj
  have HX := Lib.hid htx
  have HT := Lib.hid (fun i (hi : i < n + 1) => show ts[i]? = some (tokAt ts i) by unfold tokAt; rw [List.getD_eq_getElem?_getD, List.getElem?_eq_getElem (by omega)]; rfl)
  obtain ⟨i9, hi9, hz90, hz91, hz92⟩ := info_parts byte_info
  obtain ⟨i3, hi3, hz30, hz31, hz32⟩ := info_parts int_info
  have hne : ts ≠ [] := by intro e; rw [e] at hn; cases hn
  have HF := Lib.hid hkf
  clear hkf
  clear hE h hlex hj htx hn
  go_enter Tryz.func5, Tryz.ntmps5
  go_upto_region 6 with (first
    | (go_at_call 13; refine (works_true _ E.out).mono ?_; rintro e w0 ⟨rfl, hb0⟩; have B := Lib.hid hb0; clear hb0)
    | (go_at_call 9; with_reducible refine (T.out _ (E.out.below B.out)).mono ?_; rintro e w1 ⟨A, c, rfl, hA, hb1⟩; obtain ⟨g, rfl⟩ := hA.blk hne; have TA := Lib.hid hA; replace B := Lib.hid (B.out.trans (hb1.mono B.out.size)); clear hA hb1))
  go_cut [7] from 18 (fun v wc => ∃ b, v = .pointer (some ⟨b, 0, none⟩) ∧ Blanks wc b ∧ Below w1.heap.size w1 wc)
  case first =>
    go_wp2_with (refine wpList_store_new rfl 37 _ _ rfl w1 _ _ rfl rfl rfl between_size rfl (by simp [Value.oneCell']) ?_)
    go_meet
    case rel => exact ⟨w1.heap.size, rfl, ⟨by simp, by simp [go_sem], by simp [go_sem], by simp [go_sem], by simp [go_sem]⟩, (Below.refl _ _).alloc (Nat.le_refl _) _⟩
  case rest =>
    obtain ⟨b7, rfl, hBl, hb⟩ := hcut
    have BL := Lib.hid hBl
    have TB := Lib.hid (TA.out.below hb)
    replace B := Lib.hid (B.out.trans (hb.mono B.out.size))
    
    clear hBl hb TA
    obtain ⟨w2, hw2⟩ : ∃ w2 : World, w2 = wc := ⟨_, rfl⟩
    subst hw2
    go_wp2_with fail
    go_loopw [8, 9, 10, 11] (fun vb l vl i wr => ∃ k : Nat, k ≤ n + 1 ∧ i = .int .i64 k ∧ l = .int .i64 (lineN kf k) ∧ Hid (JoinAt w2 wr vb vl (joinN ts kf k) (linesN kf k))) (fun _ _ _ i _ => n + 1 - (intOf i).toNat)
    case atStart => exact ⟨0, by omega, rfl, rfl, JoinAt.nil w2⟩
    case round =>
      obtain ⟨k, hk, rfl, rfl, J⟩ := hrel
      by_cases hlt : k < n + 1
      · have hl := HJ.out k hk
        have hL := line_le kf k
        have hx0 := HX.out k hlt
        have JN : Hid (joinN ts kf (k + 1) = joinN ts kf k ++ (textS (tokAt ts k).kind ⟨(tokAt ts k).text.toArray⟩).data.toList ++ sepL (kf k)) := by
          show _ = _
          rw [joinN, textS_data (tokAt ts k).kind (tokAt ts k).text (tokAt ts k).num (tokAt ts k).line]
        have X := Lib.hid (TB.out.get k _ (HT.out k hlt))
        have hq : (textS (tokAt ts k).kind ⟨(tokAt ts k).text.toArray⟩).size ≤ 1000 := by
          rw [← size_toList, textS_data (tokAt ts k).kind (tokAt ts k).text (tokAt ts k).num (tokAt ts k).line]; exact hx0.1
        have TX := Lib.hid (fun w => text_any (tokAt ts k).kind ⟨(tokAt ts k).text.toArray⟩ (tokAt ts k).num (tokAt ts k).line w (by rw [← size_toList]; show (tokAt ts k).text.length ≤ _; omega))
        have k0 : (0 : Int) ≤ (k : Int) := by omega
        have k1 : (k : Int) < (n : Int) + 1 := by omega
        clear hx0
        have LN : Hid (linesN kf (k + 1) = linesN kf k ++ [(lineN kf k : Int)]) := rfl
        have LK : Hid (lineN kf (k + 1) = lineN kf k + kf k % 2) := rfl
        have hls := linesN_length kf k
        generalize joinN ts kf k = bk at JN hl J
        generalize linesN kf k = lk at LN hls J
        generalize lineN kf k = mk at LK hL LN
        generalize textS (tokAt ts k).kind ⟨(tokAt ts k).text.toArray⟩ = q at JN hq TX
        have hnk : decide ((k : Int) < 0) = false := decide_eq_false (by omega)
        have hkf0 : kf k = 0 := HF.out k
        go_wp2_with (first
          | (at_builtin; refine wpList_append_own _ rfl (.tmp 38) (.tmp 40) _ rfl w2.heap.size 3 i3 _ 1 8 Tryz.underlying38 hi3 hz30 hz31 hz32 rfl (by decide) _ _ _ rfl (J.out.ol.alloc _) _ _ _ [.int .i64 mk] rfl rfl one_cell (by simp [Value.oneCell']) (by rw [hls]; unfold maxLen; omega) (by rw [hls]; omega) (by have := J.out.below.size; simp; omega) ?_; intro v2 w3 hown hg _; have J1 := Lib.hid (J.out.line hown hg); clear hown hg; have x := X.out.below J1.out.below; have x0 := x.c0; have x1 := x.c1; have x2 := x.c2; have x3 := x.c3; clear x)
          | (go_at_call 16; refine (TX.out _).mono ?_; rintro e w4 ⟨rfl, hb4⟩; have J2 := Lib.hid (J1.out.keep hb4); clear hb4)
          | (at_builtin; refine Lib.wpList_append_own_string _ rfl (.tmp 42) (.tmp 47) _ _ rfl w2.heap.size 5 i9 Tryz.underlying36 Tryz.underlying9 hi9 hz90 hz91 hz92 _ _ _ rfl J2.out.ob _ rfl (by unfold maxLen; omega) (by omega) J2.out.below.size ?_; intro v3 w5 hown hg _; have J3 := Lib.hid (J2.out.text hown hg); clear hown hg; have y0 := (BL.out.below J3.out.below).c0)
          | (at_builtin; refine Lib.wpList_append_own_string _ rfl (.tmp 59) (.tmp 62) _ _ rfl w2.heap.size 5 i9 Tryz.underlying36 Tryz.underlying9 hi9 hz90 hz91 hz92 _ _ _ rfl J3.out.ob _ rfl (by rw [List.length_append, size_toList]; show _ + 1 ≤ _; unfold maxLen; omega) (by rw [List.length_append, size_toList]; show _ + 1 ≤ _; omega) J3.out.below.size ?_; intro v4 w6 hown hg _; have J4 := Lib.hid (J3.out.text hown hg); clear hown hg))
        go_roundw
        case rel =>
          refine ⟨k + 1, by omega, by go_num, by rw [LK.out, hkf0]; rfl, ?_⟩
          rw [JN.out, LN.out, hkf0]
          exact J4
        case measure => simp [intOf]; omega
      · obtain rfl : k = n + 1 := by omega
        have ql : decide (((n + 1 : Nat) : Int) < (n : Int) + 1) = false := decide_eq_false (by omega)
        have C := str_of_own J.out.ob
        have OL := J.out.ol
        rw [linesN_length] at OL
        rcases OL.2 with ⟨_, h0⟩ | ⟨gl, cl, cur, rfl, _⟩
        · omega
        have LA : Hid (∀ j, j < n + 1 → wr.cell? ⟨gl, j, none⟩ = some (.int .i64 (lineN kf j))) := by
          intro j hj
          have h1 := OL.cells rfl j (.int .i64 (lineN kf j)) (by rw [List.getElem?_map, linesN_at kf (n + 1) j hj]; rfl)
          rw [Addr.add_lit] at h1
          simpa using h1
        have GL := Lib.hid (OL.lt gl rfl).2
        have TM := Lib.hid (fun j (hj : j < n) => show (toksN ts kf n ++ [⟨5, [], 0, lineN kf (n + 1)⟩])[j]? = some ⟨(tokAt ts j).kind, (tokAt ts j).text, (tokAt ts j).num, lineN kf j⟩ by rw [List.getElem?_append_left (by rw [toksN_length]; exact hj)]; exact toksN_at ts kf n j hj)
        have TE := Lib.hid (show (toksN ts kf n ++ [⟨5, [], 0, lineN kf (n + 1)⟩])[n]? = some ⟨5, [], 0, lineN kf (n + 1)⟩ by rw [List.getElem?_append_right (by rw [toksN_length]; exact Nat.le_refl _), toksN_length]; simp)
        have TW := Lib.hid (TB.out.below J.out.below)
        have B2 := Lib.hid (B.out.trans (J.out.below.mono B.out.size))
        have hne2 : toksN ts kf n ++ [(⟨5, [], 0, lineN kf (n + 1)⟩ : Tok)] ≠ [] := by simp
        clear OL J hlt
        generalize (⟨(joinN ts kf (n + 1)).toArray⟩ : ByteArray) = q at C T2
        generalize toksN ts kf n ++ [(⟨5, [], 0, lineN kf (n + 1)⟩ : Tok)] = tm at T2 TM TE hne2
        go_wp2_with (go_at_call 9; with_reducible refine (T2.out _ (E.out.below B2.out)).mono ?_; rintro e w8 ⟨A8, c8, rfl, hA, hb8⟩; obtain ⟨gm, rfl⟩ := hA.blk hne2; have TM8 := Lib.hid hA; have B8 := Lib.hid (B2.out.trans (hb8.mono B2.out.size)); have TW8 := Lib.hid (TW.out.below hb8); have LA8 := Lib.hid (fun j (hj : j < n + 1) => (hb8.cell (p := ⟨gl, j, none⟩) GL.out).trans (LA.out j hj)); have GL8 := Lib.hid (Nat.lt_of_lt_of_le GL.out hb8.size); clear hA hb8)
        go_loopw [14] (fun i wx => ∃ k : Nat, k ≤ n ∧ i = .int .i64 k ∧ Hid (Below w8.heap.size w8 wx)) (fun i _ => n - (intOf i).toNat)
        case atStart => exact ⟨0, by omega, rfl, Below.refl _ _⟩
        case round =>
          obtain ⟨k, hk2, rfl, HB⟩ := hrel
          by_cases hlt : k < n
          · have x := (TM8.out.get k _ (TM.out k hlt)).below HB.out
            have x0 := x.c0
            have x1 := x.c1
            have x2 := x.c2
            have x3 := x.c3
            replace x := (TW8.out.get k _ (HT.out k (by omega))).below HB.out
            have z0 := x.c0
            have z1 := x.c1
            have z2 := x.c2
            have y0 := (HB.out.cell (p := ⟨gl, k, none⟩) GL8.out).trans (LA8.out k (by omega))
            simp only [] at x0 x1 x2 x3
            clear x
            generalize lineN kf k = mk at x3 y0
            generalize tokAt ts k = tk at x0 x1 x2 z0 z1 z2
            obtain ⟨tkind, ttext, tnum, tline⟩ := tk
            simp only [] at x0 x1 x2 z0 z1 z2
            generalize (⟨ttext.toArray⟩ : ByteArray) = tt at x1 z1
            have hd : (tt.toList == tt.toList) = true := by simp
            have k0 : (0 : Int) ≤ (k : Int) := by omega
            have k1 : (k : Int) < (n : Int) := by omega
            have k2 : (k : Int) < (n : Int) + 1 := by omega
            go_wp2_with fail
            go_quiet (fail)
            go_wp2_with fail
            go_roundw
            case rel => exact ⟨k + 1, by omega, by go_num, below_drewN HB.out _⟩
            case measure => simp [intOf]; omega
          · obtain rfl : k = n := by omega
            have x := (TM8.out.get k _ TE.out).below HB.out
            have x0 := x.c0
            have x3 := x.c3
            simp only [] at x0 x3
            clear x
            have k0 : (0 : Int) ≤ (k : Int) := by omega
            go_wp2_with fail
            go_ret
            exact ⟨rfl, B8.out.trans (HB.out.mono B8.out.size)⟩

set_option maxHeartbeats 40000000 in
theorem walk_some (s : ByteArray) (_u0 : s.size ≤ 281474976710656) (t : ByteArray) (ht : s.extract 0 (min (s.size : Int) 1000).toNat = t) (a : Addr) (nk ck : Nat) (kf kb : Nat → Nat) (hkf : ∀ i, kf i = if i < nk then kb i % 4 else 0) (ts : List Tok) (m n : Nat) (h : lexL t.data.toList = ⟨ts, 0, m⟩) (hn : ts.length = n + 1) (hn1 : n ≤ 1000)
    (hj : ∀ i, i ≤ n + 1 → (joinN ts kf i).length ≤ 16000) (htx : ∀ i, i < n + 1 → (textL (tokAt ts i)).length ≤ 1000 ∧ (tokAt ts i).text.length ≤ 1000)
    (hlex : lexL (joinN ts kf (n + 1)) = ⟨toksN ts kf n ++ [⟨5, [], 0, lineN kf (n + 1)⟩], 0, lineN kf (n + 1)⟩) (w : World) (hE : Env4 w) (hK : BytesAt w a nk kb) :
    Calls Tryz.prog 5 #[.string s, .slice (some a) nk ck] w fun e w' => e = .returned (.bool true) ∧ Below w.heap.size w w' := by
  have T := Lib.hid (fun w hE => Tokens_ok t ts (n + 1) m w hE h hn)
  have T2 := Lib.hid (fun w hE => Tokens_ok ⟨(joinN ts kf (n + 1)).toArray⟩ (toksN ts kf n ++ [⟨5, [], 0, lineN kf (n + 1)⟩]) (n + 1) (lineN kf (n + 1)) w hE hlex (by rw [List.length_append, toksN_length]; rfl))
  have E := Lib.hid hE
  have HJ := Lib.hid hj
  have HX := Lib.hid htx
  have HT := Lib.hid (fun i (hi : i < n + 1) => show ts[i]? = some (tokAt ts i) by unfold tokAt; rw [List.getD_eq_getElem?_getD, List.getElem?_eq_getElem (by omega)]; rfl)
  obtain ⟨i9, hi9, hz90, hz91, hz92⟩ := info_parts byte_info
  obtain ⟨i3, hi3, hz30, hz31, hz32⟩ := info_parts int_info
  have hne : ts ≠ [] := by intro e; rw [e] at hn; cases hn
  have HK := Lib.hid hK
  have HF := Lib.hid hkf
  clear hK hkf
  clear hE h hlex hj htx hn
  go_enter Tryz.func5, Tryz.ntmps5
  go_upto_region 6 with (first
    | (go_at_call 13; refine (works_true _ E.out).mono ?_; rintro e w0 ⟨rfl, hb0⟩; have B := Lib.hid hb0; clear hb0)
    | (go_at_call 9; with_reducible refine (T.out _ (E.out.below B.out)).mono ?_; rintro e w1 ⟨A, c, rfl, hA, hb1⟩; obtain ⟨g, rfl⟩ := hA.blk hne; have TA := Lib.hid hA; replace B := Lib.hid (B.out.trans (hb1.mono B.out.size)); clear hA hb1))
  go_cut [7] from 18 (fun v wc => ∃ b, v = .pointer (some ⟨b, 0, none⟩) ∧ Blanks wc b ∧ Below w1.heap.size w1 wc)
  case first =>
    go_wp2_with (refine wpList_store_new rfl 37 _ _ rfl w1 _ _ rfl rfl rfl between_size rfl (by simp [Value.oneCell']) ?_)
    go_meet
    case rel => exact ⟨w1.heap.size, rfl, ⟨by simp, by simp [go_sem], by simp [go_sem], by simp [go_sem], by simp [go_sem]⟩, (Below.refl _ _).alloc (Nat.le_refl _) _⟩
  case rest =>
    obtain ⟨b7, rfl, hBl, hb⟩ := hcut
    have BL := Lib.hid hBl
    have TB := Lib.hid (TA.out.below hb)
    replace B := Lib.hid (B.out.trans (hb.mono B.out.size))
    have KB := Lib.hid (HK.out.below B.out)
    clear HK
    clear hBl hb TA
    obtain ⟨w2, hw2⟩ : ∃ w2 : World, w2 = wc := ⟨_, rfl⟩
    subst hw2
    go_wp2_with fail
    go_loopw [8, 9, 10, 11] (fun vb l vl i wr => ∃ k : Nat, k ≤ n + 1 ∧ i = .int .i64 k ∧ l = .int .i64 (lineN kf k) ∧ Hid (JoinAt w2 wr vb vl (joinN ts kf k) (linesN kf k))) (fun _ _ _ i _ => n + 1 - (intOf i).toNat)
    case atStart => exact ⟨0, by omega, rfl, rfl, JoinAt.nil w2⟩
    case round =>
      obtain ⟨k, hk, rfl, rfl, J⟩ := hrel
      by_cases hlt : k < n + 1
      · have hl := HJ.out k hk
        have hL := line_le kf k
        have hx0 := HX.out k hlt
        have JN : Hid (joinN ts kf (k + 1) = joinN ts kf k ++ (textS (tokAt ts k).kind ⟨(tokAt ts k).text.toArray⟩).data.toList ++ sepL (kf k)) := by
          show _ = _
          rw [joinN, textS_data (tokAt ts k).kind (tokAt ts k).text (tokAt ts k).num (tokAt ts k).line]
        have X := Lib.hid (TB.out.get k _ (HT.out k hlt))
        have hq : (textS (tokAt ts k).kind ⟨(tokAt ts k).text.toArray⟩).size ≤ 1000 := by
          rw [← size_toList, textS_data (tokAt ts k).kind (tokAt ts k).text (tokAt ts k).num (tokAt ts k).line]; exact hx0.1
        have TX := Lib.hid (fun w => text_any (tokAt ts k).kind ⟨(tokAt ts k).text.toArray⟩ (tokAt ts k).num (tokAt ts k).line w (by rw [← size_toList]; show (tokAt ts k).text.length ≤ _; omega))
        have k0 : (0 : Int) ≤ (k : Int) := by omega
        have k1 : (k : Int) < (n : Int) + 1 := by omega
        clear hx0
        have LN : Hid (linesN kf (k + 1) = linesN kf k ++ [(lineN kf k : Int)]) := rfl
        have LK : Hid (lineN kf (k + 1) = lineN kf k + kf k % 2) := rfl
        have hls := linesN_length kf k
        generalize joinN ts kf k = bk at JN hl J
        generalize linesN kf k = lk at LN hls J
        generalize lineN kf k = mk at LK hL LN
        generalize textS (tokAt ts k).kind ⟨(tokAt ts k).text.toArray⟩ = q at JN hq TX
        by_cases hik : k < nk
        · have hnk : (k : Int) < (nk : Int) := by omega
          obtain ⟨y1, y2, y3⟩ := KB.out.at_ k hik
          have Y2 := Lib.hid y2
          clear y2
          have hf := HF.out k
          rw [if_pos hik] at hf
          have h4 : kb k % 4 = 0 ∨ kb k % 4 = 1 ∨ kb k % 4 = 2 ∨ kb k % 4 = 3 := by omega
          rcases h4 with h4 | h4 | h4 | h4
          · have hkf0 : kf k = 0 := by rw [hf, h4]
            have hr : ((kb k : Int) % 4) = 0 := by omega
            clear hf h4
            go_wp2_with (first
              | (at_builtin; refine wpList_append_own _ rfl (.tmp 38) (.tmp 40) _ rfl w2.heap.size 3 i3 _ 1 8 Tryz.underlying38 hi3 hz30 hz31 hz32 rfl (by decide) _ _ _ rfl (J.out.ol.alloc _) _ _ _ [.int .i64 mk] rfl rfl one_cell (by simp [Value.oneCell']) (by rw [hls]; unfold maxLen; omega) (by rw [hls]; omega) (by have := J.out.below.size; simp; omega) ?_; intro v2 w3 hown hg _; have J1 := Lib.hid (J.out.line hown hg); clear hown hg; have x := X.out.below J1.out.below; have x0 := x.c0; have x1 := x.c1; have x2 := x.c2; have x3 := x.c3; clear x)
              | (go_at_call 16; refine (TX.out _).mono ?_; rintro e w4 ⟨rfl, hb4⟩; have J2 := Lib.hid (J1.out.keep hb4); clear hb4)
              | (at_builtin; refine Lib.wpList_append_own_string _ rfl (.tmp 42) (.tmp 47) _ _ rfl w2.heap.size 5 i9 Tryz.underlying36 Tryz.underlying9 hi9 hz90 hz91 hz92 _ _ _ rfl J2.out.ob _ rfl (by unfold maxLen; omega) (by omega) J2.out.below.size ?_; intro v3 w5 hown hg _; have J3 := Lib.hid (J2.out.text hown hg); clear hown hg; have yk := (J3.out.below.cell (p := a.add k) (by rw [Go.ChangeShapes.block_add]; exact y1)).trans Y2.out; have y0 := (BL.out.below J3.out.below).c0)
              | (at_builtin; refine Lib.wpList_append_own_string _ rfl (.tmp 59) (.tmp 62) _ _ rfl w2.heap.size 5 i9 Tryz.underlying36 Tryz.underlying9 hi9 hz90 hz91 hz92 _ _ _ rfl J3.out.ob _ rfl (by rw [List.length_append, size_toList]; show _ + 1 ≤ _; unfold maxLen; omega) (by rw [List.length_append, size_toList]; show _ + 1 ≤ _; omega) J3.out.below.size ?_; intro v4 w6 hown hg _; have J4 := Lib.hid (J3.out.text hown hg); clear hown hg))
            go_roundw
            case rel =>
              refine ⟨k + 1, by omega, by go_num, by rw [LK.out, hkf0]; rfl, ?_⟩
              rw [JN.out, LN.out, hkf0]
              exact J4
            case measure => simp [intOf]; omega
          · have hkf0 : kf k = 1 := by rw [hf, h4]
            have hr : ((kb k : Int) % 4) = 1 := by omega
            clear hf h4
            go_wp2_with (first
              | (at_builtin; refine wpList_append_own _ rfl (.tmp 38) (.tmp 40) _ rfl w2.heap.size 3 i3 _ 1 8 Tryz.underlying38 hi3 hz30 hz31 hz32 rfl (by decide) _ _ _ rfl (J.out.ol.alloc _) _ _ _ [.int .i64 mk] rfl rfl one_cell (by simp [Value.oneCell']) (by rw [hls]; unfold maxLen; omega) (by rw [hls]; omega) (by have := J.out.below.size; simp; omega) ?_; intro v2 w3 hown hg _; have J1 := Lib.hid (J.out.line hown hg); clear hown hg; have x := X.out.below J1.out.below; have x0 := x.c0; have x1 := x.c1; have x2 := x.c2; have x3 := x.c3; clear x)
              | (go_at_call 16; refine (TX.out _).mono ?_; rintro e w4 ⟨rfl, hb4⟩; have J2 := Lib.hid (J1.out.keep hb4); clear hb4)
              | (at_builtin; refine Lib.wpList_append_own_string _ rfl (.tmp 42) (.tmp 47) _ _ rfl w2.heap.size 5 i9 Tryz.underlying36 Tryz.underlying9 hi9 hz90 hz91 hz92 _ _ _ rfl J2.out.ob _ rfl (by unfold maxLen; omega) (by omega) J2.out.below.size ?_; intro v3 w5 hown hg _; have J3 := Lib.hid (J2.out.text hown hg); clear hown hg; have yk := (J3.out.below.cell (p := a.add k) (by rw [Go.ChangeShapes.block_add]; exact y1)).trans Y2.out; have y0 := (BL.out.below J3.out.below).c1)
              | (at_builtin; refine Lib.wpList_append_own_string _ rfl (.tmp 59) (.tmp 62) _ _ rfl w2.heap.size 5 i9 Tryz.underlying36 Tryz.underlying9 hi9 hz90 hz91 hz92 _ _ _ rfl J3.out.ob _ rfl (by rw [List.length_append, size_toList]; show _ + 1 ≤ _; unfold maxLen; omega) (by rw [List.length_append, size_toList]; show _ + 1 ≤ _; omega) J3.out.below.size ?_; intro v4 w6 hown hg _; have J4 := Lib.hid (J3.out.text hown hg); clear hown hg))
            go_roundw
            case rel =>
              refine ⟨k + 1, by omega, by go_num, by rw [LK.out, hkf0]; go_num, ?_⟩
              rw [JN.out, LN.out, hkf0]
              exact J4
            case measure => simp [intOf]; omega
          · have hkf0 : kf k = 2 := by rw [hf, h4]
            have hr : ((kb k : Int) % 4) = 2 := by omega
            clear hf h4
            go_wp2_with (first
              | (at_builtin; refine wpList_append_own _ rfl (.tmp 38) (.tmp 40) _ rfl w2.heap.size 3 i3 _ 1 8 Tryz.underlying38 hi3 hz30 hz31 hz32 rfl (by decide) _ _ _ rfl (J.out.ol.alloc _) _ _ _ [.int .i64 mk] rfl rfl one_cell (by simp [Value.oneCell']) (by rw [hls]; unfold maxLen; omega) (by rw [hls]; omega) (by have := J.out.below.size; simp; omega) ?_; intro v2 w3 hown hg _; have J1 := Lib.hid (J.out.line hown hg); clear hown hg; have x := X.out.below J1.out.below; have x0 := x.c0; have x1 := x.c1; have x2 := x.c2; have x3 := x.c3; clear x)
              | (go_at_call 16; refine (TX.out _).mono ?_; rintro e w4 ⟨rfl, hb4⟩; have J2 := Lib.hid (J1.out.keep hb4); clear hb4)
              | (at_builtin; refine Lib.wpList_append_own_string _ rfl (.tmp 42) (.tmp 47) _ _ rfl w2.heap.size 5 i9 Tryz.underlying36 Tryz.underlying9 hi9 hz90 hz91 hz92 _ _ _ rfl J2.out.ob _ rfl (by unfold maxLen; omega) (by omega) J2.out.below.size ?_; intro v3 w5 hown hg _; have J3 := Lib.hid (J2.out.text hown hg); clear hown hg; have yk := (J3.out.below.cell (p := a.add k) (by rw [Go.ChangeShapes.block_add]; exact y1)).trans Y2.out; have y0 := (BL.out.below J3.out.below).c2)
              | (at_builtin; refine Lib.wpList_append_own_string _ rfl (.tmp 59) (.tmp 62) _ _ rfl w2.heap.size 5 i9 Tryz.underlying36 Tryz.underlying9 hi9 hz90 hz91 hz92 _ _ _ rfl J3.out.ob _ rfl (by rw [List.length_append, size_toList]; show _ + 3 ≤ _; unfold maxLen; omega) (by rw [List.length_append, size_toList]; show _ + 3 ≤ _; omega) J3.out.below.size ?_; intro v4 w6 hown hg _; have J4 := Lib.hid (J3.out.text hown hg); clear hown hg))
            go_roundw
            case rel =>
              refine ⟨k + 1, by omega, by go_num, by rw [LK.out, hkf0]; rfl, ?_⟩
              rw [JN.out, LN.out, hkf0]
              exact J4
            case measure => simp [intOf]; omega
          · have hkf0 : kf k = 3 := by rw [hf, h4]
            have hr : ((kb k : Int) % 4) = 3 := by omega
            clear hf h4
            go_wp2_with (first
              | (at_builtin; refine wpList_append_own _ rfl (.tmp 38) (.tmp 40) _ rfl w2.heap.size 3 i3 _ 1 8 Tryz.underlying38 hi3 hz30 hz31 hz32 rfl (by decide) _ _ _ rfl (J.out.ol.alloc _) _ _ _ [.int .i64 mk] rfl rfl one_cell (by simp [Value.oneCell']) (by rw [hls]; unfold maxLen; omega) (by rw [hls]; omega) (by have := J.out.below.size; simp; omega) ?_; intro v2 w3 hown hg _; have J1 := Lib.hid (J.out.line hown hg); clear hown hg; have x := X.out.below J1.out.below; have x0 := x.c0; have x1 := x.c1; have x2 := x.c2; have x3 := x.c3; clear x)
              | (go_at_call 16; refine (TX.out _).mono ?_; rintro e w4 ⟨rfl, hb4⟩; have J2 := Lib.hid (J1.out.keep hb4); clear hb4)
              | (at_builtin; refine Lib.wpList_append_own_string _ rfl (.tmp 42) (.tmp 47) _ _ rfl w2.heap.size 5 i9 Tryz.underlying36 Tryz.underlying9 hi9 hz90 hz91 hz92 _ _ _ rfl J2.out.ob _ rfl (by unfold maxLen; omega) (by omega) J2.out.below.size ?_; intro v3 w5 hown hg _; have J3 := Lib.hid (J2.out.text hown hg); clear hown hg; have yk := (J3.out.below.cell (p := a.add k) (by rw [Go.ChangeShapes.block_add]; exact y1)).trans Y2.out; have y0 := (BL.out.below J3.out.below).c3)
              | (at_builtin; refine Lib.wpList_append_own_string _ rfl (.tmp 59) (.tmp 62) _ _ rfl w2.heap.size 5 i9 Tryz.underlying36 Tryz.underlying9 hi9 hz90 hz91 hz92 _ _ _ rfl J3.out.ob _ rfl (by rw [List.length_append, size_toList]; show _ + 14 ≤ _; unfold maxLen; omega) (by rw [List.length_append, size_toList]; show _ + 14 ≤ _; omega) J3.out.below.size ?_; intro v4 w6 hown hg _; have J4 := Lib.hid (J3.out.text hown hg); clear hown hg))
            go_roundw
            case rel =>
              refine ⟨k + 1, by omega, by go_num, by rw [LK.out, hkf0]; go_num, ?_⟩
              rw [JN.out, LN.out, hkf0]
              exact J4
            case measure => simp [intOf]; omega
        · have hnk : decide ((k : Int) < (nk : Int)) = false := decide_eq_false (by omega)
          have hkf0 : kf k = 0 := by rw [HF.out k, if_neg hik]
          go_wp2_with (first
            | (at_builtin; refine wpList_append_own _ rfl (.tmp 38) (.tmp 40) _ rfl w2.heap.size 3 i3 _ 1 8 Tryz.underlying38 hi3 hz30 hz31 hz32 rfl (by decide) _ _ _ rfl (J.out.ol.alloc _) _ _ _ [.int .i64 mk] rfl rfl one_cell (by simp [Value.oneCell']) (by rw [hls]; unfold maxLen; omega) (by rw [hls]; omega) (by have := J.out.below.size; simp; omega) ?_; intro v2 w3 hown hg _; have J1 := Lib.hid (J.out.line hown hg); clear hown hg; have x := X.out.below J1.out.below; have x0 := x.c0; have x1 := x.c1; have x2 := x.c2; have x3 := x.c3; clear x)
            | (go_at_call 16; refine (TX.out _).mono ?_; rintro e w4 ⟨rfl, hb4⟩; have J2 := Lib.hid (J1.out.keep hb4); clear hb4)
            | (at_builtin; refine Lib.wpList_append_own_string _ rfl (.tmp 42) (.tmp 47) _ _ rfl w2.heap.size 5 i9 Tryz.underlying36 Tryz.underlying9 hi9 hz90 hz91 hz92 _ _ _ rfl J2.out.ob _ rfl (by unfold maxLen; omega) (by omega) J2.out.below.size ?_; intro v3 w5 hown hg _; have J3 := Lib.hid (J2.out.text hown hg); clear hown hg; have y0 := (BL.out.below J3.out.below).c0)
            | (at_builtin; refine Lib.wpList_append_own_string _ rfl (.tmp 59) (.tmp 62) _ _ rfl w2.heap.size 5 i9 Tryz.underlying36 Tryz.underlying9 hi9 hz90 hz91 hz92 _ _ _ rfl J3.out.ob _ rfl (by rw [List.length_append, size_toList]; show _ + 1 ≤ _; unfold maxLen; omega) (by rw [List.length_append, size_toList]; show _ + 1 ≤ _; omega) J3.out.below.size ?_; intro v4 w6 hown hg _; have J4 := Lib.hid (J3.out.text hown hg); clear hown hg))
          go_roundw
          case rel =>
            refine ⟨k + 1, by omega, by go_num, by rw [LK.out, hkf0]; rfl, ?_⟩
            rw [JN.out, LN.out, hkf0]
            exact J4
          case measure => simp [intOf]; omega
      · obtain rfl : k = n + 1 := by omega
        have ql : decide (((n + 1 : Nat) : Int) < (n : Int) + 1) = false := decide_eq_false (by omega)
        have C := str_of_own J.out.ob
        have OL := J.out.ol
        rw [linesN_length] at OL
        rcases OL.2 with ⟨_, h0⟩ | ⟨gl, cl, cur, rfl, _⟩
        · omega
        have LA : Hid (∀ j, j < n + 1 → wr.cell? ⟨gl, j, none⟩ = some (.int .i64 (lineN kf j))) := by
          intro j hj
          have h1 := OL.cells rfl j (.int .i64 (lineN kf j)) (by rw [List.getElem?_map, linesN_at kf (n + 1) j hj]; rfl)
          rw [Addr.add_lit] at h1
          simpa using h1
        have GL := Lib.hid (OL.lt gl rfl).2
        have TM := Lib.hid (fun j (hj : j < n) => show (toksN ts kf n ++ [⟨5, [], 0, lineN kf (n + 1)⟩])[j]? = some ⟨(tokAt ts j).kind, (tokAt ts j).text, (tokAt ts j).num, lineN kf j⟩ by rw [List.getElem?_append_left (by rw [toksN_length]; exact hj)]; exact toksN_at ts kf n j hj)
        have TE := Lib.hid (show (toksN ts kf n ++ [⟨5, [], 0, lineN kf (n + 1)⟩])[n]? = some ⟨5, [], 0, lineN kf (n + 1)⟩ by rw [List.getElem?_append_right (by rw [toksN_length]; exact Nat.le_refl _), toksN_length]; simp)
        have TW := Lib.hid (TB.out.below J.out.below)
        have B2 := Lib.hid (B.out.trans (J.out.below.mono B.out.size))
        have hne2 : toksN ts kf n ++ [(⟨5, [], 0, lineN kf (n + 1)⟩ : Tok)] ≠ [] := by simp
        clear OL J hlt
        generalize (⟨(joinN ts kf (n + 1)).toArray⟩ : ByteArray) = q at C T2
        generalize toksN ts kf n ++ [(⟨5, [], 0, lineN kf (n + 1)⟩ : Tok)] = tm at T2 TM TE hne2
        go_wp2_with (go_at_call 9; with_reducible refine (T2.out _ (E.out.below B2.out)).mono ?_; rintro e w8 ⟨A8, c8, rfl, hA, hb8⟩; obtain ⟨gm, rfl⟩ := hA.blk hne2; have TM8 := Lib.hid hA; have B8 := Lib.hid (B2.out.trans (hb8.mono B2.out.size)); have TW8 := Lib.hid (TW.out.below hb8); have LA8 := Lib.hid (fun j (hj : j < n + 1) => (hb8.cell (p := ⟨gl, j, none⟩) GL.out).trans (LA.out j hj)); have GL8 := Lib.hid (Nat.lt_of_lt_of_le GL.out hb8.size); clear hA hb8)
        go_loopw [14] (fun i wx => ∃ k : Nat, k ≤ n ∧ i = .int .i64 k ∧ Hid (Below w8.heap.size w8 wx)) (fun i _ => n - (intOf i).toNat)
        case atStart => exact ⟨0, by omega, rfl, Below.refl _ _⟩
        case round =>
          obtain ⟨k, hk2, rfl, HB⟩ := hrel
          by_cases hlt : k < n
          · have x := (TM8.out.get k _ (TM.out k hlt)).below HB.out
            have x0 := x.c0
            have x1 := x.c1
            have x2 := x.c2
            have x3 := x.c3
            replace x := (TW8.out.get k _ (HT.out k (by omega))).below HB.out
            have z0 := x.c0
            have z1 := x.c1
            have z2 := x.c2
            have y0 := (HB.out.cell (p := ⟨gl, k, none⟩) GL8.out).trans (LA8.out k (by omega))
            simp only [] at x0 x1 x2 x3
            clear x
            generalize lineN kf k = mk at x3 y0
            generalize tokAt ts k = tk at x0 x1 x2 z0 z1 z2
            obtain ⟨tkind, ttext, tnum, tline⟩ := tk
            simp only [] at x0 x1 x2 z0 z1 z2
            generalize (⟨ttext.toArray⟩ : ByteArray) = tt at x1 z1
            have hd : (tt.toList == tt.toList) = true := by simp
            have k0 : (0 : Int) ≤ (k : Int) := by omega
            have k1 : (k : Int) < (n : Int) := by omega
            have k2 : (k : Int) < (n : Int) + 1 := by omega
            go_wp2_with fail
            go_quiet (fail)
            go_wp2_with fail
            go_roundw
            case rel => exact ⟨k + 1, by omega, by go_num, below_drewN HB.out _⟩
            case measure => simp [intOf]; omega
          · obtain rfl : k = n := by omega
            have x := (TM8.out.get k _ TE.out).below HB.out
            have x0 := x.c0
            have x3 := x.c3
            simp only [] at x0 x3
            clear x
            have k0 : (0 : Int) ≤ (k : Int) := by omega
            go_wp2_with fail
            go_ret
            exact ⟨rfl, B8.out.trans (HB.out.mono B8.out.size)⟩

/-- A list of bytes that comes in. -/
theorem open_u8s {H : Type} {enc : TypeId × Value → H} {w : World} {base : Nat} {spare : Nat → Bool} {held : Bool} {r : Reach} {b0 : Nat} {v : Value} {d : DataW H} {p : List MemPlace} (hv : Value.okWide Tryz.prog w r b0 36 v) (h : DataW.Trod enc Tryz.prog w base spare held 36 v d p) :
    ∃ (A : Option Addr) (n c : Nat) (kb : Nat → Nat), v = .slice A n c ∧ (A = none ∧ n = 0 ∨ ∃ a, A = some a ∧ BytesAt w a n kb) := by
  obtain ⟨a, len, cap, rfl⟩ := okWide_slice Tryz.underlying36 hv
  obtain ⟨fuel, hf⟩ := h
  rcases Go.ChangeShapes.open_ints Tryz.underlying36 Tryz.underlying5 (by kernel_rfl) hf with ⟨hcs, _⟩ | ⟨a', len', cap', zs, hcs, _, hl, hm, hz, _, hcell, hwz⟩
  · simp [Value.cells] at hcs
    obtain ⟨rfl, rfl, rfl⟩ := hcs
    exact ⟨none, 0, 0, fun _ => 0, rfl, .inl ⟨rfl, rfl⟩⟩
  · simp [Value.cells] at hcs
    obtain ⟨rfl, rfl, rfl⟩ := hcs
    refine ⟨some a', len, cap, fun i => (zs.getD i 0).toNat, rfl, .inr ⟨a', rfl, ⟨fun i hi => ?_⟩⟩⟩
    have hlen : len ≤ zs.length := by rw [hz]; split <;> omega
    have hc := hcell i (by omega)
    have hmem : zs.getD i 0 ∈ zs := by
      rw [List.getD_eq_getElem?_getD, List.getElem?_eq_getElem (by omega)]
      exact List.getElem_mem _
    obtain ⟨b1, b2⟩ := of_wf_u8 (hwz _ hmem)
    refine ⟨?_, ?_, by omega⟩
    · have := World.block_lt_of_cell? w _ hc
      rwa [Go.ChangeShapes.block_add] at this
    · rw [hc]
      have e : (((zs.getD i 0).toNat : Nat) : Int) = zs.getD i 0 := by omega
      rw [e]
theorem all_text {ts : List Tok} {n m : Nat} (e4 : ∀ i, i < n → (textL (tokAt ts i)).length ≤ 1000 ∧ (tokAt ts i).text.length ≤ 1000) (e5 : tokAt ts n = ⟨5, [], 0, m⟩) : ∀ i, i < n + 1 → (textL (tokAt ts i)).length ≤ 1000 ∧ (tokAt ts i).text.length ≤ 1000 := by
  intro i hi
  by_cases g : i < n
  · exact e4 i g
  · obtain rfl : i = n := by omega
    rw [e5]; simp [textL]
theorem walk (s : ByteArray) (A : Option Addr) (nk ck : Nat) (kb : Nat → Nat) (_u0 : s.size ≤ 281474976710656) (w : World) (hK : A = none ∧ nk = 0 ∨ ∃ a, A = some a ∧ BytesAt w a nk kb) (hE : Env4 w) :
    Calls Tryz.prog 5 #[.string s, .slice A nk ck] w fun e w' => e = .returned (.bool true) ∧ Below w.heap.size w w' := by
  have hts := cut_size s 1000
  generalize ht : s.extract 0 (min (s.size : Int) 1000).toNat = t
  have hts : t.size ≤ 1000 := by rw [← ht]; exact hts
  cases h : lexL t.data.toList with
  | mk l c at_ =>
    by_cases h0 : c = 0
    · subst h0
      rcases hK with ⟨rfl, rfl⟩ | ⟨a, rfl, hK⟩
      · obtain ⟨n, e1, e2, e3, e4, e5, e6⟩ := lex_back (by rw [size_toList]; exact hts) h (fun _ => 0) (fun _ => by show 0 < 4; omega)
        exact walk_none s _u0 t ht ck (fun _ => 0) (fun _ => rfl) l at_ n h e1 e2 e3 (all_text e4 e5) e6 w hE
      · obtain ⟨n, e1, e2, e3, e4, e5, e6⟩ := lex_back (by rw [size_toList]; exact hts) h (fun i => if i < nk then kb i % 4 else 0) (fun i => by show (if i < nk then kb i % 4 else 0) < 4; split <;> omega)
        exact walk_some s _u0 t ht a nk ck (fun i => if i < nk then kb i % 4 else 0) kb (fun _ => rfl) l at_ n h e1 e2 e3 (all_text e4 e5) e6 w hE hK
    · exact walk_bad s _u0 t ht _ l c at_ h h0 w hE
set_option maxRecDepth 100000 in
theorem contract (H : Type) (enc : TypeId × Value → H) (W : World) (base : Nat) (args : Array Value) (ds gs : List (DataW H)) (before : List MemPlace)
    (hval : ∀ (j : Nat) t v, Tryz.f5.params[j]? = some t → args[j]? = some v → Value.okWide Tryz.prog W .any base t v)
    (hW : DataW.Whole enc Tryz.prog Tryz.f5.params.toList Rows.lexBackSpec.vars false W args.toList ds gs before)
    (hsz0 : (DataW.weightsEach Tryz.prog (Tryz.f5.params.toList ++ (OpenSpec.ofChange Rows.lexBackSpec).bare.plain.varTypes Tryz.prog) (ds ++ gs)).all (· ≤ reachBytes) = true) (hL : laidMetH Tryz.prog Rows.lexBackRow.laid W) :
    Calls Tryz.prog 5 args W fun e W' => ∃ v, e = .returned v ∧ Rows.lexBackSpec.post enc Tryz.prog Tryz.f5 false true false false W args v W' := by
  have hW' := hW
  obtain ⟨p, q, hA0, hV, rfl, hfz, hnd⟩ := hW
  have hA : DataW.TrodAll enc Tryz.prog W 0 (fun _ => true) true Tryz.f5.params.toList args.toList ds p := hA0
  have hsz := hsz0
  rw [Tryz.params5] at hA hval hsz
  obtain ⟨v0, vs0, d0, ds0, p0, q0, hargs, rfl, rfl, h0, r0⟩ := trodAll_cons hA
  obtain ⟨v1, vs1, d1, ds1, p1, q1, rfl, rfl, rfl, h1, r1⟩ := trodAll_cons r0
  obtain ⟨rfl, rfl, rfl⟩ := trodAll_nil r1
  obtain rfl : args = #[v0, v1] := by cases args; simp_all
  obtain ⟨rfl, rfl⟩ := trodVars_none hV
  obtain ⟨a0, rfl, rfl, rfl, w0⟩ := Go.ChangeMaps.open_string Tryz.underlying9 (hval 0 9 v0 rfl rfl) h0
  have u0 := str_reach (sized_string hsz (j := 0) (t := 9) rfl rfl)
  obtain ⟨a1, n1, c1, kb1, rfl, w1⟩ := open_u8s (hval 1 36 v1 rfl rfl) h1
  clear hA0 hsz hsz0
  simp only [List.append_nil] at hW'
  refine (walk a0 a1 n1 c1 kb1 u0 W w1 (env_of_laid hL)).mono fun e W' ⟨he, hb⟩ => ?_
  subst he
  exact ⟨_, rfl, law_post laidOut (by kernel_rfl) (by kernel_rfl) Tryz.underlying4 hW' hb rfl⟩

theorem laid_met (os : Os) : laidMetH Tryz.prog Rows.lexBackRow.laid ((laidWorld os).forCall (fun _ _ => 0) ⟨#[], #[.string ⟨#[]⟩, .slice none 0 0], []⟩).memory :=
  laid_metH os _ (laidMet_of_run' 8 (by kernel_rfl) (by kernel_rfl)) (by kernel_rfl)
theorem reads (os : Os) {H : Type} (enc : TypeId × Value → H) : ∃ places, DataW.whole enc Tryz.prog ((laidWorld os).forCall (fun _ _ => 0) ⟨#[], #[.string ⟨#[]⟩, .slice none 0 0], []⟩).memory Tryz.f5.params.toList Rows.lexBackSpec.vars false (#[.string ⟨#[]⟩, .slice none 0 0] : Array Value).toList 8 = some ([.lit (.string []), .nil], [], places) :=
  ⟨[], by kernel_rfl⟩

set_option maxRecDepth 100000 in
theorem lifted (os : Os) (started : os.Started) (H : Type) (enc : TypeId × Value → H) (F : Stop.Interp) :
    ReturnsInHanded {} Tryz.checked os 5 .any ((OpenSpec.ofChange Rows.lexBackSpec).preRow enc Tryz.prog Tryz.f5 Rows.lexBackRow.domain false Rows.lexBackRow.laid) (((OpenSpec.ofChange Rows.lexBackSpec).at F).post enc Tryz.prog Tryz.f5 false true false false) := by
  obtain ⟨places, hx⟩ := reads os enc
  refine returnsInHanded_of_row (C := Tryz.checked) (s := (OpenSpec.ofChange Rows.lexBackSpec)) own started (by kernel_rfl) Tryz.func5
    (witness_row_atRef (enc := enc) (C := Tryz.checked) false (laidWorld os) #[.string ⟨#[]⟩, .slice none 0 0] rfl (by kernel_rfl) (by kernel_rfl) (by kernel_rfl)
      (OpenSpec.preRow_of_cond 8 hx (by kernel_rfl) (fun k hk => by cases hk) (by kernel_rfl) (laid_met os))) ?_
  intro W base args ds gs before hval hW _ _ hsz hL _ _
  exact contract H enc W base args ds gs before hval hW hsz hL

theorem said : Rows.LexBackSaid :=
  OpenClaim.holds_of_cond 5 Tryz.f5 rfl rfl rfl rfl rfl rfl rfl ⟨rfl, rfl, rfl, rfl, rfl⟩ rfl rfl rfl rfl rfl (by kernel_rfl) Tryz.func5 (by kernel_rfl)
    (of_decide_eq_true (by kernel_rfl)) (by unfold Func.isWrapper; first | (rw [if_pos (by decide +kernel)]; kernel_rfl) | (rw [if_neg (by decide +kernel)]; exact ⟨rfl, rfl⟩))
    (fun os started H enc _ F => by rw [OpenClaim.pre_eq_preRow]; exact lifted os started H enc F)

/-- No parameter wants a stand-in; the program's own looks are off: what the card asks. -/
theorem plain (f : FuncId) (fn : Func) (hf : Tryz.pinned.checked.prog.funcNamed "tallow/tallowlaw04.LexBack" = some f) (hfn : Tryz.pinned.checked.prog.funcs[f]? = some fn) :
    Rows.lexBackCard.stood.looks = Tryz.pinned.checked.prog.looks [] ∧ ∀ (j : Nat) t, fn.params[j]? = some t → Tryz.pinned.checked.prog.wantsStandIn t = false := by
  obtain rfl : f = 5 := Option.some.inj ((show Tryz.prog.funcNamed "tallow/tallowlaw04.LexBack" = some 5 by kernel_rfl).symm.trans hf) |>.symm
  obtain rfl : fn = Tryz.f5 := (Option.some.inj (Tryz.func5.symm.trans hfn)).symm
  refine ⟨by kernel_rfl, fun j t ht => ?_⟩
  rw [Tryz.params5] at ht
  have hm : t ∈ ([9, 36] : List TypeId) := by simpa using Array.mem_of_getElem? ht
  have ha : ([9, 36] : List TypeId).all (fun t => !Tryz.prog.wantsStandIn t) = true := by kernel_rfl
  have hb := List.all_eq_true.1 ha t hm
  have hc : Tryz.prog.wantsStandIn t = false := by simpa using hb
  exact hc

/-- THE CARD. -/
theorem card : Rows.LexBackCardSaid :=
  Claim7.holds_tied_plain_at .later [] _ _ _ _ said (fun _ h => by cases h) (by kernel_rfl) (fun _ h => by cases h) lexBack_row_tie rfl ⟨rfl, rfl⟩ (by kernel_rfl) rfl plain (by kernel_rfl)
end Go.Proofs.YteoccfmhpakplaaGreatDoor.lexBack
