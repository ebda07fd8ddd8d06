/- lex.Tokens: the words of a source, or what is wrong first. -/
import Derived.Test.YteoccfmhpakplaaGreatDoorLexCut
import Derived.WalkMore
import Derived.RegionTactic
namespace Go.Proofs.YteoccfmhpakplaaGreatDoor
set_option maxRecDepth 20000
open Go.RowKit

theorem blanks_take (t : List UInt8) : t.take (blanksL t).length = blanksL t := by
  unfold blanksL
  split
  · exact (List.prefix_iff_eq_take.1 (List.takeWhile_prefix _)).symm
  · exact (List.prefix_iff_eq_take.1 (List.takeWhile_prefix _)).symm
theorem head_take (k : Nat) (t : List UInt8) : t.take (headL k t).length = headL k t := by
  unfold headL
  split
  · exact (List.prefix_iff_eq_take.1 (List.takeWhile_prefix _)).symm
  · split
    · exact (List.prefix_iff_eq_take.1 (List.take_prefix _ _)).symm
    · unfold signL
      split
      · rename_i s hs
        obtain ⟨r, hr⟩ := hasPrefix_iff.1 (List.find?_some hs)
        rw [hr, List.take_left']
        rfl
      · rfl
theorem extract_take (t : ByteArray) (n : Nat) : (t.extract 0 n).data.toList = t.data.toList.take n := by
  rw [Lib.extract_data]; simp
theorem count_le (t : List UInt8) : (blanksL t).count 10 ≤ (blanksL t).length := List.count_le_length
/-- What lex.Tokens hands back: the tokens, in memory of the call's own; or a fault, in a block of the call's own. -/
def Gives (r : Lexed) (w : World) (e : Ending) (w' : World) : Prop :=
  (r.err = 0 ∧ ∃ v, e = .returned (.tuple #[v, .nilIface]) ∧ TokRow w.heap.size v r.toks w' ∧ Below w.heap.size w w') ∨
  (r.err ≠ 0 ∧ ∃ b, e = .returned (.tuple #[.slice none 0 0, .iface 48 (.pointer (some ⟨b, 0, none⟩))]) ∧ w.heap.size ≤ b ∧ b < w'.heap.size ∧ w'.cell? ⟨b, 0, none⟩ = some (.int .i64 r.err) ∧ w'.cell? ⟨b, 1, none⟩ = some (.int .i64 r.line) ∧ Below w.heap.size w w')
theorem Tokens_long (s : ByteArray) (w : World) (h : 32768 < s.size) : Calls Tryz.prog 9 #[.string s] w (Gives ⟨[], 3, 0⟩ w) := by
  go_enter Tryz.func9, Tryz.ntmps9
  go_wp2_with fail
  go_step3
  go_wp2_with fail
  rw [Exit.noGoto_ret]
  go_ret2
  exact .inr ⟨by decide, w.heap.size, rfl, Nat.le_refl _, by simp, by simp [go_sem], by simp [go_sem], (Below.refl _ _).alloc (Nat.le_refl _) _⟩
/-- How far the text was gone through. -/
structure Far (s : ByteArray) (w : World) (t : ByteArray) (line : Nat) (acc : List Tok) (v : Value) (wr : World) : Prop where
  row : TokRow (w.heap.size + 1) v acc wr
  cell : wr.cell? ⟨w.heap.size, 0, none⟩ = some (.string t)
  warm : wr.frozen? ⟨w.heap.size, 0, none⟩ = false
  below : Below w.heap.size w wr
  lt : w.heap.size < wr.heap.size
  goes : lexL s.data.toList = glueL acc (tokL t.data.toList line)
  room : acc.length + t.size ≤ 32768
  lines : line + t.size ≤ 32768
theorem TokRow.low {B B' : Nat} {v : Value} {l : List Tok} {w : World} (h : TokRow B v l w) (hB : B' ≤ B) : TokRow B' v l w := by
  obtain ⟨h1, h2⟩ := h.own
  refine ⟨⟨h1, ?_⟩⟩
  rcases h2 with h | ⟨g, cap, cur, e1, e2, e3⟩
  · exact .inl h
  · exact .inr ⟨g, cap, cur, e1, Nat.le_trans hB e2, e3⟩
/-- Behind the end's token. -/
theorem Far.finish {s : ByteArray} {w wr w2 : World} {t : ByteArray} {line : Nat} {acc : List Tok} {v v2 : Value} {o : Obj} (h : Far s w t line acc v wr) (ht : t.size = 0)
    (ho : w2.ownsRow (w.heap.size + 1) 41 4 v2 (acc.length + 1) (tokCells acc ++ [.int .i64 5, .string ⟨#[]⟩, .int .i64 0, .int .i64 line])) (hg : (wr.alloc o).grownBy w2 v.ownBlock) :
    Gives (lexL s.data.toList) w (.returned (.tuple #[v2, .nilIface])) w2 := by
  have e : lexL s.data.toList = ⟨acc ++ [⟨5, [], 0, line⟩], 0, line⟩ := by
    rw [h.goes, empty_iff.2 ht, tokL_nil]; rfl
  rw [e]
  refine .inl ⟨rfl, v2, rfl, (TokRow.more (t := ⟨5, [], 0, line⟩) ho).low (Nat.le_succ _), ?_⟩
  exact (h.below.alloc h.below.size o).grown hg (by have := h.below.size; simp; omega) fun k hk => by have := (h.row.own.lt k hk).1; omega
/-- Behind blanks. -/
theorem Far.blank {s : ByteArray} {w wr : World} {t : ByteArray} {line : Nat} {acc : List Tok} {v : Value} (h : Far s w t line acc v wr) (hk : kindL t.data.toList = 0) :
    Far s w (t.extract (cutN t.data.toList) t.size) (line + (blanksL t.data.toList).count 10) acc v (wr.setCell ⟨w.heap.size, 0, none⟩ (.string (t.extract (cutN t.data.toList) t.size))) ∧ (t.extract (cutN t.data.toList) t.size).size < t.size := by
  have hn : cutN t.data.toList = (blanksL t.data.toList).length := by unfold cutN; rw [if_pos hk]
  have hp := blanks_pos hk
  have hz := size_toList t
  have hs : (t.extract (cutN t.data.toList) t.size).size = t.size - (blanksL t.data.toList).length := by rw [← size_toList, drop_extract, List.length_drop, hn, hz]
  have hc := count_le t.data.toList
  have hr := h.room
  have hl := h.lines
  refine ⟨⟨⟨ownsRow_setCell_below h.row.own (Nat.lt_succ_self _) _⟩, ?_, ?_, h.below.setCell (Nat.le_refl _) _, by simpa using h.lt, ?_, by omega, by omega⟩, by omega⟩
  · simp [go_sem, h.cell]
  · simp [go_sem, h.warm]
  · rw [h.goes, tokL_blank line hk, drop_extract, hn]
theorem below_set {B : Nat} {w wr w2 : World} {b : Nat} {x : Value} (h : Below B w wr) (hB : B ≤ b) (hs : B ≤ wr.heap.size) (hb : Below (wr.setCell ⟨b, 0, none⟩ x).heap.size (wr.setCell ⟨b, 0, none⟩ x) w2) : Below B w w2 :=
  (h.setCell (p := ⟨b, 0, none⟩) hB x).trans (hb.mono (by simpa using hs))
/-- Behind a word. -/
theorem Far.word {s : ByteArray} {w wr w2 wa w3 : World} {t : ByteArray} {line : Nat} {acc : List Tok} {v v2 : Value} (h : Far s w t line acc v wr) (hne : t.size ≠ 0) (hk : kindL t.data.toList ≠ 0) (he : (wordL t.data.toList).err = 0)
    (hb : Below (wr.setCell ⟨w.heap.size, 0, none⟩ (.string (t.extract (cutN t.data.toList) t.size))).heap.size (wr.setCell ⟨w.heap.size, 0, none⟩ (.string (t.extract (cutN t.data.toList) t.size))) w2)
    (hba : Below w2.heap.size w2 wa)
    (ho : w3.ownsRow (w.heap.size + 1) 41 4 v2 (acc.length + 1) (tokCells acc ++ [.int .i64 (wordL t.data.toList).kind, .string ⟨(wordL t.data.toList).text.toArray⟩, .int .i64 (wordL t.data.toList).num, .int .i64 line])) (hg : wa.grownBy w3 v.ownBlock) :
    Far s w (t.extract (cutN t.data.toList) t.size) line (acc ++ [⟨(wordL t.data.toList).kind, (wordL t.data.toList).text, (wordL t.data.toList).num, line⟩]) v2 w3 ∧ (t.extract (cutN t.data.toList) t.size).size < t.size := by
  have hz := size_toList t
  have hne2 : t.data.toList ≠ [] := fun e => hne (empty_iff.1 e)
  have hp := word_pos hne2 hk he
  have hn : cutN t.data.toList = (wordL t.data.toList).size := by unfold cutN; rw [if_neg hk, hp.2.2]
  have hs : (t.extract (cutN t.data.toList) t.size).size = t.size - (wordL t.data.toList).size := by rw [← size_toList, drop_extract, List.length_drop, hn, hz]
  have hr := h.room
  have hl := h.lines
  have hlt := h.lt
  have hsz : (wr.setCell ⟨w.heap.size, 0, none⟩ (.string (t.extract (cutN t.data.toList) t.size))).heap.size = wr.heap.size := by simp
  have h2 : w.heap.size < w2.heap.size := by have := hb.size; omega
  have ha : w.heap.size < wa.heap.size := Nat.lt_of_lt_of_le h2 hba.size
  have h3 := hg.size
  have cell3 : ∀ p : Addr, p.block = w.heap.size → w3.cell? p = (wr.setCell ⟨w.heap.size, 0, none⟩ (.string (t.extract (cutN t.data.toList) t.size))).cell? p ∧ w3.frozen? p = (wr.setCell ⟨w.heap.size, 0, none⟩ (.string (t.extract (cutN t.data.toList) t.size))).frozen? p := by
    intro p hpb
    have g := hg.block p.block (by omega) (fun e => by have := (h.row.own.lt _ e.symm).1; omega)
    exact ⟨(World.cell?_of_block g).trans ((hba.cell (by omega)).trans (hb.cell (by omega))), (World.frozen?_of_block g).trans ((hba.frozen (by omega)).trans (hb.frozen (by omega)))⟩
  refine ⟨⟨TokRow.more (t := ⟨_, _, _, line⟩) ho, ?_, ?_, ?_, by omega, ?_, ?_, by omega⟩, by omega⟩
  · rw [(cell3 ⟨w.heap.size, 0, none⟩ rfl).1]; simp [go_sem, h.cell]
  · rw [(cell3 ⟨w.heap.size, 0, none⟩ rfl).2]; simp [go_sem, h.warm]
  · exact ((below_set h.below (Nat.le_refl _) (by omega) hb).trans (hba.mono (by omega))).grown hg (by omega) fun k hk => by have := (h.row.own.lt k hk).1; omega
  · rw [h.goes, tokL_word line hne2 hk he, glue_push, drop_extract, hn]
  · rw [List.length_append]; simp only [List.length_cons, List.length_nil]; omega
theorem cells_at (w : World) (l : List Value) (E : TypeId) (g : Nat) (hg : g = w.heap.size) : ∀ j u, l[j]? = some u → (w.alloc (.cells l.toArray E)).cell? ((⟨g, 0, none⟩ : Addr).add j) = some u := by
  subst hg; exact cells_new w l E
theorem ErrTypeAt.down {w wr w2 : World} {b : Nat} {x : Value} (h : ErrTypeAt w) (hw : Below w.heap.size w wr) (hb : w.heap.size ≤ b) (hs : Below (wr.setCell ⟨b, 0, none⟩ x).heap.size (wr.setCell ⟨b, 0, none⟩ x) w2) : ErrTypeAt w2 :=
  h.below h.lt (below_set hw hb hw.size hs)
set_option maxHeartbeats 8000000 in
theorem Tokens_goes (s : ByteArray) (w : World) (h : ¬ 32768 < s.size) (hE : Env4 w) : Calls Tryz.prog 9 #[.string s] w (Gives (lexL s.data.toList) w) := by
  obtain ⟨i9, hi, hz0, hz1, hz2⟩ := info_parts tok_info
  have E := Lib.hid hE
  have hs := size_toList s
  have hq : decide ((32768 : Int) < (s.size : Int)) = false := decide_eq_false (by omega)
  have F0 : Hid (Far s w s 0 [] (.slice none 0 0) (w.alloc (.cells #[.string s] 9))) :=
    ⟨TokRow.nil _ _, by simp [go_sem], by simp [go_sem], (Below.refl _ _).alloc (Nat.le_refl _) _, by simp, by rw [glue_nil]; unfold lexL; rw [if_neg (by omega)], by simp; omega, by omega⟩
  clear hE hs h
  go_enter Tryz.func9, Tryz.ntmps9
  go_wp2_with fail
  go_step3
  go_wp2_with fail
  go_step3
  go_wp2_with fail
  go_loopw [5, 7] (fun l v wr => ∃ (t : ByteArray) (line : Nat) (acc : List Tok), l = .int .i64 line ∧ Hid (Far s w t line acc v wr)) (fun _ _ wr => match wr.cell? ⟨w.heap.size, 0, none⟩ with | some (.string t) => t.size | _ => 0)
  case atStart => exact ⟨s, 0, [], rfl, F0⟩
  case round =>
    obtain ⟨t, line, acc, rfl, hF⟩ := hrel
    clear F0 hq
    have c0 := hF.out.cell
    have f0 := hF.out.warm
    have K := Lib.hid (begins_any t)
    have hroom := hF.out.room
    have hline := hF.out.lines
    by_cases he : t.size = 0
    · have e5 : kindL t.data.toList = 5 := (kind_nil_iff _).2 (empty_iff.2 he)
      rw [e5] at K
      have HE := Lib.hid he
      clear he e5
      go_wp2_with (first
        | (go_at_call 22; with_reducible refine (K.out _).mono ?_; rintro e w1 ⟨rfl, hq⟩; obtain rfl := hq.symm)
        | (at_builtin; refine wpList_append_own _ rfl (.tmp 55) (.tmp 58) _ rfl (w.heap.size + 1) 41 i9 _ 4 40 Tryz.underlying22 hi hz0 hz1 hz2 rfl (by decide) _ _ _ rfl (hF.out.row.own.alloc _) _ _ _ [.int .i64 5, .string ⟨#[]⟩, .int .i64 0, .int .i64 line] rfl rfl (cells_new _ _ _) (by simp [Value.oneCell']) (by unfold maxLen; omega) (by omega) (by have := hF.out.lt; simp; omega) ?_; intro v2 w2 hown2 hg2 _))
      have R := hF.out.finish HE.out hown2 hg2
      clear hown2 hg2
      go_wp2_with fail
      rw [Exit.noGoto_ret]
      go_ret2
      exact R
    · have hpos : 0 < t.size := by omega
      have S := (E.out.below hF.out.below).signs
      have CT := Lib.hid (fun wr hc hf => cut_any w.heap.size t wr (by omega) hpos hc hf)
      by_cases h0 : kindL t.data.toList = 0
      · have M := hF.out.blank h0
        have M2 := M.2
        have M := Lib.hid M.1
        have hcnt : cutN t.data.toList = (blanksL t.data.toList).length := by unfold cutN; rw [if_pos h0]
        have hbl := blanks_pos h0
        rw [size_toList] at hbl
        have CO := Tryz.strings_Count_one (t.extract 0 (cutN t.data.toList)) 10
        rw [extract_take, hcnt, blanks_take] at CO
        unfold Lib.countByte at CO
        have hc1 := count_le t.data.toList
        rw [h0] at K CT
        rw [hcnt] at CT M M2
        rw [show ((0 : Nat) : Int) = 0 from rfl] at CT
        have CT := Lib.hid (fun wr hS hc hf => CT.out wr hS hc hf)
        generalize (blanksL t.data.toList).count 10 = cnt at CO hc1 M
        generalize (blanksL t.data.toList).length = n at CO hc1 hbl M M2 CT
        have CO := Lib.hid CO
        have HE := Lib.hid he
        clear he h0 hcnt
        go_wp2_with (first
          | (go_at_call 22; with_reducible refine (K.out _).mono ?_; rintro e w1 ⟨rfl, hq⟩; obtain rfl := hq.symm)
          | (go_at_call 20; with_reducible refine (CT.out _ S c0 f0).mono ?_; rintro e w1 ⟨rfl, rfl⟩)
          | (go_at_call 23; with_reducible refine (CO.out _).mono ?_; rintro e w1 ⟨rfl, hq⟩; obtain rfl := hq.symm))
        go_roundw
        case rel => exact ⟨_, line + cnt, acc, by go_num, M⟩
        case measure => simp [go_sem, c0]; omega
      · have hk5 : kindL t.data.toList ≠ 5 := fun e => he (empty_iff.1 ((kind_nil_iff _).1 e))
        have hk4 := kind_le t.data.toList
        have hh : (t.extract 0 (cutN t.data.toList)).data.toList = headL (kindL t.data.toList) t.data.toList := by
          rw [extract_take]; unfold cutN; rw [if_neg h0, head_take]
        have hsz : (t.extract 0 (cutN t.data.toList)).size ≤ 1048576 := by
          rw [← size_toList, extract_take, List.length_take, size_toList]; omega
        have RD := fun wr hN => read_any (kindL t.data.toList) (t.extract 0 (cutN t.data.toList)) wr hsz (by omega) hN
        rw [hh] at RD
        change ∀ wr, Env wr → Calls _ _ _ _ (fun e w' => e = .returned (tokR (wordL t.data.toList)) ∧ Below wr.heap.size wr w') at RD
        have ES := fun x => (E.out.below (hF.out.below.setCell (p := ⟨w.heap.size, 0, none⟩) (Nat.le_refl _) x)).num
        have q5 : (((kindL t.data.toList : Nat) : Int) == 5) = false := beq_eq_false_iff_ne.2 (by omega)
        have q0 : (((kindL t.data.toList : Nat) : Int) == 0) = false := beq_eq_false_iff_ne.2 (by omega)
        by_cases herr : (wordL t.data.toList).err = 0
        · have FW := fun w2 wa w3 v2 => hF.out.word (w2 := w2) (wa := wa) (w3 := w3) (v2 := v2) he h0 herr
          have tr : tokR (wordL t.data.toList) = .tuple #[.agg (tokV (wordL t.data.toList).kind ⟨(wordL t.data.toList).text.toArray⟩ (wordL t.data.toList).num 0), .nilIface] := by unfold tokR; rw [if_pos herr]
          rw [tr] at RD
          have RD := Lib.hid RD
          have FW := Lib.hid FW
          have HE := Lib.hid he
          clear hh hsz tr herr he h0 hk5 hk4
          generalize kindL t.data.toList = kk at *
          generalize (wordL t.data.toList).kind = kd at *
          generalize (wordL t.data.toList).text = tx at *
          generalize (wordL t.data.toList).num = nm at *
          generalize hn : cutN t.data.toList = n at *
          have HN := Lib.hid hn
          clear hn
          go_wp2_with (first
            | (go_at_call 22; with_reducible refine (K.out _).mono ?_; rintro e w1 ⟨rfl, hq⟩; obtain rfl := hq.symm)
            | (go_at_call 20; with_reducible refine (CT.out _ S c0 f0).mono ?_; rintro e w1 ⟨rfl, rfl⟩)
            | (go_at_call 24; with_reducible refine (RD.out _ (ES _)).mono ?_; rintro e w2 ⟨rfl, hb2⟩)
            | (go_at_call 25; with_reducible refine (as_nil _ _).mono ?_; rintro e w3 ⟨rfl, rfl⟩)
            | (at_builtin; refine wpList_append_own _ rfl (.tmp 41) (.tmp 43) _ rfl (w.heap.size + 1) 41 i9 _ 4 40 Tryz.underlying22 hi hz0 hz1 hz2 rfl (by decide) _ _ _ rfl ((((own_below (ownsRow_setCell_below hF.out.row.own (Nat.lt_succ_self _) _) hb2).alloc _).alloc _).alloc _) _ _ _ [.int .i64 kd, .string ⟨tx.toArray⟩, .int .i64 nm, .int .i64 line] rfl rfl (cells_at _ _ _ _ (by simp)) (by simp [Value.oneCell']) (by unfold maxLen; omega) (by omega) (by have := hF.out.lt; have := hb2.size; simp at this; simp; omega) ?_; intro v2 w3 hown2 hg2 _; have R := Lib.hid (FW.out _ _ _ _ hb2 ((((Below.refl _ _).alloc (Nat.le_refl _) _).alloc (by simp) _).alloc (by simp; omega) _) hown2 hg2); clear hown2 hg2 hb2))
          have hlt := R.out.2
          have R := Lib.hid R.out.1
          go_roundw
          case rel => exact ⟨_, line, _, rfl, R⟩
          case measure =>
            have c1 := R.out.cell
            simp only [c1, c0]
            exact hlt
        · have bad : lexL s.data.toList = ⟨[], (wordL t.data.toList).err, line⟩ := by
            rw [hF.out.goes, tokL_bad line (fun e => he (empty_iff.1 e)) h0 herr]
            unfold glueL
            rw [if_neg herr]
          have tr : tokR (wordL t.data.toList) = .tuple #[.agg (tokV 0 ⟨#[]⟩ 0 0), .iface 27 (.int .i64 (wordL t.data.toList).err)] := by unfold tokR; rw [if_neg herr]
          rw [tr] at RD
          have RD := Lib.hid RD
          have BAD := Lib.hid bad
          have HE := Lib.hid he
          have HERR := Lib.hid herr
          clear hh hsz tr herr he h0 hk5 hk4 bad
          generalize kindL t.data.toList = kk at *
          generalize (wordL t.data.toList).err = er at *
          generalize cutN t.data.toList = n at *
          have ER := fun w2 hb2 => E.out.err.down (b := w.heap.size) (x := .string (t.extract n t.size)) (w2 := w2) hF.out.below (Nat.le_refl _) hb2
          have ER := Lib.hid ER
          go_wp2_with (first
            | (go_at_call 22; with_reducible refine (K.out _).mono ?_; rintro e w1 ⟨rfl, hq⟩; obtain rfl := hq.symm)
            | (go_at_call 20; with_reducible refine (CT.out _ S c0 f0).mono ?_; rintro e w1 ⟨rfl, rfl⟩)
            | (go_at_call 24; with_reducible refine (RD.out _ (ES _)).mono ?_; rintro e w2 ⟨rfl, hb2⟩; have er2 := ER.out _ hb2)
            | (go_at_call 25; refine (As_errno _ ⟨w2.heap.size + 1, 0, none⟩ (.int .i64 0) _ (er2.below er2.lt (((Below.refl _ _).alloc (Nat.le_refl _) _).alloc (by simp) _)) (by simp [go_sem]) (by simp [go_sem])).mono ?_; rintro e w5 ⟨rfl, w4, hb4, rfl⟩))
          have hcv : (w4.setCell ⟨w2.heap.size + 1, 0, none⟩ (.int .i64 er)).cell? ⟨w2.heap.size + 1, 0, none⟩ = some (.int .i64 er) := by
            have h := hb4.cell (p := ⟨w2.heap.size + 1, 0, none⟩) (by simp)
            simp [go_sem] at h
            simp [go_sem, h]
          have B5 : Hid (Below w.heap.size w (w4.setCell ⟨w2.heap.size + 1, 0, none⟩ (.int .i64 er))) := by
            have hl2 : w.heap.size ≤ w2.heap.size := by have := hF.out.lt; have := hb2.size; simp at this; omega
            have b2 : Below w.heap.size w w2 := below_set hF.out.below (Nat.le_refl _) hF.out.below.size hb2
            exact ((((b2.alloc hl2 _).alloc (by simp; omega) _).trans (hb4.mono (by simp; omega))).setCell (p := ⟨w2.heap.size + 1, 0, none⟩) (by show w.heap.size ≤ w2.heap.size + 1; omega) _)
          clear hb2 er2 hb4
          generalize w4.setCell ⟨w2.heap.size + 1, 0, none⟩ (.int .i64 er) = w5 at *
          go_region
          go_wp2_with fail
          rw [Exit.noGoto_ret]
          go_ret2
          rw [BAD.out]
          exact .inr ⟨HERR.out, w5.heap.size, rfl, B5.out.size, by simp, by simp [go_sem], by simp [go_sem], (B5.out.alloc B5.out.size _).drew⟩
/-- lex.Tokens, at every text. -/
theorem Tokens_any (s : ByteArray) (w : World) (hE : Env4 w) : Calls Tryz.prog 9 #[.string s] w (Gives (lexL s.data.toList) w) := by
  by_cases h : 32768 < s.size
  · have e : lexL s.data.toList = ⟨[], 3, 0⟩ := by unfold lexL; rw [if_pos (by rw [size_toList]; exact h)]
    rw [e]; exact Tokens_long s w h
  · exact Tokens_goes s w h hE
end Go.Proofs.YteoccfmhpakplaaGreatDoor
