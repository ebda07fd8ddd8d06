/- The document's own word: digits, a string, whatever begins at a place. -/
import Derived.Test.YteoccfmhpakplaaGreatDoorLexMath2
import Derived.Test.YteoccfmhpakplaaGreatDoorLexCut
namespace Go.Proofs.YteoccfmhpakplaaGreatDoor
set_option maxRecDepth 20000
open Go.RowKit

/-- What the document's word is: its error; and where there is none, the token and its bytes. -/
def GivesW (W : Word) (w : World) (e : Ending) (w' : World) : Prop :=
  ∃ (k : Nat) (x : ByteArray) (n z : Int), e = .returned (.tuple #[.agg (tokV k x n 0), .int .i64 z, .int .i64 W.err]) ∧ (W.err = 0 → k = W.kind ∧ x = ⟨W.text.toArray⟩ ∧ n = W.num ∧ z = W.size) ∧ Below w.heap.size w w'
theorem results_cell_tmp2 {fn : Func} {p u v : Tmp} {ty : TypeId} (h : fn.results = #[.cell p ty, .tmp u, .tmp v]) (tmps : Array Value) (P : Program) (w : World) :
    (results fn tmps).run P w = ((asAddr (tmps.getD p undef)).run P w).andThen fun a w1 => ((loadVar ty a).run P w1).andThen fun x w2 => .ok (.tuple #[x, tmps.getD u undef, tmps.getD v undef]) w2 := by
  simp only [results, h]
  simp [Sem.run_bind, Result.andThen]
theorem ret_tok_tmp2 {fn : Func} {R : Ending → World → Prop} {a : Act} {W : World} {p u v : Tmp} {b : Nat} {v0 v1 v2 v3 : Value} (h : fn.results = #[.cell p 41, .tmp u, .tmp v]) (hp : a.tmps.getD p undef = .pointer (some ⟨b, 0, none⟩))
    (h0 : W.cell? ⟨b, 0, none⟩ = some v0) (h1 : W.cell? ⟨b, 1, none⟩ = some v1) (h2 : W.cell? ⟨b, 2, none⟩ = some v2) (h3 : W.cell? ⟨b, 3, none⟩ = some v3) (hd : a.defers = [])
    (hR : R (.returned (.tuple #[.agg #[v0, v1, v2, v3], a.tmps.getD u undef, a.tmps.getD v undef])) W) : bodyPost Tryz.prog fn R .ret a W := by
  refine bodyPost_ret (v := .tuple #[.agg #[v0, v1, v2, v3], a.tmps.getD u undef, a.tmps.getD v undef]) ?_ hd hR
  rw [results_cell_tmp2 h, hp]
  simp only [asAddr, Sem.run_pure, Result.andThen_ok, load_tok h0 h1 h2 h3]
theorem setTok {B : Nat} {w w1 : World} {b : Nat} (h : Below B w w1) (hb : B ≤ b) (x0 x1 x2 x3 : Value) : Below B w ((((w1.setCell ⟨b, 0, none⟩ x0).setCell ⟨b, 1, none⟩ x1).setCell ⟨b, 2, none⟩ x2).setCell ⟨b, 3, none⟩ x3) :=
  (((h.setCell (p := ⟨b, 0, none⟩) hb _).setCell (p := ⟨b, 1, none⟩) hb _).setCell (p := ⟨b, 2, none⟩) hb _).setCell (p := ⟨b, 3, none⟩) hb _
theorem bad_gives {e : Int} {w w' : World} {k : Nat} {x : ByteArray} {n z : Int} (he : e ≠ 0) (hb : Below w.heap.size w w') : GivesW (badW e) w (.returned (.tuple #[.agg (tokV k x n 0), .int .i64 z, .int .i64 e])) w' :=
  ⟨k, x, n, z, rfl, fun h => absurd h he, hb⟩
set_option maxHeartbeats 2000000 in
theorem Lstr_none (s : ByteArray) (a : Nat) (w : World) (hs : s.size ≤ 1048576) (ha : a < s.size) (hq : quotedR (s.data.toList.drop a) = 0) :
    Calls Tryz.prog 54 #[.string s, .int .i64 a] w (GivesW (badW 14) w) := by
  have Q := fun w => Lquoted_any s a w hs ha
  rw [hq] at Q
  have Q := Lib.hid Q
  go_enter Tryz.func54, Tryz.ntmps54
  go_wp2_with (go_at_call 75; refine (Q.out _).mono ?_; rintro e w1 ⟨rfl, hq⟩; obtain rfl := hq.symm)
  refine ret_tok_tmp2 rfl rfl (v0 := .int .i64 0) (v1 := .string ⟨#[]⟩) (v2 := .int .i64 0) (v3 := .int .i64 0) (by simp [go_sem]) (by simp [go_sem]) (by simp [go_sem]) (by simp [go_sem]) rfl ?_
  exact bad_gives (by decide) ((Below.refl _ _).alloc (Nat.le_refl _) _)
set_option maxHeartbeats 2000000 in
theorem Lstr_form (s : ByteArray) (a n : Nat) (w : World) (hs : s.size ≤ 1048576) (ha : a < s.size) (hn : quotedR (s.data.toList.drop a) = n) (h0 : n ≠ 0) (hle : a + n ≤ s.size) (q : ByteArray) (hq : s.extract a (a + n) = q) (hqs : q.size ≤ 1048576) (hE : (unqL q.data.toList).2 = 4) :
    Calls Tryz.prog 54 #[.string s, .int .i64 a] w (GivesW (badW 14) w) := by
  have Q := fun w => Lquoted_any s a w hs ha
  rw [hn] at Q
  have Q := Lib.hid Q
  have U := fun w => RUnquote_any q w hqs
  rw [hE] at U
  have U := Lib.hid U
  generalize (ByteArray.mk (unqL q.data.toList).1.toArray) = t at U
  have n0 : ((n : Int) == 0) = false := beq_eq_false_iff_ne.2 (by omega)
  go_enter Tryz.func54, Tryz.ntmps54
  go_wp2_with (first
    | (go_at_call 75; refine (Q.out _).mono ?_; rintro e w1 ⟨rfl, hq⟩; obtain rfl := hq.symm)
    | (go_at_call 76; refine (U.out _).mono ?_; rintro e w2 ⟨rfl, hb2⟩; obtain ⟨p0, p1, p2, p3, d0, d1, d2, d3⟩ := token_mine hb2; have B2 := Lib.hid (below_box hb2); clear hb2))
  refine ret_tok_tmp2 rfl rfl (v0 := .int .i64 0) (v1 := .string ⟨#[]⟩) (v2 := .int .i64 0) (v3 := .int .i64 0) (by simp [go_sem, p0]) (by simp [go_sem, p1]) (by simp [go_sem, p2]) (by simp [go_sem, p3]) rfl ?_
  exact bad_gives (by decide) (setTok B2.out (Nat.le_refl _) _ _ _ _)
set_option maxHeartbeats 2000000 in
theorem Lstr_else (s : ByteArray) (a n : Nat) (w : World) (hs : s.size ≤ 1048576) (ha : a < s.size) (hn : quotedR (s.data.toList.drop a) = n) (h0 : n ≠ 0) (hle : a + n ≤ s.size) (q : ByteArray) (hq : s.extract a (a + n) = q) (hqs : q.size ≤ 1048576) (t : ByteArray) (ht : (⟨(unqL q.data.toList).1.toArray⟩ : ByteArray) = t) (E : Int) (hE : (unqL q.data.toList).2 = E) (h4 : E ≠ 4) :
    Calls Tryz.prog 54 #[.string s, .int .i64 a] w fun e w' => e = .returned (.tuple #[.agg (tokV 3 t 0 0), .int .i64 n, .int .i64 E]) ∧ Below w.heap.size w w' := by
  have Q := fun w => Lquoted_any s a w hs ha
  rw [hn] at Q
  have Q := Lib.hid Q
  have U := fun w => RUnquote_any q w hqs
  rw [hE, ht] at U
  have U := Lib.hid U
  have n0 : ((n : Int) == 0) = false := beq_eq_false_iff_ne.2 (by omega)
  have e4 : (E == 4) = false := beq_eq_false_iff_ne.2 h4
  go_enter Tryz.func54, Tryz.ntmps54
  go_wp2_with (first
    | (go_at_call 75; refine (Q.out _).mono ?_; rintro e w1 ⟨rfl, hq⟩; obtain rfl := hq.symm)
    | (go_at_call 76; refine (U.out _).mono ?_; rintro e w2 ⟨rfl, hb2⟩; obtain ⟨p0, p1, p2, p3, d0, d1, d2, d3⟩ := token_mine hb2; have B2 := Lib.hid (below_box hb2); clear hb2))
  refine ret_tok_tmp2 rfl rfl (v0 := .int .i64 3) (v1 := .string t) (v2 := .int .i64 0) (v3 := .int .i64 0) (by simp [go_sem, p0]) (by simp [go_sem, p1]) (by simp [go_sem, p2]) (by simp [go_sem, p3]) rfl ?_
  exact ⟨rfl, setTok B2.out (Nat.le_refl _) _ _ _ _⟩
theorem extract_at (s : ByteArray) (a n : Nat) : (s.extract a (a + n)).data.toList = (s.data.toList.drop a).take n := by
  rw [Lib.extract_data]; congr 1; omega
/-- tallowref04.str. -/
theorem Lstr_any (s : ByteArray) (a : Nat) (w : World) (hs : s.size ≤ 1048576) (ha : a < s.size) (h34 : s[a] = 34) :
    Calls Tryz.prog 54 #[.string s, .int .i64 a] w (GivesW (strW ((s.data.toList.drop a).take (quotedN (s.data.toList.drop a)))) w) := by
  have hc : s.data.toList.drop a = 34 :: s.data.toList.drop (a + 1) := by rw [drop_cons (byte_at ha), h34]
  have hlen : (s.data.toList.drop a).length = s.size - a := by rw [List.length_drop, size_toList]
  by_cases h0 : quotedR (s.data.toList.drop a) = 0
  · have e : strW ((s.data.toList.drop a).take (quotedN (s.data.toList.drop a))) = badW 14 := by rw [hc] at h0 ⊢; exact str_none h0
    rw [e]
    exact Lstr_none s a w hs ha h0
  · have hs2 : quotedN (s.data.toList.drop a) = quotedR (s.data.toList.drop a) ∧ quotedR (s.data.toList.drop a) ≤ (s.data.toList.drop a).length := by
      have := str_some (r := s.data.toList.drop (a + 1)) (by rw [← hc]; exact h0)
      rw [← hc] at this; exact this
    obtain ⟨n, hn⟩ : ∃ n, quotedR (s.data.toList.drop a) = n := ⟨_, rfl⟩
    rw [hs2.1, hn]
    rw [hn] at h0 hs2
    have hle : a + n ≤ s.size := by omega
    have hqs : (s.extract a (a + n)).size ≤ 1048576 := by rw [← size_toList, extract_at, List.length_take]; omega
    have ex := extract_at s a n
    have hsz : ((s.data.toList.drop a).take n).length = n := by rw [List.length_take]; omega
    rw [← ex] at hsz ⊢
    rcases unq_codes (s.extract a (a + n)).data.toList with h | h | h
    · refine (Lstr_else s a n w hs ha hn h0 hle _ rfl hqs _ rfl 0 h (by decide)).mono ?_
      rintro e w' ⟨rfl, hb⟩
      unfold strW
      rw [if_pos h]
      exact ⟨_, _, _, _, rfl, fun _ => ⟨rfl, rfl, rfl, by show (n : Int) = _; rw [hsz]⟩, hb⟩
    · refine (Lstr_else s a n w hs ha hn h0 hle _ rfl hqs _ rfl 3 h (by decide)).mono ?_
      rintro e w' ⟨rfl, hb⟩
      unfold strW
      rw [if_neg (by rw [h]; decide), h]
      exact bad_gives (by decide) hb
    · unfold strW
      rw [if_neg (by rw [h]; decide), h]
      exact Lstr_form s a n w hs ha hn h0 hle _ rfl hqs h
set_option maxHeartbeats 2000000 in
/-- The loop of digits, and what is behind. -/
theorem Lnumber_all (s : ByteArray) (a n : Nat) (w : World) (hs : s.size ≤ 1048576) (ha : a < s.size) (hn : ((s.data.toList.drop a).takeWhile digitB).length = n) (hle : a + n ≤ s.size) (q : ByteArray) (hq : s.extract a (a + n) = q) (hqs : q.size ≤ 1048576) (v : Int) (hV : parseV q.data.toList = v) (E : Int) (hE : parseE q.data.toList = E)
    (ans : Value) (h1 : (E = 4 ∨ ∃ c, (s.data.toList.drop a)[n]? = some c ∧ letterB c = true) → ans = .tuple #[.agg (tokV 0 ⟨#[]⟩ 0 0), .int .i64 0, .int .i64 14]) (h2 : ¬ (E = 4 ∨ ∃ c, (s.data.toList.drop a)[n]? = some c ∧ letterB c = true) → ans = .tuple #[.agg (tokV 2 q v 0), .int .i64 n, .int .i64 E]) :
    Calls Tryz.prog 53 #[.string s, .int .i64 a] w fun e w' => e = .returned ans ∧ Below w.heap.size w w' := by
  have hl : (s.data.toList.drop a).length = s.size - a := by rw [List.length_drop, size_toList]
  have HL := Lib.hid hl
  have HN := Lib.hid hn
  have H1 := Lib.hid h1
  have H2 := Lib.hid h2
  have U := fun w => RParse_any q w (by omega)
  rw [hV, hE] at U
  have U := Lib.hid U
  clear hl hn h1 h2 hV hE
  go_enter Tryz.func53, Tryz.ntmps53
  go_wp2_with fail
  go_loop [7] (fun i => ∃ k : Nat, a + k ≤ s.size ∧ i = .int .i64 k ∧ Hid (((s.data.toList.drop a).take k).all digitB = true)) (fun i => s.size - (intOf i).toNat)
  case atStart => exact ⟨0, by omega, rfl, by simp [Hid]⟩
  case round =>
    obtain ⟨k, hk, rfl, hall⟩ := hrel
    have stop : ∀ (hx : s.size ≤ a + k ∨ ∃ c, (s.data.toList.drop a)[k]? = some c ∧ digitB c = false), k = n := by
      intro hx
      rw [← HN.out]
      refine (takeWhile_upto (p := digitB) (by rw [HL.out]; omega) hall.out ?_).symm
      rcases hx with h | h
      · exact .inl (by rw [HL.out]; omega)
      · exact .inr h
    have ST := Lib.hid stop
    clear stop
    by_cases hlt : a + k < s.size
    · have hget := Lib.hid (drop_at hlt)
      have q1 : decide ((a : Int) + (k : Int) < (s.size : Int)) = true := decide_eq_true (by omega)
      have D := Ldigit_any s[a + k]
      cases hD : digitB s[a + k] with
      | true =>
        rw [hD] at D
        have D := Lib.hid D
        have R := Lib.hid (all_snoc hall.out hget.out hD)
        go_wp2_with (go_at_call 52; refine (D.out _).mono ?_; rintro e w1 ⟨rfl, hq⟩; obtain rfl := hq.symm)
        go_round
        case rel => exact ⟨k + 1, by omega, by go_num, R⟩
        case measure => simp [intOf]; omega
      | false =>
        obtain rfl := ST.out (.inr ⟨_, hget.out, hD⟩)
        rw [hD] at D
        have D := Lib.hid D
        have L := Lletter_any s[a + k]
        by_cases h4 : E = 4
        · have hb := Lib.hid (H1.out (.inl h4))
          have e4 : (E == 4) = true := beq_iff_eq.2 h4
          clear h4
          go_wp2_with (first
            | (go_at_call 52; refine (D.out _).mono ?_; rintro e w1 ⟨rfl, hq⟩; obtain rfl := hq.symm)
            | (go_at_call 74; refine (U.out _).mono ?_; rintro e w1 ⟨rfl, hq⟩; obtain rfl := hq.symm))
          refine ret_tok_tmp2 rfl rfl (v0 := .int .i64 0) (v1 := .string ⟨#[]⟩) (v2 := .int .i64 0) (v3 := .int .i64 0) (by simp [go_sem]) (by simp [go_sem]) (by simp [go_sem]) (by simp [go_sem]) rfl ?_
          exact ⟨ret_eq hb.out.symm, (Below.refl _ _).alloc (Nat.le_refl _) _⟩
        · have e4 : (E == 4) = false := beq_eq_false_iff_ne.2 h4
          cases hL : letterB s[a + k] with
          | true =>
            rw [hL] at L
            have L := Lib.hid L
            have hb := Lib.hid (H1.out (.inr ⟨_, hget.out, hL⟩))
            go_wp2_with (first
              | (go_at_call 52; refine (D.out _).mono ?_; rintro e w1 ⟨rfl, hq⟩; obtain rfl := hq.symm)
              | (go_at_call 50; refine (L.out _).mono ?_; rintro e w1 ⟨rfl, hq⟩; obtain rfl := hq.symm)
              | (go_at_call 74; refine (U.out _).mono ?_; rintro e w1 ⟨rfl, hq⟩; obtain rfl := hq.symm))
            refine ret_tok_tmp2 rfl rfl (v0 := .int .i64 0) (v1 := .string ⟨#[]⟩) (v2 := .int .i64 0) (v3 := .int .i64 0) (by simp [go_sem]) (by simp [go_sem]) (by simp [go_sem]) (by simp [go_sem]) rfl ?_
            exact ⟨ret_eq hb.out.symm, (Below.refl _ _).alloc (Nat.le_refl _) _⟩
          | false =>
            rw [hL] at L
            have L := Lib.hid L
            have hb := Lib.hid (H2.out (fun h => by
              rcases h with h | ⟨c, hc, h⟩
              · exact h4 h
              · rw [hget.out] at hc; cases hc; rw [hL] at h; cases h))
            go_wp2_with (first
              | (go_at_call 52; refine (D.out _).mono ?_; rintro e w1 ⟨rfl, hq⟩; obtain rfl := hq.symm)
              | (go_at_call 50; refine (L.out _).mono ?_; rintro e w1 ⟨rfl, hq⟩; obtain rfl := hq.symm)
              | (go_at_call 74; refine (U.out _).mono ?_; rintro e w1 ⟨rfl, hq⟩; obtain rfl := hq.symm))
            refine ret_tok_tmp2 rfl rfl (v0 := .int .i64 2) (v1 := .string q) (v2 := .int .i64 v) (v3 := .int .i64 0) (by simp [go_sem]) (by simp [go_sem]) (by simp [go_sem]) (by simp [go_sem]) rfl ?_
            exact ⟨ret_eq hb.out.symm, (Below.refl _ _).alloc (Nat.le_refl _) _⟩
    · obtain rfl := ST.out (.inl (by omega))
      have q1 : decide ((a : Int) + (k : Int) < (s.size : Int)) = false := decide_eq_false (by omega)
      have hno : ¬ ∃ c, (s.data.toList.drop a)[k]? = some c ∧ letterB c = true := by
        rintro ⟨c, hc, _⟩
        rw [List.getElem?_eq_none (by rw [HL.out]; omega)] at hc; cases hc
      by_cases h4 : E = 4
      · have hb := Lib.hid (H1.out (.inl h4))
        have e4 : (E == 4) = true := beq_iff_eq.2 h4
        clear h4 hno
        go_wp2_with (go_at_call 74; refine (U.out _).mono ?_; rintro e w1 ⟨rfl, hq⟩; obtain rfl := hq.symm)
        refine ret_tok_tmp2 rfl rfl (v0 := .int .i64 0) (v1 := .string ⟨#[]⟩) (v2 := .int .i64 0) (v3 := .int .i64 0) (by simp [go_sem]) (by simp [go_sem]) (by simp [go_sem]) (by simp [go_sem]) rfl ?_
        exact ⟨ret_eq hb.out.symm, (Below.refl _ _).alloc (Nat.le_refl _) _⟩
      · have e4 : (E == 4) = false := beq_eq_false_iff_ne.2 h4
        have hb := Lib.hid (H2.out (fun h => h.elim h4 hno))
        clear hno
        go_wp2_with (go_at_call 74; refine (U.out _).mono ?_; rintro e w1 ⟨rfl, hq⟩; obtain rfl := hq.symm)
        refine ret_tok_tmp2 rfl rfl (v0 := .int .i64 2) (v1 := .string q) (v2 := .int .i64 v) (v3 := .int .i64 0) (by simp [go_sem]) (by simp [go_sem]) (by simp [go_sem]) (by simp [go_sem]) rfl ?_
        exact ⟨ret_eq hb.out.symm, (Below.refl _ _).alloc (Nat.le_refl _) _⟩
/-- tallowref04.number. -/
theorem Lnumber_any (s : ByteArray) (a : Nat) (w : World) (hs : s.size ≤ 1048576) (ha : a < s.size) (hd : digitB s[a] = true) :
    Calls Tryz.prog 53 #[.string s, .int .i64 a] w (GivesW (intW ((s.data.toList.drop a).takeWhile nameB)) w) := by
  have hc : s.data.toList.drop a = s[a] :: s.data.toList.drop (a + 1) := drop_cons (byte_at ha)
  have hlen : (s.data.toList.drop a).length = s.size - a := by rw [List.length_drop, size_toList]
  obtain ⟨n, hn⟩ : ∃ n, ((s.data.toList.drop a).takeWhile digitB).length = n := ⟨_, rfl⟩
  have hle : a + n ≤ s.size := by have := takeWhile_le digitB (s.data.toList.drop a); omega
  have hqs : (s.extract a (a + n)).size ≤ 1048576 := by rw [← size_toList, extract_at, List.length_take]; omega
  have ex : (s.extract a (a + n)).data.toList = (s.data.toList.drop a).takeWhile digitB := by
    rw [extract_at, ← hn]; exact (List.prefix_iff_eq_take.1 (List.takeWhile_prefix _)).symm
  have hh : (s.data.toList.drop a).head? = some s[a] := by rw [hc]; rfl
  by_cases hbad : parseE (s.extract a (a + n)).data.toList = 4 ∨ ∃ c, (s.data.toList.drop a)[n]? = some c ∧ letterB c = true
  · have e : intW ((s.data.toList.drop a).takeWhile nameB) = badW 14 := by
      by_cases hl : ∃ c, (s.data.toList.drop a)[n]? = some c ∧ nameB c = true
      · obtain ⟨c, h1, h2⟩ := hl
        exact int_letter (c := c) hh hd (by rw [hn, List.head?_drop]; exact h1) h2
      · have e4 := hbad.resolve_right (fun ⟨c, h1, h2⟩ => hl ⟨c, h1, by unfold nameB; rw [h2]; rfl⟩)
        have ew : (s.data.toList.drop a).takeWhile nameB = (s.data.toList.drop a).takeWhile digitB := by
          cases hq : (s.data.toList.drop a)[n]? with
          | none => exact takeWhile_all (by rw [hn]; exact List.drop_eq_nil_of_le (List.getElem?_eq_none_iff.1 hq))
          | some c => exact takeWhile_name (c := c) (by rw [hn, List.head?_drop]; exact hq) (by cases g : nameB c with | false => rfl | true => exact absurd ⟨c, hq, g⟩ hl)
        rw [ew, ← ex]
        unfold intW
        rw [if_neg (by rw [e4]; decide), e4]; rfl
    rw [e]
    refine (Lnumber_all s a n w hs ha hn hle _ rfl hqs _ rfl _ rfl _ (fun _ => rfl) (fun h => absurd hbad h)).mono ?_
    rintro e w' ⟨rfl, hb⟩
    exact bad_gives (by decide) hb
  · have hl : ¬ ∃ c, (s.data.toList.drop a)[n]? = some c ∧ nameB c = true := by
      rintro ⟨c, h1, h2⟩
      unfold nameB at h2
      rcases Bool.or_eq_true_iff.1 h2 with g | g
      · exact hbad (.inr ⟨c, h1, g⟩)
      · have e2 : (s.data.toList.drop a).takeWhile digitB = (s.data.toList.drop a).takeWhile digitB ++ ((s.data.toList.drop a).drop n).takeWhile digitB := by
          have e : s.data.toList.drop a = (s.data.toList.drop a).takeWhile digitB ++ (s.data.toList.drop a).drop n := by
            conv => lhs; rw [← List.take_append_drop n (s.data.toList.drop a)]
            rw [← hn, ← List.prefix_iff_eq_take.1 (List.takeWhile_prefix _)]
          conv => lhs; rw [e]
          rw [List.takeWhile_append_of_pos (fun x hx => mem_tw hx)]
        have h3 := congrArg List.length e2
        rw [List.length_append, drop_cons h1, List.takeWhile_cons, g] at h3
        simp at h3
    have ew : (s.data.toList.drop a).takeWhile nameB = (s.data.toList.drop a).takeWhile digitB := by
      cases hq : (s.data.toList.drop a)[n]? with
      | none => exact takeWhile_all (by rw [hn]; exact List.drop_eq_nil_of_le (List.getElem?_eq_none_iff.1 hq))
      | some c => exact takeWhile_name (c := c) (by rw [hn, List.head?_drop]; exact hq) (by cases g : nameB c with | false => rfl | true => exact absurd ⟨c, hq, g⟩ hl)
    rw [ew]
    refine (Lnumber_all s a n w hs ha hn hle _ rfl hqs _ rfl _ rfl _ (fun h => absurd h hbad) (fun _ => rfl)).mono ?_
    rintro e w' ⟨rfl, hb⟩
    unfold intW
    rw [ex] at hbad ⊢
    by_cases h0 : parseE ((s.data.toList.drop a).takeWhile digitB) = 0
    · rw [if_pos h0, h0]
      exact ⟨_, _, _, _, rfl, fun _ => ⟨rfl, by rw [← ex], rfl, by rw [hn]⟩, hb⟩
    · rw [if_neg h0]
      have h15 := (parse_none h0).2.resolve_left (fun h => hbad (.inl h))
      rw [h15]
      exact bad_gives (by decide) hb
end Go.Proofs.YteoccfmhpakplaaGreatDoor
