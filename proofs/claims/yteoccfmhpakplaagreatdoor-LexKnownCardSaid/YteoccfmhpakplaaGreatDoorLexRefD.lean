/- The document's own word, whatever begins at a place. -/
import Derived.Test.YteoccfmhpakplaaGreatDoorLexRefC
namespace Go.Proofs.YteoccfmhpakplaaGreatDoor
set_option maxRecDepth 20000
open Go.RowKit

theorem letter_of {c : UInt8} (h1 : digitB c = false) (h2 : nameB c = true) : letterB c = true := by
  unfold nameB at h2; rw [h1, Bool.or_false] at h2; exact h2
theorem not_letter {c : UInt8} (h : digitB c = true) : letterB c = false := by
  have h := digitB_iff.1 h
  unfold letterB
  rw [Bool.eq_false_iff]
  intro g
  simp at g
  omega
theorem letter_not {c : UInt8} (h : nameB c = false) : letterB c = false := by
  unfold nameB at h
  exact (Bool.or_eq_false_iff.1 h).1
set_option maxHeartbeats 2000000 in
theorem Lword_long (s : ByteArray) (a n : Nat) (w : World) (hs : s.size ≤ 1048576) (ha : a < s.size) (hL : letterB s[a] = true) (hn : ((s.data.toList.drop a).takeWhile nameB).length = n) (h24 : 24 < n) :
    Calls Tryz.prog 26 #[.string s, .int .i64 a] w (GivesW (badW 14) w) := by
  have L := Lletter_any s[a]
  rw [hL] at L
  have L := Lib.hid L
  have R := fun w => Lrun_any s a w hs (by omega)
  rw [hn] at R
  have R := Lib.hid R
  have i0 := index_at s a ha
  go_enter Tryz.func26, Tryz.ntmps26
  go_wp2_with (first
    | (go_at_call 50; refine (L.out _).mono ?_; rintro e w1 ⟨rfl, hq⟩; obtain rfl := hq.symm)
    | (go_at_call 51; refine (R.out _).mono ?_; rintro e w1 ⟨rfl, hq⟩; obtain rfl := hq.symm))
  refine ret_tok_tmp2 rfl rfl (v0 := .int .i64 0) (v1 := .string ⟨#[]⟩) (v2 := .int .i64 0) (v3 := .int .i64 0) (by simp [go_sem]) (by simp [go_sem]) (by simp [go_sem]) (by simp [go_sem]) rfl ?_
  exact bad_gives (by decide) ((Below.refl _ _).alloc (Nat.le_refl _) _)
set_option maxHeartbeats 2000000 in
theorem Lword_name (s : ByteArray) (a n : Nat) (w : World) (hs : s.size ≤ 1048576) (ha : a < s.size) (hL : letterB s[a] = true) (hn : ((s.data.toList.drop a).takeWhile nameB).length = n) (h24 : n ≤ 24) (hle : a + n ≤ s.size) (q : ByteArray) (hq : s.extract a (a + n) = q) (b : Bool) (hb : reservedB q.data.toList = b) :
    Calls Tryz.prog 26 #[.string s, .int .i64 a] w fun e w' => e = .returned (.tuple #[.agg (tokV (if b then 4 else 1) q 0 0), .int .i64 n, .int .i64 0]) ∧ Below w.heap.size w w' := by
  have L := Lletter_any s[a]
  rw [hL] at L
  have L := Lib.hid L
  have R := fun w => Lrun_any s a w hs (by omega)
  rw [hn] at R
  have R := Lib.hid R
  have V := LReserved_any q
  rw [hb] at V
  have V := Lib.hid V
  have i0 := index_at s a ha
  cases b with
  | true =>
    go_enter Tryz.func26, Tryz.ntmps26
    go_wp2_with (first
      | (go_at_call 50; refine (L.out _).mono ?_; rintro e w1 ⟨rfl, hq⟩; obtain rfl := hq.symm)
      | (go_at_call 51; refine (R.out _).mono ?_; rintro e w1 ⟨rfl, hq⟩; obtain rfl := hq.symm)
      | (go_at_call 15; refine (V.out _).mono ?_; rintro e w2 ⟨rfl, hb2⟩; obtain ⟨p0, p1, p2, p3, d0, d1, d2, d3⟩ := token_mine hb2; have B2 := Lib.hid (below_box hb2); clear hb2))
    refine ret_tok_tmp2 rfl rfl (v0 := .int .i64 4) (v1 := .string q) (v2 := .int .i64 0) (v3 := .int .i64 0) (by simp [go_sem, p0]) (by simp [go_sem, p1]) (by simp [go_sem, p2]) (by simp [go_sem, p3]) rfl ?_
    exact ⟨rfl, setTok B2.out (Nat.le_refl _) _ _ _ _⟩
  | false =>
    go_enter Tryz.func26, Tryz.ntmps26
    go_wp2_with (first
      | (go_at_call 50; refine (L.out _).mono ?_; rintro e w1 ⟨rfl, hq⟩; obtain rfl := hq.symm)
      | (go_at_call 51; refine (R.out _).mono ?_; rintro e w1 ⟨rfl, hq⟩; obtain rfl := hq.symm)
      | (go_at_call 15; refine (V.out _).mono ?_; rintro e w2 ⟨rfl, hb2⟩; obtain ⟨p0, p1, p2, p3, d0, d1, d2, d3⟩ := token_mine hb2; have B2 := Lib.hid (below_box hb2); clear hb2))
    refine ret_tok_tmp2 rfl rfl (v0 := .int .i64 1) (v1 := .string q) (v2 := .int .i64 0) (v3 := .int .i64 0) (by simp [go_sem, p0]) (by simp [go_sem, p1]) (by simp [go_sem, p2]) (by simp [go_sem, p3]) rfl ?_
    exact ⟨rfl, setTok B2.out (Nat.le_refl _) _ _ _ _⟩
set_option maxHeartbeats 2000000 in
theorem Lword_int (s : ByteArray) (a : Nat) (w : World) (ha : a < s.size) (hL : letterB s[a] = false) (hD : digitB s[a] = true) (W : Word)
    (N : Hid (∀ w, Calls Tryz.prog 53 #[.string s, .int .i64 a] w (GivesW W w))) :
    Calls Tryz.prog 26 #[.string s, .int .i64 a] w (GivesW W w) := by
  have L := Lletter_any s[a]
  rw [hL] at L
  have L := Lib.hid L
  have D := Ldigit_any s[a]
  rw [hD] at D
  have D := Lib.hid D
  have i0 := index_at s a ha
  go_enter Tryz.func26, Tryz.ntmps26
  go_wp2_with (first
    | (go_at_call 50; refine (L.out _).mono ?_; rintro e w1 ⟨rfl, hq⟩; obtain rfl := hq.symm)
    | (go_at_call 52; refine (D.out _).mono ?_; rintro e w1 ⟨rfl, hq⟩; obtain rfl := hq.symm)
    | (go_at_call 53; refine (N.out _).mono ?_; rintro e w2 ⟨k, x, n, z, rfl, hW, hb2⟩; obtain ⟨p0, p1, p2, p3, d0, d1, d2, d3⟩ := token_mine hb2; have B2 := Lib.hid (below_box hb2); have HW := Lib.hid hW; clear hb2 hW))
  refine ret_tok_tmp2 rfl rfl (v0 := .int .i64 k) (v1 := .string x) (v2 := .int .i64 n) (v3 := .int .i64 0) (by simp [go_sem, p0]) (by simp [go_sem, p1]) (by simp [go_sem, p2]) (by simp [go_sem, p3]) rfl ?_
  exact ⟨k, x, n, z, rfl, HW.out, setTok B2.out (Nat.le_refl _) _ _ _ _⟩
set_option maxHeartbeats 2000000 in
theorem Lword_str (s : ByteArray) (a : Nat) (w : World) (ha : a < s.size) (hL : letterB s[a] = false) (hD : digitB s[a] = false) (h34 : s[a] = 34) (W : Word)
    (N : Hid (∀ w, Calls Tryz.prog 54 #[.string s, .int .i64 a] w (GivesW W w))) :
    Calls Tryz.prog 26 #[.string s, .int .i64 a] w (GivesW W w) := by
  have L := Lletter_any s[a]
  rw [hL] at L
  have L := Lib.hid L
  have D := Ldigit_any s[a]
  rw [hD] at D
  have D := Lib.hid D
  have i0 := index_at s a ha
  have q34 : ((s[a].toNat : Int) == 34) = true := beq_byte h34
  clear h34
  go_enter Tryz.func26, Tryz.ntmps26
  go_wp2_with (first
    | (go_at_call 50; refine (L.out _).mono ?_; rintro e w1 ⟨rfl, hq⟩; obtain rfl := hq.symm)
    | (go_at_call 52; refine (D.out _).mono ?_; rintro e w1 ⟨rfl, hq⟩; obtain rfl := hq.symm)
    | (go_at_call 54; refine (N.out _).mono ?_; rintro e w2 ⟨k, x, n, z, rfl, hW, hb2⟩; obtain ⟨p0, p1, p2, p3, d0, d1, d2, d3⟩ := token_mine hb2; have B2 := Lib.hid (below_box hb2); have HW := Lib.hid hW; clear hb2 hW))
  refine ret_tok_tmp2 rfl rfl (v0 := .int .i64 k) (v1 := .string x) (v2 := .int .i64 n) (v3 := .int .i64 0) (by simp [go_sem, p0]) (by simp [go_sem, p1]) (by simp [go_sem, p2]) (by simp [go_sem, p3]) rfl ?_
  exact ⟨k, x, n, z, rfl, HW.out, setTok B2.out (Nat.le_refl _) _ _ _ _⟩
set_option maxHeartbeats 2000000 in
theorem Lword_sign (s : ByteArray) (a n : Nat) (w : World) (hs : s.size ≤ 1048576) (ha : a < s.size) (hL : letterB s[a] = false) (hD : digitB s[a] = false) (h34 : s[a] ≠ 34) (hn : (signL (s.data.toList.drop a)).length = n) (hle : a + n ≤ s.size) (q : ByteArray) (hq : s.extract a (a + n) = q) (W : Word)
    (h0 : n = 0 → W = badW 14) (h1 : n ≠ 0 → W = ⟨0, 4, q.data.toList, 0, n⟩) :
    Calls Tryz.prog 26 #[.string s, .int .i64 a] w (GivesW W w) := by
  have L := Lletter_any s[a]
  rw [hL] at L
  have L := Lib.hid L
  have D := Ldigit_any s[a]
  rw [hD] at D
  have D := Lib.hid D
  have G := fun w => Lsign_any s a w hs ha
  rw [hn] at G
  have G := Lib.hid G
  have i0 := index_at s a ha
  have q34 : ((s[a].toNat : Int) == 34) = false := bne_byte h34
  clear hn
  by_cases hn0 : n = 0
  · rw [h0 hn0]
    have n0 : ((n : Int) == 0) = true := beq_iff_eq.2 (by omega)
    clear h0 h1 hn0
    go_enter Tryz.func26, Tryz.ntmps26
    go_wp2_with (first
      | (go_at_call 50; refine (L.out _).mono ?_; rintro e w1 ⟨rfl, hq⟩; obtain rfl := hq.symm)
      | (go_at_call 52; refine (D.out _).mono ?_; rintro e w1 ⟨rfl, hq⟩; obtain rfl := hq.symm)
      | (go_at_call 55; refine (G.out _).mono ?_; rintro e w2 ⟨rfl, hb2⟩; obtain ⟨p0, p1, p2, p3, d0, d1, d2, d3⟩ := token_mine hb2; have B2 := Lib.hid (below_box hb2); clear hb2))
    refine ret_tok_tmp2 rfl rfl (v0 := .int .i64 0) (v1 := .string ⟨#[]⟩) (v2 := .int .i64 0) (v3 := .int .i64 0) (by simp [go_sem, p0]) (by simp [go_sem, p1]) (by simp [go_sem, p2]) (by simp [go_sem, p3]) rfl ?_
    exact bad_gives (by decide) (setTok B2.out (Nat.le_refl _) _ _ _ _)
  · rw [h1 hn0]
    have n0 : ((n : Int) == 0) = false := beq_eq_false_iff_ne.2 (by omega)
    clear h0 h1 hn0
    go_enter Tryz.func26, Tryz.ntmps26
    go_wp2_with (first
      | (go_at_call 50; refine (L.out _).mono ?_; rintro e w1 ⟨rfl, hq⟩; obtain rfl := hq.symm)
      | (go_at_call 52; refine (D.out _).mono ?_; rintro e w1 ⟨rfl, hq⟩; obtain rfl := hq.symm)
      | (go_at_call 55; refine (G.out _).mono ?_; rintro e w2 ⟨rfl, hb2⟩; obtain ⟨p0, p1, p2, p3, d0, d1, d2, d3⟩ := token_mine hb2; have B2 := Lib.hid (below_box hb2); clear hb2))
    refine ret_tok_tmp2 rfl rfl (v0 := .int .i64 4) (v1 := .string q) (v2 := .int .i64 0) (v3 := .int .i64 0) (by simp [go_sem, p0]) (by simp [go_sem, p1]) (by simp [go_sem, p2]) (by simp [go_sem, p3]) rfl ?_
    exact ⟨4, q, 0, n, rfl, fun _ => ⟨rfl, rfl, rfl, rfl⟩, setTok B2.out (Nat.le_refl _) _ _ _ _⟩
/-- tallowref04.word. -/
theorem Lword_any (s : ByteArray) (a : Nat) (w : World) (hs : s.size ≤ 1048576) (ha : a < s.size) (hk : kindL (s.data.toList.drop a) ≠ 0) :
    Calls Tryz.prog 26 #[.string s, .int .i64 a] w (GivesW (wordL (s.data.toList.drop a)) w) := by
  have hc : s.data.toList.drop a = s[a] :: s.data.toList.drop (a + 1) := drop_cons (byte_at ha)
  have hlen : (s.data.toList.drop a).length = s.size - a := by rw [List.length_drop, size_toList]
  have hk2 := kind_cases s[a] (s.data.toList.drop (a + 1))
  rw [← hc] at hk2
  unfold wordL
  rcases hk2 with ⟨_, e⟩ | ⟨_, ⟨h1, e⟩ | ⟨h1, h2, e⟩ | ⟨h1, h2, h3, e⟩ | ⟨h1, h2, h3, e⟩⟩
  · exact absurd e hk
  · rw [e]
    show Calls _ _ _ _ (GivesW (intW (headL 2 (s.data.toList.drop a))) w)
    have eh : headL 2 (s.data.toList.drop a) = (s.data.toList.drop a).takeWhile nameB := by unfold headL; rw [if_pos (by omega)]
    rw [eh]
    exact Lword_int s a w ha (not_letter h1) h1 _ (Lib.hid fun w => Lnumber_any s a w hs ha h1)
  · rw [e]
    show Calls _ _ _ _ (GivesW (nameW (headL 1 (s.data.toList.drop a))) w)
    have eh : headL 1 (s.data.toList.drop a) = (s.data.toList.drop a).takeWhile nameB := by unfold headL; rw [if_pos (by omega)]
    rw [eh]
    obtain ⟨n, hn⟩ : ∃ n, ((s.data.toList.drop a).takeWhile nameB).length = n := ⟨_, rfl⟩
    have hle : a + n ≤ s.size := by have := takeWhile_le nameB (s.data.toList.drop a); omega
    unfold nameW
    by_cases h24 : 24 < n
    · rw [if_pos (by omega)]
      exact Lword_long s a n w hs ha (letter_of h1 h2) hn h24
    · rw [if_neg (by omega)]
      have ex : (s.extract a (a + n)).data.toList = (s.data.toList.drop a).takeWhile nameB := by
        rw [extract_at, ← hn]; exact (List.prefix_iff_eq_take.1 (List.takeWhile_prefix _)).symm
      refine (Lword_name s a n w hs ha (letter_of h1 h2) hn (by omega) hle _ rfl _ rfl).mono ?_
      rintro e w' ⟨rfl, hb⟩
      rw [← ex]
      exact ⟨_, _, _, _, rfl, fun _ => ⟨rfl, rfl, rfl, by show (n : Int) = _; rw [ex, hn]⟩, hb⟩
  · rw [e]
    show Calls _ _ _ _ (GivesW (strW (headL 3 (s.data.toList.drop a))) w)
    have eh : headL 3 (s.data.toList.drop a) = (s.data.toList.drop a).take (quotedN (s.data.toList.drop a)) := by unfold headL; rw [if_neg (by omega), if_pos rfl]
    rw [eh]
    exact Lword_str s a w ha (letter_not h2) h1 h3 _ (Lib.hid fun w => Lstr_any s a w hs ha h3)
  · rw [e]
    show Calls _ _ _ _ (GivesW (signW (headL 4 (s.data.toList.drop a))) w)
    have eh : headL 4 (s.data.toList.drop a) = signL (s.data.toList.drop a) := by unfold headL; rw [if_neg (by omega), if_neg (by omega)]
    have ht := head_take 4 (s.data.toList.drop a)
    rw [eh] at ht ⊢
    obtain ⟨n, hn⟩ : ∃ n, (signL (s.data.toList.drop a)).length = n := ⟨_, rfl⟩
    have hle2 : n ≤ (s.data.toList.drop a).length := by rw [← hn, ← ht, List.length_take]; omega
    have ex : (s.extract a (a + n)).data.toList = signL (s.data.toList.drop a) := by rw [extract_at, ← hn]; exact ht
    refine Lword_sign s a n w hs ha (letter_not h2) h1 h3 hn (by omega) _ rfl _ (fun h0 => ?_) (fun h0 => ?_)
    · unfold signW; rw [if_pos (List.length_eq_zero_iff.1 (by omega))]
    · unfold signW; rw [if_neg (fun e => h0 (by rw [← hn, e]; rfl)), ex, hn]
end Go.Proofs.YteoccfmhpakplaaGreatDoor
