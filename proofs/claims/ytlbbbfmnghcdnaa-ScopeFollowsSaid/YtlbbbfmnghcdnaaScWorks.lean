/- works: the laws' closed part is true. -/
import Derived.Test.YtlbbbfmnghcdnaaScMake
namespace Go.Proofs.Ytlbbbfmnghcdnaa
set_option maxRecDepth 20000
open Go.RowKit Go.Maps

theorem reads_nil {w : World} {v : Value} (h : Reads w v 0 []) : ∃ A c, v = .slice A 0 c := by
  obtain ⟨A, c, rfl, _⟩ := h
  exact ⟨A, c, rfl⟩
theorem reads_cons {w : World} {v x : Value} {n : Nat} {xs : List Value} (h : Reads w v n (x :: xs)) : ∃ b c, v = .slice (some ⟨b, 0, none⟩) n c ∧ ∀ j u, (x :: xs)[j]? = some u → w.cell? ⟨b, j, none⟩ = some u := by
  obtain ⟨A, c, rfl, h⟩ := h
  obtain ⟨b, rfl, _⟩ := h 0 x rfl
  refine ⟨b, c, rfl, fun j u hu => ?_⟩
  obtain ⟨b', e, hc⟩ := h j u hu
  cases e
  exact hc
theorem wf_works : wfT worksT := by
  simp [worksT, treeL, wfT, locT, backT, funT, nmT, exsB, stsB]
theorem sts_works : stsB worksT = true := rfl
theorem sz_works : szT worksT ≤ 1099511627776 := by decide
/-- What a scope of two functions looks like in memory, cell by cell. -/
theorem works_cells {w : World} {v : Value} (h : ScsAt w v [⟨[⟨[97], 0, true⟩], [0], [], []⟩, ⟨[⟨[120], 0, false⟩], [0], [⟨2, 0, none⟩, ⟨1, 0, some 0⟩, ⟨3, 0, none⟩], [⟨true, 0, [97]⟩]⟩]) :
    ∃ b c A1 c1 D1 e1 P1 f1 U2 c2 D2 e2 P2 f2, v = .slice (some ⟨b, 0, none⟩) 2 c ∧
      w.cell? ⟨b, 0, none⟩ = some (.slice A1 0 c1) ∧ w.cell? ⟨b, 1, none⟩ = some (.slice (some ⟨D1, 0, none⟩) 1 e1) ∧ w.cell? ⟨b, 2, none⟩ = some (.slice P1 0 f1) ∧
      w.cell? ⟨b, 3, none⟩ = some (.slice (some ⟨U2, 0, none⟩) 3 c2) ∧ w.cell? ⟨b, 4, none⟩ = some (.slice (some ⟨D2, 0, none⟩) 1 e2) ∧ w.cell? ⟨b, 5, none⟩ = some (.slice (some ⟨P2, 0, none⟩) 1 f2) ∧
      w.cell? ⟨D1, 0, none⟩ = some (.int .i64 0) ∧ w.cell? ⟨D1, 1, none⟩ = some (.bool true) ∧
      w.cell? ⟨U2, 0, none⟩ = some (.int .i64 2) ∧ w.cell? ⟨U2, 1, none⟩ = some (.int .i64 0) ∧ w.cell? ⟨U2, 2, none⟩ = some (.bool false) ∧
      w.cell? ⟨U2, 3, none⟩ = some (.int .i64 1) ∧ w.cell? ⟨U2, 4, none⟩ = some (.int .i64 0) ∧ w.cell? ⟨U2, 5, none⟩ = some (.bool false) ∧
      w.cell? ⟨U2, 6, none⟩ = some (.int .i64 3) ∧ w.cell? ⟨U2, 7, none⟩ = some (.int .i64 0) ∧ w.cell? ⟨U2, 8, none⟩ = some (.bool false) ∧
      w.cell? ⟨P2, 0, none⟩ = some (.bool true) ∧ w.cell? ⟨P2, 1, none⟩ = some (.int .i64 0) := by
  obtain ⟨ts, hl, hr, hel⟩ := h
  rcases ts with _ | ⟨⟨u1, d1, p1⟩, _ | ⟨⟨u2, d2, p2⟩, _ | ⟨_, _⟩⟩⟩
  · simp at hl
  · simp at hl
  · have E1 := hel 0 _ _ rfl rfl
    have E2 := hel 1 _ _ rfl rfl
    obtain ⟨b, c, rfl, hb⟩ := reads_cons (x := u1) (xs := [d1, p1, u2, d2, p2]) hr
    obtain ⟨A1, c1, hA1⟩ := reads_nil (v := u1) E1.u
    obtain ⟨D1, e1, hD1, hd1⟩ := reads_cons (v := d1) (x := iV 0) (xs := [.bool true]) E1.d
    obtain ⟨P1, f1, hP1⟩ := reads_nil (v := p1) E1.p
    obtain ⟨U2, c2, hU2, hu2⟩ := reads_cons (v := u2) (x := iV 2) (xs := [iV 0, .bool false, iV 1, iV 0, .bool false, iV 3, iV 0, .bool false]) E2.u
    obtain ⟨D2, e2, hD2, hd2⟩ := reads_cons (v := d2) (x := iV 0) (xs := [.bool false]) E2.d
    obtain ⟨P2, f2, hP2, hp2⟩ := reads_cons (v := p2) (x := .bool true) (xs := [iV 0]) E2.p
    subst hA1 hD1 hP1 hU2 hD2 hP2
    exact ⟨b, c, A1, c1, D1, e1, P1, f1, U2, c2, D2, e2, P2, f2, rfl, hb 0 _ rfl, hb 1 _ rfl, hb 2 _ rfl, hb 3 _ rfl, hb 4 _ rfl, hb 5 _ rfl, hd1 0 _ rfl, hd1 1 _ rfl,
      hu2 0 _ rfl, hu2 1 _ rfl, hu2 2 _ rfl, hu2 3 _ rfl, hu2 4 _ rfl, hu2 5 _ rfl, hu2 6 _ rfl, hu2 7 _ rfl, hu2 8 _ rfl, hp2 0 _ rfl, hp2 1 _ rfl⟩
  · simp at hl
theorem two_at {w : World} {a b : Tree} {x y : Value} (h1 : AtB w a x) (h2 : AtB w b y) : ∀ (j : Nat) (t : Tree) (v : Value), [a, b][j]? = some t → [x, y][j]? = some v → AtB w t v := by
  intro j t v ht hv
  rcases j with _ | _ | j <;> simp at ht hv
  · subst ht hv; exact h1
  · subst ht hv; exact h2
theorem three_at {w : World} {a b c : Tree} {x y z : Value} (h1 : AtB w a x) (h2 : AtB w b y) (h3 : AtB w c z) : ∀ (j : Nat) (t : Tree) (v : Value), [a, b, c][j]? = some t → [x, y, z][j]? = some v → AtB w t v := by
  intro j t v ht hv
  rcases j with _ | _ | _ | j <;> simp at ht hv
  · subst ht hv; exact h1
  · subst ht hv; exact h2
  · subst ht hv; exact h3
theorem resolve_works (w : World) {v : Value} (h : SlB w worksT v) : Calls Try.prog 9 #[v] w fun e w' => Below w.heap.size w w' ∧ ∃ v, e = .returned (.tuple #[v, .nilIface]) ∧ ScsAt w' v [⟨[⟨[97], 0, true⟩], [0], [], []⟩, ⟨[⟨[120], 0, false⟩], [0], [⟨2, 0, none⟩, ⟨1, 0, some 0⟩, ⟨3, 0, none⟩], [⟨true, 0, [97]⟩]⟩] := by
  have C := Resolve_any w worksT v h wf_works sts_works sz_works (by rw [works_res]; intro e; cases e)
  rw [works_res] at C
  exact C
set_option maxHeartbeats 4000000 in
theorem works_true (w : World) : Calls Try.prog 10 #[] w fun e w' => e = .returned (.bool true) ∧ Below w.heap.size w w' := by
  have LA : ∀ w, Calls Try.prog 29 #[.string { data := #[97] }, .pointer none] w fun e w' => ∃ v, e = .returned (pV v) ∧ AtB w' (locT [97]) (pV v) ∧ Below w.heap.size w w' := local_any [97]
  have NA : ∀ w, Calls Try.prog 28 #[.string { data := #[97] }] w fun e w' => ∃ v, e = .returned (pV v) ∧ AtB w' (nmT [97]) (pV v) ∧ Below w.heap.size w w' := name_any [97]
  have NX : ∀ w, Calls Try.prog 28 #[.string { data := #[120] }] w fun e w' => ∃ v, e = .returned (pV v) ∧ AtB w' (nmT [120]) (pV v) ∧ Below w.heap.size w w' := name_any [120]
  have NG : ∀ w, Calls Try.prog 28 #[.string { data := #[103] }] w fun e w' => ∃ v, e = .returned (pV v) ∧ AtB w' (nmT [103]) (pV v) ∧ Below w.heap.size w w' := name_any [103]
  have LA := Lib.hid LA
  have NA := Lib.hid NA
  have NX := Lib.hid NX
  have NG := Lib.hid NG
  go_enter Try.func10, Try.ntmps10
  go_wp2_with (first
    | (go_at_call 29; (with_reducible refine (LA.out _).mono ?_); rintro e w1 ⟨v1, rfl, h1, b1⟩; have H1 := Lib.hid h1; have B1 := Lib.hid b1; clear h1 b1)
    | (go_at_call 28; (with_reducible refine (NA.out _).mono ?_); rintro e w2 ⟨v2, rfl, h2, b2⟩; have H2 := Lib.hid h2; have B2 := Lib.hid (below_then (below_alloc w1 _) b2); have HX2 := Lib.hid ((sl_lit w1 [.tx [120]] [sV [120]] _ rfl (fun j t v ht hv => by rcases j with _ | _ <;> simp at ht hv; subst ht hv; exact rfl) 1 rfl).below b2); clear h2 b2)
    | (go_at_call 27; (with_reducible refine (back_any _ H2.out).mono ?_); rintro e w3 ⟨v3, rfl, h3, b3⟩; have H3 := Lib.hid h3; have B3 := Lib.hid b3; clear H2 h3 b3)
    | (go_at_call 28; (with_reducible refine (NX.out _).mono ?_); rintro e w4 ⟨v4, rfl, h4, b4⟩; have H4 := Lib.hid h4; have B4 := Lib.hid b4; clear h4 b4)
    | (go_at_call 27; (with_reducible refine (back_any _ H4.out).mono ?_); rintro e w5 ⟨v5, rfl, h5, b5⟩; have H5 := Lib.hid h5; have B5 := Lib.hid b5; clear H4 h5 b5)
    | (go_at_call 28; (with_reducible refine (NG.out _).mono ?_); rintro e w6 ⟨v6, rfl, h6, b6⟩; have H6 := Lib.hid h6; have B6 := Lib.hid b6; clear h6 b6)
    | (go_at_call 27; (with_reducible refine (back_any _ H6.out).mono ?_); rintro e w7 ⟨v7, rfl, h7, b7⟩; have B37 := Lib.hid (below_then B4.out (below_then B5.out (below_then B6.out b7))); have HS := Lib.hid (fun T => sl_lit w7 [backT (nmT [97]), backT (nmT [120]), backT (nmT [103])] [pV v3, pV v5, pV v7] T rfl (three_at (H3.out.below B37.out) (H5.out.below (below_then B6.out b7)) h7) 3 rfl); have HX7 := Lib.hid (HX2.out.below (below_then B3.out B37.out)); have H17 := Lib.hid (H1.out.below (below_then B2.out (below_then B3.out B37.out))); have B7 := Lib.hid (below_then B1.out (below_then B2.out (below_then B3.out B37.out))); clear H6 h7 b7 HX2 H1 B1 B2 B3 B4 B5 B6 B37 H3 H5)
    | (go_at_call 30; (with_reducible refine (function_any (ps := [[120]]) (b := [backT (nmT [97]), backT (nmT [120]), backT (nmT [103])]) _ (HX7.out.below (below_alloc _ _)) (by intro A c e; injection e with _ _ e; subst e; decide) (HS.out _)).mono ?_); rintro e w8 ⟨v8, rfl, h8, b8⟩; have H8 := Lib.hid h8; have B78 := Lib.hid (below_then (below_alloc w7 _) b8); clear h8 b8 HX7 HS)
    | (go_at_call 27; (with_reducible refine (back_any _ H8.out).mono ?_); rintro e w9 ⟨v9, rfl, h9, b9⟩; have HT := Lib.hid (fun T => sl_lit w9 [locT [97], backT (funT [[120]] [backT (nmT [97]), backT (nmT [120]), backT (nmT [103])])] [pV v1, pV v9] T rfl (two_at (H17.out.below (below_then B78.out b9)) h9) 2 rfl); have B9 := Lib.hid (below_then B7.out (below_then B78.out b9)); clear H8 h9 b9 H17 B78 B7)
    | (go_at_call 9; (with_reducible refine (resolve_works _ (HT.out _)).mono ?_); rintro e w10 ⟨hb, v, rfl, hs⟩; obtain ⟨b, c, A1, c1, D1, e1, P1, f1, U2, c2, D2, e2, P2, f2, rfl, r0, r1, r2, r3, r4, r5, d0, d1, u0, u1, u2, u3, u4, u5, u6, u7, u8, p0, p1⟩ := works_cells hs; have B10 := Lib.hid (below_then B9.out (below_then (below_alloc w9 _) hb)); clear hb hs HT B9))
  go_ret
  exact ⟨rfl, B10.out⟩
end Go.Proofs.Ytlbbbfmnghcdnaa
