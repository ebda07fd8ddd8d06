/- PoolPlays: whatever numbers are taken and given back, a pool answers as the document's; a copy, too, and goes its own way: for every script (three hundred numbers are looked at). Conditions: none but the form's own reach. -/
import Derived.Test.YtlbbbfmnghcdnaaPoRefT
import Derived.Test.YtlbbbfmnghcdnaaLawPost
import Derived.ProofKit
import Derived.BigQuiet
import Derived.Deep.LoopGhost
import Derived.Deep.DeepCutAuto
namespace Go.Proofs.Ytlbbbfmnghcdnaa.poolPlays
set_option maxRecDepth 20000
open Go.ChangeShapes Go.WideShapes Go.ChangeAt Go.RowKit

/-- A slice of numbers. -/
def IntSl (w : World) (v : Value) (l : List Int) : Prop :=
  ∃ A c, v = .slice A l.length c ∧ l.length ≤ c ∧ c ≤ 9223372036854775807 ∧ (l ≠ [] → ∃ a, A = some a ∧ a.block < w.heap.size ∧ ∀ (i : Nat) (x : Int), l[i]? = some x → w.cell? (a.add i) = some (nV x) ∧ -9223372036854775808 ≤ x ∧ x ≤ 9223372036854775807)
theorem open_is {H : Type} {enc : TypeId × Value → H} {w : World} {base : Nat} {spare : Nat → Bool} {held : Bool} {r : Reach} {b0 : Nat} {v : Value} {d : DataW H} {p : List MemPlace} (hv : Value.okWide Try.prog w r b0 25 v) (h : DataW.Trod enc Try.prog w base spare held 25 v d p) :
    ∃ (A : Option Addr) (c : Nat) (l : List Int), v = .slice A l.length c ∧ IntSl w (.slice A l.length c) l := by
  obtain ⟨a, len, cap, rfl⟩ := okWide_slice Try.underlying25 hv
  obtain ⟨fuel, hf⟩ := h
  rcases Go.ChangeShapes.open_ints Try.underlying25 Try.underlying3 (by kernel_rfl) hf with ⟨hcs, _⟩ | ⟨a', len', cap', zs, hcs, _, hl, hm, hz, _, hcell, hwz⟩
  · simp [Value.cells] at hcs
    obtain ⟨rfl, rfl, rfl⟩ := hcs
    exact ⟨none, 0, [], rfl, none, 0, rfl, Nat.le_refl _, by decide, fun h => absurd rfl h⟩
  · simp [Value.cells] at hcs
    obtain ⟨rfl, rfl, rfl⟩ := hcs
    have hlen : len ≤ zs.length := by rw [hz]; split <;> omega
    have hll : (zs.take len).length = len := by rw [List.length_take]; omega
    refine ⟨some a', cap, zs.take len, by rw [hll], some a', cap, rfl, by rw [hll]; exact hl, by unfold maxLen at hm; omega, fun hne => ?_⟩
    have h0 : 0 < len := by rw [← hll]; exact List.length_pos_iff.2 hne
    refine ⟨a', rfl, ?_, fun i x hx => ?_⟩
    · have := World.block_lt_of_cell? w _ (hcell 0 (by omega))
      rwa [Go.ChangeShapes.block_add] at this
    · have hi : i < len := by
        have := (List.getElem?_eq_some_iff.1 hx).1
        rw [List.length_take] at this; omega
      rw [List.getElem?_take_of_lt hi] at hx
      have hc := hcell i (by omega)
      have e : zs.getD i 0 = x := by rw [List.getD_eq_getElem?_getD, hx]; rfl
      rw [e] at hc
      obtain ⟨b1, b2⟩ := of_wf_i64 (hwz x (List.mem_of_getElem? hx))
      exact ⟨hc, b1, b2⟩
theorem last_same {T : List Nat} {a b : Nat} (h0 : T = [] → a = 0) (h1 : T ≠ [] → a ∈ T) (h2 : ∀ m ∈ T, m ≤ a) (h : (b = 0 ∧ T = []) ∨ (b ∈ T ∧ ∀ m ∈ T, m ≤ b)) : b = a := by
  rcases h with ⟨rfl, h3⟩ | ⟨h3, h4⟩
  · exact (h0 h3).symm
  · have := h2 b h3
    have := h4 a (h1 (by rintro rfl; simp at h3))
    omega
/-- Take of a pool of which a copy was made: the copy is as it was. -/
theorem Take_old {w0 w : World} {lo ps ps' k k' : Nat} {T T' : List Nat} (h0 : PoolAt w0 lo ps k T) (hk : k ≤ 1073741824) (hb : Below w0.heap.size w0 w) (hn : PoolAt w w0.heap.size ps' k' T') :
    Calls Try.prog 13 #[bV ps] w fun e w' => (∃ n : Nat, e = .returned (nV n)) ∧ PoolAt w' w0.heap.size ps' k' T' ∧ Below lo w w' ∧ KeepO w w' := by
  obtain ⟨bx, mb, g, F, off, c, hh, l1, l2, l3, l4⟩ := h0
  obtain ⟨z1, z2, z3, z4⟩ := hh.lts
  have hw := hh.below hb
  have hs := hb.size
  obtain ⟨bx', mb', g', F', off', c', hh', m1, m2, m3, m4⟩ := hn
  obtain ⟨y1, y2, y3, y4⟩ := hh'.lts
  exact (Take_any hw hk).mono fun _ _ ⟨n, F2, off2, c2, he, h1, h2, _⟩ => ⟨⟨n, he⟩, ⟨bx', mb', g', F', off', c', hh'.keep (fun i hi => h2.block i (by omega) (by omega) (by omega) (by omega)), m1, m2, m3, m4⟩, h2.below (by omega) l1 l3 l4, hw.keepO h2⟩
set_option maxHeartbeats 8000000 in
theorem walk (A : Option Addr) (c : Nat) (l : List Int) (w : World) (hb : IntSl w (.slice A l.length c) l) :
    Calls Try.prog 4 #[.slice A l.length c] w fun e w' => e = .returned (.bool true) ∧ Below w.heap.size w w' := by
  have CE : Hid (l ≠ [] → ∃ a, A = some a ∧ a.block < w.heap.size ∧ ∀ (i : Nat) (x : Int), l[i]? = some x → w.cell? (a.add i) = some (nV x) ∧ -9223372036854775808 ≤ x ∧ x ≤ 9223372036854775807) := by
    obtain ⟨A', c', e, _, _, h3⟩ := hb
    injection e with e1 e2 e3
    subst e1
    exact h3
  obtain ⟨len, hl⟩ : ∃ len, len = l.length := ⟨_, rfl⟩
  have hcl : len ≤ 9223372036854775807 := by obtain ⟨A', c', e, h1, h2, _⟩ := hb; omega
  rw [← hl]
  have HL := Lib.hid hl
  clear hb hl
  go_enter Try.func4, Try.ntmps4
  go_wp2_with (first
    | (go_at_call 11; (with_reducible refine (P_New _).mono ?_); rintro e w1 ⟨ps, rfl, h1, b1⟩; have H1 := Lib.hid h1; have B1 := Lib.hid b1; clear h1 b1)
    | (go_at_call 12; (with_reducible refine (R_New _).mono ?_); rintro e w2 ⟨qs, rfl, h2, b2⟩; have R2 := Lib.hid (h2.mono B1.out.size); have H2 := Lib.hid (H1.out.below b2); have B2 := Lib.hid (below_hi B1.out b2); clear h2 b2))
  go_loopg [3, 4, 5] 300 (fun g s3 s4 s5 wr => ∃ (j k ps qs : Nat) (T : List Nat) (r : List Bool), s3 = bV ps ∧ s4 = bV qs ∧ s5 = nV j ∧ j + g = 300 ∧ k ≤ j ∧ r.length ≤ j ∧ Hid (PoolAt wr w.heap.size ps k T) ∧ Hid (RefAt wr w.heap.size qs r) ∧ Hid (SameT T r) ∧ Hid (Below w.heap.size w wr))
  case atStart => exact ⟨0, 0, ps, qs, [], [], rfl, rfl, rfl, rfl, Nat.le_refl _, Nat.le_refl _, H2.out, R2.out, (fun n => by simp : SameT [] []), B2.out⟩
  case round =>
    clear H1 B1 H2 R2 B2
    obtain ⟨j, k, ps, qs, T, r, rfl, rfl, rfl, hj, hk, hr, H, R, S, B⟩ := hrel
    by_cases hlt : j < len ∧ j < 300
    · obtain ⟨hlt1, hlt2⟩ := hlt
      obtain ⟨g, rfl⟩ : ∃ g, gk = g + 1 := ⟨gk - 1, by omega⟩
      have q1 : (j : Int) < (len : Int) := by omega
      have q2 : (j : Int) < 300 := by omega
      obtain ⟨x, hx⟩ : ∃ x, l[j]? = some x := ⟨_, List.getElem?_eq_getElem (by rw [← HL.out]; exact hlt1)⟩
      obtain ⟨a, rfl, ha1, ha2⟩ := CE.out (by intro h; rw [h] at hx; simp at hx)
      obtain ⟨hx1, hx2, hx3⟩ := ha2 j x hx
      have z1 : wr.cell? (a.add j) = some (nV x) := (B.out.cell (by rw [block_of_addB]; exact ha1)).trans hx1
      clear hx hx1 ha2
      have qk : k ≤ 1073741824 := by omega
      have qr : r.length ≤ 1073741824 := by omega
      go_upto_if 27 with fail
      go_cut [3, 4] (fun s3 s4 wx => ∃ (k ps qs : Nat) (T : List Nat) (r : List Bool), s3 = bV ps ∧ s4 = bV qs ∧ k ≤ j + 1 ∧ r.length ≤ j + 1 ∧ Hid (PoolAt wx w.heap.size ps k T) ∧ Hid (RefAt wx w.heap.size qs r) ∧ Hid (SameT T r) ∧ Hid (Below w.heap.size w wx))
      case first =>
        by_cases hn : x < 0
        · go_wp2_with (first
            | (go_at_call 13; (with_reducible refine (P_Take H.out qk).mono ?_); rintro e w3 ⟨n, rfl, hL, hn1, h3, b3, k3⟩; have LL := Lib.hid hL; have H3 := Lib.hid h3; have B3 := Lib.hid (below_lo B.out b3); have R3 := Lib.hid (R.out.keepO k3); clear hL hn1 h3 b3 k3)
            | (go_at_call 14; (with_reducible refine (R_Take R3.out S.out qr n LL.out).mono ?_); rintro e w4 ⟨rfl, r4, h4, s4, l4, b4, k4⟩; have R4 := Lib.hid h4; have S4 := Lib.hid s4; have H4 := Lib.hid (H3.out.keepR k4); have B4 := Lib.hid (below_lo B3.out b4); clear h4 s4 b4 k4))
          go_meet
          exact ⟨k + 1, ps, qs, n :: T, r4, rfl, rfl, by omega, by omega, H4.out, R4.out, S4.out, B4.out⟩
        · by_cases hm : 1000 ≤ x
          · go_wp2_with (first
              | (go_at_call 15; (with_reducible refine (P_Copy H.out qk).mono ?_); rintro e w3 ⟨ps2, rfl, h3, b3⟩; have H3 := Lib.hid h3; have B3 := Lib.hid b3; have R3 := Lib.hid (R.out.below b3); clear h3 b3)
              | (go_at_call 16; (with_reducible refine (R_Copy R3.out qr).mono ?_); rintro e w4 ⟨qs2, rfl, r4, b4⟩; have R4 := Lib.hid (r4.mono (Nat.le_trans B.out.size B3.out.size)); have H4 := Lib.hid (H3.out.below b4); have B4 : Hid (Below wr.heap.size wr w4) := (below_hi B3.out b4); clear r4 b4)
              | (go_at_call 13; (with_reducible refine (Take_old H.out qk B4.out H4.out).mono ?_); rintro e w5 ⟨⟨n, rfl⟩, h5, b5, k5⟩; have H5 := Lib.hid (h5.mono B.out.size); have R5 := Lib.hid (R4.out.keepO k5); have B5 := Lib.hid ((below_hi B.out B4.out).trans b5); clear h5 b5 k5))
            go_meet
            exact ⟨k, ps2, qs2, T, r, rfl, rfl, by omega, by omega, H5.out, R5.out, S.out, B5.out⟩
          · obtain ⟨n, rfl⟩ : ∃ n : Nat, x = (n : Int) := ⟨x.toNat, by omega⟩
            by_cases hT : n ∈ T
            · have HT := Lib.hid hT
              clear hT
              go_wp2_with (first
                | (go_at_call 17; (with_reducible refine (P_Give H.out qk n HT.out).mono ?_); rintro e w3 ⟨rfl, h3, b3, k3⟩; have H3 := Lib.hid h3; have B3 := Lib.hid (below_lo B.out b3); have R3 := Lib.hid (R.out.keepO k3); clear h3 b3 k3)
                | (go_at_call 18; (with_reducible refine (R_Give R3.out S.out qr n HT.out H.out.nodup).mono ?_); rintro e w4 ⟨rfl, r4, h4, s4, l4, b4, k4⟩; have R4 := Lib.hid h4; have S4 := Lib.hid s4; have H4 := Lib.hid (H3.out.keepR k4); have B4 := Lib.hid (below_lo B3.out b4); have L4 := Lib.hid l4; clear h4 s4 b4 k4 l4))
              go_meet
              exact ⟨k, ps, qs, T.erase n, r4, rfl, rfl, by omega, by rw [L4.out]; omega, H4.out, R4.out, S4.out, B4.out⟩
            · have HT : Hid (isT T (n : Int) = false) := by rw [isT_nat]; exact decide_eq_false hT
              clear hT
              go_wp2_with (first
                | (go_at_call 17; (with_reducible refine (P_Give_no H.out (n : Int) hx2 hx3 HT.out).mono ?_); rintro e w3 ⟨rfl, h3, b3⟩; have H3 := Lib.hid h3; have B3 := Lib.hid (below_hi B.out b3); have R3 := Lib.hid (R.out.below b3); clear h3 b3)
                | (go_at_call 18; (with_reducible refine (R_Give_no R3.out S.out qr (n : Int) hx2 hx3 HT.out).mono ?_); rintro e w4 ⟨rfl, rfl⟩))
              go_meet
              exact ⟨k, ps, qs, T, r, rfl, rfl, by omega, by omega, H3.out, R3.out, S.out, B3.out⟩
      case rest =>
        clear z1 H R S B qk qr
        obtain ⟨k, ps, qs, T, r, rfl, rfl, hk, hr, H, R, S, B⟩ := hcut
        have qk : k ≤ 1073741824 := by omega
        have qr : r.length ≤ 1073741824 := by omega
        have j1 : -9223372036854775808 ≤ (j : Int) := by omega
        have j2 : (j : Int) ≤ 9223372036854775807 := by omega
        go_wp2_with (first
          | (go_at_call 19; (with_reducible refine (P_In H.out x hx2 hx3).mono ?_); rintro e w3 ⟨rfl, h3, b3⟩; have H3 := Lib.hid h3; have R3 := Lib.hid (R.out.below b3); have B3 := Lib.hid (below_hi B.out b3); clear h3 b3)
          | (go_at_call 20; (with_reducible refine (R_In R3.out S.out qr x hx2 hx3).mono ?_); rintro e w4 ⟨rfl, rfl⟩)
          | (go_at_call 19; (with_reducible refine (P_In H3.out (j : Int) j1 j2).mono ?_); rintro e w5 ⟨rfl, h5, b5⟩; have H5 := Lib.hid h5; have R5 := Lib.hid (R3.out.below b5); have B5 := Lib.hid (below_hi B3.out b5); clear h5 b5)
          | (go_at_call 20; (with_reducible refine (R_In R5.out S.out qr (j : Int) j1 j2).mono ?_); rintro e w6 ⟨rfl, rfl⟩)
          | (go_at_call 21; (with_reducible refine (P_Len H5.out).mono ?_); rintro e w7 ⟨rfl, rfl⟩)
          | (go_at_call 22; (with_reducible refine (R_Len R5.out S.out qr H5.out.nodup).mono ?_); rintro e w8 ⟨rfl, rfl⟩)
          | (go_at_call 23; (with_reducible refine (P_Last H5.out qk).mono ?_); rintro e w9 ⟨⟨n1, rfl, _, t0, t1, t2⟩, q9, hq9⟩; have R9 : Hid (RefAt w9 w.heap.size qs r) := (by rw [hq9]; exact R5.out.below (below_drewN (Below.refl _ _) _)); have H9 : Hid (PoolAt w9 w.heap.size ps k T) := (by rw [hq9]; exact H5.out.below (below_drewN (Below.refl _ _) _)); have B9 : Hid (Below w.heap.size w w9) := (by rw [hq9]; exact below_drewN B5.out _); have TT : Hid ((T = [] → n1 = 0) ∧ (T ≠ [] → n1 ∈ T) ∧ (∀ m ∈ T, m ≤ n1)) := ⟨t0, t1, t2⟩; clear hq9 t0 t1 t2)
          | (go_at_call 24; (with_reducible refine (R_Last R9.out S.out qr).mono ?_); rintro e w10 ⟨⟨n2, rfl, hh⟩, rfl⟩; obtain rfl := last_same TT.out.1 TT.out.2.1 TT.out.2.2 hh; clear hh))
        go_roundg g
        case measure => omega
        case rel => exact ⟨j + 1, k, ps, qs, T, r, rfl, rfl, by simp, by omega, by omega, by omega, H9.out, R9.out, S.out, B9.out⟩
    · clear CE
      by_cases hc : j < len
      · have q1 : (j : Int) < (len : Int) := by omega
        have q2 : ¬ ((j : Int) < 300) := by omega
        go_wp2_with (go_at_call 25; (with_reducible refine (works_true _).mono ?_); rintro e w3 ⟨rfl, b3⟩; have B3 := Lib.hid (below_hi B.out b3); clear b3)
        go_ret
        exact ⟨rfl, B3.out⟩
      · have q1 : ¬ ((j : Int) < (len : Int)) := by omega
        go_wp2_with (go_at_call 25; (with_reducible refine (works_true _).mono ?_); rintro e w3 ⟨rfl, b3⟩; have B3 := Lib.hid (below_hi B.out b3); clear b3)
        go_ret
        exact ⟨rfl, B3.out⟩
theorem own : ownKnob Try.prog.godebug = none := by kernel_rfl
theorem laidOut : laidOutB Try.prog = true := by kernel_rfl
set_option maxRecDepth 100000 in
theorem contract (H : Type) (enc : TypeId × Value → H) (W : World) (base : Nat) (args : Array Value) (ds gs : List (DataW H)) (before : List MemPlace)
    (hval : ∀ (j : Nat) t v, Try.f4.params[j]? = some t → args[j]? = some v → Value.okWide Try.prog W .any base t v)
    (hW : DataW.Whole enc Try.prog Try.f4.params.toList Rows.poolPlaysSpec.vars false W args.toList ds gs before)
    (hsz0 : (DataW.weightsEach Try.prog (Try.f4.params.toList ++ Rows.poolPlaysSpec.plain.varTypes Try.prog) (ds ++ gs)).all (· ≤ reachBytes) = true) :
    Calls Try.prog 4 args W fun e W' => ∃ v, e = .returned v ∧ Rows.poolPlaysSpec.post enc Try.prog Try.f4 false true false false W args v W' := by
  have hW' := hW
  obtain ⟨p, q, hA0, hV, rfl, hfz, hnd⟩ := hW
  have hA : DataW.TrodAll enc Try.prog W 0 (fun _ => true) true Try.f4.params.toList args.toList ds p := hA0
  have hsz := hsz0
  rw [Try.params4] at hA hval hsz
  obtain ⟨v0, vs0, d0, ds0, p0, q0, hargs, rfl, rfl, h0, r0⟩ := trodAll_cons hA
  obtain ⟨rfl, rfl, rfl⟩ := trodAll_nil r0
  obtain rfl : args = #[v0] := by cases args; simp_all
  obtain ⟨rfl, rfl⟩ := trodVars_none hV
  obtain ⟨A0, c0, l0, rfl, w0⟩ := open_is (hval 0 25 v0 rfl rfl) h0
  clear hA0 hsz hsz0
  simp only [List.append_nil] at hW'
  refine (walk A0 c0 l0 W w0).mono fun e W' ⟨he, hb⟩ => ?_
  subst he
  exact ⟨_, rfl, law_post laidOut (by kernel_rfl) (by kernel_rfl) Try.underlying4 hW' hb rfl⟩

set_option maxRecDepth 100000 in
theorem lifted (os : Os) (started : os.Started) (H : Type) (enc : TypeId × Value → H) :
    ReturnsInHanded {} Try.checked os 4 .any (Rows.poolPlaysSpec.pre6 enc Try.prog Try.f4 Rows.poolPlaysRow.domain false) (Rows.poolPlaysSpec.post enc Try.prog Try.f4 false true false false) := by
  refine returnsInHanded_of_change_sized (C := Try.checked) own started (by kernel_rfl) Try.func4
    (ChangeSpec.witness6 (enc := enc) (C := Try.checked) false ⟨#[], #[.slice none 0 0], []⟩ 8 (by kernel_rfl) (by kernel_rfl) (by kernel_rfl) (by kernel_rfl)) ?_
  intro W base args ds gs before hval hW _ hsz _
  exact contract H enc W base args ds gs before hval hW hsz
/-- The row. -/
theorem holds : Rows.PoolPlaysSaid :=
  OpenClaim.holds_of_wide 4 Try.f4 rfl rfl rfl rfl rfl rfl rfl ⟨rfl, rfl, rfl, rfl, rfl⟩ rfl rfl rfl rfl rfl (by kernel_rfl) Try.func4 (by kernel_rfl)
    (of_decide_eq_true (by kernel_rfl)) (by unfold Func.isWrapper; first | (rw [if_pos (by decide +kernel)]; kernel_rfl) | (rw [if_neg (by decide +kernel)]; exact ⟨rfl, rfl⟩))
    (fun os started H enc _ => lifted os started H enc)
end Go.Proofs.Ytlbbbfmnghcdnaa.poolPlays
