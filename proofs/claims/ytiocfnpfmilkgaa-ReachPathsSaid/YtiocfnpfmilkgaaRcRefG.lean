/- tallowref11.Path, plain and by contract. -/
import Derived.Test.YtiocfnpfmilkgaaRcRefF
import Derived.Test.YtiocfnpfmilkgaaRcWaysM
import Derived.Test.YtiocfnpfmilkgaaGrRefB
import Derived.BigQuiet
namespace Go.Proofs.Ytiocfnpfmilkgaa
set_option maxRecDepth 20000
open Go.RowKit Go.Maps

theorem wayL_zero (g : List OB) (f : Nat → Nat) (k a : Nat) : (wayL g f k a)[0]? = some a := by cases k <;> rfl
theorem wayL_next {g : List OB} {f : Nat → Nat} : ∀ (k a i x : Nat), (wayL g f k a)[i]? = some x → i < k → (wayL g f k a)[i + 1]? = some (minN (nearN g f x))
  | 0, _, _, _, _, h => absurd h (Nat.not_lt_zero _)
  | k + 1, a, 0, x, hx, _ => by
    simp only [wayL, List.getElem?_cons_zero, List.getElem?_cons_succ] at hx ⊢
    injection hx with hx; subst hx
    exact wayL_zero _ _ _ _
  | k + 1, a, i + 1, x, hx, h => by
    simp only [wayL, List.getElem?_cons_succ] at hx ⊢
    exact wayL_next k _ i x hx (by omega)
def nearP (f : Nat → Nat) (t : Nat) (R : List Int) (k : Nat) : List Nat := ((R.take k).map Int.toNat).filter fun x => f x == t
theorem nearP_yes {f : Nat → Nat} {t : Nat} {R : List Int} {k : Nat} {y : Int} (h : R[k]? = some y) (e : f y.toNat = t) : nearP f t R (k + 1) = nearP f t R k ++ [y.toNat] := by
  unfold nearP; rw [List.take_add_one, h]; simp [e]
theorem nearP_no {f : Nat → Nat} {t : Nat} {R : List Int} {k : Nat} {y : Int} (h : R[k]? = some y) (e : f y.toNat ≠ t) : nearP f t R (k + 1) = nearP f t R k := by
  unfold nearP; rw [List.take_add_one, h]; simp [e]
theorem nearP_full {g : List OB} {f : Nat → Nat} {j : Nat} {o : OB} (ho : g[j]? = some o) : nearP f (f (j + 1) - 1) (refsL o.slots) (refsL o.slots).length = nearN g f (j + 1) := by
  unfold nearP nearN
  rw [List.take_of_length_le (Nat.le_refl _), held_at ho]
theorem minN_le {f : Nat → Nat} {t : Nat} {R : List Int} (hR : ∀ y ∈ R, y.toNat ≤ 900) : ∀ k, minN (nearP f t R k) ≤ 900
  | 0 => Nat.zero_le _
  | k + 1 => by
    have ih := minN_le (f := f) (t := t) hR k
    cases h : R[k]? with
    | none =>
      have : R.take (k + 1) = R.take k := by rw [List.take_add_one, h]; simp
      unfold nearP at ih ⊢; rw [this]; exact ih
    | some y =>
      have hy := hR y (List.mem_of_getElem? h)
      by_cases e : f y.toNat = t
      · rw [nearP_yes h e, minN_snoc]; split <;> omega
      · rw [nearP_no h e]; exact ih
theorem objs_no {g : List OB} {rk rn : Int} (h : refB rk rn = false ∨ thereN g rn.toNat = false) : objsN g [(rk, rn)] = [] := by
  unfold objsN
  cases hr : refB rk rn with
  | false => simp [refsL, hr]
  | true =>
    rw [refs_single hr]
    rcases h with h | h
    · rw [hr] at h; cases h
    · simp [h]
theorem objs_yes {g : List OB} {rk rn : Int} (hr : refB rk rn = true) (h : thereN g rn.toNat = true) : objsN g [(rk, rn)] = [rn.toNat] := by
  unfold objsN; rw [refs_single hr]; simp [h]
theorem path_nil {g : List OB} {r : Int × Int} {m : Int} (h : checkB g = false ∨ objsN g [r] = [] ∨ (decide (1 ≤ m) && thereN g m.toNat) = false) : pathI g r m = [] := by
  unfold pathI pathL
  rcases h with h | h | h
  · simp [h]
  · simp [h]
  · split
    · rename_i h1
      rw [decide_eq_true h1, Bool.true_and] at h
      simp [h]
    · rfl
theorem one_own (w : World) (x : Int) : (w.alloc (.cells #[.int .i64 x] 3 (0, 0))).ownsRow w.heap.size 3 1 (.slice (some ⟨w.heap.size, 0, none⟩) 1 1) 1 [.int .i64 x] :=
  ⟨rfl, .inr ⟨w.heap.size, 1, #[.int .i64 x], rfl, Nat.le_refl _, (Go.MapKept.heap_alloc w _).1, Nat.le_refl _, by decide, rfl, rfl⟩⟩
set_option maxHeartbeats 4000000 in
theorem RPath_any {w : World} {A : Option Addr} {c : Nat} {g : List OB} (hg : GAt w A g) (hn : g.length ≤ 900) (rk rn m : Int) (h1 : -9223372036854775808 ≤ m) (h2 : m ≤ 9223372036854775807) :
    Calls Try.prog 35 #[gV A g.length c, .agg #[.int .i64 rk, .int .i64 rn], iV m] w (GivesI (intsOf (pathI g (rk, rn) m)) w) := by
  have CH : Hid (∀ W, Below w.heap.size w W → Calls Try.prog 68 #[gV A g.length c] W fun e w' => e = .returned (.bool (checkB g)) ∧ Below W.heap.size W w') := fun W hW => RCheck_any (hg.below hW) (by omega)
  have CR : Hid (∀ W, Calls Try.prog 74 #[.agg #[.int .i64 rk, .int .i64 rn]] W fun e w' => e = .returned (.bool (refB rk rn)) ∧ Below W.heap.size W w') := fun W => RRef_any rk rn W
  have CT : Hid (∀ W (x : Int), Below w.heap.size w W → -9223372036854775808 ≤ x → x ≤ 9223372036854775807 → Calls Try.prog 75 #[gV A g.length c, iV x] W fun e w' => e = .returned (.bool (decide (1 ≤ x) && thereN g x.toNat)) ∧ Below W.heap.size W w') := fun W x hW h1 h2 => RThere_any (hg.below hW) (by omega) x h1 h2
  have CT2 : Hid (∀ W, Below w.heap.size w W → Calls Try.prog 75 #[gV A g.length c, iV m] W fun e w' => e = .returned (.bool (decide (1 ≤ m) && thereN g m.toNat)) ∧ Below W.heap.size W w') := fun W hW => CT.out W m hW h1 h2
  have G := Lib.hid hg
  obtain ⟨n, hgn⟩ : ∃ n, n = g.length := ⟨_, rfl⟩
  rw [← hgn] at CH CT CT2 ⊢
  have HGN := Lib.hid hgn
  clear hgn
  go_enter Try.func35, Try.ntmps35
  go_upto_region 1 with (fail)
  refine at_world (fun V => Below w.heap.size w V ∧ V.cell? ⟨w.heap.size, 0, none⟩ = some (.slice A n c) ∧ V.cell? ⟨w.heap.size + 1, 0, none⟩ = some (.int .i64 rk) ∧ V.cell? ⟨w.heap.size + 1, 1, none⟩ = some (.int .i64 rn)) ?_ fun V HV => ?_
  · exact ⟨((Below.refl _ _).alloc (Nat.le_refl _) _).alloc (by simp) _, by simp [go_sem], by simp [go_sem], by simp [go_sem]⟩
  obtain ⟨hbV, z0, z1, z2⟩ := HV
  have BV := Lib.hid hbV
  have CX : Hid (∀ W, Below V.heap.size V W → W.cell? ⟨w.heap.size, 0, none⟩ = some (.slice A n c) ∧ W.cell? ⟨w.heap.size + 1, 0, none⟩ = some (.int .i64 rk) ∧ W.cell? ⟨w.heap.size + 1, 1, none⟩ = some (.int .i64 rn)) := fun W hW => ⟨(hW.cell (p := ⟨w.heap.size, 0, none⟩) (World.block_lt_of_cell? _ _ z0)).trans z0, (hW.cell (p := ⟨w.heap.size + 1, 0, none⟩) (World.block_lt_of_cell? _ _ z1)).trans z1, (hW.cell (p := ⟨w.heap.size + 1, 1, none⟩) (World.block_lt_of_cell? _ _ z2)).trans z2⟩
  clear hbV
  cases hc : checkB g with
  | false =>
    have PN := Lib.hid (path_nil (Or.inl hc) : pathI g (rk, rn) m = [])
    rw [hc] at CH
    clear hc hg
    go_wp2_with (go_at_call 68; (with_reducible refine (CH.out V BV.out).mono ?_); rintro e w1 ⟨rfl, hb⟩; have B1 := Lib.hid hb; obtain ⟨a0, a1, a2⟩ := CX.out _ B1.out; clear hb)
    go_ret
    exact ⟨none, 0, (by rw [PN.out]; rfl), (fun i x hx => by rw [PN.out] at hx; simp [intsOf] at hx), BV.out.trans (B1.out.mono BV.out.size)⟩
  | true =>
    rw [hc] at CH
    cases hr : refB rk rn with
    | false =>
      have PN := Lib.hid (path_nil (Or.inr (Or.inl (objs_no (Or.inl hr)))) : pathI g (rk, rn) m = [])
      rw [hr] at CR
      clear hc hr hg
      go_wp2_with (first | (go_at_call 68; (with_reducible refine (CH.out V BV.out).mono ?_); rintro e w1 ⟨rfl, hb⟩; have B1 := Lib.hid hb; obtain ⟨a0, a1, a2⟩ := CX.out _ B1.out; clear hb) | (go_at_call 74; (with_reducible refine (CR.out w1).mono ?_); rintro e w2 ⟨rfl, hb⟩; have B2 : Hid (Below V.heap.size V w2) := B1.out.trans (hb.mono B1.out.size); obtain ⟨b0, b1, b2⟩ := CX.out _ B2.out; clear hb))
      go_ret
      exact ⟨none, 0, (by rw [PN.out]; rfl), (fun i x hx => by rw [PN.out] at hx; simp [intsOf] at hx), BV.out.trans (B2.out.mono BV.out.size)⟩
    | true =>
      rw [hr] at CR
      have hrg : 1 ≤ rn ∧ rn ≤ 2147483647 := by have := mayB_iff.1 (refB_iff.1 hr).1; have := (refB_iff.1 hr).2; omega
      have CT1 : Hid (∀ W, Below w.heap.size w W → Calls Try.prog 75 #[gV A n c, iV rn] W fun e w' => e = .returned (.bool (thereN g rn.toNat)) ∧ Below W.heap.size W w') := fun W hW => by
        have := CT.out W rn hW (by omega) (by omega)
        rwa [decide_eq_true hrg.1, Bool.true_and] at this
      cases ht : thereN g rn.toNat with
      | false =>
        have PN := Lib.hid (path_nil (Or.inr (Or.inl (objs_no (Or.inr ht)))) : pathI g (rk, rn) m = [])
        rw [ht] at CT1
        clear hc hr hg ht CT CT2
        go_wp2_with (first | (go_at_call 68; (with_reducible refine (CH.out V BV.out).mono ?_); rintro e w1 ⟨rfl, hb⟩; have B1 := Lib.hid hb; obtain ⟨a0, a1, a2⟩ := CX.out _ B1.out; clear hb) | (go_at_call 74; (with_reducible refine (CR.out w1).mono ?_); rintro e w2 ⟨rfl, hb⟩; have B2 : Hid (Below V.heap.size V w2) := B1.out.trans (hb.mono B1.out.size); obtain ⟨b0, b1, b2⟩ := CX.out _ B2.out; clear hb) | (go_at_call_of 75 rn; (with_reducible refine (CT1.out w2 (BV.out.trans (B2.out.mono BV.out.size))).mono ?_); rintro e w3 ⟨rfl, hb⟩; have B3 : Hid (Below V.heap.size V w3) := B2.out.trans (hb.mono B2.out.size); obtain ⟨d0, d1, d2⟩ := CX.out _ B3.out; clear hb))
        go_ret
        exact ⟨none, 0, (by rw [PN.out]; rfl), (fun i x hx => by rw [PN.out] at hx; simp [intsOf] at hx), BV.out.trans (B3.out.mono BV.out.size)⟩
      | true =>
        rw [ht] at CT1
        cases hm : (decide (1 ≤ m) && thereN g m.toNat) with
        | false =>
          have PN := Lib.hid (path_nil (Or.inr (Or.inr hm)) : pathI g (rk, rn) m = [])
          rw [hm] at CT2
          clear hc hr hg ht hm CT
          go_wp2_with (first | (go_at_call 68; (with_reducible refine (CH.out V BV.out).mono ?_); rintro e w1 ⟨rfl, hb⟩; have B1 := Lib.hid hb; obtain ⟨a0, a1, a2⟩ := CX.out _ B1.out; clear hb) | (go_at_call 74; (with_reducible refine (CR.out w1).mono ?_); rintro e w2 ⟨rfl, hb⟩; have B2 : Hid (Below V.heap.size V w2) := B1.out.trans (hb.mono B1.out.size); obtain ⟨b0, b1, b2⟩ := CX.out _ B2.out; clear hb) | (go_at_call_of 75 rn; (with_reducible refine (CT1.out w2 (BV.out.trans (B2.out.mono BV.out.size))).mono ?_); rintro e w3 ⟨rfl, hb⟩; have B3 : Hid (Below V.heap.size V w3) := B2.out.trans (hb.mono B2.out.size); obtain ⟨d0, d1, d2⟩ := CX.out _ B3.out; clear hb) | (go_at_call_of 75 m; (with_reducible refine (CT2.out w3 (BV.out.trans (B3.out.mono BV.out.size))).mono ?_); rintro e w4 ⟨rfl, hb⟩; have B4 : Hid (Below V.heap.size V w4) := B3.out.trans (hb.mono B3.out.size); obtain ⟨e0, e1, e2⟩ := CX.out _ B4.out; clear hb))
          go_ret
          exact ⟨none, 0, (by rw [PN.out]; rfl), (fun i x hx => by rw [PN.out] at hx; simp [intsOf] at hx), BV.out.trans (B4.out.mono BV.out.size)⟩
        | true =>
          rw [hm] at CT2
          rw [Bool.and_eq_true] at hm
          obtain ⟨hm1, hm2⟩ := hm
          have hm1 := of_decide_eq_true hm1
          obtain ⟨b, rfl⟩ : ∃ b : Nat, m = (b : Int) := ⟨m.toNat, by omega⟩
          rw [Int.toNat_natCast] at hm2
          obtain ⟨a, hra⟩ : ∃ a : Nat, rn = (a : Int) := ⟨rn.toNat, by omega⟩
          subst hra
          rw [Int.toNat_natCast] at ht
          have hO := objs_yes hr (by rw [Int.toNat_natCast]; exact ht)
          rw [Int.toNat_natCast] at hO
          have PE : pathI g (rk, (a : Int)) (b : Int) = if distF g b a = 0 then [] else wayL g (distF g b) (distF g b a - 1) a := by
            unfold pathI pathL
            rw [if_pos hm1, Int.toNat_natCast, hc, hm2, hO]
            rfl
          have PEH := Lib.hid PE
          have FA : Hid (∀ W, Below w.heap.size w W → Calls Try.prog 76 #[gV A n c, iV b] W fun e w' => ∃ bl, e = .returned (.slice (some ⟨bl, 0, none⟩) n n) ∧ RowL w' bl n (fun i => distF g b (i + 1)) ∧ W.heap.size ≤ bl ∧ Below W.heap.size W w') := fun W hW => by
            have := RFar_any (c := c) (hg.below hW) hc hn hm2
            rwa [← HGN.out] at this
          have hD := dist_is g b
          have hta := there_le ht
          have hal : a - 1 < n := by rw [HGN.out]; omega
          clear CT PE hO
          go_upto_region 5 with (first | (go_at_call 68; (with_reducible refine (CH.out V BV.out).mono ?_); rintro e w1 ⟨rfl, hb⟩; have B1 := Lib.hid hb; obtain ⟨a0, a1, a2⟩ := CX.out _ B1.out; clear hb) | (go_at_call 74; (with_reducible refine (CR.out w1).mono ?_); rintro e w2 ⟨rfl, hb⟩; have B2 : Hid (Below V.heap.size V w2) := B1.out.trans (hb.mono B1.out.size); obtain ⟨b0, b1, b2⟩ := CX.out _ B2.out; clear hb) | (go_at_call_of 75 a; (with_reducible refine (CT1.out w2 (BV.out.trans (B2.out.mono BV.out.size))).mono ?_); rintro e w3 ⟨rfl, hb⟩; have B3 : Hid (Below V.heap.size V w3) := B2.out.trans (hb.mono B2.out.size); obtain ⟨d0, d1, d2⟩ := CX.out _ B3.out; clear hb) | (go_at_call_of 75 b; (with_reducible refine (CT2.out w3 (BV.out.trans (B3.out.mono BV.out.size))).mono ?_); rintro e w4 ⟨rfl, hb⟩; have B4 : Hid (Below V.heap.size V w4) := B3.out.trans (hb.mono B3.out.size); obtain ⟨e0, e1, e2⟩ := CX.out _ B4.out; clear hb) | (go_at_call 76; (with_reducible refine (FA.out w4 (BV.out.trans (B4.out.mono BV.out.size))).mono ?_); rintro e w5 ⟨bl, rfl, hL, hbl, hb⟩; have RL := Lib.hid hL; have B5 : Hid (Below V.heap.size V w5) := B4.out.trans (hb.mono B4.out.size); obtain ⟨x0, x1, x2⟩ := CX.out _ B5.out; clear hb hL))
          clear CT1 CT2 CR CH FA x0 x1 x2
          obtain ⟨x0, x1, x2⟩ := CX.out _ B5.out
          obtain ⟨f, hf⟩ : ∃ f, f = distF g b := ⟨_, rfl⟩
          rw [← hf] at PEH hD RL
          clear hf
          have hjn2 : ((a - 1 : Nat) : Int) < (n : Int) := by omega
          have hjn3 : (a : Int) - 1 < (n : Int) := by omega
          have y0 : w5.cell? ⟨bl, a - 1, none⟩ = some (.int .i64 (f a)) := by
            have := RL.out.cell hal
            rwa [show a - 1 + 1 = a by omega] at this
          by_cases hfa : f a = 0
          · rw [hfa] at y0
            replace y0 : w5.cell? ⟨bl, a - 1, none⟩ = some (.int .i64 0) := y0
            have PN : Hid (pathI g (rk, (a : Int)) (b : Int) = []) := (show _ = _ by rw [PEH.out, if_pos hfa])
            go_wp2_with fail
            go_ret
            exact ⟨none, 0, (by rw [PN.out]; rfl), (fun i x hx => by rw [PN.out] at hx; simp [intsOf] at hx), BV.out.trans (B5.out.mono BV.out.size)⟩
          · obtain ⟨k, hk⟩ : ∃ k, f a = k + 1 := ⟨f a - 1, by omega⟩
            have PW : Hid (pathI g (rk, (a : Int)) (b : Int) = wayL g f k a) := (show _ = _ by rw [PEH.out, if_neg hfa, hk]; rfl)
            have hv0 : (((k + 1 : Nat) : Int) == 0) = false := by rw [beq_eq_false_iff_ne]; omega
            have hv1 : ((k : Int) + 1 == 0) = false := by rw [beq_eq_false_iff_ne]; omega
            rw [hk] at y0
            go_upto_region 8 with fail
            obtain ⟨p1, -⟩ := way_props hc hD k a hk
            have PF : Hid (∀ q x, (wayL g f k a)[q]? = some x → f x = k + 1 - q) := p1
            have NX : Hid (∀ q x, (wayL g f k a)[q]? = some x → q < k → (wayL g f k a)[q + 1]? = some (minN (nearN g f x))) := fun q x h1 h2 => wayL_next k a q x h1 h2
            have LN : Hid ((wayL g f k a).length = k + 1) := wayL_len g f k a
            have EB : Hid (∀ q x, (wayL g f k a)[q]? = some x → x ≠ b → q < k) := fun q x h h3 => by
              have h4 := p1 q x h
              have h5 : q < k + 1 := by have := (List.getElem?_eq_some_iff.1 h).1; rw [LN.out] at this; exact this
              rcases Nat.lt_or_ge q k with h6 | h6
              · exact h6
              · exact absurd (hD.one (by omega)) h3
            have EQ : Hid (∀ q, (wayL g f k a)[q]? = some b → q = k) := fun q h => by
              have h4 := p1 q b h
              have := hD.self
              omega
            have OBJ : Hid (∀ q x, (wayL g f k a)[q]? = some x → ∃ (j : Nat) (o : Proofs.Ytiocfnpfmilkgaa.OB), x = j + 1 ∧ g[j]? = some o ∧ j < n) := fun q x h => by
              have h5 : q < k + 1 := by have := (List.getElem?_eq_some_iff.1 h).1; rw [LN.out] at this; exact this
              have htx := hD.there hc hm2 (a := x) (by have := p1 q x h; omega)
              have hlx := there_le htx
              obtain ⟨j, rfl⟩ : ∃ j, x = j + 1 := ⟨x - 1, by omega⟩
              rw [there_succ] at htx
              cases ho : g[j]? with
              | none => rw [ho] at htx; cases htx
              | some o => exact ⟨j, o, rfl, ho, by rw [HGN.out]; omega⟩
            have PO : Hid ((wayL g f k a)[0]? = some a) := wayL_zero g f k a
            have RFS : Hid (∀ W sA sc (o : Proofs.Ytiocfnpfmilkgaa.OB), SlotsAt W o sA → Calls Try.prog 77 #[.slice sA o.slots.length sc] W (GivesI (refsL o.slots) W)) := fun W sA sc o hs => (RRefs_any sA sc o.slots W (by have := hs.2; omega) hs.1).mono fun e w' h => GivesI.of h
            have RNG : Hid (∀ (i : Nat) (o : Proofs.Ytiocfnpfmilkgaa.OB), g[i]? = some o → ∀ x ∈ refsL o.slots, 1 ≤ x ∧ x.toNat ≤ n) := fun i o ho x hx => by
              have h1 := (refs_range hx).1
              exact ⟨h1, by rw [HGN.out]; exact (there_le (held_there hc (held_int ho hx))).2⟩
            have NF : Hid (∀ (i : Nat) (o : Proofs.Ytiocfnpfmilkgaa.OB) (t : Nat), g[i]? = some o → f (i + 1) = t + 1 → nearP f t (refsL o.slots) (refsL o.slots).length = nearN g f (i + 1)) := fun i o t ho e => by
              have := nearP_full (f := f) ho
              rwa [e, Nat.add_sub_cancel] at this
            have hn9 : n ≤ 900 := by rw [HGN.out]; exact hn
            obtain ⟨i0, hi0, hz0, hz1, hz2⟩ := info_parts int_info
            clear p1 PEH
            generalize hP : wayL g f k a = P at *
            clear hP
            go_loopg [8, 9] (k + 1) (fun gg s8 s9 wr => ∃ (q x : Nat), P[q]? = some x ∧ k + 1 - q ≤ gg ∧ s8 = .int .i64 x ∧ Hid (wr.ownsRow w5.heap.size 3 1 s9 (intsOf (P.take (q + 1))).length ((intsOf (P.take (q + 1))).map (Value.int .i64))) ∧ Hid (Below w5.heap.size w5 wr))
            case atStart => exact ⟨0, a, PO.out, by omega, rfl, (show World.ownsRow _ _ _ _ _ _ _ by
              have e : P.take (0 + 1) = [a] := by rw [List.take_add_one, PO.out]; rfl
              rw [e]; exact one_own w5 a), (Below.refl _ _).alloc (Nat.le_refl _) _⟩
            case round =>
              clear y0 hv0 hv1
              obtain ⟨q, x, hqx, hgg, rfl, O, BW⟩ := hrel
              obtain ⟨x0, -, -⟩ := CX.out _ (B5.out.trans (BW.out.mono B5.out.size))
              by_cases hxb : x = b
              · subst hxb
                have hqk := EQ.out q hqx
                have O2 := O.out
                rw [hqk, List.take_of_length_le (by rw [LN.out]; exact Nat.le_refl _)] at O2
                have OF := Lib.hid O2
                clear O O2 hqk
                go_wp2_with fail
                go_ret
                rw [PW.out]
                exact GivesI.of ⟨_, rfl, own_less OF.out (Nat.le_trans BV.out.size B5.out.size), BV.out.trans ((B5.out.trans (BW.out.mono B5.out.size)).mono BV.out.size)⟩
              · have hqk := EB.out q x hqx hxb
                have hnext := NX.out q x hqx hqk
                have hfx := PF.out q x hqx
                obtain ⟨j, o, rfl, ho, hjn⟩ := OBJ.out q x hqx
                obtain ⟨t, ht1⟩ : ∃ t, f (j + 1) = t + 1 := ⟨f (j + 1) - 1, by omega⟩
                obtain ⟨ag, sA, sc, e, hag, ⟨o0, o1, o2, o3, o4⟩, hs⟩ := (G.out.below (BV.out.trans ((B5.out.trans (BW.out.mono B5.out.size)).mono BV.out.size))) j o ho
                subst e
                have hl2 : (ag.add (j * 5)).block < wr.heap.size := by rw [Go.ChangeShapes.block_add]; exact hag
                have hne : (((j : Int) + 1) != (b : Int)) = true := bne_iff_ne.2 (by omega)
                have hne2 : (((j + 1 : Nat) : Int) != (b : Int)) = true := bne_iff_ne.2 (by omega)
                have hji : (j : Int) < (n : Int) := by omega
                have CALL := Lib.hid (RFS.out wr sA sc o hs)
                have RN2 := Lib.hid (RNG.out j o ho)
                have NFF := Lib.hid (NF.out j o t ho ht1)
                have RLN : (refsL o.slots).length ≤ 8796093022208 := Nat.le_trans (refsL_len _) (by have := hs.2; omega)
                obtain ⟨G1, rfl⟩ : ∃ G1, G1 = gk := ⟨_, rfl⟩
                clear o0 o1 o3 o4 hs ho hag
                go_wp2_with (go_at_call 77; (with_reducible refine CALL.out.mono ?_); rintro e w6 ⟨A6, c6, rfl, i6, hb6⟩)
                have I6 := Lib.hid i6
                have B6 : Hid (Below w5.heap.size w5 w6) := BW.out.trans (hb6.mono BW.out.size)
                have O6 := Lib.hid (own_below O.out hb6)
                have R6 : Hid (RowL w6 bl n fun i => f (i + 1)) := RL.out.below B6.out
                clear i6 hb6 CALL x0 hl2 O BW
                generalize refsL o.slots = R2 at *
                go_loopg [10, 12] R2.length (fun gg s10 s12 wq => ∃ kk : Nat, kk ≤ R2.length ∧ R2.length - kk ≤ gg ∧ s12 = .int .i64 kk ∧ s10 = .int .i64 ((minN (nearP f t R2 kk) : Nat) : Int) ∧ Hid (Below w6.heap.size w6 wq))
                case atStart => exact ⟨0, Nat.zero_le _, by omega, rfl, rfl, Below.refl _ _⟩
                case round =>
                  obtain ⟨kk, hkk, hg2, rfl, rfl, BQ⟩ := hrel
                  have hv9 := minN_le (f := f) (t := t) (R := R2) (fun y hy => by have := RN2.out y hy; omega) kk
                  by_cases hlt : kk < R2.length
                  · obtain ⟨y, hy⟩ : ∃ y, R2[kk]? = some y := ⟨_, List.getElem?_eq_getElem hlt⟩
                    obtain ⟨y1, y2⟩ := RN2.out y (List.mem_of_getElem? hy)
                    obtain ⟨ad, e, had, hcy⟩ := (I6.out.below BQ.out) kk y hy
                    subst e
                    obtain ⟨qy, hqy⟩ : ∃ qy : Nat, qy = y.toNat - 1 := ⟨_, rfl⟩
                    have hcast : y - 1 = (qy : Int) := by omega
                    have hwr : IntKind.i64.wrap (qy : Int) = (qy : Int) := IntWalk.i64_in _ (by omega)
                    have hwj : IntKind.i64.wrap (j : Int) = (j : Int) := IntWalk.i64_in _ (by omega)
                    have hqn : qy < n := by omega
                    have hqn2 : (qy : Int) < (n : Int) := by omega
                    have hlen : (kk : Int) < (R2.length : Int) := by omega
                    have c1 : wr.cell? ⟨bl, qy, none⟩ = some (.int .i64 (f y.toNat)) := by
                      have := (R6.out.below BQ.out).cell hqn
                      rwa [show qy + 1 = y.toNat by omega] at this
                    have c2 : wr.cell? ⟨bl, j, none⟩ = some (.int .i64 ((t : Int) + 1)) := by
                      have := (R6.out.below BQ.out).cell hjn
                      rw [ht1] at this
                      exact this
                    have ht9 : t ≤ 900 := by
                      have := hD.le hc hm2 (j + 1)
                      have := HGN.out
                      omega
                    have hct : (t : Int) + 1 - 1 = (t : Int) := by omega
                    have hwt : IntKind.i64.wrap (t : Int) = (t : Int) := IntWalk.i64_in _ (by omega)
                    have hcj : (j : Int) + 1 - 1 = (j : Int) := by omega
                    by_cases he : f y.toNat = t
                    · have E1 : Hid (minN (nearP f t R2 (kk + 1)) = if minN (nearP f t R2 kk) = 0 ∨ y.toNat < minN (nearP f t R2 kk) then y.toNat else minN (nearP f t R2 kk)) := (show _ = _ by rw [nearP_yes hy he, minN_snoc])
                      rw [he] at c1
                      generalize minN (nearP f t R2 kk) = v at *
                      clear hy he hqy
                      by_cases hv : v = 0
                      · have hv0 : ((v : Int) == 0) = true := by rw [beq_iff_eq]; omega
                        have E2 : Hid (.int .i64 y = Value.int .i64 ((minN (nearP f t R2 (kk + 1)) : Nat) : Int)) := (show _ = _ by rw [E1.out, if_pos (Or.inl hv)]; congr 1; omega)
                        clear E1 hv
                        go_wp2_with fail
                        go_quiet (fail)
                        go_wp2_with fail
                        clear c1 c2 hcast hwr hwj hct hwt hcj hv0
                        go_roundg (R2.length - (kk + 1))
                        case measure => omega
                        case rel => exact ⟨kk + 1, by omega, by omega, by go_num, E2.out, (show Below _ _ _ from below_drewN BQ.out _)⟩
                      · have hv0 : ((v : Int) == 0) = false := by rw [beq_eq_false_iff_ne]; omega
                        by_cases hlv : y.toNat < v
                        · have hd : decide (y < (v : Int)) = true := decide_eq_true (by omega)
                          have E2 : Hid (.int .i64 y = Value.int .i64 ((minN (nearP f t R2 (kk + 1)) : Nat) : Int)) := (show _ = _ by rw [E1.out, if_pos (Or.inr hlv)]; congr 1; omega)
                          clear E1 hv hlv
                          go_wp2_with fail
                          go_quiet (fail)
                          go_wp2_with fail
                          clear c1 c2 hcast hwr hwj hct hwt hcj hv0 hd
                          go_roundg (R2.length - (kk + 1))
                          case measure => omega
                          case rel => exact ⟨kk + 1, by omega, by omega, by go_num, E2.out, (show Below _ _ _ from below_drewN BQ.out _)⟩
                        · have hd : decide (y < (v : Int)) = false := decide_eq_false (by omega)
                          have E2 : Hid (minN (nearP f t R2 (kk + 1)) = v) := (show _ = _ by rw [E1.out, if_neg (by omega)])
                          clear E1 hv hlv
                          go_wp2_with fail
                          go_quiet (fail)
                          go_wp2_with fail
                          clear c1 c2 hcast hwr hwj hct hwt hcj hv0 hd
                          go_roundg (R2.length - (kk + 1))
                          case measure => omega
                          case rel => exact ⟨kk + 1, by omega, by omega, by go_num, by rw [E2.out], (show Below _ _ _ from below_drewN BQ.out _)⟩
                    · have E2 : Hid (minN (nearP f t R2 (kk + 1)) = minN (nearP f t R2 kk)) := (show _ = _ by rw [nearP_no hy he])
                      have hfe : (((f y.toNat : Nat) : Int) == (t : Int)) = false := by rw [beq_eq_false_iff_ne]; omega
                      generalize f y.toNat = fy at *
                      generalize minN (nearP f t R2 kk) = v at *
                      clear hy he hqy
                      go_wp2_with fail
                      go_quiet (fail)
                      go_wp2_with fail
                      clear c1 c2 hcast hwr hwj hct hwt hcj hfe
                      go_roundg (R2.length - (kk + 1))
                      case measure => omega
                      case rel => exact ⟨kk + 1, by omega, by omega, by go_num, by rw [E2.out], (show Below _ _ _ from below_drewN BQ.out _)⟩
                  · have hkn : kk = R2.length := by omega
                    have E3 : Hid (minN (nearP f t R2 kk) = minN (nearN g f (j + 1))) := (show _ = _ by rw [hkn, NFF.out])
                    rw [E3.out]
                    have O7 := Lib.hid (own_below O6.out BQ.out)
                    have B7 : Hid (Below w5.heap.size w5 wr) := B6.out.trans (BQ.out.mono B6.out.size)
                    have hbw := B7.out.size
                    have E1 : Hid (intsOf (P.take (q + 1 + 1)) = intsOf (P.take (q + 1)) ++ [((minN (nearN g f (j + 1)) : Nat) : Int)]) := (show _ = _ by rw [List.take_add_one, hnext]; simp [intsOf])
                    have LQ : (intsOf (P.take (q + 1))).length ≤ k + 1 := by rw [intsOf_len, List.length_take]; have := LN.out; omega
                    have hk9 : k ≤ 900 := by
                      have := hD.le hc hm2 a
                      have := HGN.out
                      omega
                    clear hkn E3 hv9
                    generalize minN (nearN g f (j + 1)) = nx at *
                    go_wp2_with (at_builtin; refine wpList_append_own _ rfl (.tmp 96) (.tmp 98) _ rfl w5.heap.size 3 i0 _ 1 8 Try.underlying44 hi0 hz0 hz1 hz2 rfl (by decide) _ _ _ rfl (O7.out.alloc _) ⟨wr.heap.size, 0, none⟩ 1 1 [.int .i64 (nx : Int)] rfl rfl one_cell (by simp [Value.oneCell']) (by unfold maxLen; omega) (by omega) (by simp; omega) ?_; intro v' w8 hown8 hg8 _)
                    have R8 := refs_step O7.out B7.out hown8 hg8 E1.out
                    have O8 := Lib.hid R8.1
                    have B8 := Lib.hid R8.2
                    clear R8 hown8 hg8
                    go_roundg (G1 - 1)
                    case measure => omega
                    case rel => exact ⟨q + 1, nx, hnext, by omega, rfl, O8.out, B8.out⟩
end Go.Proofs.Ytiocfnpfmilkgaa
