/- What may be of an object: kindMay, numbersMay, textMay, slotsMay and what these ask. -/
import Derived.Test.YtghnjmodnhnmfaaBase
import Derived.Test.YtghnjmodnhnmfaaGrFunc
import Derived.Deep.RegionHeld3
import Derived.Deep.QuietTactic
import Derived.BigQuiet
import Derived.Laws.EntriesVeiled
namespace Go.Proofs.Ytghnjmodnhnmfaa
set_option maxRecDepth 20000
set_option maxRecDepth 20000
open Go.RowKit Go.Maps

theorem kindMay_any (n : Int) (o : OB) (A : Option Addr) (c : Nat) (w : World) : Calls Try.prog 76 #[iV n, oV o A c] w fun e w' => e = .returned (.bool (kindOk o)) ∧ Below w.heap.size w w' := by
  obtain ⟨k, co, s, t, m⟩ := o
  by_cases h0 : k = 0
  · subst h0
    go_enter Try.func76, Try.ntmps76
    go_wp2
    go_ret
    exact ⟨rfl, (Below.refl _ _).alloc (Nat.le_refl _) _⟩
  · have e0 := not_eq h0
    by_cases h1 : 5 ≤ k
    · rw [show kindOk ⟨k, co, s, t, m⟩ = decide (k ≤ 9) by simp [kindOk, h0, h1]]
      clear h0
      go_enter Try.func76, Try.ntmps76
      go_wp2
      go_ret
      exact ⟨rfl, (Below.refl _ _).alloc (Nat.le_refl _) _⟩
    · rw [show kindOk ⟨k, co, s, t, m⟩ = false by simp [kindOk, h0, h1]]
      clear h0
      go_enter Try.func76, Try.ntmps76
      go_wp2
      go_ret
      exact ⟨rfl, (Below.refl _ _).alloc (Nat.le_refl _) _⟩
theorem numbersMay_any (n : Int) (o : OB) (A : Option Addr) (c : Nat) (w : World) : Calls Try.prog 77 #[iV n, oV o A c] w fun e w' => e = .returned (.bool (numOk o)) ∧ Below w.heap.size w w' := by
  obtain ⟨k, co, s, t, m⟩ := o
  by_cases h0 : k = 0
  · subst h0
    by_cases h1 : co = 0
    · subst h1
      rw [show numOk ⟨0, 0, s, t, m⟩ = (m == 0) by simp [numOk]]
      go_enter Try.func77, Try.ntmps77
      go_wp2
      go_ret
      exact ⟨rfl, (Below.refl _ _).alloc (Nat.le_refl _) _⟩
    · rw [show numOk ⟨0, co, s, t, m⟩ = false by simp [numOk, h1]]
      have e1 := not_eq h1
      clear h1
      go_enter Try.func77, Try.ntmps77
      go_wp2
      go_ret
      exact ⟨rfl, (Below.refl _ _).alloc (Nat.le_refl _) _⟩
  · have e0 := not_eq h0
    by_cases h1 : 0 ≤ co
    · rw [show numOk ⟨k, co, s, t, m⟩ = decide (-1 ≤ m) by simp [numOk, h0, h1]]
      clear h0
      go_enter Try.func77, Try.ntmps77
      go_wp2
      go_ret
      exact ⟨rfl, (Below.refl _ _).alloc (Nat.le_refl _) _⟩
    · rw [show numOk ⟨k, co, s, t, m⟩ = false by simp [numOk, h0, h1]]
      clear h0
      go_enter Try.func77, Try.ntmps77
      go_wp2
      go_ret
      exact ⟨rfl, (Below.refl _ _).alloc (Nat.le_refl _) _⟩
theorem textMay_any (n : Int) (o : OB) (A : Option Addr) (c : Nat) (w : World) : Calls Try.prog 78 #[iV n, oV o A c] w fun e w' => e = .returned (.bool (textOk o)) ∧ Below w.heap.size w w' := by
  obtain ⟨k, co, s, t, m⟩ := o
  by_cases h0 : k = 5
  · subst h0
    go_enter Try.func78, Try.ntmps78
    go_wp2
    go_ret
    exact ⟨rfl, (Below.refl _ _).alloc (Nat.le_refl _) _⟩
  · have e0 := not_eq h0
    rw [show textOk ⟨k, co, s, t, m⟩ = t.toList.isEmpty by simp [textOk, h0]]
    clear h0
    go_enter Try.func78, Try.ntmps78
    go_wp2
    go_ret
    exact ⟨rfl, (Below.refl _ _).alloc (Nat.le_refl _) _⟩
theorem there_in {g : List OB} {j : Nat} {o : OB} (h : g[j]? = some o) (k : Int) : thereB g (k, (j : Int) + 1) = (o.kind == k) := by
  unfold thereB
  simp only [Int.add_sub_cancel, Int.toNat_natCast, h]
theorem there_out {g : List OB} {j : Nat} (h : g.length ≤ j) (k : Int) : thereB g (k, (j : Int) + 1) = false := by
  unfold thereB
  simp only [Int.add_sub_cancel, Int.toNat_natCast, List.getElem?_eq_none h]
set_option maxHeartbeats 1000000 in
theorem there_any {w : World} {A : Option Addr} {c : Nat} {g : List OB} (hg : GAt w A g) (k : Int) (j : Nat) (hj : j ≤ 2147483647) :
    Calls Try.prog 124 #[gV A g.length c, vV (k, (j : Int) + 1)] w fun e w' => e = .returned (.bool (thereB g (k, (j : Int) + 1))) ∧ Below w.heap.size w w' := by
  by_cases hlt : j < g.length
  · obtain ⟨o, ho⟩ : ∃ o, g[j]? = some o := ⟨_, List.getElem?_eq_getElem hlt⟩
    rw [there_in ho]
    obtain ⟨a, sA, sc, rfl, hl, hc, hs⟩ := hg j o ho
    have d0 := hc.1
    have hl2 : (a.add (j * 5)).block < w.heap.size := by rw [Go.ChangeShapes.block_add]; exact hl
    clear hg ho hs hc
    generalize g.length = n at *
    have e1 : decide ((j : Int) + 1 ≤ (n : Int)) = true := by simp; omega
    have e2 : decide ((j : Int) < 0) = false := by simp
    have e3 : decide ((n : Int) ≤ (j : Int)) = false := by simp; omega
    go_enter Try.func124, Try.ntmps124
    go_wp2
    go_quiet (fail)
    go_wp2_with fail
    go_ret
    exact ⟨rfl, below_drewN (((Below.refl _ _).alloc (Nat.le_refl _) _).alloc (by simp) _) _⟩
  · rw [there_out (by omega)]
    clear hg
    generalize g.length = n at *
    have e1 : decide ((j : Int) + 1 ≤ (n : Int)) = false := by simp; omega
    go_enter Try.func124, Try.ntmps124
    go_wp2
    go_quiet (fail)
    go_wp2_with fail
    go_ret
    exact ⟨rfl, below_drewN (((Below.refl _ _).alloc (Nat.le_refl _) _).alloc (by simp) _) _⟩
theorem slotB_ref {g : List OB} {v : Int × Int} (hr : refB v.1 v.2 = true) : slotB g v = thereB g v := by
  have h := refB_iff.1 hr
  have h0 : (v.1 == 0) = false := not_eq (by omega)
  simp [slotB, h.1, h0, hr]
set_option maxHeartbeats 2000000 in
theorem mayNot_any {w : World} {A : Option Addr} {c : Nat} {g : List OB} (hg : GAt w A g) (bg : Nat) (hbl : bg < w.heap.size) (hbg : w.cell? ⟨bg, 0, none⟩ = some (.slice A g.length c)) (v : Int × Int) :
    Calls Try.prog 123 #[vV v, bV bg] w fun e w' => e = .returned (.bool (!slotB g v)) ∧ Below w.heap.size w w' := by
  obtain ⟨k, m⟩ := v
  have CM := Lib.hid (May_any k m)
  cases hm : mayB k m with
  | false =>
    rw [show slotB g (k, m) = false by simp [slotB, hm]]
    rw [hm] at CM
    clear hm hg hbg
    go_enter Try.func123, Try.ntmps123
    go_wp2_with (go_at_call 105; (with_reducible refine (CM.out _).mono ?_); rintro e w1 ⟨rfl, hb⟩; have c0 := boxed hb (j := 0) rfl; have c1 := boxed hb (j := 1) rfl; have B1 := Lib.hid (below_box hb); clear hb)
    go_ret
    exact ⟨rfl, B1.out⟩
  | true =>
    rw [hm] at CM
    by_cases k0 : k = 0
    · subst k0
      rw [show slotB g (0, m) = false by simp [slotB]]
      clear hm hg hbg
      go_enter Try.func123, Try.ntmps123
      go_wp2_with (go_at_call 105; (with_reducible refine (CM.out _).mono ?_); rintro e w1 ⟨rfl, hb⟩; have c0 := boxed hb (j := 0) rfl; have c1 := boxed hb (j := 1) rfl; have B1 := Lib.hid (below_box hb); clear hb)
      go_ret
      exact ⟨rfl, B1.out⟩
    · have e0 := not_eq k0
      have CR := Lib.hid (Ref_any k m)
      cases hr : refB k m with
      | false =>
        rw [show slotB g (k, m) = true by simp [slotB, hm, e0, hr]]
        rw [hr] at CR
        clear hm hr hg k0 hbg
        go_enter Try.func123, Try.ntmps123
        go_wp2_with (first
          | (go_at_call 105; (with_reducible refine (CM.out _).mono ?_); rintro e w1 ⟨rfl, hb⟩; have c0 := boxed hb (j := 0) rfl; have c1 := boxed hb (j := 1) rfl; have B1 := Lib.hid (below_box hb); clear hb)
          | (go_at_call 81; (with_reducible refine (CR.out _).mono ?_); rintro e w2 ⟨rfl, hb⟩; have B2 := Lib.hid hb; clear hb))
        go_ret
        exact ⟨rfl, B1.out.trans (B2.out.mono B1.out.size)⟩
      | true =>
        rw [slotB_ref (v := (k, m)) hr]
        rw [hr] at CR
        have hm2 := mayB_iff.1 hm
        have hr2 := (refB_iff.1 hr).2
        obtain ⟨j, rfl⟩ : ∃ j : Nat, m = (j : Int) + 1 := ⟨(m - 1).toNat, by omega⟩
        have hj : j ≤ 2147483647 := by omega
        have CT : Hid (∀ W, Below w.heap.size w W → Calls Try.prog 124 #[gV A g.length c, vV (k, (j : Int) + 1)] W fun e w' => e = .returned (.bool (thereB g (k, (j : Int) + 1))) ∧ Below W.heap.size W w') := fun W hW => there_any (hg.below hW) k j hj
        clear hm hr hm2 hr2 hg k0 hj
        generalize thereB g (k, (j : Int) + 1) = y at *
        generalize g.length = n at *
        go_enter Try.func123, Try.ntmps123
        go_wp2_with (first
          | (go_at_call 105; (with_reducible refine (CM.out _).mono ?_); rintro e w1 ⟨rfl, hb⟩; have c0 := boxed hb (j := 0) rfl; have c1 := boxed hb (j := 1) rfl; have z1 : w.heap.size < w1.heap.size := (by have := hb.size; simp at this; omega); have B1 := Lib.hid (below_box hb); clear hb)
          | (go_at_call 81; (with_reducible refine (CR.out _).mono ?_); rintro e w2 ⟨rfl, hb⟩; have d0 := (hb.cell (p := ⟨w.heap.size, 0, none⟩) z1).trans c0; have d1 := (hb.cell (p := ⟨w.heap.size, 1, none⟩) z1).trans c1; have B2 := Lib.hid (B1.out.trans (hb.mono B1.out.size)); have dg := (B2.out.cell (p := ⟨bg, 0, none⟩) hbl).trans hbg; clear hb)
          | (go_at_call 124; (with_reducible refine (CT.out _ B2.out).mono ?_); rintro e w3 ⟨rfl, hb⟩; have B3 := Lib.hid hb; clear hb))
        go_ret
        exact ⟨by cases y <;> rfl, B2.out.trans (B3.out.mono B2.out.size)⟩
theorem hmf2 : ∀ (fn : Fn) (first cap : Array Value) (w : World), (Instr.makeFunc fn first cap).run Try.prog w = .ok (.func fn first cap) w := fun _ _ _ _ => rfl
set_option maxHeartbeats 2000000 in
/-- The function that slotsMay answers. -/
theorem slots2_any {w : World} {g : List OB} (bf : Nat) (f : Value) (hf : ValAsk w f fun v => !slotB g v) (hbf : w.cell? ⟨bf, 0, none⟩ = some f) (hbl : bf < w.heap.size) (n : Int) (o : OB) (A : Option Addr) (c : Nat) (hs : SlotsAt w o A) :
    Calls Try.prog 125 #[iV n, oV o A c, bV bf] w fun e w' => e = .returned (.bool (slotsOk g o)) ∧ Below w.heap.size w w' := by
  have CV : Hid (∀ W, Below w.heap.size w W → Calls Try.prog 85 #[.slice A o.slots.length c, f] W fun e w' => e = .returned (.bool (o.slots.any fun v => !slotB g v)) ∧ Below W.heap.size W w') := fun W hW =>
    ContainsV_any (by have := hs.2; omega) (hs.below hW).1 (hf.below hW)
  have S : Hid (slotsOk g o = if o.kind = 0 ∨ o.kind = 5 then decide (o.slots.length = 0) else !(o.slots.any fun v => !slotB g v)) := by
    show slotsOk g o = _
    unfold slotsOk
    congr 1
    rw [List.not_any_eq_all_not]
    simp
  rw [S.out]
  clear hf hs S
  obtain ⟨k, co, s, t, m⟩ := o
  simp only at CV ⊢
  generalize (s.any fun v => !slotB g v) = y at *
  have EL : Hid (decide (s.length = 0) = ((s.length : Int) == 0)) := show _ = _ by cases s <;> simp <;> omega
  by_cases k0 : k = 0
  · subst k0
    rw [if_pos (.inl rfl), EL.out]
    go_enter Try.func125, Try.ntmps125
    go_wp2_with fail
    go_ret
    exact ⟨rfl, (Below.refl _ _).alloc (Nat.le_refl _) _⟩
  · have e0 := not_eq k0
    by_cases k5 : k = 5
    · subst k5
      rw [if_pos (.inr rfl), EL.out]
      clear k0 e0
      go_enter Try.func125, Try.ntmps125
      go_wp2_with fail
      go_ret
      exact ⟨rfl, (Below.refl _ _).alloc (Nat.le_refl _) _⟩
    · have e5 := not_eq k5
      rw [if_neg (fun h => h.elim k0 k5)]
      clear k0 k5 EL
      go_enter Try.func125, Try.ntmps125
      go_wp2_with (go_at_call 85; (with_reducible refine (CV.out _ ((Below.refl _ _).alloc (Nat.le_refl _) _)).mono ?_); rintro e w1 ⟨rfl, hb⟩; have B1 := Lib.hid (below_box hb); clear hb)
      go_ret
      exact ⟨rfl, B1.out⟩
theorem ask_of (w : World) (f : Nat) (lb : Array Value) (p : Nat → OB → Bool) (he : ∀ args w, (callFunc f args).run Try.prog w = .ok (.enter f args) w)
    (h : ∀ (W : World) (n : Nat) (o : OB) (A : Option Addr) (c : Nat), Below w.heap.size w W → SlotsAt W o A → n ≤ 4611686018427387904 → Calls Try.prog f (#[iV n, oV o A c] ++ lb) W fun e w' => e = .returned (.bool (p n o)) ∧ Below W.heap.size W w') : AskAt w (.func (.func f) #[] lb) p := ⟨f, lb, rfl, he, h⟩
/-- The four that Check asks. -/
theorem ask_kind (w : World) : AskAt w (.func (.func 76) #[] #[]) fun _ o => kindOk o := ask_of _ _ _ _ (enters_of Try.func76 (by kernel_rfl) rfl) fun W n o A c _ _ _ => kindMay_any n o A c W
theorem ask_numbers (w : World) : AskAt w (.func (.func 77) #[] #[]) fun _ o => numOk o := ask_of _ _ _ _ (enters_of Try.func77 (by kernel_rfl) rfl) fun W n o A c _ _ _ => numbersMay_any n o A c W
theorem ask_text (w : World) : AskAt w (.func (.func 78) #[] #[]) fun _ o => textOk o := ask_of _ _ _ _ (enters_of Try.func78 (by kernel_rfl) rfl) fun W n o A c _ _ _ => textMay_any n o A c W
set_option maxHeartbeats 2000000 in
theorem slotsMay_any {w : World} {A : Option Addr} {c : Nat} {g : List OB} (hg : GAt w A g) :
    Calls Try.prog 79 #[gV A g.length c] w fun e w' => ∃ f, e = .returned f ∧ AskAt w' f (fun _ o => slotsOk g o) ∧ Below w.heap.size w w' := by
  have hmf := hmf2
  have G := Lib.hid hg
  clear hg
  go_enter Try.func79, Try.ntmps79
  go_wp2_with fail
  go_ret
  have B0 : Below w.heap.size w (w.alloc (.cells #[.slice A g.length c] 24 (0, 0))) := (Below.refl _ _).alloc (Nat.le_refl _) _
  have B1 : Below w.heap.size w ((w.alloc (.cells #[.slice A g.length c] 24 (0, 0))).alloc (.cells #[.func (.func 123) #[] #[bV w.heap.size]] 83 (0, 0))) := B0.alloc (by simp) _
  refine ⟨_, rfl, ask_of _ _ _ _ (enters_of Try.func125 (by kernel_rfl) rfl) (fun W n o sA sc hW hs _ => ?_), B1⟩
  have hB := B1.trans (hW.mono (by simp; omega))
  refine slots2_any (w.heap.size + 1) (.func (.func 123) #[] #[bV w.heap.size]) ⟨_, _, rfl, enters_of Try.func123 (by kernel_rfl) rfl, fun W2 v h2 => ?_⟩ ?_ ?_ n o sA sc hs
  · exact mayNot_any (c := c) (G.out.below (hB.trans (h2.mono hB.size))) w.heap.size (by have := hW.size; have := h2.size; simp at *; omega) ((h2.cell (p := ⟨w.heap.size, 0, none⟩) (by have := hW.size; simp at *; omega)).trans ((hW.cell (p := ⟨w.heap.size, 0, none⟩) (by simp; omega)).trans (by simp [go_sem]))) v
  · exact (hW.cell (p := ⟨w.heap.size + 1, 0, none⟩) (by simp)).trans (by simp [go_sem])
  · have := hW.size; simp at this; omega
end Go.Proofs.Ytghnjmodnhnmfaa
