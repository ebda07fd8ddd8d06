/- reach.Path. -/
import Derived.Test.YtiocfnpfmilkgaaRcWay
import Derived.Deep.RegionHeld3
import Derived.BigQuiet
namespace Go.Proofs.Ytiocfnpfmilkgaa
set_option maxRecDepth 20000
open Go.RowKit Go.Maps

noncomputable def pathI (g : List OB) (root : Int × Int) (m : Int) : List Nat := if 1 ≤ m then pathL g root m.toNat else []
theorem objs_one (g : List OB) (r : Int × Int) : objsN g [r] = [] ∨ ∃ a, objsN g [r] = [a] ∧ thereN g a = true := by
  have h := objs_len g [r]
  cases hX : objsN g [r] with
  | nil => exact Or.inl rfl
  | cons a l =>
    rw [hX] at h
    have : l = [] := by cases l with | nil => rfl | cons x y => simp at h
    subst this
    exact Or.inr ⟨a, rfl, objs_there (l := [r]) (by rw [hX]; simp)⟩
noncomputable def wayX (g : List OB) (b : Nat) (X : List Nat) : List Nat := match X with
  | [] => []
  | a :: _ => if distF g b a = 0 then [] else wayL g (distF g b) (distF g b a - 1) a
theorem way_all {V W : World} {A : Option Addr} {c : Nat} {g : List OB} (hg : GAt V A g) (hck : checkB g = true) (hn : g.length ≤ 900) (hh : ∀ m, (heldN g m).length ≤ 1048576) (hW : Below V.heap.size V W) {b : Nat} (hb : thereN g b = true) {bl : Nat} (hR : RowL W bl (g.length + 1) (distF g b))
    {X : List Nat} (hX : X = [] ∨ ∃ a, X = [a] ∧ thereN g a = true) {lo : Nat} {v : Value} (ho : W.ownsRow lo 3 1 v (intsOf X).length (cellsI X)) (hlo : V.heap.size ≤ lo) (hbl : bl < lo) :
    Calls Try.prog 71 #[gV A g.length c, .slice (some ⟨bl, 0, none⟩) (g.length + 1) (g.length + 1), v] W (GivesI (intsOf (wayX g b X)) V) := by
  rcases hX with rfl | ⟨a, rfl, ha⟩
  · obtain ⟨A1, c1, rfl, _⟩ := ints_of_own ho
    refine (way_nil A A1 g.length c bl c1).mono ?_
    rintro e w' ⟨rfl, h⟩
    exact ⟨none, 0, rfl, fun i x hx => by simp [intsOf, wayX] at hx, hW.trans (h.mono hW.size)⟩
  · obtain ⟨bv, cap, cur, rfl, h1, h2, h3, h4⟩ := own_form ho (by simp)
    have han := (there_le ha).2
    by_cases hz : distF g b a = 0
    · have e : wayX g b [a] = [] := by unfold wayX; simp only; rw [if_pos hz]
      rw [e]
      have r0 := hR.cell (k := a) (by omega)
      rw [hz] at r0
      have x0 := ho.cells (g := bv) rfl 0 (.int .i64 a) rfl
      rw [add_zero_at] at x0
      refine (way_none A g.length c bl cap bv a han r0 x0).mono ?_
      rintro e w' ⟨rfl, h⟩
      exact ⟨none, 0, rfl, fun i x hx => by simp [intsOf] at hx, hW.trans (h.mono hW.size)⟩
    · have e : wayX g b [a] = wayL g (distF g b) (distF g b a - 1) a := by unfold wayX; simp only; rw [if_neg hz]
      rw [e]
      refine (way_some (left := distF g b a - 1) hg hck hn hh hW hb (dist_is g b) hR ha (by omega) (own_less ho hlo) (by omega)).mono ?_
      rintro e w' ⟨v, rfl, h5, h6⟩
      obtain ⟨A1, c1, rfl, hi⟩ := ints_of_own h5
      exact ⟨A1, c1, rfl, hi, h6⟩
theorem RowL.lt' {w : World} {b n : Nat} {L : Nat → Nat} (h : RowL w b n L) : b < w.heap.size := World.rowIs.lt h
theorem keep_call {P : Prop} {V w1 w2 : World} (h : P ∧ Below V.heap.size V w1) (hb : Below w1.heap.size w1 w2) : Below V.heap.size V w2 := h.2.trans (hb.mono h.2.size)
theorem keep_alloc {P : Prop} {V w1 : World} {o : Obj} (h : P ∧ Below V.heap.size V w1) : Below V.heap.size V (w1.alloc o) := h.2.alloc h.2.size o
theorem lit_later {V w : World} {rk rn : Int} {T : TypeId} (h : Below (V.alloc (.cells #[.int .i64 rk, .int .i64 rn] T (0, 0))).drew.heap.size (V.alloc (.cells #[.int .i64 rk, .int .i64 rn] T (0, 0))).drew w) : PairsAt w (some ⟨V.heap.size, 0, none⟩) [(rk, rn)] :=
  pairs_below (show PairsAt (V.alloc (.cells #[.int .i64 rk, .int .i64 rn] T (0, 0))).drew _ _ from pairs_alloc [(rk, rn)] V T) h
theorem lit_root {w : World} {rk rn : Int} {T : TypeId} : PairsAt (w.alloc (.cells #[.int .i64 rk, .int .i64 rn] T (0, 0))) (some ⟨w.heap.size, 0, none⟩) [(rk, rn)] := pairs_alloc [(rk, rn)] w T
set_option maxHeartbeats 4000000 in
theorem Path_any {w : World} {A : Option Addr} {c : Nat} {g : List OB} (hg : GAt w A g) (hn : g.length ≤ 900) (hh : ∀ m, (heldN g m).length ≤ 1048576) (r : Int × Int) (m : Int) (h1 : -9223372036854775808 ≤ m) (h2 : m ≤ 9223372036854775807) :
    Calls Try.prog 34 #[gV A g.length c, vV r, iV m] w (GivesI (intsOf (pathI g r m)) w) := by
  have hmf := hmf2
  have CH : Hid (∀ W, Below w.heap.size w W → Calls Try.prog 36 #[gV A g.length c] W fun e w' => e = .returned (.bool (checkB g)) ∧ Below W.heap.size W w') := fun W hW => Check_any (hg.below hW) (by omega)
  have TH : Hid (∀ W, Below w.heap.size w W → Calls Try.prog 70 #[gV A g.length c, iV m] W fun e w' => e = .returned (.bool (decide (1 ≤ m) && thereN g m.toNat)) ∧ Below W.heap.size W w') := fun W hW => isThere_any (hg.below hW) (by omega) m h1 h2
  cases hc : checkB g with
  | false =>
    rw [show pathI g r m = [] by unfold pathI pathL; rw [hc]; simp]
    rw [hc] at CH
    clear hg hc hh
    generalize g.length = n at *
    obtain ⟨rk, rn⟩ := r
    go_enter Try.func34, Try.ntmps34
    go_wp2_with (first
      | (go_at_call 36; (with_reducible refine (CH.out _ (((Below.refl _ _).alloc (Nat.le_refl _) _).alloc (by simp) _)).mono ?_); rintro e w1 ⟨rfl, hb⟩; have B1 : Hid (Below w.heap.size w w1) := below_box (below_box hb); clear hb))
    go_ret
    exact ⟨none, 0, rfl, fun i x hx => by simp [intsOf] at hx, B1.out⟩
  | true =>
    rw [hc] at CH
    cases ht : (decide (1 ≤ m) && thereN g m.toNat) with
    | false =>
      rw [show pathI g r m = [] by
        unfold pathI pathL
        by_cases e : 1 ≤ m
        · rw [decide_eq_true e, Bool.true_and] at ht
          rw [if_pos e, ht]; simp
        · rw [if_neg e]]
      rw [ht] at TH
      clear hg hc hh ht
      generalize g.length = n at *
      obtain ⟨rk, rn⟩ := r
      go_enter Try.func34, Try.ntmps34
      go_wp2_with (first
        | (go_at_call 36; (with_reducible refine (CH.out _ (((Below.refl _ _).alloc (Nat.le_refl _) _).alloc (by simp) _)).mono ?_); rintro e w1 ⟨rfl, hb⟩; have c0 := boxed (j := 0) (below_box hb) rfl; have B1 : Hid (Below w.heap.size w w1) := below_box (below_box hb); clear hb)
        | (go_at_call 70; (with_reducible refine (TH.out _ B1.out).mono ?_); rintro e w2 ⟨rfl, hb⟩; have B2 : Hid (Below w.heap.size w w2) := B1.out.trans (hb.mono B1.out.size); clear hb))
      go_ret
      exact ⟨none, 0, rfl, fun i x hx => by simp [intsOf] at hx, B2.out⟩
    | true =>
      simp only [Bool.and_eq_true, decide_eq_true_eq] at ht
      obtain ⟨hm1, hb⟩ := ht
      obtain ⟨b, rfl⟩ : ∃ b : Nat, m = b := ⟨m.toNat, by omega⟩
      rw [Int.toNat_natCast] at hb
      have d1 : decide (1 ≤ (b : Int)) = true := decide_eq_true hm1
      rw [Int.toNat_natCast, hb, d1, Bool.true_and] at TH
      have hbn := (there_le hb).2
      have LN : Hid (∀ W, Below w.heap.size w W → Calls Try.prog 72 #[gV A g.length c, iV b] W fun e w' => ∃ bl, e = .returned (.slice (some ⟨bl, 0, none⟩) (g.length + 1) (g.length + 1)) ∧ RowL w' bl (g.length + 1) (distF g b) ∧ W.heap.size ≤ bl ∧ Below W.heap.size W w') := fun W hW => lengths_any (hg.below hW) hc hn hh hb
      have OB : Hid (∀ W B d, Below w.heap.size w W → PairsAt W B [r] → Calls Try.prog 73 #[gV A g.length c, .slice B 1 d] W (GivesInts (intsOf (objsN g [r])) W)) := fun W B d hW hp => objects_any (d := d) (hg.below hW) (by omega) (l := [r]) (by simp) hp
      have WA : Hid (∀ (V W : World) (v : Value) (bl lo : Nat), Below w.heap.size w V → Below V.heap.size V W → RowL W bl (g.length + 1) (distF g b) → W.ownsRow lo 3 1 v (intsOf (objsN g [r])).length (cellsI (objsN g [r])) → V.heap.size ≤ lo → bl < lo →
        Calls Try.prog 71 #[gV A g.length c, .slice (some ⟨bl, 0, none⟩) (g.length + 1) (g.length + 1), v] W (GivesI (intsOf (wayX g b (objsN g [r]))) V)) := fun V W v bl lo hV hW hR ho hlo hbl => way_all (hg.below hV) hc hn hh hW hb hR (objs_one g r) ho hlo hbl
      have PE : Hid (pathI g r b = wayX g b (objsN g [r])) := show _ = _ by
        unfold pathI pathL wayX
        rw [if_pos hm1, Int.toNat_natCast, hc, hb]
        rfl
      rw [PE.out]
      obtain ⟨rk, rn⟩ := r
      generalize hX : objsN g [(rk, rn)] = X at *
      generalize hgn : g.length = n at *
      go_enter Try.func34, Try.ntmps34
      go_upto_region 3 with (first
        | (go_at_call 36; (with_reducible refine (CH.out _ (((Below.refl _ _).alloc (Nat.le_refl _) _).alloc (by simp) _)).mono ?_); rintro e w1 ⟨rfl, hb⟩; have c0 := boxed (j := 0) (below_box hb) rfl; have c1 := boxed (j := 0) hb rfl; have c2 := boxed (j := 1) hb rfl; have B1 : Hid (Below w.heap.size w w1) := below_box (below_box hb); have z1 : w.heap.size + 1 < w1.heap.size := (by have := hb.size; simp at this; omega); clear hb)
        | (go_at_call 70; (with_reducible refine (TH.out _ B1.out).mono ?_); rintro e V ⟨rfl, hb⟩; have BV : Hid (Below w.heap.size w V) := B1.out.trans (hb.mono B1.out.size); have c3 := (hb.cell (p := ⟨w.heap.size, 0, none⟩) (show w.heap.size < _ by omega)).trans c0; have hb9 := hb; clear hb))
      have k0 : V.cell? ⟨w.heap.size, 0, none⟩ = some (.slice A n c) := c3
      have k1 : V.cell? ⟨w.heap.size + 1, 0, none⟩ = some (.int .i64 rk) := (hb9.cell (p := ⟨w.heap.size + 1, 0, none⟩) z1).trans (by simpa using c1)
      have k2 : V.cell? ⟨w.heap.size + 1, 1, none⟩ = some (.int .i64 rn) := (hb9.cell (p := ⟨w.heap.size + 1, 1, none⟩) z1).trans (by simpa using c2)
      have zV : w.heap.size + 1 < V.heap.size := Nat.lt_of_lt_of_le z1 hb9.size
      clear c0 c1 c2 c3 hb9
      have KP : Hid (∀ W, Below V.heap.size V W → (W.cell? ⟨w.heap.size, 0, none⟩ = some (.slice A n c) ∧ W.cell? ⟨w.heap.size + 1, 0, none⟩ = some (.int .i64 rk) ∧ W.cell? ⟨w.heap.size + 1, 1, none⟩ = some (.int .i64 rn)) ∧ Below V.heap.size V W) := fun W hW =>
        ⟨⟨(hW.cell (p := ⟨w.heap.size, 0, none⟩) (show w.heap.size < _ by omega)).trans k0, (hW.cell (p := ⟨w.heap.size + 1, 0, none⟩) zV).trans k1, (hW.cell (p := ⟨w.heap.size + 1, 1, none⟩) zV).trans k2⟩, hW⟩
      go_region_held3 (fun w' => (w'.cell? ⟨w.heap.size, 0, none⟩ = some (.slice A n c) ∧ w'.cell? ⟨w.heap.size + 1, 0, none⟩ = some (.int .i64 rk) ∧ w'.cell? ⟨w.heap.size + 1, 1, none⟩ = some (.int .i64 rn)) ∧ Below V.heap.size V w') (first | exact KP.out _ ((Below.refl _ _).drew) | exact KP.out _ (keep_call (by assumption) (by assumption)) | exact KP.out _ (keep_alloc (by assumption)) | exact KP.out _ (by assumption))
        (first
        | (go_at_call 72; (with_reducible refine (LN.out _ (by exact BV.out.trans ((by assumption : _ ∧ Below V.heap.size V _).2.mono BV.out.size))).mono ?_); rintro e w2 ⟨bl, rfl, hr2, hl2, hb2⟩)
        | (go_at_call 73; first
            | (with_reducible refine (OB.out _ _ _ (by exact BV.out.trans ((by assumption : _ ∧ Below V.heap.size V _).2.mono BV.out.size)) lit_root).mono ?_)
            | (with_reducible refine (OB.out _ _ _ (by exact BV.out.trans ((by assumption : _ ∧ Below V.heap.size V _).2.mono BV.out.size)) (lit_later hb2)).mono ?_)
           rintro e w3 ⟨v3, rfl, ho3, hb3⟩)
        | (go_at_call 71; (with_reducible refine (WA.out V w3 v3 bl _ BV.out (And.right (by assumption)) (hr2.below (by first | exact hb3 | exact ((Below.refl _ _).alloc (Nat.le_refl _) _).trans (hb3.mono (by simp)))) ho3 (by have := hb2.size; simp at *; omega) (by have := hr2.lt'; simp; omega)).mono ?_); rintro e w4 ⟨A4, c4, rfl, hi4, hb4⟩))
      all_goals
        go_wp2_with fail
        go_ret
        exact ⟨A4, c4, rfl, hi4, BV.out.trans (hb4.mono BV.out.size)⟩
end Go.Proofs.Ytiocfnpfmilkgaa
