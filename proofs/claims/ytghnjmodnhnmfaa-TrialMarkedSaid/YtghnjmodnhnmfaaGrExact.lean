/- graph.Exact and Holders. -/
import Derived.Test.YtghnjmodnhnmfaaBase
import Derived.Test.YtghnjmodnhnmfaaGrInto
namespace Go.Proofs.Ytghnjmodnhnmfaa
set_option maxRecDepth 20000
set_option maxRecDepth 20000
open Go.RowKit Go.Maps

def exactL (g : List OB) (more : List (Int × Int)) : List Int := if checkB g then intsOf (whichL (fun n o => o.kind != 0 && o.count != cntF (allRefs g ++ refsL more) n) g) else []

/-! Holders -/
theorem below_two {w w1 : World} {o p : Obj} (hb : Below ((w.alloc o).alloc p).heap.size ((w.alloc o).alloc p) w1) : Below w.heap.size w w1 := by
  have b1 : Below w.heap.size w (w.alloc o) := (Below.refl _ _).alloc (Nat.le_refl _) _
  have b2 := b1.alloc b1.size p
  exact b2.trans (hb.mono b2.size)
theorem ahead_two (w : World) (o p : Obj) : Below w.heap.size w ((w.alloc o).alloc p) := by
  have b1 : Below w.heap.size w (w.alloc o) := (Below.refl _ _).alloc (Nat.le_refl _) _
  exact b1.alloc b1.size p
def holdsB (n : Int) (o : OB) : Bool := o.slots.any fun v => refB v.1 v.2 && v.2 == n
def holdersL (g : List OB) (n : Int) : List Int := if checkB g then intsOf (whichL (fun _ o => holdsB n o) g) else []
set_option maxHeartbeats 1000000 in
theorem isHeld_any (bn : Nat) (n : Int) (v : Int × Int) (w : World) (hn : w.cell? ⟨bn, 0, none⟩ = some (iV n)) : Calls Try.prog 83 #[vV v, bV bn] w fun e w' => e = .returned (.bool (refB v.1 v.2 && v.2 == n)) ∧ Below w.heap.size w w' := by
  obtain ⟨k, m⟩ := v
  have CR := Lib.hid (Ref_any k m)
  have hbl := World.block_lt_of_cell? w _ hn
  cases hr : refB k m with
  | true =>
    rw [hr] at CR
    clear hr
    go_enter Try.func83, Try.ntmps83
    go_wp2_with (go_at_call 81; (with_reducible refine (CR.out _).mono ?_); rintro e w1 ⟨rfl, hb⟩; have c0 := boxed hb (j := 0) rfl; have c1 := boxed hb (j := 1) rfl; have cn := ((below_box hb).cell (p := ⟨bn, 0, none⟩) hbl).trans hn; have B1 := Lib.hid (below_box hb); clear hb)
    go_ret
    exact ⟨rfl, B1.out⟩
  | false =>
    rw [hr] at CR
    clear hr
    go_enter Try.func83, Try.ntmps83
    go_wp2_with (go_at_call 81; (with_reducible refine (CR.out _).mono ?_); rintro e w1 ⟨rfl, hb⟩; have c0 := boxed hb (j := 0) rfl; have c1 := boxed hb (j := 1) rfl; have B1 := Lib.hid (below_box hb); clear hb)
    go_ret
    exact ⟨rfl, B1.out⟩
theorem holds2_any {w : World} (bf bn : Nat) (n : Int) (hbf : w.cell? ⟨bf, 0, none⟩ = some (.func (.func 83) #[] #[bV bn])) (hn : w.cell? ⟨bn, 0, none⟩ = some (iV n)) (m : Int) (o : OB) (A : Option Addr) (c : Nat) (hs : SlotsAt w o A) :
    Calls Try.prog 84 #[iV m, oV o A c, bV bf] w fun e w' => e = .returned (.bool (holdsB n o)) ∧ Below w.heap.size w w' := by
  have hbl := World.block_lt_of_cell? w _ hbf
  have hnl := World.block_lt_of_cell? w _ hn
  have CV : Hid (∀ W, Below w.heap.size w W → Calls Try.prog 85 #[.slice A o.slots.length c, .func (.func 83) #[] #[bV bn]] W fun e w' => e = .returned (.bool (holdsB n o)) ∧ Below W.heap.size W w') := fun W hW =>
    ContainsV_any (by have := hs.2; omega) (hs.below hW).1 ⟨_, _, rfl, enters_of Try.func83 (by kernel_rfl) rfl, fun W2 v h2 => isHeld_any bn n v W2 ((h2.cell (p := ⟨bn, 0, none⟩) (Nat.lt_of_lt_of_le hnl hW.size)).trans ((hW.cell (p := ⟨bn, 0, none⟩) hnl).trans hn))⟩
  clear hs
  generalize holdsB n o = y at *
  go_enter Try.func84, Try.ntmps84
  go_wp2_with (go_at_call 85; (with_reducible refine (CV.out _ ((Below.refl _ _).alloc (Nat.le_refl _) _)).mono ?_); rintro e w1 ⟨rfl, hb⟩; have B1 := Lib.hid (below_box hb); clear hb)
  go_ret
  exact ⟨rfl, B1.out⟩
theorem ask_holds {w : World} (bf bn : Nat) (n : Int) (h1 : w.cell? ⟨bf, 0, none⟩ = some (.func (.func 83) #[] #[bV bn])) (h2 : w.cell? ⟨bn, 0, none⟩ = some (iV n)) : AskAt w (.func (.func 84) #[] #[bV bf]) (fun _ o => holdsB n o) :=
  ask_of w 84 #[bV bf] (fun _ o => holdsB n o) (enters_of Try.func84 (by kernel_rfl) rfl) fun W2 m o A c hW2 hs _ =>
    holds2_any bf bn n ((hW2.cell (p := ⟨bf, 0, none⟩) (World.block_lt_of_cell? w _ h1)).trans h1) ((hW2.cell (p := ⟨bn, 0, none⟩) (World.block_lt_of_cell? w _ h2)).trans h2) m o A c hs
set_option maxHeartbeats 2000000 in
theorem Holders_any {w : World} {A : Option Addr} {c : Nat} {g : List OB} (hg : GAt w A g) (hn : g.length * 64 ≤ 140737488355328) (m : Int) :
    Calls Try.prog 28 #[gV A g.length c, iV m] w (GivesI (holdersL g m) w) := by
  have hmf := hmf2
  have CH : Hid (∀ W, Below w.heap.size w W → Calls Try.prog 22 #[gV A g.length c] W fun e w' => e = .returned (.bool (checkB g)) ∧ Below W.heap.size W w') := fun W hW => Check_any (hg.below hW) hn
  have WH : Hid (∀ W bf bn b, Below w.heap.size w W → W.cell? ⟨bf, 0, none⟩ = some (.func (.func 83) #[] #[bV bn]) → W.cell? ⟨bn, 0, none⟩ = some (iV m) → b < W.heap.size → W.cell? ⟨b, 0, none⟩ = some (.func (.func 84) #[] #[bV bf]) →
    Calls Try.prog 75 #[gV A g.length c, .slice (some ⟨b, 0, none⟩) 1 1] W (GivesI (intsOf (whichL (fun _ o => holdsB m o) g)) W)) := fun W bf bn b hW h1 h2 hb h0 => by
    have := which_any (c := c) (d := 1) (hg.below hW) hn (B := some ⟨b, 0, none⟩) (ps := [fun _ o => holdsB m o]) (fun i p hp => by
      match i, hp with
      | 0, hp => injection hp with hp; subst hp; exact ⟨_, _, rfl, hb, by simpa [Addr.add] using h0, ask_holds bf bn m h1 h2⟩
      | j + 1, hp => simp at hp) (by simp)
    have e2 : askAll [fun _ o => holdsB m o] = fun _ o => holdsB m o := by
      funext n o
      simp [askAll]
    rw [e2] at this
    exact this.mono fun e w' h => GivesI.of h
  cases hc : checkB g with
  | false =>
    rw [show holdersL g m = [] by simp [holdersL, hc]]
    rw [hc] at CH
    clear hg hc WH
    generalize g.length = n at *
    go_enter Try.func28, Try.ntmps28
    go_wp2_with (go_at_call 22; (with_reducible refine (CH.out _ (ahead_two _ _ _)).mono ?_); rintro e w1 ⟨rfl, hb⟩; have B1 := Lib.hid (below_two hb); clear hb)
    go_ret
    exact ⟨none, 0, rfl, fun i x hx => by simp at hx, B1.out⟩
  | true =>
    rw [show holdersL g m = intsOf (whichL (fun _ o => holdsB m o) g) by simp [holdersL, hc]]
    rw [hc] at CH
    clear hg hc
    generalize intsOf (whichL (fun _ o => holdsB m o) g) = X at *
    generalize g.length = n at *
    go_enter Try.func28, Try.ntmps28
    go_wp2_with (go_at_call 22; (with_reducible refine (CH.out _ (ahead_two _ _ _)).mono ?_); rintro e w1 ⟨rfl, hb⟩; have B1 := Lib.hid (below_two hb); have c1 := (hb.cell (p := ⟨w.heap.size, 0, none⟩) (by simp; omega)).trans (show _ = some (Value.slice A n c) by simp [go_sem]); have c2 := (hb.cell (p := ⟨w.heap.size + 1, 0, none⟩) (by simp)).trans (show _ = some (iV m) by simp [go_sem]); have z1 : w.heap.size + 1 < w1.heap.size := (by have := hb.size; simp at this; omega); have z0 : w.heap.size < w1.heap.size := Nat.lt_trans (Nat.lt_succ_self _) z1; clear hb)
    have WC : Hid (∀ oo, oo = Obj.cells #[.func (.func 84) #[] #[bV w1.heap.size]] 80 (0, 0) → Calls Try.prog 75 #[gV A n c, .slice (some ⟨w1.heap.size + 1, 0, none⟩) 1 1] ((w1.alloc (.cells #[.func (.func 83) #[] #[bV (w.heap.size + 1)]] 83 (0, 0))).alloc oo) fun e w' => GivesI X w e w') := fun oo he => by
      subst he
      have b3 := B1.out.alloc B1.out.size (.cells #[.func (.func 83) #[] #[bV (w.heap.size + 1)]] 83 (0, 0))
      have b4 := b3.alloc b3.size (.cells #[.func (.func 84) #[] #[bV w1.heap.size]] 80 (0, 0))
      have b5 := ahead_two w1 (.cells #[.func (.func 83) #[] #[bV (w.heap.size + 1)]] 83 (0, 0)) (.cells #[.func (.func 84) #[] #[bV w1.heap.size]] 80 (0, 0))
      refine (WH.out _ w1.heap.size (w.heap.size + 1) (w1.heap.size + 1) b4 (by simp [go_sem]) ((b5.cell (p := ⟨w.heap.size + 1, 0, none⟩) z1).trans c2) (by simp) (by simp [go_sem])).mono ?_
      rintro e w' ⟨A', c', h1, h2, h3⟩
      exact ⟨A', c', h1, h2, b4.trans (h3.mono b4.size)⟩
    go_wp2_with (go_at_call 75; refine (WC.out _ rfl).mono ?_; rintro e w3 ⟨A', c', rfl, hi, hb⟩)
    go_ret
    exact ⟨A', c', rfl, hi, hb⟩
end Go.Proofs.Ytghnjmodnhnmfaa
