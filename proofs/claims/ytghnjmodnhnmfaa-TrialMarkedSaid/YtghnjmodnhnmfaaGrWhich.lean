/- graph.which and Check. -/
import Derived.Test.YtghnjmodnhnmfaaBase
import Derived.Test.YtghnjmodnhnmfaaGrAsk
import Derived.Test.YtghnjmodnhnmfaaValInts
import Derived.Deep.AppendLies
import Derived.RegionTactic
import Derived.Deep.DeepCutAuto
namespace Go.Proofs.Ytghnjmodnhnmfaa
set_option maxRecDepth 20000
set_option maxRecDepth 20000
open Go.RowKit Go.Maps

def intsOf (l : List Nat) : List Int := l.map fun (n : Nat) => (n : Int)
theorem intsOf_snoc {l : List Nat} {n : Nat} : intsOf (l ++ [n]) = intsOf l ++ [(n : Int)] := by simp [intsOf]
set_option maxHeartbeats 2000000 in
theorem which_any {w : World} {A : Option Addr} {c : Nat} {g : List OB} (hg : GAt w A g) (hn : g.length * 64 ≤ 140737488355328) {B : Option Addr} {d : Nat} {ps : List (Nat → OB → Bool)} (hps : AsksAt w B ps) (hl : ps.length ≤ 140737488355328) :
    Calls Try.prog 75 #[gV A g.length c, .slice B ps.length d] w (GivesInts (intsOf (whichL (askAll ps) g)) w) := by
  obtain ⟨i0, hi, hz0, hz1, hz2⟩ := info_parts int_info
  have hmf := hmf2
  have G := Lib.hid hg
  have AS := Lib.hid hps
  have LEN : Hid (∀ k, (intsOf (whichL (askAll ps) (g.take k))).length ≤ k) := fun k => by
    unfold intsOf; rw [List.length_map]
    exact Nat.le_trans (which_len _ _) (List.length_take_le _ _)
  have GET : Hid (∀ i, i < g.length → ∃ p, g[i]? = some p) := fun i hi => ⟨_, List.getElem?_eq_getElem hi⟩
  have FULL : Hid (g.take g.length = g) := List.take_of_length_le (Nat.le_refl _)
  have CO : Hid (∀ W, AsksAt W B ps → ∀ (bi bo : Nat), bi < W.heap.size → bo < W.heap.size → ∀ (i : Nat), i < 4611686018427387904 → ∀ (o : OB) (A : Option Addr) (c : Nat), W.cell? ⟨bi, 0, none⟩ = some (iV i) → CellsAt W ⟨bo, 0, none⟩ o A c → SlotsAt W o A →
    Calls Try.prog 122 #[.slice B ps.length d, .func (.func 121) #[] #[bV bi, bV bo]] W fun e w' => e = .returned (.bool (!askAll ps (i + 1) o)) ∧ Below W.heap.size W w') := fun W h bi bo h1 h2 i hi o A c h3 h4 h5 => ContainsA_any hl h bi bo h1 h2 i hi o A c h3 h4 h5
  clear hg hps hl
  generalize hlen : g.length = n at *
  clear hlen
  go_enter Try.func75, Try.ntmps75
  go_wp2_with fail
  go_loopw [5, 12] (fun v i wr => ∃ k : Nat, k ≤ n ∧ i = .int .i64 k ∧ wr.ownsRow w.heap.size 3 1 v (intsOf (whichL (askAll ps) (g.take k))).length ((intsOf (whichL (askAll ps) (g.take k))).map (Value.int .i64)) ∧ Below w.heap.size w wr) (fun _ i _ => n - (intOf i).toNat)
  case atStart => exact ⟨0, Nat.zero_le _, rfl, World.ownsRow_nil _ _ _ _, (Below.refl _ _).alloc (Nat.le_refl _) _⟩
  case round =>
    obtain ⟨k, hk, rfl, hown, hb⟩ := hrel
    by_cases hlt : k < n
    · obtain ⟨o, ho⟩ := GET.out k hlt
      obtain ⟨a, sA, sc, e, hal, hc, hs⟩ := (G.out.below hb) k o ho
      subst e
      obtain ⟨c0, c1, c2, c3, c4⟩ := hc
      have O := Lib.hid hown
      have BB := Lib.hid hb
      have HO := Lib.hid ho
      have HS := Lib.hid hs
      have hl2 : (a.add (k * 5)).block < wr.heap.size := by rw [Go.ChangeShapes.block_add]; exact hal
      clear hown hb ho hs
      have ED := Lib.hid (which_snoc (p := askAll ps) HO.out)
      have L1 := LEN.out k
      have CALL : Hid (∀ (oo : Obj), oo = .cells #[iV o.kind, iV o.count, .slice sA o.slots.length sc, .string o.text, iV o.mark] 38 (0, 0) → Calls Try.prog 122 #[.slice B ps.length d, .func (.func 121) #[] #[bV wr.heap.size, bV (wr.heap.size + 1)]] ((wr.alloc (.cells #[.int .i64 k] 3 (0, 0))).alloc oo)
          fun e w' => e = .returned (.bool (!askAll ps (k + 1) o)) ∧ Below wr.heap.size wr w' ∧ w'.cell? ⟨wr.heap.size, 0, none⟩ = some (.int .i64 k)) := fun oo he => by
        subst he
        have b1 : Below wr.heap.size wr (wr.alloc (.cells #[.int .i64 k] 3 (0, 0))) := (Below.refl _ _).alloc (Nat.le_refl _) _
        have b2 := b1.alloc (by simp) (.cells #[iV o.kind, iV o.count, .slice sA o.slots.length sc, .string o.text, iV o.mark] 38 (0, 0))
        refine (CO.out _ ((AS.out.below (BB.out)).below b2) wr.heap.size (wr.heap.size + 1) (by simp; omega) (by simp) k (by omega) o sA sc (by simp [go_sem]) ⟨by simp [go_sem], by simp [go_sem], by simp [go_sem], by simp [go_sem], by simp [go_sem]⟩ (HS.out.below b2)).mono ?_
        rintro e w' ⟨h1, h2⟩
        exact ⟨h1, b2.trans (h2.mono (by simp; omega)), (h2.cell (p := ⟨wr.heap.size, 0, none⟩) (by simp; omega)).trans (by simp [go_sem])⟩
      cases hq : askAll ps (k + 1) o with
      | true =>
        rw [hq] at CALL ED
        simp only [if_true] at ED
        clear hq
        go_wp2_with (first
          | (go_at_call 122; refine (CALL.out _ rfl).mono ?_; rintro e w1 ⟨rfl, hb1, hc0⟩; have B1 := Lib.hid hb1; clear hb1)
          | (at_builtin; refine wpList_append_own _ rfl (.tmp 22) (.tmp 25) _ rfl w.heap.size 3 i0 _ 1 8 Try.underlying25 hi hz0 hz1 hz2 rfl (by decide) _ _ _ rfl ((own_below O.out B1.out).alloc _) ⟨w1.heap.size, 0, none⟩ 1 1 [.int .i64 ((k : Int) + 1)] rfl rfl one_cell (by simp [Value.oneCell']) (by unfold maxLen; omega) (by omega) (by have := BB.out.size; have := B1.out.size; simp; omega) ?_; intro v' w2 hown2 hg2 _))
        have E1 : Hid (intsOf (whichL (askAll ps) (g.take (k + 1))) = intsOf (whichL (askAll ps) (g.take k)) ++ [(k : Int) + 1]) := show _ = _ by rw [ED.out, intsOf_snoc]; rfl
        have R := refs_step (own_below O.out B1.out) (BB.out.trans (B1.out.mono BB.out.size)) hown2 hg2 E1.out
        clear hown2 hg2
        go_roundw
        case rel => exact ⟨k + 1, by omega, by go_num, R.1, R.2⟩
        case measure => simp [intOf]; omega
      | false =>
        rw [hq] at CALL ED
        have E1 : Hid (intsOf (whichL (askAll ps) (g.take (k + 1))) = intsOf (whichL (askAll ps) (g.take k))) := show _ = _ by rw [ED.out]; simp
        clear hq
        go_wp2_with (go_at_call 122; refine (CALL.out _ rfl).mono ?_; rintro e w1 ⟨rfl, hb1, hc0⟩; have B1 := Lib.hid hb1; clear hb1)
        go_roundw
        case rel => exact ⟨k + 1, by omega, by go_num, by rw [E1.out]; exact own_below O.out B1.out, BB.out.trans (B1.out.mono BB.out.size)⟩
        case measure => simp [intOf]; omega
    · have O := Lib.hid hown
      have BB := Lib.hid hb
      have hkn : k = n := by omega
      clear hown hb
      go_wp2_with fail
      go_ret
      refine ⟨_, rfl, ?_, BB.out⟩
      have := O.out
      rw [hkn, FULL.out] at this
      exact this
theorem at_world {P : Program} {c : Code} {Q : Exit → Act → World → Prop} {a : Act} {W : World} (S : World → Prop) (hS : S W) (h : ∀ W', S W' → Code.wp P c Q a W') : Code.wp P c Q a W := h W hS
theorem held_keep {w0 w1 w2 : World} {p : Addr} {v : Value} (h : ∀ W, Below w0.heap.size w0 W → W.cell? p = some v) (hs : w1.cell? p = some v ∧ Below w0.heap.size w0 w1) (hb : Below w1.heap.size w1 w2) : w2.cell? p = some v ∧ Below w0.heap.size w0 w2 :=
  ⟨h _ (hs.2.trans (hb.mono hs.2.size)), hs.2.trans (hb.mono hs.2.size)⟩
theorem intsOf_len (l : List Nat) : (intsOf l).length = l.length := by simp [intsOf]
set_option maxHeartbeats 2000000 in
theorem Check_any {w : World} {A : Option Addr} {c : Nat} {g : List OB} (hg : GAt w A g) (hn : g.length * 64 ≤ 140737488355328) :
    Calls Try.prog 22 #[gV A g.length c] w fun e w' => e = .returned (.bool (checkB g)) ∧ Below w.heap.size w w' := by
  have G := Lib.hid hg
  have SM : Hid (∀ W, Below w.heap.size w W → Calls Try.prog 79 #[gV A g.length c] W fun e w' => ∃ f, e = .returned f ∧ AskAt w' f (fun _ o => slotsOk g o) ∧ Below W.heap.size W w') := fun W hW => slotsMay_any (hg.below hW)
  have WH : Hid (∀ W f b, Below w.heap.size w W → AskAt W f (fun _ o => slotsOk g o) → b < W.heap.size → W.cell? ⟨b, 0, none⟩ = some (.func (.func 76) #[] #[]) → W.cell? ⟨b, 1, none⟩ = some (.func (.func 77) #[] #[]) → W.cell? ⟨b, 2, none⟩ = some (.func (.func 78) #[] #[]) → W.cell? ⟨b, 3, none⟩ = some f →
    Calls Try.prog 75 #[gV A g.length c, .slice (some ⟨b, 0, none⟩) 4 4] W fun e w' => ∃ A' n' c', e = .returned (.slice A' n' c') ∧ ((n' : Int) == (g.length : Int)) = checkB g ∧ Below W.heap.size W w') := fun W f b hW hf hb h0 h1 h2 h3 => by
    have := which_any (c := c) (d := 4) (hg.below hW) hn (B := some ⟨b, 0, none⟩) (ps := [fun _ o => kindOk o, fun _ o => numOk o, fun _ o => textOk o, fun _ o => slotsOk g o]) (fun i p hp => by
      match i, hp with
      | 0, hp => injection hp with hp; subst hp; exact ⟨_, _, rfl, hb, by simpa [Addr.add] using h0, ask_kind W⟩
      | 1, hp => injection hp with hp; subst hp; exact ⟨_, _, rfl, hb, by simpa [Addr.add] using h1, ask_numbers W⟩
      | 2, hp => injection hp with hp; subst hp; exact ⟨_, _, rfl, hb, by simpa [Addr.add] using h2, ask_text W⟩
      | 3, hp => injection hp with hp; subst hp; exact ⟨_, _, rfl, hb, by simpa [Addr.add] using h3, hf⟩
      | j + 4, hp => simp at hp) (by simp)
    refine this.mono ?_
    rintro e w' ⟨v, rfl, ho, hb⟩
    have e4 : askAll [fun _ o => kindOk o, fun _ o => numOk o, fun _ o => textOk o, fun _ o => slotsOk g o] = fun _ o => objOk g o := by
      funext _ o
      simp [askAll, objOk, Bool.and_assoc]
    rw [e4] at ho
    obtain ⟨A', c', rfl, _⟩ := ints_of_own ho
    refine ⟨A', _, c', rfl, ?_, hb⟩
    rw [intsOf_len]
    have := which_check (g := g)
    cases hq : checkB g with
    | true => rw [this.2 hq]; simp
    | false =>
      have h3 : ¬ (whichL (fun _ o => objOk g o) g).length = g.length := fun h => by rw [this.1 h] at hq; cases hq
      rw [beq_eq_false_iff_ne]; omega
  clear hg
  generalize checkB g = y at *
  generalize g.length = n at *
  go_enter Try.func22, Try.ntmps22
  go_upto_region 1 with fail
  refine at_world (S := fun W => Below w.heap.size w W ∧ W.cell? ⟨w.heap.size, 0, none⟩ = some (.slice A n c) ∧ w.heap.size < W.heap.size) ⟨(Below.refl _ _).alloc (Nat.le_refl _) _, by simp [go_sem], by simp⟩ (fun V HV => ?_)
  obtain ⟨hV, h0, hlt⟩ := HV
  have BV := Lib.hid hV
  clear hV
  obtain ⟨b0, hb0⟩ : ∃ b0, b0 = w.heap.size := ⟨_, rfl⟩
  rw [← hb0] at h0 hlt ⊢
  clear hb0
  have CX : Hid (∀ W, Below V.heap.size V W → W.cell? ⟨b0, 0, none⟩ = some (.slice A n c)) := fun W hW => (hW.cell (p := ⟨b0, 0, none⟩) hlt).trans h0
  go_region_held3 (fun w' => w'.cell? ⟨b0, 0, none⟩ = some (.slice A n c) ∧ Below V.heap.size V w') (first | exact ⟨h0, (Below.refl _ _).drew⟩ | exact held_keep (fun W => CX.out W) (by assumption) (by assumption) | exact held_keep (fun W => CX.out W) (by assumption) ((Below.refl _ _).alloc (Nat.le_refl _) _))
    (first
    | (go_at_call 79; (with_reducible refine (SM.out _ (by exact BV.out.trans ((by assumption : _ ∧ Below V.heap.size V _).2.mono BV.out.size))).mono ?_); rintro e w1 ⟨f, rfl, hask, hb⟩; have hf := hask; obtain ⟨gg, lb, ef, he1, he2⟩ := hf; subst ef; clear he1 he2)
    | (go_at_call 75; (with_reducible refine (WH.out _ (.func (.func gg) #[] lb) w1.heap.size (by exact BV.out.trans ((by assumption : _ ∧ Below V.heap.size V _).2.mono BV.out.size)) (by exact hask.below ((Below.refl _ _).alloc (Nat.le_refl _) _)) (by simp) (by simp [go_sem]) (by simp [go_sem]) (by simp [go_sem]) (by simp [go_sem])).mono ?_); rintro e w2 ⟨A', n', c', rfl, hq, hb⟩))
  go_wp2_with fail
  go_ret
  exact ⟨rfl, BV.out.trans ((by assumption : _ ∧ Below V.heap.size V w2).2.mono BV.out.size)⟩
end Go.Proofs.Ytghnjmodnhnmfaa
