/- reach.there, held, objects. -/
import Derived.Test.YtghnjmodnhnmfaaRcSet
import Derived.Test.YtghnjmodnhnmfaaGrExact
namespace Go.Proofs.Ytghnjmodnhnmfaa
set_option maxRecDepth 20000
open Go.RowKit Go.Maps

theorem refs_nat (l : List (Int × Int)) : refsL l = intsOf ((refsL l).map Int.toNat) := by
  unfold intsOf
  rw [List.map_map]
  conv => lhs; rw [← List.map_id (refsL l)]
  refine List.map_congr_left fun x hx => ?_
  have := refs_range hx
  simp; omega
theorem intsOf_get {l : List Nat} {k : Nat} {x : Nat} (h : l[k]? = some x) : (intsOf l)[k]? = some (x : Int) := by simp [intsOf, h]
theorem there_past {g : List OB} {m : Nat} (h : g.length < m) : thereN g m = false := by
  cases m with
  | zero => rfl
  | succ k => rw [there_succ]; rw [List.getElem?_eq_none (by omega)]
theorem there_at {g : List OB} {k : Nat} {o : OB} (h : g[k]? = some o) : thereN g (k + 1) = (o.kind != 0) := by rw [there_succ, h]
theorem held_at {g : List OB} {k : Nat} {o : OB} (h : g[k]? = some o) : heldN g (k + 1) = (refsL o.slots).map Int.toNat := by rw [held_succ, h]
theorem isThere_any {w : World} {A : Option Addr} {c : Nat} {g : List OB} (hg : GAt w A g) (_hn : g.length * 64 ≤ 140737488355328) (m : Int) (h1 : -9223372036854775808 ≤ m) (h2 : m ≤ 9223372036854775807) :
    Calls Try.prog 86 #[gV A g.length c, iV m] w fun e w' => e = .returned (.bool (decide (1 ≤ m) && thereN g m.toNat)) ∧ Below w.heap.size w w' := by
  by_cases hm : 1 ≤ m
  · obtain ⟨k, rfl⟩ : ∃ k : Nat, m = (k : Int) + 1 := ⟨(m - 1).toNat, by omega⟩
    have e1 : ((k : Int) + 1).toNat = k + 1 := by omega
    have d1 : decide (1 ≤ (k : Int) + 1) = true := by simp; omega
    rw [e1, d1, Bool.true_and]
    by_cases hk : k < g.length
    · obtain ⟨o, ho⟩ : ∃ o, g[k]? = some o := ⟨_, List.getElem?_eq_getElem hk⟩
      obtain ⟨a, sA, sc, rfl, hal, ⟨c0, c1, c2, c3, c4⟩, hs⟩ := hg k o ho
      rw [there_at ho]
      have d2 : decide ((k : Int) + 1 ≤ (g.length : Int)) = true := by simp; omega
      clear hg ho hs c1 c2 c3 c4
      generalize g.length = n at *
      have hl2 : (a.add (k * 5)).block < w.heap.size := by rw [Go.ChangeShapes.block_add]; exact hal
      go_enter Try.func86, Try.ntmps86
      go_wp2
      go_ret
      exact ⟨rfl, (Below.refl _ _).alloc (Nat.le_refl _) _⟩
    · rw [there_past (by omega)]
      have d2 : decide ((k : Int) + 1 ≤ (g.length : Int)) = false := by simp; omega
      clear hg
      generalize g.length = n at *
      go_enter Try.func86, Try.ntmps86
      go_wp2
      go_ret
      exact ⟨rfl, (Below.refl _ _).alloc (Nat.le_refl _) _⟩
  · have d1 : decide (1 ≤ m) = false := by simpa using hm
    rw [d1, Bool.false_and]
    clear hg
    generalize g.length = n at *
    go_enter Try.func86, Try.ntmps86
    go_wp2
    go_ret
    exact ⟨rfl, (Below.refl _ _).alloc (Nat.le_refl _) _⟩
theorem isThere_nat {w : World} {A : Option Addr} {c : Nat} {g : List OB} (hg : GAt w A g) (hn : g.length * 64 ≤ 140737488355328) (m : Nat) (h2 : (m : Int) ≤ 9223372036854775807) :
    Calls Try.prog 86 #[gV A g.length c, iV m] w fun e w' => e = .returned (.bool (thereN g m)) ∧ Below w.heap.size w w' := by
  refine (isThere_any hg hn m (by omega) h2).mono ?_
  rintro e w' ⟨rfl, hb⟩
  refine ⟨?_, hb⟩
  congr 2
  cases m with
  | zero => rfl
  | succ k => simp; omega
theorem own_less {w1 : World} {v : Value} {n b b' : Nat} {xs : List Value} (h : w1.ownsRow b 3 1 v n xs) (hb : b' ≤ b) : w1.ownsRow b' 3 1 v n xs := by
  refine ⟨h.1, ?_⟩
  rcases h.2 with h2 | ⟨g, cap, cur, e, hb', r⟩
  · exact .inl h2
  · exact .inr ⟨g, cap, cur, e, by omega, r⟩
theorem own_box {w w1 : World} {o : Obj} {v : Value} {n : Nat} {xs : List Value} (h : w1.ownsRow (w.alloc o).heap.size 3 1 v n xs) : w1.ownsRow w.heap.size 3 1 v n xs := by
  refine ⟨h.1, ?_⟩
  rcases h.2 with h2 | ⟨g, cap, cur, e, hb, r⟩
  · exact .inl h2
  · exact .inr ⟨g, cap, cur, e, by simp at hb; omega, r⟩
theorem gives_box {l : List Int} {w w' : World} {o : Obj} {e : Ending} (h : GivesInts l (w.alloc o) e w') : GivesInts l w e w' := by
  obtain ⟨v, rfl, hw, hb⟩ := h
  exact ⟨v, rfl, own_box hw, below_box hb⟩
theorem held_any {w : World} {A : Option Addr} {c : Nat} {g : List OB} (hg : GAt w A g) (hn : g.length * 64 ≤ 140737488355328) {k : Nat} (hk : k < g.length) :
    Calls Try.prog 130 #[gV A g.length c, iV ((k : Int) + 1)] w (GivesInts (intsOf (heldN g (k + 1))) w) := by
  obtain ⟨o, ho⟩ : ∃ o, g[k]? = some o := ⟨_, List.getElem?_eq_getElem hk⟩
  obtain ⟨a, sA, sc, rfl, hal, ⟨c0, c1, c2, c3, c4⟩, hs⟩ := hg k o ho
  rw [held_at ho, ← refs_nat]
  have RF : Hid (∀ W, Below w.heap.size w W → Calls Try.prog 24 #[.slice sA o.slots.length sc] W (GivesInts (refsL o.slots) W)) := fun W hW => Refs_any sA sc o.slots W hs.2 (pairs_below hs.1 hW)
  clear hg ho hs c0 c1 c3 c4
  generalize g.length = n at *
  generalize refsL o.slots = L at *
  generalize o.slots.length = ns at *
  have hl2 : (a.add (k * 5)).block < w.heap.size := by rw [Go.ChangeShapes.block_add]; exact hal
  go_enter Try.func130, Try.ntmps130
  go_wp2_with (go_at_call 24; (with_reducible refine (RF.out _ ((Below.refl _ _).alloc (Nat.le_refl _) _)).mono ?_); rintro e w1 hG; obtain ⟨v, rfl, hw, hb⟩ := gives_box hG)
  go_ret
  exact ⟨v, rfl, hw, hb⟩
def objP (g : List OB) (L : List Int) (k : Nat) : List Nat := ((L.take k).map Int.toNat).filter (thereN g)
theorem objP_yes {g : List OB} {L : List Int} {k : Nat} {x : Int} (h : L[k]? = some x) (hr : thereN g x.toNat = true) (h1 : 1 ≤ x) : intsOf (objP g L (k + 1)) = intsOf (objP g L k) ++ [x] := by
  have : objP g L (k + 1) = objP g L k ++ [x.toNat] := by unfold objP; rw [List.take_add_one, h]; simp [hr]
  rw [this, intsOf_snoc]
  congr 2
  omega
theorem objP_no {g : List OB} {L : List Int} {k : Nat} {x : Int} (h : L[k]? = some x) (hr : thereN g x.toNat = false) : objP g L (k + 1) = objP g L k := by
  unfold objP; rw [List.take_add_one, h]; simp [hr]
theorem objP_len (g : List OB) (L : List Int) (k : Nat) : (intsOf (objP g L k)).length ≤ k := by
  rw [intsOf_len]
  exact Nat.le_trans (List.length_filter_le _ _) (by simp; omega)
theorem objP_full (g : List OB) (L : List Int) : objP g L L.length = (L.map Int.toNat).filter (thereN g) := by
  unfold objP; rw [List.take_of_length_le (Nat.le_refl _)]
set_option maxHeartbeats 2000000 in
theorem objects_any {w : World} {A : Option Addr} {c : Nat} {g : List OB} (hg : GAt w A g) (hn : g.length * 64 ≤ 140737488355328) {B : Option Addr} {d : Nat} {l : List (Int × Int)} (hl : l.length * 16 ≤ 140737488355328) (h : PairsAt w B l) :
    Calls Try.prog 89 #[gV A g.length c, .slice B l.length d] w (GivesInts (intsOf (objsN g l)) w) := by
  obtain ⟨i0, hi, hz0, hz1, hz2⟩ := info_parts int_info
  have TH : Hid (∀ W m, Below w.heap.size w W → (m : Int) ≤ 9223372036854775807 → 1 ≤ m → Calls Try.prog 86 #[gV A g.length c, iV m] W fun e w' => e = .returned (.bool (thereN g m.toNat)) ∧ Below W.heap.size W w') := fun W m hW h2 h1 => by
    have := isThere_any (c := c) (hg.below hW) hn m (by omega) h2
    rw [decide_eq_true h1, Bool.true_and] at this
    exact this
  have RF : Hid (∀ W, Below w.heap.size w W → Calls Try.prog 24 #[.slice B l.length d] W (GivesInts (refsL l) W)) := fun W hW => Refs_any B d l W hl (pairs_below h hW)
  have RG : Hid (∀ x ∈ refsL l, 1 ≤ x ∧ x ≤ 2147483647) := fun x hx => refs_range hx
  have LN : (refsL l).length ≤ 8796093022208 := Nat.le_trans (refsL_len l) (by omega)
  rw [show objsN g l = ((refsL l).map Int.toNat).filter (thereN g) from rfl]
  clear hg h hl
  generalize refsL l = L at *
  generalize l.length = nl at *
  generalize g.length = n at *
  have GET : Hid (∀ i, i < L.length → ∃ p, L[i]? = some p) := fun i hi => ⟨_, List.getElem?_eq_getElem hi⟩
  have PL : Hid (∀ k, (intsOf (objP g L k)).length ≤ k) := objP_len g L
  have PY : Hid (∀ k x, L[k]? = some x → thereN g x.toNat = true → 1 ≤ x → intsOf (objP g L (k + 1)) = intsOf (objP g L k) ++ [x]) := fun k x => objP_yes
  have PN : Hid (∀ k x, L[k]? = some x → thereN g x.toNat = false → objP g L (k + 1) = objP g L k) := fun k x => objP_no
  rw [← objP_full]
  have P0 : Hid (objP g L 0 = []) := (rfl : objP g L 0 = [])
  generalize objP g L = P at *
  go_enter Try.func89, Try.ntmps89
  go_wp2_with (go_at_call 24; (with_reducible refine (RF.out _ ((Below.refl _ _).alloc (Nat.le_refl _) _)).mono ?_); rintro e V hG; obtain ⟨v, rfl, hw, hb⟩ := hG; have c0 := boxed hb (j := 0) rfl; have BV := Lib.hid (below_box hb); have zV : w.heap.size < V.heap.size := (by have := hb.size; simp at this; omega); clear hb; obtain ⟨RA, rc, rfl, hri⟩ := ints_of_own hw; have RI := Lib.hid hri; clear hw hri)
  go_loopw [5, 11] (fun v i wr => ∃ k : Nat, k ≤ L.length ∧ i = .int .i64 k ∧ wr.ownsRow V.heap.size 3 1 v (intsOf (P k)).length ((intsOf (P k)).map (Value.int .i64)) ∧ Below V.heap.size V wr) (fun _ i _ => L.length - (RowKit.intOf i).toNat)
  case atStart => exact ⟨0, Nat.zero_le _, rfl, (show World.ownsRow _ _ _ _ _ _ _ by rw [P0.out]; exact World.ownsRow_nil _ _ _ _), Below.refl _ _⟩
  case round =>
    obtain ⟨k, hk, rfl, hown, hb⟩ := hrel
    by_cases hlt : k < L.length
    · obtain ⟨x, hx⟩ := GET.out k hlt
      obtain ⟨ad, e, hal, hc⟩ := (RI.out.below hb) k x hx
      subst e
      have hl2 : (ad.add k).block < wr.heap.size := by rw [Go.ChangeShapes.block_add]; exact hal
      have x0 : wr.cell? ⟨w.heap.size, 0, none⟩ = some (.slice A n c) := (hb.cell (p := ⟨w.heap.size, 0, none⟩) zV).trans c0
      have hr := RG.out x (List.mem_of_getElem? hx)
      have O := Lib.hid hown
      have BB := Lib.hid hb
      have HX := Lib.hid hx
      have L1 := PL.out k
      clear hown hb hx
      have CALL := Lib.hid (TH.out wr x (BV.out.trans (BB.out.mono BV.out.size)) (by omega) hr.1)
      have hr2 := hr.2
      clear hr
      cases hq : thereN g x.toNat with
      | true =>
        rw [hq] at CALL
        have E1 := Lib.hid (PY.out k x HX.out hq (by have := RG.out x (List.mem_of_getElem? HX.out); omega))
        clear hq
        go_wp2_with (first
          | (go_at_call 86; refine CALL.out.mono ?_; rintro e w1 ⟨rfl, hb1⟩; have B1 := Lib.hid hb1; clear hb1)
          | (at_builtin; refine wpList_append_own _ rfl (.tmp 18) (.tmp 20) _ rfl V.heap.size 3 i0 _ 1 8 Try.underlying25 hi hz0 hz1 hz2 rfl (by decide) _ _ _ rfl ((own_below O.out B1.out).alloc _) ⟨w1.heap.size, 0, none⟩ 1 1 [.int .i64 x] rfl rfl one_cell (by simp [Value.oneCell']) (by unfold maxLen; omega) (by omega) (by have := BB.out.size; have := B1.out.size; simp; omega) ?_; intro v' w2 hown2 hg2 _))
        have R := refs_step (own_below O.out B1.out) (BB.out.trans (B1.out.mono BB.out.size)) hown2 hg2 E1.out
        clear hown2 hg2
        go_roundw
        case rel => exact ⟨k + 1, by omega, by go_num, R.1, R.2⟩
        case measure => simp [RowKit.intOf]; omega
      | false =>
        rw [hq] at CALL
        have E1 := Lib.hid (PN.out k x HX.out hq)
        clear hq
        go_wp2_with (go_at_call 86; refine CALL.out.mono ?_; rintro e w1 ⟨rfl, hb1⟩; have B1 := Lib.hid hb1; clear hb1)
        go_roundw
        case rel => exact ⟨k + 1, by omega, by go_num, by rw [E1.out]; exact own_below O.out B1.out, BB.out.trans (B1.out.mono BB.out.size)⟩
        case measure => simp [RowKit.intOf]; omega
    · have O := Lib.hid hown
      have BB := Lib.hid hb
      have hkn : k = L.length := by omega
      clear hown hb
      go_wp2_with fail
      go_ret
      refine ⟨_, rfl, ?_, BV.out.trans (BB.out.mono BV.out.size)⟩
      have O2 := O.out
      rw [hkn] at O2
      exact own_less O2 (by have := BV.out.size; omega)
end Go.Proofs.Ytghnjmodnhnmfaa
