/- tallowref12.has, there, but; ahead of them plain words on what they follow. -/
import Derived.Test.YtjlobjgemhapaaaTrLaw
import Derived.Test.YtjlobjgemhapaaaOldQ
import Derived.Test.YtjlobjgemhapaaaTrB
import Derived.Test.YtjlobjgemhapaaaTrB
import Derived.Deep.LoopGhost
import Derived.Deep.DeepCutAuto
import Derived.Deep.RegionLaw
import Derived.Deep.RegionHeld3
import Derived.BigQuiet
import Derived.Maps.AppendAt
namespace Go.Proofs.Ytjlobjgemhapaaa
set_option maxRecDepth 20000
open Go.RowKit Go.Maps

theorem meet_filter {whom : Int → Bool} : ∀ {l met : List Int}, meetL whom met (l.filter whom) = meetL whom met l
  | [], _ => rfl
  | n :: l, met => by
    cases h : whom n with
    | true =>
      rw [List.filter_cons_of_pos h, meet_cons, meet_cons]
      exact meet_filter
    | false =>
      rw [List.filter_cons_of_neg (by simp [h]), meet_cons, if_pos (.inr h)]
      exact meet_filter
/-- What its slots name, of those that are followed: as what it holds. -/
theorem meet_refs {g : List OB} (hg : checkB g = true) {k : Nat} {o : OB} (ho : g[k]? = some o) (met : List Int) : meetL (looksB g) met (refsL o.slots) = meetL (looksB g) met (heldG g ((k : Int) + 1)) := by
  rw [heldG_at ho, heldS_refs hg (List.mem_of_getElem? ho), meet_filter]
theorem fol_iff {g : List OB} {S L : List Int} {p : Int → Bool} (hp : ∀ x, p x = decide (x ∈ S)) (hcl : ∀ m ∈ S, ∀ x ∈ heldG g m, looksB g x = true → x ∈ S) (hS : ∀ m ∈ S, looksB g m = true) (hL : ∀ x ∈ L, x ∈ S) {n : Int} : Fol g p L n ↔ Fol g (looksB g) L n := by
  constructor
  · intro h
    induction h with
    | root h1 h2 => exact .root h1 (hS _ (hL _ h1))
    | step h1 h2 h3 ih => rw [hp, decide_eq_true_iff] at h3; exact .step ih h2 (hS _ h3)
  · intro h
    have key : ∀ m, Fol g (looksB g) L m → Fol g p L m ∧ m ∈ S := by
      intro m h
      induction h with
      | root h1 _ => exact ⟨.root h1 (by rw [hp]; exact decide_eq_true (hL _ h1)), hL _ h1⟩
      | step h1 h2 h3 ih =>
        have := hcl _ ih.2 _ h2 h3
        exact ⟨.step ih.1 h2 (by rw [hp]; exact decide_eq_true this), this⟩
    exact (key _ h).1
theorem seen_closed {g : List OB} (hg : checkB g = true) (l : List Int) : ∀ m ∈ seenL g l, ∀ x ∈ heldG g m, looksB g x = true → x ∈ seenL g l := fun m hm x hx h => by
  have h2 := (seen_fol hg l).2
  exact (h2 x).2 (.step ((h2 m).1 hm) hx h)
/-- Rising, the numbers up to q that are in the one list and not in the other. -/
def butF (L N : List Int) (q : Nat) : List Int := ((List.range q).filter fun (i : Nat) => decide (((i : Int) + 1) ∈ L) && !decide (((i : Int) + 1) ∈ N)).map fun (i : Nat) => (i : Int) + 1
theorem butF_yes {L N : List Int} {q : Nat} (h1 : (q : Int) + 1 ∈ L) (h2 : (q : Int) + 1 ∉ N) : butF L N (q + 1) = butF L N q ++ [(q : Int) + 1] := by
  unfold butF; rw [List.range_succ, List.filter_append, List.map_append]; simp [h1, h2]
theorem butF_no {L N : List Int} {q : Nat} (h : ¬ ((q : Int) + 1 ∈ L ∧ (q : Int) + 1 ∉ N)) : butF L N (q + 1) = butF L N q := by
  unfold butF; rw [List.range_succ, List.filter_append, List.map_append]
  have : (decide (((q : Int) + 1) ∈ L) && !decide (((q : Int) + 1) ∈ N)) = false := by
    by_cases a : (q : Int) + 1 ∈ L
    · by_cases b : (q : Int) + 1 ∈ N
      · simp [a, b]
      · exact absurd ⟨a, b⟩ h
    · simp [a]
  simp [this]
theorem butF_len (L N : List Int) (q : Nat) : (butF L N q).length ≤ q := by
  unfold butF; rw [List.length_map]
  exact Nat.le_trans (List.length_filter_le _ _) (by simp)
theorem butF_rise (L N : List Int) (q : Nat) : (butF L N q).Pairwise (· < ·) := by
  unfold butF
  rw [List.pairwise_map]
  exact (List.Pairwise.sublist List.filter_sublist List.pairwise_lt_range).imp fun h => by omega
theorem butF_mem {L N : List Int} {q : Nat} {x : Int} : x ∈ butF L N q ↔ 1 ≤ x ∧ x ≤ q ∧ x ∈ L ∧ x ∉ N := by
  unfold butF
  rw [List.mem_map]
  constructor
  · rintro ⟨i, hi, rfl⟩
    obtain ⟨h1, h2⟩ := List.mem_filter.1 hi
    have := List.mem_range.1 h1
    simp only [Bool.and_eq_true, decide_eq_true_iff, Bool.not_eq_true', decide_eq_false_iff_not] at h2
    exact ⟨by omega, by omega, h2.1, h2.2⟩
  · rintro ⟨h1, h2, h3, h4⟩
    refine ⟨(x - 1).toNat, List.mem_filter.2 ⟨List.mem_range.2 (by omega), ?_⟩, by omega⟩
    rw [show (((x - 1).toNat : Nat) : Int) + 1 = x by omega]
    simp [h3, h4]
theorem rise_same {a b : List Int} (ha : a.Pairwise (· < ·)) (hb : b.Pairwise (· < ·)) (h : ∀ x, x ∈ a ↔ x ∈ b) : a = b := by
  have nd : ∀ {l : List Int}, l.Pairwise (· < ·) → l.Nodup := fun h => h.imp fun h e => by omega
  have hp : a.Perm b := by
    rw [List.perm_iff_count]
    intro x
    rw [(nd ha).count, (nd hb).count]
    simp [h x]
  refine List.Perm.eq_of_pairwise (le := fun x y => x < y) ?_ ha hb hp
  intro x y _ _ h1 h2
  omega

theorem RHas_any {A : Option Addr} {c : Nat} {xs : List Int} {w : World} (hl : xs.length ≤ 140737488355328) (ha : IntsAt w A xs) (n : Int) :
    Calls Try.prog 38 #[.slice A xs.length c, iV n] w fun e w' => e = .returned (.bool (decide (n ∈ xs))) ∧ w' = w := by
  have HA := Lib.hid ha
  have GET : Hid (∀ i, i < xs.length → ∃ p, xs[i]? = some p) := fun i hi => ⟨_, List.getElem?_eq_getElem hi⟩
  have YES : Hid (∀ k, xs[k]? = some n → decide (n ∈ xs) = true) := fun k hk => decide_eq_true (List.mem_of_getElem? hk)
  have NO : Hid ((∀ i x, i < xs.length → xs[i]? = some x → x ≠ n) → decide (n ∈ xs) = false) := fun h => decide_eq_false fun hm => by
    obtain ⟨i, hi⟩ := List.getElem?_of_mem hm
    exact h i n (List.getElem?_eq_some_iff.1 hi).1 hi rfl
  clear ha
  generalize decide (n ∈ xs) = y at *
  generalize hm : xs.length = m at *
  clear hm
  go_enter Try.func38, Try.ntmps38
  go_wp2_with fail
  go_loopg [5] m (fun gg s5 wr => ∃ k : Nat, k ≤ m ∧ m - k ≤ gg ∧ s5 = .int .i64 k ∧ wr = w ∧ Hid (∀ i x, i < k → xs[i]? = some x → x ≠ n))
  case atStart => exact ⟨0, Nat.zero_le _, by omega, rfl, rfl, fun i x hi => absurd hi (Nat.not_lt_zero _)⟩
  case round =>
    obtain ⟨k, hk, hgg, rfl, hw, I⟩ := hrel
    obtain rfl := hw.symm
    by_cases hlt : k < m
    · obtain ⟨x, hx⟩ := GET.out k hlt
      obtain ⟨a, e, _, hc⟩ := HA.out k x hx
      subst e
      cases hq : (x == n) with
      | true =>
        have hxn : x = n := by simpa using hq
        have Y := Lib.hid (YES.out k (by rw [hx, hxn]))
        clear hx hxn
        go_wp2_with fail
        go_ret
        exact ⟨by rw [Y.out]; rfl, rfl⟩
      | false =>
        have hxn : x ≠ n := by simpa using hq
        have I2 : Hid (∀ i y, i < k + 1 → xs[i]? = some y → y ≠ n) := fun i y hi hy => by
          by_cases e : i = k
          · subst e; rw [hx] at hy; injection hy with hy; subst hy; exact hxn
          · exact I.out i y (by omega) hy
        clear hx hxn
        go_wp2_with fail
        go_roundg (m - (k + 1))
        case measure => omega
        case rel => exact ⟨k + 1, by omega, by omega, by go_num, rfl, I2.out⟩
    · have hkm : k = m := by omega
      have N := Lib.hid (NO.out (by rw [← hkm]; exact I.out))
      clear hkm
      go_wp2_with fail
      go_ret
      exact ⟨by rw [N.out]; rfl, rfl⟩
theorem RThere12_any {w : World} {A : Option Addr} {c : Nat} {g : List OB} (hg : GAt w A g) (m : Int) (h1 : -9223372036854775808 ≤ m) (h2 : m ≤ 9223372036854775807) :
    Calls Try.prog 37 #[gV A g.length c, iV m] w fun e w' => e = .returned (.bool (looksB g m)) ∧ Below w.heap.size w w' := by
  have no : ¬ (1 ≤ m ∧ m ≤ g.length) → looksB g m = false := fun h => by
    cases e : looksB g m with
    | false => rfl
    | true => exact absurd (looks_range e) h
  by_cases hm : 1 ≤ m
  · obtain ⟨k, rfl⟩ : ∃ k : Nat, m = (k : Int) + 1 := ⟨(m - 1).toNat, by omega⟩
    by_cases hk : k < g.length
    · obtain ⟨o, ho⟩ : ∃ o, g[k]? = some o := ⟨_, List.getElem?_eq_getElem hk⟩
      obtain ⟨a, sA, sc, rfl, hal, ⟨c0, c1, c2, c3, c4⟩, hs⟩ := hg k o ho
      rw [looks_at ho]
      have d1 : decide (1 ≤ (k : Int) + 1) = true := by simp; omega
      have d2 : decide ((k : Int) + 1 ≤ (g.length : Int)) = true := by simp; omega
      clear hg ho hs c1 c2 c3 c4 no
      generalize g.length = n at *
      generalize o.kind = kd at *
      have hl2 : (a.add (k * 5)).block < w.heap.size := by rw [Go.ChangeShapes.block_add]; exact hal
      go_enter Try.func37, Try.ntmps37
      go_wp2_with fail
      go_ret
      exact ⟨rfl, (Below.refl _ _).alloc (Nat.le_refl _) _⟩
    · rw [no (by omega)]
      have d1 : decide (1 ≤ (k : Int) + 1) = true := by simp; omega
      have d2 : decide ((k : Int) + 1 ≤ (g.length : Int)) = false := by simp; omega
      clear hg no
      generalize g.length = n at *
      go_enter Try.func37, Try.ntmps37
      go_wp2_with fail
      go_ret
      exact ⟨rfl, (Below.refl _ _).alloc (Nat.le_refl _) _⟩
  · have d1 : decide (1 ≤ m) = false := by simpa using hm
    rw [no (by omega)]
    clear hg no
    generalize g.length = n at *
    go_enter Try.func37, Try.ntmps37
    go_wp2_with fail
    go_ret
    exact ⟨rfl, (Below.refl _ _).alloc (Nat.le_refl _) _⟩
set_option maxHeartbeats 4000000 in
theorem RBut_any {w : World} {A : Option Addr} {c : Nat} {g : List OB} (hn : g.length ≤ 900) {B C : Option Addr} {d e9 : Nat} {L N : List Int} (hL : L.length ≤ 1099511627776) (hN : N.length ≤ 1099511627776) (hB : IntsAt w B L) (hC : IntsAt w C N) :
    Calls Try.prog 47 #[gV A g.length c, .slice B L.length d, .slice C N.length e9] w (GivesInts (butF L N g.length) w) := by
  obtain ⟨i0, hi, hz0, hz1, hz2⟩ := info_parts int_info
  have HB := Lib.hid hB
  have HC := Lib.hid hC
  have PL : Hid (∀ k, (butF L N k).length ≤ k) := butF_len L N
  have PY : Hid (∀ k : Nat, (k : Int) + 1 ∈ L → (k : Int) + 1 ∉ N → butF L N (k + 1) = butF L N k ++ [(k : Int) + 1]) := fun k => butF_yes
  have PN : Hid (∀ k : Nat, ¬ ((k : Int) + 1 ∈ L ∧ (k : Int) + 1 ∉ N) → butF L N (k + 1) = butF L N k) := fun k => butF_no
  have P0 : Hid (butF L N 0 = []) := (rfl : butF L N 0 = [])
  have C1 : Hid (∀ W (x : Int), Below w.heap.size w W → Calls Try.prog 38 #[.slice B L.length d, iV x] W fun e w' => e = .returned (.bool (decide (x ∈ L))) ∧ w' = W) := fun W x hW => RHas_any (by omega) (HB.out.below hW) x
  have C2 : Hid (∀ W (x : Int), Below w.heap.size w W → Calls Try.prog 38 #[.slice C N.length e9, iV x] W fun e w' => e = .returned (.bool (decide (x ∈ N))) ∧ w' = W) := fun W x hW => RHas_any (by omega) (HC.out.below hW) x
  clear hB hC HB HC hL hN
  generalize butF L N = P at *
  generalize L.length = nl at *
  generalize N.length = nn at *
  generalize g.length = n at *
  go_enter Try.func47, Try.ntmps47
  go_upto_region 1 with fail
  refine at_world (fun V => Below w.heap.size w V ∧ V.cell? ⟨w.heap.size, 0, none⟩ = some (.slice A n c) ∧ w.heap.size < V.heap.size) ⟨(Below.refl _ _).alloc (Nat.le_refl _) _, by simp [go_sem], by simp⟩ (fun V HV => ?_)
  obtain ⟨hb, c0, zV⟩ := HV
  have BV := Lib.hid hb
  have CX : Hid (∀ W, Below V.heap.size V W → W.cell? ⟨w.heap.size, 0, none⟩ = some (.slice A n c)) := fun W hW => (hW.cell (p := ⟨w.heap.size, 0, none⟩) zV).trans c0
  clear hb
  go_wp2_with fail
  go_loopg [7, 8] n (fun gg s7 s8 wr => ∃ q : Nat, q ≤ n ∧ n - q ≤ gg ∧ s8 = .int .i64 ((q : Int) + 1) ∧ Hid (wr.ownsRow V.heap.size 3 1 s7 (P q).length ((P q).map (Value.int .i64))) ∧ Hid (Below V.heap.size V wr))
  case atStart => exact ⟨0, Nat.zero_le _, by omega, rfl, (show World.ownsRow _ _ _ _ _ _ _ by rw [P0.out]; exact World.ownsRow_nil _ _ _ _), Below.refl _ _⟩
  case round =>
    obtain ⟨q, hq, hgg, rfl, O, BR⟩ := hrel
    have x8 := CX.out wr BR.out
    have BW : Hid (Below w.heap.size w wr) := BV.out.trans (BR.out.mono BV.out.size)
    by_cases hlt : q < n
    · have e6 : (q : Int) + 1 ≤ (n : Int) := by omega
      have D1 := C1.out wr ((q : Int) + 1) BW.out
      have D2 := C2.out wr ((q : Int) + 1) BW.out
      have hbw := BR.out.size
      have L1 := PL.out q
      by_cases hL : (q : Int) + 1 ∈ L
      · rw [decide_eq_true hL] at D1
        by_cases hN : (q : Int) + 1 ∈ N
        · rw [decide_eq_true hN] at D2
          have E1 := Lib.hid (PN.out q (fun h => h.2 hN))
          have D1 := Lib.hid D1
          have D2 := Lib.hid D2
          clear hL hN
          go_wp2_with (first
            | (go_at_call 38; (with_reducible refine D1.out.mono ?_); rintro e _ ⟨rfl, hww⟩; obtain rfl := hww.symm; clear hww)
            | (go_at_call 38; (with_reducible refine D2.out.mono ?_); rintro e _ ⟨rfl, hww⟩; obtain rfl := hww.symm; clear hww))
          go_roundg (n - (q + 1))
          case measure => omega
          case rel => exact ⟨q + 1, by omega, by omega, by go_num, (show World.ownsRow _ _ _ _ _ _ _ by rw [E1.out]; exact O.out), BR.out⟩
        · rw [decide_eq_false hN] at D2
          have E1 := Lib.hid (PY.out q hL hN)
          have D1 := Lib.hid D1
          have D2 := Lib.hid D2
          clear hL hN
          go_wp2_with (first
            | (go_at_call 38; (with_reducible refine D1.out.mono ?_); rintro e _ ⟨rfl, hww⟩; obtain rfl := hww.symm; clear hww)
            | (go_at_call 38; (with_reducible refine D2.out.mono ?_); rintro e _ ⟨rfl, hww⟩; obtain rfl := hww.symm; clear hww)
            | (at_builtin; refine wpList_append_own _ rfl (.tmp 25) (.tmp 27) _ rfl V.heap.size 3 i0 _ 1 8 Try.underlying25 hi hz0 hz1 hz2 rfl (by decide) _ _ _ rfl (O.out.alloc _) ⟨wr.heap.size, 0, none⟩ 1 1 [.int .i64 ((q : Int) + 1)] rfl rfl one_cell (by simp [Value.oneCell']) (by unfold maxLen; omega) (by omega) (by simp; omega) ?_; intro v' w8 hown8 hg8 _))
          have O8 : Hid (w8.ownsRow V.heap.size 3 1 v' (P (q + 1)).length ((P (q + 1)).map (Value.int .i64))) := (show World.ownsRow _ _ _ _ _ _ _ by rw [E1.out, List.length_append, List.map_append]; exact hown8)
          have B8 : Hid (Below V.heap.size V w8) := (BR.out.alloc BR.out.size _).grown hg8 (by simp; omega) (fun b hb => (O.out.lt b hb).1)
          clear hown8 hg8
          go_roundg (n - (q + 1))
          case measure => omega
          case rel => exact ⟨q + 1, by omega, by omega, by go_num, O8.out, B8.out⟩
      · rw [decide_eq_false hL] at D1
        have E1 := Lib.hid (PN.out q (fun h => hL h.1))
        have D1 := Lib.hid D1
        clear hL D2
        go_wp2_with (go_at_call 38; (with_reducible refine D1.out.mono ?_); rintro e _ ⟨rfl, hww⟩; obtain rfl := hww.symm; clear hww)
        go_roundg (n - (q + 1))
        case measure => omega
        case rel => exact ⟨q + 1, by omega, by omega, by go_num, (show World.ownsRow _ _ _ _ _ _ _ by rw [E1.out]; exact O.out), BR.out⟩
    · have hqn : q = n := by omega
      obtain rfl := hqn.symm
      go_wp2_with fail
      go_ret
      exact ⟨_, rfl, own_less O.out BV.out.size, BV.out.trans (BR.out.mono BV.out.size)⟩
end Go.Proofs.Ytjlobjgemhapaaa
