/- The document's pool: New, In, Len, Last, Take, Give, Copy, against what is taken in a list. -/
import Derived.Test.YtlbbbfmnghcdnaaPoRef
namespace Go.Proofs.Ytlbbbfmnghcdnaa
set_option maxRecDepth 20000
open Go.RowKit Go.Maps

theorem R_New (w : World) : Calls Try.prog 12 #[] w fun e w' => ∃ qs, e = .returned (bV qs) ∧ RefAt w' w.heap.size qs [] ∧ Below w.heap.size w w' := by
  go_enter Try.func12, Try.ntmps12
  go_wp2
  go_ret
  exact ⟨_, rfl, ⟨.slice none 0 0, (MapKept.heap_alloc w _).1, Nat.le_refl _, rfl, .inl ⟨rfl, rfl⟩⟩, (Below.refl _ _).alloc (Nat.le_refl _) _⟩
theorem same_bound {T : List Nat} {l : List Bool} (h : SameT T l) {n : Nat} (hn : n ∈ T) : 1 ≤ n ∧ n ≤ l.length := by
  have h1 := (h n).1 hn
  have := (List.getElem?_eq_some_iff.1 h1.2).1
  omega
section
variable {w : World} {lo qs : Nat} {l : List Bool} {T : List Nat} (h : RefAt w lo qs l) (hT : SameT T l) (hl : l.length ≤ 1073741824)
include h hT hl
theorem R_In (n : Int) (h1 : -9223372036854775808 ≤ n) (h2 : n ≤ 9223372036854775807) : Calls Try.prog 20 #[bV qs, nV n] w fun e w' => e = .returned (.bool (isT T n)) ∧ w = w' := by
  obtain ⟨A, c, _, c0, hc1, hc2, lq, fz, _, _, hel⟩ := h.form
  by_cases ha : 1 ≤ n
  · by_cases hb : n ≤ (l.length : Int)
    · obtain ⟨m, rfl⟩ : ∃ m : Nat, n = (m : Int) := ⟨n.toNat, by omega⟩
      obtain ⟨b, hb2⟩ : ∃ b, l[m - 1]? = some b := ⟨_, List.getElem?_eq_getElem (by omega)⟩
      obtain ⟨g, rfl, hgq, _, _, hcell⟩ := hel (by rintro rfl; simp at hb2)
      have e1 := hcell _ _ hb2
      have hb3 : isT T (m : Int) = b := by
        rw [isT_nat]
        cases b with
        | true => exact decide_eq_true ((hT m).2 ⟨by omega, hb2⟩)
        | false => exact decide_eq_false (fun hm => by have := ((hT m).1 hm).2; rw [hb2] at this; cases this)
      have e2 : ((m : Int) - 1).toNat = m - 1 := by omega
      have e3 : (0 : Int) ≤ (m : Int) - 1 := by omega
      have e4 : (m : Int) - 1 < (l.length : Int) := by omega
      have e5 : IntKind.i64.wrap ((m : Int) - 1) = (m : Int) - 1 := IntWalk.i64_in _ (by omega)
      rw [hb3]
      clear hel hcell hb2 hb3 hT h
      go_enter Try.func20, Try.ntmps20
      go_wp2
      go_ret
      exact ⟨rfl, rfl⟩
    · have hb3 : isT T n = false := decide_eq_false (by
        rintro ⟨m, hm, rfl⟩
        have := same_bound hT hm; omega)
      rw [hb3]
      clear hel hT h hb3
      go_enter Try.func20, Try.ntmps20
      go_wp2
      go_ret
      exact ⟨rfl, rfl⟩
  · have hb3 : isT T n = false := decide_eq_false (by
      rintro ⟨m, hm, rfl⟩
      have := same_bound hT hm; omega)
    rw [hb3]
    clear hel hT h hb3
    go_enter Try.func20, Try.ntmps20
    go_wp2
    go_ret
    exact ⟨rfl, rfl⟩
theorem R_Last : Calls Try.prog 24 #[bV qs] w fun e w' => (∃ n : Nat, e = .returned (nV n) ∧ ((n = 0 ∧ T = []) ∨ (n ∈ T ∧ ∀ m ∈ T, m ≤ n))) ∧ w = w' := by
  obtain ⟨A, c, _, c0, hc1, hc2, lq, fz, _, _, hel⟩ := h.form
  have EL := Lib.hid hel
  have HT := Lib.hid hT
  clear hel hT h
  go_enter Try.func24, Try.ntmps24
  go_wp2
  go_loopg [3] l.length (fun g s3 wr => s3 = nV g ∧ g ≤ l.length ∧ wr = w ∧ Hid (∀ i, g ≤ i → l[i]? ≠ some true))
  case atStart => exact ⟨rfl, Nat.le_refl _, rfl, (fun i hi => by rw [List.getElem?_eq_none hi]; simp : ∀ i, l.length ≤ i → l[i]? ≠ some true)⟩
  case round =>
    obtain ⟨rfl, hg, rfl, HI⟩ := hrel
    cases gk with
    | zero =>
      go_wp2_with fail
      go_ret
      refine ⟨⟨0, rfl, .inl ⟨rfl, ?_⟩⟩, rfl⟩
      cases T with
      | nil => rfl
      | cons a r => exact absurd ((HT.out a).1 (by simp)).2 (HI.out _ (Nat.zero_le _))
    | succ g =>
      obtain ⟨b, hb⟩ : ∃ b, l[g]? = some b := ⟨_, List.getElem?_eq_getElem (by omega)⟩
      obtain ⟨gb, rfl, _, _, _, hcell⟩ := EL.out (by rintro rfl; simp at hb)
      have e1 := hcell _ _ hb
      have HB := Lib.hid hb
      clear hcell hb
      have e2 : ((g : Int) + 1 - 1) = (g : Int) := by omega
      have e3 : (g : Int) < (l.length : Int) := by omega
      have e4 : (0 : Int) < (g : Int) + 1 := by omega
      cases b with
      | true =>
        go_wp2_with fail
        go_ret
        refine ⟨⟨g + 1, rfl, .inr ⟨(HT.out (g + 1)).2 ⟨by omega, HB.out⟩, fun m hm => ?_⟩⟩, rfl⟩
        rcases Nat.lt_or_ge (g + 1) m with h4 | h4
        · exact absurd ((HT.out m).1 hm).2 (HI.out _ (by omega))
        · exact h4
      | false =>
        go_wp2_with fail
        go_roundg g
        case measure => omega
        case rel => exact ⟨by first | rfl | simp, by omega, rfl, (fun i hi => by
          by_cases h4 : i = g
          · subst h4; rw [HB.out]; simp
          · exact HI.out i (by omega) : ∀ i, g ≤ i → l[i]? ≠ some true)⟩
end
def cntB : List Bool → Nat
  | [] => 0
  | b :: r => (if b then 1 else 0) + cntB r
theorem cnt_append : ∀ a b, cntB (a ++ b) = cntB a + cntB b
  | [], b => by simp [cntB]
  | x :: r, b => by simp only [List.cons_append, cntB, cnt_append r b]; omega
theorem cnt_take {l : List Bool} {i : Nat} {b : Bool} (h : l[i]? = some b) : cntB (l.take (i + 1)) = cntB (l.take i) + (if b then 1 else 0) := by
  have hi := (List.getElem?_eq_some_iff.1 h).1
  have hv := (List.getElem?_eq_some_iff.1 h).2
  rw [List.take_succ_eq_append_getElem hi, cnt_append, hv]
  simp [cntB]
theorem cnt_le : ∀ l, cntB l ≤ l.length
  | [] => Nat.le_refl _
  | b :: r => by have := cnt_le r; simp only [cntB, List.length_cons]; split <;> omega
theorem cnt_len : ∀ (l : List Bool) (T : List Nat) (o : Nat), T.Nodup → (∀ n : Nat, n ∈ T ↔ o + 1 ≤ n ∧ l[n - o - 1]? = some true) → T.length = cntB l
  | [], T, o, _, h => by
    cases T with
    | nil => rfl
    | cons a r => have := (h a).1 (by simp); simp at this
  | b :: r, T, o, hn, h => by
    have hr : ∀ n : Nat, n ∈ T.erase (o + 1) ↔ (o + 1) + 1 ≤ n ∧ r[n - (o + 1) - 1]? = some true := fun n => by
      rw [hn.mem_erase_iff, h]
      constructor
      · rintro ⟨h1, h2, h3⟩
        obtain ⟨k, hk⟩ : ∃ k, n - o - 1 = k + 1 := ⟨n - o - 2, by omega⟩
        rw [hk, List.getElem?_cons_succ] at h3
        exact ⟨by omega, by rw [show n - (o + 1) - 1 = k by omega]; exact h3⟩
      · rintro ⟨h1, h2⟩
        refine ⟨by omega, by omega, ?_⟩
        rw [show n - o - 1 = (n - (o + 1) - 1) + 1 by omega, List.getElem?_cons_succ]
        exact h2
    have ih := cnt_len r (T.erase (o + 1)) (o + 1) (hn.erase _) hr
    by_cases hm : o + 1 ∈ T
    · have hb : b = true := by have := ((h (o + 1)).1 hm).2; simpa using this
      rw [List.length_erase_of_mem hm] at ih
      have hp : 0 < T.length := List.length_pos_iff.2 (by rintro rfl; simp at hm)
      simp only [cntB, hb, if_true]; omega
    · have hb : b = false := by
        cases b with
        | false => rfl
        | true => exact absurd ((h (o + 1)).2 ⟨Nat.le_refl _, by simp⟩) hm
      rw [List.erase_of_not_mem hm] at ih
      simp only [cntB, hb]
      simpa using ih
section
variable {w : World} {lo qs : Nat} {l : List Bool} {T : List Nat} (h : RefAt w lo qs l) (hT : SameT T l) (hl : l.length ≤ 1073741824)
include h hT hl
theorem R_Len (hn : T.Nodup) : Calls Try.prog 22 #[bV qs] w fun e w' => e = .returned (nV T.length) ∧ w = w' := by
  obtain ⟨A, c, _, c0, hc1, hc2, lq, fz, _, _, hel⟩ := h.form
  have hcl := cnt_len l T 0 hn (fun n => by have := hT n; simpa using this)
  rw [hcl]
  have EL := Lib.hid hel
  clear hel hT h hcl hn
  go_enter Try.func22, Try.ntmps22
  go_wp2
  go_loopg [3, 4] l.length (fun g s3 s4 wr => ∃ i q : Nat, s4 = nV i ∧ s3 = nV q ∧ Hid (q = cntB (l.take i)) ∧ q ≤ i ∧ i + g = l.length ∧ wr = w)
  case atStart => exact ⟨0, 0, rfl, rfl, (by simp [cntB] : 0 = cntB (l.take 0)), Nat.le_refl _, by simp, rfl⟩
  case round =>
    obtain ⟨i, q, rfl, rfl, Q, hqi, hi, rfl⟩ := hrel
    cases gk with
    | zero =>
      have q1 : ¬ ((i : Int) < (l.length : Int)) := by omega
      go_wp2_with fail
      go_ret
      exact ⟨ret_int (by rw [Q.out, List.take_of_length_le (by omega)]), rfl⟩
    | succ g =>
      have q1 : (i : Int) < (l.length : Int) := by omega
      obtain ⟨b, hb⟩ : ∃ b, l[i]? = some b := ⟨_, List.getElem?_eq_getElem (by omega)⟩
      obtain ⟨gb, rfl, _, _, _, hcell⟩ := EL.out (by rintro rfl; simp at hb)
      have e1 := hcell _ _ hb
      have C := Lib.hid (cnt_take hb)
      clear hcell hb
      cases b with
      | true =>
        go_wp2_with fail
        go_roundg g
        case measure => omega
        case rel => exact ⟨i + 1, q + 1, by simp, by simp, (by rw [C.out, ← Q.out]; rfl : q + 1 = cntB (l.take (i + 1))), by omega, by omega, rfl⟩
      | false =>
        go_wp2_with fail
        go_roundg g
        case measure => omega
        case rel => exact ⟨i + 1, q, by simp, rfl, (by rw [C.out, ← Q.out]; rfl : q = cntB (l.take (i + 1))), by omega, by omega, rfl⟩
theorem R_Give_no (n : Int) (h1 : -9223372036854775808 ≤ n) (h2 : n ≤ 9223372036854775807) (hno : isT T n = false) : Calls Try.prog 18 #[bV qs, nV n] w fun e w' => e = .returned (.bool false) ∧ w = w' := by
  have I := R_In h hT hl n h1 h2
  rw [hno] at I
  have J := Lib.hid I
  clear I h hT hno
  go_enter Try.func18, Try.ntmps18
  go_wp2_with (go_at_call 20; (with_reducible refine J.out.mono ?_); rintro e w1 ⟨rfl, rfl⟩)
  go_ret
  exact ⟨rfl, rfl⟩
theorem R_Give (n : Nat) (hn : n ∈ T) (hnd : T.Nodup) : Calls Try.prog 18 #[bV qs, nV n] w fun e w' => e = .returned (.bool true) ∧ ∃ l', RefAt w' lo qs l' ∧ SameT (T.erase n) l' ∧ l'.length = l.length ∧ Below lo w w' ∧ KeepR w w' := by
  have hb := same_bound hT hn
  have I := R_In h hT hl n (by omega) (by omega)
  rw [isT_nat, decide_eq_true hn] at I
  have J := Lib.hid I
  obtain ⟨A, c, hA, c0, hc1, hc2, lq, fz, loq, _, hel⟩ := h.form
  obtain ⟨b, hb2⟩ : ∃ b, l[n - 1]? = some b := ⟨_, List.getElem?_eq_getElem (by omega)⟩
  obtain ⟨g, rfl, hgq, hg, hfz, hcell⟩ := hel (by rintro rfl; simp at hb2)
  have f1 := hfz (n - 1)
  have e1 := hcell _ _ hb2
  have SET := Lib.hid (h.set hA rfl (n - 1) false)
  have lsz : lo ≤ w.heap.size := by omega
  have HT := Lib.hid hT
  have ND := Lib.hid hnd
  clear I h hT hel hfz hcell hb2 hn hA hnd
  have e2 : ((n : Int) - 1).toNat = n - 1 := by omega
  have e3 : (0 : Int) ≤ (n : Int) - 1 := by omega
  have e4 : (n : Int) - 1 < (l.length : Int) := by omega
  have e5 : IntKind.i64.wrap ((n : Int) - 1) = (n : Int) - 1 := IntWalk.i64_in _ (by omega)
  go_enter Try.func18, Try.ntmps18
  go_wp2_with (go_at_call 20; (with_reducible refine J.out.mono ?_); rintro e w1 ⟨rfl, rfl⟩)
  go_ret
  refine ⟨rfl, l.set (n - 1) false, SET.out.1, fun m => ?_, by simp, (Below.refl _ _).setCell hg _ |>.mono (Nat.le_refl _), SET.out.2.1⟩
  rw [ND.out.mem_erase_iff, HT.out, List.getElem?_set]
  constructor
  · rintro ⟨h1, h2, h3⟩
    exact ⟨h2, by rw [if_neg (by omega)]; exact h3⟩
  · rintro ⟨h1, h2⟩
    by_cases h4 : n - 1 = m - 1
    · rw [if_pos h4] at h2
      split at h2 <;> simp at h2
    · rw [if_neg h4] at h2
      exact ⟨by omega, h1, h2⟩
end
end Go.Proofs.Ytlbbbfmnghcdnaa
