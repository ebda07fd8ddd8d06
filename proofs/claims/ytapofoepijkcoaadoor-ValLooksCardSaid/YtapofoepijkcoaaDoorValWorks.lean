/- The laws' 'works': it answers true, in whatever world the two tables stand. -/
import Derived.Test.YtapofoepijkcoaaDoorValInts
import Derived.Test.YtapofoepijkcoaaDoorValNames
namespace Go.Proofs.YtapofoepijkcoaaDoor
open Go.RowKit

theorem of_any (k n : Int) (w : World) :
    Calls Tryd.prog 28 #[.int .i64 k, .int .i64 n] w fun e w' => e = .returned (.agg #[.int .i64 k, .int .i64 n]) ∧ Below w.heap.size w w' := by
  go_enter Tryd.func28, Tryd.ntmps28
  go_wp2
  refine bodyPost_ret (v := .agg #[.int .i64 k, .int .i64 n]) (by simp [results, Tryd.results28, go_sem]) rfl ⟨rfl, ?_⟩
  exact (Below.refl _ _).alloc (Nat.le_refl _) _
theorem next {w w1 w2 : World} {A : Option Addr} {l : List Int} (I : Below w.heap.size w w1 ∧ Env w1 ∧ IntsAt w1 A l) (hb : Below w1.heap.size w1 w2) : Below w.heap.size w w2 ∧ Env w2 ∧ IntsAt w2 A l :=
  ⟨I.1.trans (hb.mono I.1.size), I.2.1.below hb, I.2.2.below hb⟩
theorem at_ {w w1 : World} {ad : Addr} {l : List Int} (I : Below w.heap.size w w1 ∧ Env w1 ∧ IntsAt w1 (some ad) l) (i : Nat) (x : Int) (h : l[i]? = some x) : w1.cell? (ad.add i) = some (.int .i64 x) := by
  obtain ⟨a, e, _, hc⟩ := I.2.2 i x h
  obtain rfl : ad = a := by injection e
  exact hc
theorem at0 {w w1 : World} {ad : Addr} {l : List Int} (I : Below w.heap.size w w1 ∧ Env w1 ∧ IntsAt w1 (some ad) l) (x : Int) (h : l[0]? = some x) : w1.cell? ad = some (.int .i64 x) := by
  have := at_ I 0 x h
  rwa [show ad.add 0 = ad by simp [Addr.add]] at this
theorem at1 {w w1 : World} {ad : Addr} {l : List Int} (I : Below w.heap.size w w1 ∧ Env w1 ∧ IntsAt w1 (some ad) l) (i : Nat) (x : Int) (h : l[i + 1]? = some x) : w1.cell? ⟨ad.block, ad.off + (i + 1), none⟩ = some (.int .i64 x) := by
  have := at_ I (i + 1) x h
  rwa [show ad.add (i + 1) = ⟨ad.block, ad.off + (i + 1), none⟩ by simp [Addr.add]] at this
set_option maxHeartbeats 1000000 in
theorem works_true (w : World) (hE : Env w) :
    Calls Tryd.prog 18 #[] w fun e w' => e = .returned (.bool true) ∧ Below w.heap.size w w' := by
  have I : Hid (Below w.heap.size w w ∧ Env w) := ⟨Below.refl _ _, hE⟩
  clear hE
  go_enter Tryd.func18, Tryd.ntmps18
  go_wp2_with (go_at_call 28; refine (of_any _ _ _).mono ?_; rintro e w1 ⟨rfl, hb⟩; replace I := Lib.hid (And.intro (I.out.1.trans (hb.mono I.out.1.size)) (I.out.2.below hb)); clear hb)
  have R := Refs_any (some ⟨w1.heap.size, 0, none⟩) 5 [(3, 4), (5, 9), (9, 2), (5, 9), (6, 0)] (w1.alloc (.cells #[.int .i64 3, .int .i64 4, .int .i64 5, .int .i64 9, .int .i64 9, .int .i64 2, .int .i64 5, .int .i64 9, .int .i64 6, .int .i64 0] 23)) (by decide) (by
    intro i p h
    match i, h with
    | 0, h => simp at h; subst h; exact ⟨_, rfl, by simp, by simp [Addr.add, go_sem], by simp [Addr.add, go_sem]⟩
    | 1, h => simp at h; subst h; exact ⟨_, rfl, by simp, by simp [Addr.add, go_sem], by simp [Addr.add, go_sem]⟩
    | 2, h => simp at h; subst h; exact ⟨_, rfl, by simp, by simp [Addr.add, go_sem], by simp [Addr.add, go_sem]⟩
    | 3, h => simp at h; subst h; exact ⟨_, rfl, by simp, by simp [Addr.add, go_sem], by simp [Addr.add, go_sem]⟩
    | 4, h => simp at h; subst h; exact ⟨_, rfl, by simp, by simp [Addr.add, go_sem], by simp [Addr.add, go_sem]⟩)
  rw [show refsL [(3, 4), (5, 9), (9, 2), (5, 9), (6, 0)] = [9, 2, 9] by decide] at R
  refine R.mono ?_
  clear R
  rintro e w2 ⟨v, rfl, hown, hb⟩
  obtain ⟨A, c, rfl, hi⟩ := ints_of_own hown
  obtain ⟨ad, rfl, _⟩ := hi 0 9 rfl
  replace I := Lib.hid (And.intro (I.out.1.trans (((Below.refl _ _).alloc (Nat.le_refl _) _).trans (hb.mono (by simp)) |>.mono I.out.1.size)) (And.intro ((I.out.2.below ((Below.refl _ _).alloc (Nat.le_refl _) _)).below hb) hi))
  clear hb hi hown
  have m1 : mayB 3 (-9223372036854775808) = true := by decide
  have m2 : mayB 2 2 = false := by decide
  have m3 : refB 6 1 = true := by decide
  have m4 : refB 3 1 = false := by decide
  have m5 : truthB 2 0 = false := by decide
  have m6 : truthB 3 0 = true := by decide
  have m7 : keyB 2 0 = true := by decide
  have m8 : keyB 1 0 = false := by decide
  have N := Lib.hid (fun w => Name_any 7 w)
  rw [show nameB 7 = ⟨#[102, 117, 110, 99, 116, 105, 111, 110]⟩ from rfl] at N
  have L := Lib.hid (fun w => Lib_any 0 w)
  rw [show libB 0 = ⟨#[111, 117, 116]⟩ from rfl] at L
  have O := Lib.hid (fun w => LibOf_any ⟨#[115, 116, 97, 116, 117, 115]⟩ w)
  rw [show libI ⟨#[115, 116, 97, 116, 117, 115]⟩ = 12 by decide +kernel] at O
  go_wp2_with (first
    | (go_at_call 19; refine (N.out _ I.out.2.1).mono ?_; rintro e w' ⟨rfl, hq⟩; obtain rfl := hq.symm)
    | (go_at_call 21; refine (L.out _ I.out.2.1).mono ?_; rintro e w' ⟨rfl, hq⟩; obtain rfl := hq.symm)
    | (go_at_call 23; refine (O.out _ I.out.2.1).mono ?_; rintro e w' ⟨rfl, hq⟩; obtain rfl := hq.symm; have q0 := at0 I.out 9 rfl; have q1 := at1 I.out 0 2 rfl; have q2 := at1 I.out 1 9 rfl)
    | (go_at_call 28; refine (of_any _ _ _).mono ?_; rintro e w3 ⟨rfl, hb⟩; replace I := Lib.hid (next I.out hb); clear hb)
    | (go_at_call 10; refine (May_any _ _ _).mono ?_; rintro e w3 ⟨rfl, hb⟩; replace I := Lib.hid (next I.out hb); clear hb)
    | (go_at_call 12; refine (Ref_any _ _ _).mono ?_; rintro e w3 ⟨rfl, hb⟩; replace I := Lib.hid (next I.out hb); clear hb)
    | (go_at_call 14; refine (Truth_any _ _ _).mono ?_; rintro e w3 ⟨rfl, hb⟩; replace I := Lib.hid (next I.out hb); clear hb)
    | (go_at_call 16; refine (Key_any _ _ _).mono ?_; rintro e w3 ⟨rfl, hb⟩; replace I := Lib.hid (next I.out hb); clear hb))
  go_ret
  exact ⟨rfl, I.out.1⟩
end Go.Proofs.YtapofoepijkcoaaDoor
