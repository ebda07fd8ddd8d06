/- ParseStrength, its four ways (the first operator is stronger; weaker; alike; alike, and ..): a walk each. -/
import Derived.Test.YtebkdegcifkigaaGreatDoorParFrame
import Derived.Test.YtebkdegcifkigaaGreatDoorParStrM
import Derived.Test.YtebkdegcifkigaaGreatDoorTie
import Derived.Test.YtebkdegcifkigaaGreatDoorCards
import Derived.Deep.RegionWith
import Derived.BigQuiet
import Derived.Deep.RegionHeld3
namespace Go.Proofs.YtebkdegcifkigaaGreatDoor.parseStrength
set_option maxRecDepth 20000
open Go.ChangeShapes Go.WideShapes Go.ChangeAt Go.RowKit Go.Proofs.YtebkdegcifkigaaGreatDoor.P5

def rankA : Array Value := #[.int .i64 0, .int .i64 1, .int .i64 2, .int .i64 2, .int .i64 2, .int .i64 2, .int .i64 2, .int .i64 2, .int .i64 3, .int .i64 4, .int .i64 5, .int .i64 6, .int .i64 6, .int .i64 7, .int .i64 8, .int .i64 8, .int .i64 9, .int .i64 9, .int .i64 9]
theorem rank_cell (w : World) (T : TypeId) {i : Nat} (hi : i < 19) : (w.alloc (.cells rankA T)).cell? ⟨w.heap.size, i, none⟩ = some (iV (rankL.getD i 0 : Nat)) := by
  have : rankA[i]? = some (iV (rankL.getD i 0 : Nat)) := by
    match i, hi with
    | 0, _ => rfl
    | 1, _ => rfl
    | 2, _ => rfl
    | 3, _ => rfl
    | 4, _ => rfl
    | 5, _ => rfl
    | 6, _ => rfl
    | 7, _ => rfl
    | 8, _ => rfl
    | 9, _ => rfl
    | 10, _ => rfl
    | 11, _ => rfl
    | 12, _ => rfl
    | 13, _ => rfl
    | 14, _ => rfl
    | 15, _ => rfl
    | 16, _ => rfl
    | 17, _ => rfl
    | 18, _ => rfl
    | n + 19, h => omega
  simp [go_sem]
  exact this
set_option maxHeartbeats 8000000 in
theorem rank_any (i : Nat) (hi : i < 19) (w : World) : Calls Tryz.prog 17 #[iV i] w fun e w' => e = .returned (iV (rankL.getD i 0 : Nat)) ∧ Below w.heap.size w w' := by
  have hc := rank_cell w 3 hi
  have h0 : (0 : Int) ≤ (i : Int) := by omega
  have h1 : (i : Int) < 19 := by omega
  unfold rankA at hc
  go_enter Tryz.func17, Tryz.ntmps17
  go_wp2_with fail
  go_ret
  exact ⟨rfl, (Below.refl _ _).alloc (Nat.le_refl _) _⟩
def opsA : Array Value := #[.string ⟨#[111, 114]⟩, .string ⟨#[97, 110, 100]⟩, .string ⟨#[60]⟩, .string ⟨#[60, 61]⟩, .string ⟨#[62]⟩, .string ⟨#[62, 61]⟩, .string ⟨#[61, 61]⟩, .string ⟨#[126, 61]⟩, .string ⟨#[124]⟩, .string ⟨#[126]⟩, .string ⟨#[38]⟩, .string ⟨#[60, 60]⟩, .string ⟨#[62, 62]⟩, .string ⟨#[46, 46]⟩, .string ⟨#[43]⟩, .string ⟨#[45]⟩, .string ⟨#[42]⟩, .string ⟨#[47, 47]⟩, .string ⟨#[37]⟩]
def unA : Array Value := #[.string ⟨#[110, 111, 116]⟩, .string ⟨#[45]⟩, .string ⟨#[35]⟩, .string ⟨#[126]⟩]
theorem ops_cell (w : World) (T : TypeId) {i : Nat} (hi : i < 19) : (w.alloc (.cells opsA T)).cell? ⟨w.heap.size, i, none⟩ = some (sV (opsL.getD i [])) := by
  have : opsA[i]? = some (sV (opsL.getD i [])) := by
    match i, hi with
    | 0, _ => rfl
    | 1, _ => rfl
    | 2, _ => rfl
    | 3, _ => rfl
    | 4, _ => rfl
    | 5, _ => rfl
    | 6, _ => rfl
    | 7, _ => rfl
    | 8, _ => rfl
    | 9, _ => rfl
    | 10, _ => rfl
    | 11, _ => rfl
    | 12, _ => rfl
    | 13, _ => rfl
    | 14, _ => rfl
    | 15, _ => rfl
    | 16, _ => rfl
    | 17, _ => rfl
    | 18, _ => rfl
    | n + 19, h => omega
  simp [go_sem]
  exact this
theorem un_cell (w : World) (T : TypeId) {i : Nat} (hi : i < 4) : (w.alloc (.cells unA T)).cell? ⟨w.heap.size, i, none⟩ = some (sV (unL.getD i [])) := by
  have : unA[i]? = some (sV (unL.getD i [])) := by
    match i, hi with
    | 0, _ => rfl
    | 1, _ => rfl
    | 2, _ => rfl
    | 3, _ => rfl
    | n + 4, h => omega
  simp [go_sem]
  exact this
/-- What stands while the law goes on: both operators where they lie; the world below. -/
structure SK (w0 : World) (b i k : Nat) (o p : List UInt8) (w : World) : Prop where
  ci : w.cell? ⟨b, i, none⟩ = some (sV o)
  ck : w.cell? ⟨b, k, none⟩ = some (sV p)
  lt : b < w.heap.size
  env : Env4 w
  below : Below w0.heap.size w0 w
theorem SK.next {w0 w w' : World} {b i k : Nat} {o p : List UInt8} (h : SK w0 b i k o p w) (hb : Below w.heap.size w w') : SK w0 b i k o p w' :=
  ⟨(hb.cell (p := ⟨b, i, none⟩) h.lt).trans h.ci, (hb.cell (p := ⟨b, k, none⟩) h.lt).trans h.ck, Nat.lt_of_lt_of_le h.lt hb.size, h.env.below hb, h.below.trans (hb.mono h.below.size)⟩
theorem SK.drewN {w0 w : World} {b i k : Nat} {o p : List UInt8} (h : SK w0 b i k o p w) (n : Nat) : SK w0 b i k o p (w.drewN n) := h.next (below_drewN (Below.refl _ _) n)
theorem SK.all {w0 w : World} {b i k : Nat} {o p : List UInt8} (h : SK w0 b i k o p w) : w.cell? ⟨b, i, none⟩ = some (sV o) ∧ w.cell? ⟨b, k, none⟩ = some (sV p) ∧ SK w0 b i k o p w := ⟨h.ci, h.ck, h⟩
/-- shape's answer as the law writes it. -/
theorem says_as {w w' : World} {v : Value} {s : List UInt8} {x : ByteArray} (h : Holds w v s) (hx : (⟨s.toArray⟩ : ByteArray) = x) (hb : Below w.heap.size w w') : Calls Tryz.prog 16 #[v] w' fun e w2 => e = .returned (.string x) ∧ ∃ m, w2 = w'.drewN m := by
  subst hx
  exact h.says w' hb
set_option maxHeartbeats 16000000 in
theorem way_more (a0 a1 a2 i k u ri rk : Nat) (hi0 : (a0 : Int) % 19 = (i : Int)) (hk0 : (a1 : Int) % 19 = (k : Int)) (hu0 : (a2 : Int) % 4 = (u : Int)) (_hi : i < 19) (_hk : k < 19) (_hu : u < 4) (h0 : a0 ≤ 255) (h1 : a1 ≤ 255) (h2 : a2 ≤ 255)
    (o p q : List UInt8) (hoi : ∀ (w : World) (T : TypeId), (w.alloc (.cells opsA T)).cell? ⟨w.heap.size, i, none⟩ = some (sV o)) (hok : ∀ (w : World) (T : TypeId), (w.alloc (.cells opsA T)).cell? ⟨w.heap.size, k, none⟩ = some (sV p)) (hou : ∀ (w : World) (T : TypeId), (w.alloc (.cells unA T)).cell? ⟨w.heap.size, u, none⟩ = some (sV q))
    (RI : ∀ w, Calls Tryz.prog 17 #[iV i] w fun e w' => e = .returned (iV ri) ∧ Below w.heap.size w w') (RK : ∀ w, Calls Tryz.prog 17 #[iV k] w fun e w' => e = .returned (iV rk) ∧ Below w.heap.size w w')
    (lo : o.length ≤ 3) (lp : p.length ≤ 3) (lq : q.length ≤ 3) (TS : shapesAs 300 (textS o p) (leftS o p) = true) (TU : shapesAs 300 (textU q o) (shapeU q o) = true) (TD : shapesAs 300 (textD q) (shapeD q) = true)
    (hr : rk < ri) (w : World) (hE : Env4 w) :
    Calls Tryz.prog 5 #[.int .u8 a0, .int .u8 a1, .int .u8 a2] w fun e w' => e = .returned (.bool true) ∧ Below w.heap.size w w' := by
  have g1 : (rk : Int) < (ri : Int) := by omega
  have T1 := Lib.hid (fun w hE => expr_at (⟨#[97, 32]⟩ ++ ⟨o.toArray⟩ ++ ⟨#[32, 98, 32]⟩ ++ ⟨p.toArray⟩ ++ ⟨#[32, 99]⟩) _ _ (by simp [textS]) TS (by simp [leftS]; omega) (by simp [textS]; omega) w hE)
  have T2 := Lib.hid (fun w hE => expr_at (⟨q.toArray⟩ ++ ⟨#[32, 97, 32]⟩ ++ ⟨o.toArray⟩ ++ ⟨#[32]⟩ ++ ⟨q.toArray⟩ ++ ⟨#[32, 98, 91, 99, 93, 32]⟩) _ _ (by simp [textU]) TU (by simp [shapeU]; omega) (by simp [textU]; omega) w hE)
  have T3 := Lib.hid (fun w hE => expr_at (⟨q.toArray⟩ ++ ⟨#[32]⟩ ++ ⟨q.toArray⟩ ++ ⟨#[32, 97, 40, 98, 41]⟩) _ _ (by simp [textD]) TD (by simp [shapeD]; omega) (by simp [textD]; omega) w hE)
  obtain ⟨x1, hx1⟩ : ∃ x1, x1 = (⟨#[40, 40, 97, 32]⟩ ++ ⟨o.toArray⟩ ++ ⟨#[32, 98, 41, 32]⟩ ++ ⟨p.toArray⟩ ++ ⟨#[32, 99, 41]⟩ : ByteArray) := ⟨_, rfl⟩
  obtain ⟨x2, hx2⟩ : ∃ x2, x2 = (⟨#[40, 40]⟩ ++ ⟨q.toArray⟩ ++ ⟨#[32, 97, 41, 32]⟩ ++ ⟨o.toArray⟩ ++ ⟨#[32, 40]⟩ ++ ⟨q.toArray⟩ ++ ⟨#[32, 40, 98, 91, 99, 93, 41, 41, 41]⟩ : ByteArray) := ⟨_, rfl⟩
  obtain ⟨x3, hx3⟩ : ∃ x3, x3 = (⟨#[40]⟩ ++ ⟨q.toArray⟩ ++ ⟨#[32, 40]⟩ ++ ⟨q.toArray⟩ ++ ⟨#[32, 40, 97, 40, 98, 44, 41, 41, 41, 41]⟩ : ByteArray) := ⟨_, rfl⟩
  have y1 : (⟨(leftS o p).toArray⟩ : ByteArray) = x1 := by rw [hx1]; exact ByteArray.ext (by simp [leftS])
  have y2 : (⟨(shapeU q o).toArray⟩ : ByteArray) = x2 := by rw [hx2]; exact ByteArray.ext (by simp [shapeU])
  have y3 : (⟨(shapeD q).toArray⟩ : ByteArray) = x3 := by rw [hx3]; exact ByteArray.ext (by simp [shapeD])
  have S1 := Lib.hid (fun (w w' : World) (v : Value) (h : Holds w v (leftS o p)) (hb : Below w.heap.size w w') => says_as h y1 hb)
  have S2 := Lib.hid (fun (w w' : World) (v : Value) (h : Holds w v (shapeU q o)) (hb : Below w.heap.size w w') => says_as h y2 hb)
  have S3 := Lib.hid (fun (w w' : World) (v : Value) (h : Holds w v (shapeD q)) (hb : Below w.heap.size w w') => says_as h y3 hb)
  have z1 : (x1.toList == x1.toList) = true := by simp
  have z2 : (x2.toList == x2.toList) = true := by simp
  have z3 : (x3.toList == x3.toList) = true := by simp
  clear y1 y2 y3 TS TU TD
  rw [hx2] at S2 z2
  rw [hx3] at S3 z3
  replace hx1 := Lib.hid hx1
  clear hx2 hx3
  have b0 : ¬ 9223372036854775807 < 3 + o.length := by omega
  have b1 : ¬ 9223372036854775807 < 3 + o.length + 4 := by omega
  have b2 : ¬ 9223372036854775807 < 3 + o.length + 4 + p.length := by omega
  have b3 : ¬ 9223372036854775807 < 3 + o.length + 4 + p.length + 4 := by omega
  have b4 : ¬ 9223372036854775807 < 4 + o.length := by omega
  have b5 : ¬ 9223372036854775807 < 4 + o.length + 4 := by omega
  have b6 : ¬ 9223372036854775807 < 4 + o.length + 4 + p.length := by omega
  have b7 : ¬ 9223372036854775807 < 4 + o.length + 4 + p.length + 3 := by omega
  have b8 : ¬ 9223372036854775807 < 2 + o.length := by omega
  have b9 : ¬ 9223372036854775807 < 2 + o.length + 3 := by omega
  have b10 : ¬ 9223372036854775807 < 2 + o.length + 3 + p.length := by omega
  have b11 : ¬ 9223372036854775807 < 2 + o.length + 3 + p.length + 2 := by omega
  have b12 : ¬ 9223372036854775807 < q.length + 3 := by omega
  have b13 : ¬ 9223372036854775807 < q.length + 3 + o.length := by omega
  have b14 : ¬ 9223372036854775807 < q.length + 3 + o.length + 1 := by omega
  have b15 : ¬ 9223372036854775807 < q.length + 3 + o.length + 1 + q.length := by omega
  have b16 : ¬ 9223372036854775807 < q.length + 3 + o.length + 1 + q.length + 6 := by omega
  have b17 : ¬ 9223372036854775807 < 2 + q.length := by omega
  have b18 : ¬ 9223372036854775807 < 2 + q.length + 4 := by omega
  have b19 : ¬ 9223372036854775807 < 2 + q.length + 4 + o.length := by omega
  have b20 : ¬ 9223372036854775807 < 2 + q.length + 4 + o.length + 2 := by omega
  have b21 : ¬ 9223372036854775807 < 2 + q.length + 4 + o.length + 2 + q.length := by omega
  have b22 : ¬ 9223372036854775807 < 2 + q.length + 4 + o.length + 2 + q.length + 9 := by omega
  have b23 : ¬ 9223372036854775807 < q.length + 1 := by omega
  have b24 : ¬ 9223372036854775807 < q.length + 1 + q.length := by omega
  have b25 : ¬ 9223372036854775807 < q.length + 1 + q.length + 5 := by omega
  have b26 : ¬ 9223372036854775807 < 1 + q.length := by omega
  have b27 : ¬ 9223372036854775807 < 1 + q.length + 2 := by omega
  have b28 : ¬ 9223372036854775807 < 1 + q.length + 2 + q.length := by omega
  have b29 : ¬ 9223372036854775807 < 1 + q.length + 2 + q.length + 10 := by omega
  have hO := Lib.hid (fun T => hoi w T)
  have hP := Lib.hid (fun T => hok w T)
  replace hou := Lib.hid hou
  replace RI := Lib.hid RI
  replace RK := Lib.hid RK
  replace hE := Lib.hid hE
  have i0 : (0 : Int) ≤ (i : Int) := by omega
  have i1 : (i : Int) < 19 := by omega
  have k0 : (0 : Int) ≤ (k : Int) := by omega
  have k1 : (k : Int) < 19 := by omega
  have u0 : (0 : Int) ≤ (u : Int) := by omega
  have u1 : (u : Int) < 4 := by omega
  clear hoi hok
  go_enter Tryz.func5, Tryz.ntmps5
  go_wp2_with fail
  obtain ⟨w1, hw1⟩ : ∃ w1, w1 = w.alloc (.cells opsA 9) := ⟨_, rfl⟩
  have K := Lib.hid (show SK w w.heap.size i k o p w1 from by subst hw1; exact ⟨hO.out _, hP.out _, by simp, hE.out.below ((Below.refl _ _).alloc (Nat.le_refl _) _), (Below.refl _ _).alloc (Nat.le_refl _) _⟩)
  unfold opsA at hw1
  rw [← hw1]
  clear hw1 hO hP
  go_quiet (fail)
  rw [hi0, hk0]
  replace K := Lib.hid (K.out.drewN nq)
  generalize w1.drewN nq = w2 at K ⊢
  have c1 := hou.out w2 9
  replace K := Lib.hid (K.out.next ((Below.refl _ _).alloc (Nat.le_refl _) (.cells unA 9)))
  unfold unA at c1 K
  clear hou
  go_wp2_with (first
    | (go_at_call_of 17 (Value.int .i64 (i : Int)); (with_reducible refine (RI.out _).mono ?_); rintro e w3 ⟨rfl, hb3⟩; replace K := Lib.hid (K.out.next hb3); have q1 := K.out.ci; have q2 := K.out.ck; clear hb3)
    | (go_at_call_of 17 (Value.int .i64 (k : Int)); (with_reducible refine (RK.out _).mono ?_); rintro e w3 ⟨rfl, hb3⟩; replace K := Lib.hid (K.out.next hb3); have q1 := K.out.ci; have q2 := K.out.ck; clear hb3))
  go_quiet (fail)
  replace K := Lib.hid (K.out.drewN nq)
  go_wp2_with fail
  go_quiet (fail)
  replace K := Lib.hid (K.out.drewN nq)
  rw [← hx1.out]
  replace hx1 := hx1.out
  clear hx1
  go_wp2_with fail
  have A := K.out.all
  replace S1 := Lib.hid (fun w v h => S1.out w w v h (Below.refl _ _))
  replace S2 := Lib.hid (fun w v h => S2.out w w v h (Below.refl _ _))
  replace S3 := Lib.hid (fun w v h => S3.out w w v h (Below.refl _ _))
  generalize hw4 : World.drewN _ nq = w4 at A K ⊢
  clear hw4 RI RK hE K
  go_region_held3 (fun w' => w'.cell? ⟨w.heap.size, i, none⟩ = some (sV o) ∧ w'.cell? ⟨w.heap.size, k, none⟩ = some (sV p) ∧ SK w w.heap.size i k o p w') (first | exact A.2.2.drewN _ |>.all | (obtain ⟨_, _, hK⟩ := ‹_ ∧ _ ∧ SK w _ i k o p _›; exact (hK.next ‹_›).all) | (obtain ⟨_, _, hK⟩ := ‹_ ∧ _ ∧ SK w _ i k o p _›; exact (hK.drewN _).all))
    (first
      | (go_at_call_of 14 p; obtain ⟨_, _, hK⟩ := ‹_ ∧ _ ∧ SK w _ i k o p _›; refine (T1.out _ hK.env).mono ?_; rintro e w5 ⟨v1, rfl, H1, hb⟩)
      | (go_at_call_of 16 v1; refine (S1.out _ _ ‹_›).mono ?_; rintro e w6 ⟨rfl, m1, rfl⟩))
  go_wp2_with fail
  clear A
  go_region_held3 (fun w' => w'.cell? ⟨w.heap.size, i, none⟩ = some (sV o) ∧ w'.cell? ⟨w.heap.size, k, none⟩ = some (sV p) ∧ SK w w.heap.size i k o p w') (first | (obtain ⟨_, _, hK⟩ := ‹_ ∧ _ ∧ SK w _ i k o p _›; exact (hK.next ‹_›).all) | (obtain ⟨_, _, hK⟩ := ‹_ ∧ _ ∧ SK w _ i k o p _›; exact (hK.drewN _).all))
    (first
      | (go_at_call_of 14 o; obtain ⟨_, _, hK⟩ := ‹_ ∧ _ ∧ SK w _ i k o p _›; refine (T2.out _ hK.env).mono ?_; rintro e w5 ⟨v2, rfl, H2, hb⟩)
      | (go_at_call_of 16 v2; refine (S2.out _ _ ‹_›).mono ?_; rintro e w6 ⟨rfl, m2, rfl⟩)
      | (go_at_call_of 14 q; obtain ⟨_, _, hK⟩ := ‹_ ∧ _ ∧ SK w _ i k o p _›; refine (T3.out _ hK.env).mono ?_; rintro e w7 ⟨v3, rfl, H3, hb⟩)
      | (go_at_call_of 16 v3; refine (S3.out _ _ ‹_›).mono ?_; rintro e w8 ⟨rfl, m3, rfl⟩)
      | (go_at_call 12; obtain ⟨_, _, hK⟩ := ‹_ ∧ _ ∧ SK w _ i k o p _›; refine (works_true _ hK.env).mono ?_; rintro e w9 ⟨rfl, hb⟩))
  obtain ⟨_, _, hK⟩ := ‹_ ∧ _ ∧ SK w _ i k o p _›
  have B := Lib.hid hK.below
  go_wp2_with fail
  go_ret
  exact ⟨rfl, B.out⟩
set_option maxHeartbeats 16000000 in
theorem way_less (a0 a1 a2 i k u ri rk : Nat) (hi0 : (a0 : Int) % 19 = (i : Int)) (hk0 : (a1 : Int) % 19 = (k : Int)) (hu0 : (a2 : Int) % 4 = (u : Int)) (_hi : i < 19) (_hk : k < 19) (_hu : u < 4) (h0 : a0 ≤ 255) (h1 : a1 ≤ 255) (h2 : a2 ≤ 255)
    (o p q : List UInt8) (hoi : ∀ (w : World) (T : TypeId), (w.alloc (.cells opsA T)).cell? ⟨w.heap.size, i, none⟩ = some (sV o)) (hok : ∀ (w : World) (T : TypeId), (w.alloc (.cells opsA T)).cell? ⟨w.heap.size, k, none⟩ = some (sV p)) (hou : ∀ (w : World) (T : TypeId), (w.alloc (.cells unA T)).cell? ⟨w.heap.size, u, none⟩ = some (sV q))
    (RI : ∀ w, Calls Tryz.prog 17 #[iV i] w fun e w' => e = .returned (iV ri) ∧ Below w.heap.size w w') (RK : ∀ w, Calls Tryz.prog 17 #[iV k] w fun e w' => e = .returned (iV rk) ∧ Below w.heap.size w w')
    (lo : o.length ≤ 3) (lp : p.length ≤ 3) (lq : q.length ≤ 3) (TS : shapesAs 300 (textS o p) (rightS o p) = true) (TU : shapesAs 300 (textU q o) (shapeU q o) = true) (TD : shapesAs 300 (textD q) (shapeD q) = true)
    (hr : ri < rk) (w : World) (hE : Env4 w) :
    Calls Tryz.prog 5 #[.int .u8 a0, .int .u8 a1, .int .u8 a2] w fun e w' => e = .returned (.bool true) ∧ Below w.heap.size w w' := by
  have g1 : ¬ (rk : Int) < (ri : Int) := by omega
  have g2 : ((ri : Int) == (rk : Int)) = false := by simp; omega
  have T1 := Lib.hid (fun w hE => expr_at (⟨#[97, 32]⟩ ++ ⟨o.toArray⟩ ++ ⟨#[32, 98, 32]⟩ ++ ⟨p.toArray⟩ ++ ⟨#[32, 99]⟩) _ _ (by simp [textS]) TS (by simp [rightS]; omega) (by simp [textS]; omega) w hE)
  have T2 := Lib.hid (fun w hE => expr_at (⟨q.toArray⟩ ++ ⟨#[32, 97, 32]⟩ ++ ⟨o.toArray⟩ ++ ⟨#[32]⟩ ++ ⟨q.toArray⟩ ++ ⟨#[32, 98, 91, 99, 93, 32]⟩) _ _ (by simp [textU]) TU (by simp [shapeU]; omega) (by simp [textU]; omega) w hE)
  have T3 := Lib.hid (fun w hE => expr_at (⟨q.toArray⟩ ++ ⟨#[32]⟩ ++ ⟨q.toArray⟩ ++ ⟨#[32, 97, 40, 98, 41]⟩) _ _ (by simp [textD]) TD (by simp [shapeD]; omega) (by simp [textD]; omega) w hE)
  obtain ⟨x1, hx1⟩ : ∃ x1, x1 = (⟨#[40, 97, 32]⟩ ++ ⟨o.toArray⟩ ++ ⟨#[32, 40, 98, 32]⟩ ++ ⟨p.toArray⟩ ++ ⟨#[32, 99, 41, 41]⟩ : ByteArray) := ⟨_, rfl⟩
  obtain ⟨x2, hx2⟩ : ∃ x2, x2 = (⟨#[40, 40]⟩ ++ ⟨q.toArray⟩ ++ ⟨#[32, 97, 41, 32]⟩ ++ ⟨o.toArray⟩ ++ ⟨#[32, 40]⟩ ++ ⟨q.toArray⟩ ++ ⟨#[32, 40, 98, 91, 99, 93, 41, 41, 41]⟩ : ByteArray) := ⟨_, rfl⟩
  obtain ⟨x3, hx3⟩ : ∃ x3, x3 = (⟨#[40]⟩ ++ ⟨q.toArray⟩ ++ ⟨#[32, 40]⟩ ++ ⟨q.toArray⟩ ++ ⟨#[32, 40, 97, 40, 98, 44, 41, 41, 41, 41]⟩ : ByteArray) := ⟨_, rfl⟩
  have y1 : (⟨(rightS o p).toArray⟩ : ByteArray) = x1 := by rw [hx1]; exact ByteArray.ext (by simp [rightS])
  have y2 : (⟨(shapeU q o).toArray⟩ : ByteArray) = x2 := by rw [hx2]; exact ByteArray.ext (by simp [shapeU])
  have y3 : (⟨(shapeD q).toArray⟩ : ByteArray) = x3 := by rw [hx3]; exact ByteArray.ext (by simp [shapeD])
  have S1 := Lib.hid (fun (w w' : World) (v : Value) (h : Holds w v (rightS o p)) (hb : Below w.heap.size w w') => says_as h y1 hb)
  have S2 := Lib.hid (fun (w w' : World) (v : Value) (h : Holds w v (shapeU q o)) (hb : Below w.heap.size w w') => says_as h y2 hb)
  have S3 := Lib.hid (fun (w w' : World) (v : Value) (h : Holds w v (shapeD q)) (hb : Below w.heap.size w w') => says_as h y3 hb)
  have z1 : (x1.toList == x1.toList) = true := by simp
  have z2 : (x2.toList == x2.toList) = true := by simp
  have z3 : (x3.toList == x3.toList) = true := by simp
  clear y1 y2 y3 TS TU TD
  rw [hx2] at S2 z2
  rw [hx3] at S3 z3
  replace hx1 := Lib.hid hx1
  clear hx2 hx3
  have b0 : ¬ 9223372036854775807 < 3 + o.length := by omega
  have b1 : ¬ 9223372036854775807 < 3 + o.length + 4 := by omega
  have b2 : ¬ 9223372036854775807 < 3 + o.length + 4 + p.length := by omega
  have b3 : ¬ 9223372036854775807 < 3 + o.length + 4 + p.length + 4 := by omega
  have b4 : ¬ 9223372036854775807 < 4 + o.length := by omega
  have b5 : ¬ 9223372036854775807 < 4 + o.length + 4 := by omega
  have b6 : ¬ 9223372036854775807 < 4 + o.length + 4 + p.length := by omega
  have b7 : ¬ 9223372036854775807 < 4 + o.length + 4 + p.length + 3 := by omega
  have b8 : ¬ 9223372036854775807 < 2 + o.length := by omega
  have b9 : ¬ 9223372036854775807 < 2 + o.length + 3 := by omega
  have b10 : ¬ 9223372036854775807 < 2 + o.length + 3 + p.length := by omega
  have b11 : ¬ 9223372036854775807 < 2 + o.length + 3 + p.length + 2 := by omega
  have b12 : ¬ 9223372036854775807 < q.length + 3 := by omega
  have b13 : ¬ 9223372036854775807 < q.length + 3 + o.length := by omega
  have b14 : ¬ 9223372036854775807 < q.length + 3 + o.length + 1 := by omega
  have b15 : ¬ 9223372036854775807 < q.length + 3 + o.length + 1 + q.length := by omega
  have b16 : ¬ 9223372036854775807 < q.length + 3 + o.length + 1 + q.length + 6 := by omega
  have b17 : ¬ 9223372036854775807 < 2 + q.length := by omega
  have b18 : ¬ 9223372036854775807 < 2 + q.length + 4 := by omega
  have b19 : ¬ 9223372036854775807 < 2 + q.length + 4 + o.length := by omega
  have b20 : ¬ 9223372036854775807 < 2 + q.length + 4 + o.length + 2 := by omega
  have b21 : ¬ 9223372036854775807 < 2 + q.length + 4 + o.length + 2 + q.length := by omega
  have b22 : ¬ 9223372036854775807 < 2 + q.length + 4 + o.length + 2 + q.length + 9 := by omega
  have b23 : ¬ 9223372036854775807 < q.length + 1 := by omega
  have b24 : ¬ 9223372036854775807 < q.length + 1 + q.length := by omega
  have b25 : ¬ 9223372036854775807 < q.length + 1 + q.length + 5 := by omega
  have b26 : ¬ 9223372036854775807 < 1 + q.length := by omega
  have b27 : ¬ 9223372036854775807 < 1 + q.length + 2 := by omega
  have b28 : ¬ 9223372036854775807 < 1 + q.length + 2 + q.length := by omega
  have b29 : ¬ 9223372036854775807 < 1 + q.length + 2 + q.length + 10 := by omega
  have hO := Lib.hid (fun T => hoi w T)
  have hP := Lib.hid (fun T => hok w T)
  replace hou := Lib.hid hou
  replace RI := Lib.hid RI
  replace RK := Lib.hid RK
  replace hE := Lib.hid hE
  have i0 : (0 : Int) ≤ (i : Int) := by omega
  have i1 : (i : Int) < 19 := by omega
  have k0 : (0 : Int) ≤ (k : Int) := by omega
  have k1 : (k : Int) < 19 := by omega
  have u0 : (0 : Int) ≤ (u : Int) := by omega
  have u1 : (u : Int) < 4 := by omega
  clear hoi hok
  go_enter Tryz.func5, Tryz.ntmps5
  go_wp2_with fail
  obtain ⟨w1, hw1⟩ : ∃ w1, w1 = w.alloc (.cells opsA 9) := ⟨_, rfl⟩
  have K := Lib.hid (show SK w w.heap.size i k o p w1 from by subst hw1; exact ⟨hO.out _, hP.out _, by simp, hE.out.below ((Below.refl _ _).alloc (Nat.le_refl _) _), (Below.refl _ _).alloc (Nat.le_refl _) _⟩)
  unfold opsA at hw1
  rw [← hw1]
  clear hw1 hO hP
  go_quiet (fail)
  rw [hi0, hk0]
  replace K := Lib.hid (K.out.drewN nq)
  generalize w1.drewN nq = w2 at K ⊢
  have c1 := hou.out w2 9
  replace K := Lib.hid (K.out.next ((Below.refl _ _).alloc (Nat.le_refl _) (.cells unA 9)))
  unfold unA at c1 K
  clear hou
  go_wp2_with (first
    | (go_at_call_of 17 (Value.int .i64 (i : Int)); (with_reducible refine (RI.out _).mono ?_); rintro e w3 ⟨rfl, hb3⟩; replace K := Lib.hid (K.out.next hb3); have q1 := K.out.ci; have q2 := K.out.ck; clear hb3)
    | (go_at_call_of 17 (Value.int .i64 (k : Int)); (with_reducible refine (RK.out _).mono ?_); rintro e w3 ⟨rfl, hb3⟩; replace K := Lib.hid (K.out.next hb3); have q1 := K.out.ci; have q2 := K.out.ck; clear hb3))
  go_quiet (fail)
  replace K := Lib.hid (K.out.drewN nq)
  rw [← hx1.out]
  replace hx1 := hx1.out
  clear hx1
  go_wp2_with fail
  have A := K.out.all
  replace S1 := Lib.hid (fun w v h => S1.out w w v h (Below.refl _ _))
  replace S2 := Lib.hid (fun w v h => S2.out w w v h (Below.refl _ _))
  replace S3 := Lib.hid (fun w v h => S3.out w w v h (Below.refl _ _))
  generalize hw4 : World.drewN _ nq = w4 at A K ⊢
  clear hw4 RI RK hE K
  go_region_held3 (fun w' => w'.cell? ⟨w.heap.size, i, none⟩ = some (sV o) ∧ w'.cell? ⟨w.heap.size, k, none⟩ = some (sV p) ∧ SK w w.heap.size i k o p w') (first | exact A.2.2.drewN _ |>.all | (obtain ⟨_, _, hK⟩ := ‹_ ∧ _ ∧ SK w _ i k o p _›; exact (hK.next ‹_›).all) | (obtain ⟨_, _, hK⟩ := ‹_ ∧ _ ∧ SK w _ i k o p _›; exact (hK.drewN _).all))
    (first
      | (go_at_call_of 14 p; obtain ⟨_, _, hK⟩ := ‹_ ∧ _ ∧ SK w _ i k o p _›; refine (T1.out _ hK.env).mono ?_; rintro e w5 ⟨v1, rfl, H1, hb⟩)
      | (go_at_call_of 16 v1; refine (S1.out _ _ ‹_›).mono ?_; rintro e w6 ⟨rfl, m1, rfl⟩))
  go_wp2_with fail
  clear A
  go_region_held3 (fun w' => w'.cell? ⟨w.heap.size, i, none⟩ = some (sV o) ∧ w'.cell? ⟨w.heap.size, k, none⟩ = some (sV p) ∧ SK w w.heap.size i k o p w') (first | (obtain ⟨_, _, hK⟩ := ‹_ ∧ _ ∧ SK w _ i k o p _›; exact (hK.next ‹_›).all) | (obtain ⟨_, _, hK⟩ := ‹_ ∧ _ ∧ SK w _ i k o p _›; exact (hK.drewN _).all))
    (first
      | (go_at_call_of 14 o; obtain ⟨_, _, hK⟩ := ‹_ ∧ _ ∧ SK w _ i k o p _›; refine (T2.out _ hK.env).mono ?_; rintro e w5 ⟨v2, rfl, H2, hb⟩)
      | (go_at_call_of 16 v2; refine (S2.out _ _ ‹_›).mono ?_; rintro e w6 ⟨rfl, m2, rfl⟩)
      | (go_at_call_of 14 q; obtain ⟨_, _, hK⟩ := ‹_ ∧ _ ∧ SK w _ i k o p _›; refine (T3.out _ hK.env).mono ?_; rintro e w7 ⟨v3, rfl, H3, hb⟩)
      | (go_at_call_of 16 v3; refine (S3.out _ _ ‹_›).mono ?_; rintro e w8 ⟨rfl, m3, rfl⟩)
      | (go_at_call 12; obtain ⟨_, _, hK⟩ := ‹_ ∧ _ ∧ SK w _ i k o p _›; refine (works_true _ hK.env).mono ?_; rintro e w9 ⟨rfl, hb⟩))
  obtain ⟨_, _, hK⟩ := ‹_ ∧ _ ∧ SK w _ i k o p _›
  have B := Lib.hid hK.below
  go_wp2_with fail
  go_ret
  exact ⟨rfl, B.out⟩
set_option maxHeartbeats 16000000 in
theorem way_same (a0 a1 a2 i k u ri rk : Nat) (hi0 : (a0 : Int) % 19 = (i : Int)) (hk0 : (a1 : Int) % 19 = (k : Int)) (hu0 : (a2 : Int) % 4 = (u : Int)) (_hi : i < 19) (_hk : k < 19) (_hu : u < 4) (h0 : a0 ≤ 255) (h1 : a1 ≤ 255) (h2 : a2 ≤ 255)
    (o p q : List UInt8) (hoi : ∀ (w : World) (T : TypeId), (w.alloc (.cells opsA T)).cell? ⟨w.heap.size, i, none⟩ = some (sV o)) (hok : ∀ (w : World) (T : TypeId), (w.alloc (.cells opsA T)).cell? ⟨w.heap.size, k, none⟩ = some (sV p)) (hou : ∀ (w : World) (T : TypeId), (w.alloc (.cells unA T)).cell? ⟨w.heap.size, u, none⟩ = some (sV q))
    (RI : ∀ w, Calls Tryz.prog 17 #[iV i] w fun e w' => e = .returned (iV ri) ∧ Below w.heap.size w w') (RK : ∀ w, Calls Tryz.prog 17 #[iV k] w fun e w' => e = .returned (iV rk) ∧ Below w.heap.size w w')
    (lo : o.length ≤ 3) (lp : p.length ≤ 3) (lq : q.length ≤ 3) (TS : shapesAs 300 (textS o p) (leftS o p) = true) (TU : shapesAs 300 (textU q o) (shapeU q o) = true) (TD : shapesAs 300 (textD q) (shapeD q) = true)
    (hr : rk = ri) (ho : (o == [46, 46]) = false) (w : World) (hE : Env4 w) :
    Calls Tryz.prog 5 #[.int .u8 a0, .int .u8 a1, .int .u8 a2] w fun e w' => e = .returned (.bool true) ∧ Below w.heap.size w w' := by
  subst hr
  have g1 : ¬ (rk : Int) < (rk : Int) := by omega
  have g2 : ((rk : Int) == (rk : Int)) = true := by simp
  have T1 := Lib.hid (fun w hE => expr_at (⟨#[97, 32]⟩ ++ ⟨o.toArray⟩ ++ ⟨#[32, 98, 32]⟩ ++ ⟨p.toArray⟩ ++ ⟨#[32, 99]⟩) _ _ (by simp [textS]) TS (by simp [leftS]; omega) (by simp [textS]; omega) w hE)
  have T2 := Lib.hid (fun w hE => expr_at (⟨q.toArray⟩ ++ ⟨#[32, 97, 32]⟩ ++ ⟨o.toArray⟩ ++ ⟨#[32]⟩ ++ ⟨q.toArray⟩ ++ ⟨#[32, 98, 91, 99, 93, 32]⟩) _ _ (by simp [textU]) TU (by simp [shapeU]; omega) (by simp [textU]; omega) w hE)
  have T3 := Lib.hid (fun w hE => expr_at (⟨q.toArray⟩ ++ ⟨#[32]⟩ ++ ⟨q.toArray⟩ ++ ⟨#[32, 97, 40, 98, 41]⟩) _ _ (by simp [textD]) TD (by simp [shapeD]; omega) (by simp [textD]; omega) w hE)
  obtain ⟨x1, hx1⟩ : ∃ x1, x1 = (⟨#[40, 40, 97, 32]⟩ ++ ⟨o.toArray⟩ ++ ⟨#[32, 98, 41, 32]⟩ ++ ⟨p.toArray⟩ ++ ⟨#[32, 99, 41]⟩ : ByteArray) := ⟨_, rfl⟩
  obtain ⟨x2, hx2⟩ : ∃ x2, x2 = (⟨#[40, 40]⟩ ++ ⟨q.toArray⟩ ++ ⟨#[32, 97, 41, 32]⟩ ++ ⟨o.toArray⟩ ++ ⟨#[32, 40]⟩ ++ ⟨q.toArray⟩ ++ ⟨#[32, 40, 98, 91, 99, 93, 41, 41, 41]⟩ : ByteArray) := ⟨_, rfl⟩
  obtain ⟨x3, hx3⟩ : ∃ x3, x3 = (⟨#[40]⟩ ++ ⟨q.toArray⟩ ++ ⟨#[32, 40]⟩ ++ ⟨q.toArray⟩ ++ ⟨#[32, 40, 97, 40, 98, 44, 41, 41, 41, 41]⟩ : ByteArray) := ⟨_, rfl⟩
  have y1 : (⟨(leftS o p).toArray⟩ : ByteArray) = x1 := by rw [hx1]; exact ByteArray.ext (by simp [leftS])
  have y2 : (⟨(shapeU q o).toArray⟩ : ByteArray) = x2 := by rw [hx2]; exact ByteArray.ext (by simp [shapeU])
  have y3 : (⟨(shapeD q).toArray⟩ : ByteArray) = x3 := by rw [hx3]; exact ByteArray.ext (by simp [shapeD])
  have S1 := Lib.hid (fun (w w' : World) (v : Value) (h : Holds w v (leftS o p)) (hb : Below w.heap.size w w') => says_as h y1 hb)
  have S2 := Lib.hid (fun (w w' : World) (v : Value) (h : Holds w v (shapeU q o)) (hb : Below w.heap.size w w') => says_as h y2 hb)
  have S3 := Lib.hid (fun (w w' : World) (v : Value) (h : Holds w v (shapeD q)) (hb : Below w.heap.size w w') => says_as h y3 hb)
  have z1 : (x1.toList == x1.toList) = true := by simp
  have z2 : (x2.toList == x2.toList) = true := by simp
  have z3 : (x3.toList == x3.toList) = true := by simp
  clear y1 y2 y3 TS TU TD
  rw [hx2] at S2 z2
  rw [hx3] at S3 z3
  replace hx1 := Lib.hid hx1
  clear hx2 hx3
  have b0 : ¬ 9223372036854775807 < 3 + o.length := by omega
  have b1 : ¬ 9223372036854775807 < 3 + o.length + 4 := by omega
  have b2 : ¬ 9223372036854775807 < 3 + o.length + 4 + p.length := by omega
  have b3 : ¬ 9223372036854775807 < 3 + o.length + 4 + p.length + 4 := by omega
  have b4 : ¬ 9223372036854775807 < 4 + o.length := by omega
  have b5 : ¬ 9223372036854775807 < 4 + o.length + 4 := by omega
  have b6 : ¬ 9223372036854775807 < 4 + o.length + 4 + p.length := by omega
  have b7 : ¬ 9223372036854775807 < 4 + o.length + 4 + p.length + 3 := by omega
  have b8 : ¬ 9223372036854775807 < 2 + o.length := by omega
  have b9 : ¬ 9223372036854775807 < 2 + o.length + 3 := by omega
  have b10 : ¬ 9223372036854775807 < 2 + o.length + 3 + p.length := by omega
  have b11 : ¬ 9223372036854775807 < 2 + o.length + 3 + p.length + 2 := by omega
  have b12 : ¬ 9223372036854775807 < q.length + 3 := by omega
  have b13 : ¬ 9223372036854775807 < q.length + 3 + o.length := by omega
  have b14 : ¬ 9223372036854775807 < q.length + 3 + o.length + 1 := by omega
  have b15 : ¬ 9223372036854775807 < q.length + 3 + o.length + 1 + q.length := by omega
  have b16 : ¬ 9223372036854775807 < q.length + 3 + o.length + 1 + q.length + 6 := by omega
  have b17 : ¬ 9223372036854775807 < 2 + q.length := by omega
  have b18 : ¬ 9223372036854775807 < 2 + q.length + 4 := by omega
  have b19 : ¬ 9223372036854775807 < 2 + q.length + 4 + o.length := by omega
  have b20 : ¬ 9223372036854775807 < 2 + q.length + 4 + o.length + 2 := by omega
  have b21 : ¬ 9223372036854775807 < 2 + q.length + 4 + o.length + 2 + q.length := by omega
  have b22 : ¬ 9223372036854775807 < 2 + q.length + 4 + o.length + 2 + q.length + 9 := by omega
  have b23 : ¬ 9223372036854775807 < q.length + 1 := by omega
  have b24 : ¬ 9223372036854775807 < q.length + 1 + q.length := by omega
  have b25 : ¬ 9223372036854775807 < q.length + 1 + q.length + 5 := by omega
  have b26 : ¬ 9223372036854775807 < 1 + q.length := by omega
  have b27 : ¬ 9223372036854775807 < 1 + q.length + 2 := by omega
  have b28 : ¬ 9223372036854775807 < 1 + q.length + 2 + q.length := by omega
  have b29 : ¬ 9223372036854775807 < 1 + q.length + 2 + q.length + 10 := by omega
  have hO := Lib.hid (fun T => hoi w T)
  have hP := Lib.hid (fun T => hok w T)
  replace hou := Lib.hid hou
  replace RI := Lib.hid RI
  replace RK := Lib.hid RK
  replace hE := Lib.hid hE
  have i0 : (0 : Int) ≤ (i : Int) := by omega
  have i1 : (i : Int) < 19 := by omega
  have k0 : (0 : Int) ≤ (k : Int) := by omega
  have k1 : (k : Int) < 19 := by omega
  have u0 : (0 : Int) ≤ (u : Int) := by omega
  have u1 : (u : Int) < 4 := by omega
  clear hoi hok
  go_enter Tryz.func5, Tryz.ntmps5
  go_wp2_with fail
  obtain ⟨w1, hw1⟩ : ∃ w1, w1 = w.alloc (.cells opsA 9) := ⟨_, rfl⟩
  have K := Lib.hid (show SK w w.heap.size i k o p w1 from by subst hw1; exact ⟨hO.out _, hP.out _, by simp, hE.out.below ((Below.refl _ _).alloc (Nat.le_refl _) _), (Below.refl _ _).alloc (Nat.le_refl _) _⟩)
  unfold opsA at hw1
  rw [← hw1]
  clear hw1 hO hP
  go_quiet (fail)
  rw [hi0, hk0]
  replace K := Lib.hid (K.out.drewN nq)
  generalize w1.drewN nq = w2 at K ⊢
  have c1 := hou.out w2 9
  replace K := Lib.hid (K.out.next ((Below.refl _ _).alloc (Nat.le_refl _) (.cells unA 9)))
  unfold unA at c1 K
  clear hou
  go_wp2_with (first
    | (go_at_call_of 17 (Value.int .i64 (i : Int)); (with_reducible refine (RI.out _).mono ?_); rintro e w3 ⟨rfl, hb3⟩; replace K := Lib.hid (K.out.next hb3); have q1 := K.out.ci; have q2 := K.out.ck; clear hb3)
    | (go_at_call_of 17 (Value.int .i64 (k : Int)); (with_reducible refine (RK.out _).mono ?_); rintro e w3 ⟨rfl, hb3⟩; replace K := Lib.hid (K.out.next hb3); have q1 := K.out.ci; have q2 := K.out.ck; clear hb3))
  go_quiet (fail)
  replace K := Lib.hid (K.out.drewN nq)
  go_wp2_with fail
  go_quiet (fail)
  replace K := Lib.hid (K.out.drewN nq)
  rw [← hx1.out]
  replace hx1 := hx1.out
  clear hx1
  go_wp2_with fail
  have A := K.out.all
  replace S1 := Lib.hid (fun w v h => S1.out w w v h (Below.refl _ _))
  replace S2 := Lib.hid (fun w v h => S2.out w w v h (Below.refl _ _))
  replace S3 := Lib.hid (fun w v h => S3.out w w v h (Below.refl _ _))
  generalize hw4 : World.drewN _ nq = w4 at A K ⊢
  clear hw4 RI RK hE K
  go_region_held3 (fun w' => w'.cell? ⟨w.heap.size, i, none⟩ = some (sV o) ∧ w'.cell? ⟨w.heap.size, k, none⟩ = some (sV p) ∧ SK w w.heap.size i k o p w') (first | exact A.2.2.drewN _ |>.all | (obtain ⟨_, _, hK⟩ := ‹_ ∧ _ ∧ SK w _ i k o p _›; exact (hK.next ‹_›).all) | (obtain ⟨_, _, hK⟩ := ‹_ ∧ _ ∧ SK w _ i k o p _›; exact (hK.drewN _).all))
    (first
      | (go_at_call_of 14 p; obtain ⟨_, _, hK⟩ := ‹_ ∧ _ ∧ SK w _ i k o p _›; refine (T1.out _ hK.env).mono ?_; rintro e w5 ⟨v1, rfl, H1, hb⟩)
      | (go_at_call_of 16 v1; refine (S1.out _ _ ‹_›).mono ?_; rintro e w6 ⟨rfl, m1, rfl⟩))
  go_wp2_with fail
  clear A
  go_region_held3 (fun w' => w'.cell? ⟨w.heap.size, i, none⟩ = some (sV o) ∧ w'.cell? ⟨w.heap.size, k, none⟩ = some (sV p) ∧ SK w w.heap.size i k o p w') (first | (obtain ⟨_, _, hK⟩ := ‹_ ∧ _ ∧ SK w _ i k o p _›; exact (hK.next ‹_›).all) | (obtain ⟨_, _, hK⟩ := ‹_ ∧ _ ∧ SK w _ i k o p _›; exact (hK.drewN _).all))
    (first
      | (go_at_call_of 14 o; obtain ⟨_, _, hK⟩ := ‹_ ∧ _ ∧ SK w _ i k o p _›; refine (T2.out _ hK.env).mono ?_; rintro e w5 ⟨v2, rfl, H2, hb⟩)
      | (go_at_call_of 16 v2; refine (S2.out _ _ ‹_›).mono ?_; rintro e w6 ⟨rfl, m2, rfl⟩)
      | (go_at_call_of 14 q; obtain ⟨_, _, hK⟩ := ‹_ ∧ _ ∧ SK w _ i k o p _›; refine (T3.out _ hK.env).mono ?_; rintro e w7 ⟨v3, rfl, H3, hb⟩)
      | (go_at_call_of 16 v3; refine (S3.out _ _ ‹_›).mono ?_; rintro e w8 ⟨rfl, m3, rfl⟩)
      | (go_at_call 12; obtain ⟨_, _, hK⟩ := ‹_ ∧ _ ∧ SK w _ i k o p _›; refine (works_true _ hK.env).mono ?_; rintro e w9 ⟨rfl, hb⟩))
  obtain ⟨_, _, hK⟩ := ‹_ ∧ _ ∧ SK w _ i k o p _›
  have B := Lib.hid hK.below
  go_wp2_with fail
  go_ret
  exact ⟨rfl, B.out⟩
set_option maxHeartbeats 16000000 in
theorem way_dots (a0 a1 a2 i k u ri rk : Nat) (hi0 : (a0 : Int) % 19 = (i : Int)) (hk0 : (a1 : Int) % 19 = (k : Int)) (hu0 : (a2 : Int) % 4 = (u : Int)) (_hi : i < 19) (_hk : k < 19) (_hu : u < 4) (h0 : a0 ≤ 255) (h1 : a1 ≤ 255) (h2 : a2 ≤ 255)
    (o p q : List UInt8) (hoi : ∀ (w : World) (T : TypeId), (w.alloc (.cells opsA T)).cell? ⟨w.heap.size, i, none⟩ = some (sV o)) (hok : ∀ (w : World) (T : TypeId), (w.alloc (.cells opsA T)).cell? ⟨w.heap.size, k, none⟩ = some (sV p)) (hou : ∀ (w : World) (T : TypeId), (w.alloc (.cells unA T)).cell? ⟨w.heap.size, u, none⟩ = some (sV q))
    (RI : ∀ w, Calls Tryz.prog 17 #[iV i] w fun e w' => e = .returned (iV ri) ∧ Below w.heap.size w w') (RK : ∀ w, Calls Tryz.prog 17 #[iV k] w fun e w' => e = .returned (iV rk) ∧ Below w.heap.size w w')
    (lo : o.length ≤ 3) (lp : p.length ≤ 3) (lq : q.length ≤ 3) (TS : shapesAs 300 (textS o p) (rightS o p) = true) (TU : shapesAs 300 (textU q o) (shapeU q o) = true) (TD : shapesAs 300 (textD q) (shapeD q) = true)
    (hr : rk = ri) (ho : (o == [46, 46]) = true) (w : World) (hE : Env4 w) :
    Calls Tryz.prog 5 #[.int .u8 a0, .int .u8 a1, .int .u8 a2] w fun e w' => e = .returned (.bool true) ∧ Below w.heap.size w w' := by
  subst hr
  have g1 : ¬ (rk : Int) < (rk : Int) := by omega
  have g2 : ((rk : Int) == (rk : Int)) = true := by simp
  have T1 := Lib.hid (fun w hE => expr_at (⟨#[97, 32]⟩ ++ ⟨o.toArray⟩ ++ ⟨#[32, 98, 32]⟩ ++ ⟨p.toArray⟩ ++ ⟨#[32, 99]⟩) _ _ (by simp [textS]) TS (by simp [rightS]; omega) (by simp [textS]; omega) w hE)
  have T2 := Lib.hid (fun w hE => expr_at (⟨q.toArray⟩ ++ ⟨#[32, 97, 32]⟩ ++ ⟨o.toArray⟩ ++ ⟨#[32]⟩ ++ ⟨q.toArray⟩ ++ ⟨#[32, 98, 91, 99, 93, 32]⟩) _ _ (by simp [textU]) TU (by simp [shapeU]; omega) (by simp [textU]; omega) w hE)
  have T3 := Lib.hid (fun w hE => expr_at (⟨q.toArray⟩ ++ ⟨#[32]⟩ ++ ⟨q.toArray⟩ ++ ⟨#[32, 97, 40, 98, 41]⟩) _ _ (by simp [textD]) TD (by simp [shapeD]; omega) (by simp [textD]; omega) w hE)
  obtain ⟨x1, hx1⟩ : ∃ x1, x1 = (⟨#[40, 97, 32]⟩ ++ ⟨o.toArray⟩ ++ ⟨#[32, 40, 98, 32]⟩ ++ ⟨p.toArray⟩ ++ ⟨#[32, 99, 41, 41]⟩ : ByteArray) := ⟨_, rfl⟩
  obtain ⟨x2, hx2⟩ : ∃ x2, x2 = (⟨#[40, 40]⟩ ++ ⟨q.toArray⟩ ++ ⟨#[32, 97, 41, 32]⟩ ++ ⟨o.toArray⟩ ++ ⟨#[32, 40]⟩ ++ ⟨q.toArray⟩ ++ ⟨#[32, 40, 98, 91, 99, 93, 41, 41, 41]⟩ : ByteArray) := ⟨_, rfl⟩
  obtain ⟨x3, hx3⟩ : ∃ x3, x3 = (⟨#[40]⟩ ++ ⟨q.toArray⟩ ++ ⟨#[32, 40]⟩ ++ ⟨q.toArray⟩ ++ ⟨#[32, 40, 97, 40, 98, 44, 41, 41, 41, 41]⟩ : ByteArray) := ⟨_, rfl⟩
  have y1 : (⟨(rightS o p).toArray⟩ : ByteArray) = x1 := by rw [hx1]; exact ByteArray.ext (by simp [rightS])
  have y2 : (⟨(shapeU q o).toArray⟩ : ByteArray) = x2 := by rw [hx2]; exact ByteArray.ext (by simp [shapeU])
  have y3 : (⟨(shapeD q).toArray⟩ : ByteArray) = x3 := by rw [hx3]; exact ByteArray.ext (by simp [shapeD])
  have S1 := Lib.hid (fun (w w' : World) (v : Value) (h : Holds w v (rightS o p)) (hb : Below w.heap.size w w') => says_as h y1 hb)
  have S2 := Lib.hid (fun (w w' : World) (v : Value) (h : Holds w v (shapeU q o)) (hb : Below w.heap.size w w') => says_as h y2 hb)
  have S3 := Lib.hid (fun (w w' : World) (v : Value) (h : Holds w v (shapeD q)) (hb : Below w.heap.size w w') => says_as h y3 hb)
  have z1 : (x1.toList == x1.toList) = true := by simp
  have z2 : (x2.toList == x2.toList) = true := by simp
  have z3 : (x3.toList == x3.toList) = true := by simp
  clear y1 y2 y3 TS TU TD
  rw [hx2] at S2 z2
  rw [hx3] at S3 z3
  replace hx1 := Lib.hid hx1
  clear hx2 hx3
  have b0 : ¬ 9223372036854775807 < 3 + o.length := by omega
  have b1 : ¬ 9223372036854775807 < 3 + o.length + 4 := by omega
  have b2 : ¬ 9223372036854775807 < 3 + o.length + 4 + p.length := by omega
  have b3 : ¬ 9223372036854775807 < 3 + o.length + 4 + p.length + 4 := by omega
  have b4 : ¬ 9223372036854775807 < 4 + o.length := by omega
  have b5 : ¬ 9223372036854775807 < 4 + o.length + 4 := by omega
  have b6 : ¬ 9223372036854775807 < 4 + o.length + 4 + p.length := by omega
  have b7 : ¬ 9223372036854775807 < 4 + o.length + 4 + p.length + 3 := by omega
  have b8 : ¬ 9223372036854775807 < 2 + o.length := by omega
  have b9 : ¬ 9223372036854775807 < 2 + o.length + 3 := by omega
  have b10 : ¬ 9223372036854775807 < 2 + o.length + 3 + p.length := by omega
  have b11 : ¬ 9223372036854775807 < 2 + o.length + 3 + p.length + 2 := by omega
  have b12 : ¬ 9223372036854775807 < q.length + 3 := by omega
  have b13 : ¬ 9223372036854775807 < q.length + 3 + o.length := by omega
  have b14 : ¬ 9223372036854775807 < q.length + 3 + o.length + 1 := by omega
  have b15 : ¬ 9223372036854775807 < q.length + 3 + o.length + 1 + q.length := by omega
  have b16 : ¬ 9223372036854775807 < q.length + 3 + o.length + 1 + q.length + 6 := by omega
  have b17 : ¬ 9223372036854775807 < 2 + q.length := by omega
  have b18 : ¬ 9223372036854775807 < 2 + q.length + 4 := by omega
  have b19 : ¬ 9223372036854775807 < 2 + q.length + 4 + o.length := by omega
  have b20 : ¬ 9223372036854775807 < 2 + q.length + 4 + o.length + 2 := by omega
  have b21 : ¬ 9223372036854775807 < 2 + q.length + 4 + o.length + 2 + q.length := by omega
  have b22 : ¬ 9223372036854775807 < 2 + q.length + 4 + o.length + 2 + q.length + 9 := by omega
  have b23 : ¬ 9223372036854775807 < q.length + 1 := by omega
  have b24 : ¬ 9223372036854775807 < q.length + 1 + q.length := by omega
  have b25 : ¬ 9223372036854775807 < q.length + 1 + q.length + 5 := by omega
  have b26 : ¬ 9223372036854775807 < 1 + q.length := by omega
  have b27 : ¬ 9223372036854775807 < 1 + q.length + 2 := by omega
  have b28 : ¬ 9223372036854775807 < 1 + q.length + 2 + q.length := by omega
  have b29 : ¬ 9223372036854775807 < 1 + q.length + 2 + q.length + 10 := by omega
  have hO := Lib.hid (fun T => hoi w T)
  have hP := Lib.hid (fun T => hok w T)
  replace hou := Lib.hid hou
  replace RI := Lib.hid RI
  replace RK := Lib.hid RK
  replace hE := Lib.hid hE
  have i0 : (0 : Int) ≤ (i : Int) := by omega
  have i1 : (i : Int) < 19 := by omega
  have k0 : (0 : Int) ≤ (k : Int) := by omega
  have k1 : (k : Int) < 19 := by omega
  have u0 : (0 : Int) ≤ (u : Int) := by omega
  have u1 : (u : Int) < 4 := by omega
  clear hoi hok
  go_enter Tryz.func5, Tryz.ntmps5
  go_wp2_with fail
  obtain ⟨w1, hw1⟩ : ∃ w1, w1 = w.alloc (.cells opsA 9) := ⟨_, rfl⟩
  have K := Lib.hid (show SK w w.heap.size i k o p w1 from by subst hw1; exact ⟨hO.out _, hP.out _, by simp, hE.out.below ((Below.refl _ _).alloc (Nat.le_refl _) _), (Below.refl _ _).alloc (Nat.le_refl _) _⟩)
  unfold opsA at hw1
  rw [← hw1]
  clear hw1 hO hP
  go_quiet (fail)
  rw [hi0, hk0]
  replace K := Lib.hid (K.out.drewN nq)
  generalize w1.drewN nq = w2 at K ⊢
  have c1 := hou.out w2 9
  replace K := Lib.hid (K.out.next ((Below.refl _ _).alloc (Nat.le_refl _) (.cells unA 9)))
  unfold unA at c1 K
  clear hou
  go_wp2_with (first
    | (go_at_call_of 17 (Value.int .i64 (i : Int)); (with_reducible refine (RI.out _).mono ?_); rintro e w3 ⟨rfl, hb3⟩; replace K := Lib.hid (K.out.next hb3); have q1 := K.out.ci; have q2 := K.out.ck; clear hb3)
    | (go_at_call_of 17 (Value.int .i64 (k : Int)); (with_reducible refine (RK.out _).mono ?_); rintro e w3 ⟨rfl, hb3⟩; replace K := Lib.hid (K.out.next hb3); have q1 := K.out.ci; have q2 := K.out.ck; clear hb3))
  go_quiet (fail)
  replace K := Lib.hid (K.out.drewN nq)
  rw [← hx1.out]
  replace hx1 := hx1.out
  clear hx1
  go_wp2_with fail
  have A := K.out.all
  replace S1 := Lib.hid (fun w v h => S1.out w w v h (Below.refl _ _))
  replace S2 := Lib.hid (fun w v h => S2.out w w v h (Below.refl _ _))
  replace S3 := Lib.hid (fun w v h => S3.out w w v h (Below.refl _ _))
  generalize hw4 : World.drewN _ nq = w4 at A K ⊢
  clear hw4 RI RK hE K
  go_region_held3 (fun w' => w'.cell? ⟨w.heap.size, i, none⟩ = some (sV o) ∧ w'.cell? ⟨w.heap.size, k, none⟩ = some (sV p) ∧ SK w w.heap.size i k o p w') (first | exact A.2.2.drewN _ |>.all | (obtain ⟨_, _, hK⟩ := ‹_ ∧ _ ∧ SK w _ i k o p _›; exact (hK.next ‹_›).all) | (obtain ⟨_, _, hK⟩ := ‹_ ∧ _ ∧ SK w _ i k o p _›; exact (hK.drewN _).all))
    (first
      | (go_at_call_of 14 p; obtain ⟨_, _, hK⟩ := ‹_ ∧ _ ∧ SK w _ i k o p _›; refine (T1.out _ hK.env).mono ?_; rintro e w5 ⟨v1, rfl, H1, hb⟩)
      | (go_at_call_of 16 v1; refine (S1.out _ _ ‹_›).mono ?_; rintro e w6 ⟨rfl, m1, rfl⟩))
  go_wp2_with fail
  clear A
  go_region_held3 (fun w' => w'.cell? ⟨w.heap.size, i, none⟩ = some (sV o) ∧ w'.cell? ⟨w.heap.size, k, none⟩ = some (sV p) ∧ SK w w.heap.size i k o p w') (first | (obtain ⟨_, _, hK⟩ := ‹_ ∧ _ ∧ SK w _ i k o p _›; exact (hK.next ‹_›).all) | (obtain ⟨_, _, hK⟩ := ‹_ ∧ _ ∧ SK w _ i k o p _›; exact (hK.drewN _).all))
    (first
      | (go_at_call_of 14 o; obtain ⟨_, _, hK⟩ := ‹_ ∧ _ ∧ SK w _ i k o p _›; refine (T2.out _ hK.env).mono ?_; rintro e w5 ⟨v2, rfl, H2, hb⟩)
      | (go_at_call_of 16 v2; refine (S2.out _ _ ‹_›).mono ?_; rintro e w6 ⟨rfl, m2, rfl⟩)
      | (go_at_call_of 14 q; obtain ⟨_, _, hK⟩ := ‹_ ∧ _ ∧ SK w _ i k o p _›; refine (T3.out _ hK.env).mono ?_; rintro e w7 ⟨v3, rfl, H3, hb⟩)
      | (go_at_call_of 16 v3; refine (S3.out _ _ ‹_›).mono ?_; rintro e w8 ⟨rfl, m3, rfl⟩)
      | (go_at_call 12; obtain ⟨_, _, hK⟩ := ‹_ ∧ _ ∧ SK w _ i k o p _›; refine (works_true _ hK.env).mono ?_; rintro e w9 ⟨rfl, hb⟩))
  obtain ⟨_, _, hK⟩ := ‹_ ∧ _ ∧ SK w _ i k o p _›
  have B := Lib.hid hK.below
  go_wp2_with fail
  go_ret
  exact ⟨rfl, B.out⟩
end Go.Proofs.YtebkdegcifkigaaGreatDoor.parseStrength
