/- shape at a call and at a table: loops over the elements. -/
import Derived.Test.YtebkdegcifkigaaGreatDoorParShape2
import Derived.BigQuiet
namespace Go.Proofs.YtebkdegcifkigaaGreatDoor.P5
set_option maxRecDepth 20000
open Go.RowKit Go.Maps

/-- One element of a row of expressions: where it lies, and what shape answers of it. -/
def EltAt (w : World) (A : Option Addr) (i : Nat) (t : List UInt8) : Prop :=
  ∃ g v, A = some ⟨g, 0, none⟩ ∧ w.cell? ⟨g, i, none⟩ = some v ∧ ∀ n, Calls Tryz.prog 16 #[v] (w.drewN n) (Shapes (w.drewN n) t)
/-- A key: none, or an expression. -/
def KeyAt (w : World) (A : Option Addr) (i : Nat) (b : Bool) (t : List UInt8) : Prop :=
  ∃ g v, A = some ⟨g, 0, none⟩ ∧ w.cell? ⟨g, i, none⟩ = some v ∧ ((b = true ∧ v = .pointer none) ∨ (b = false ∧ (∃ c, v = pV c) ∧ ∀ n, Calls Tryz.prog 16 #[v] (w.drewN n) (Shapes (w.drewN n) t)))
theorem flat_take {α : Type} (f : α → List UInt8) (P : List α) (k : Nat) (x : α) (h : P[k]? = some x) : (P.take (k + 1)).flatMap f = (P.take k).flatMap f ++ f x := by
  rw [List.take_add_one, h]; simp
theorem flat_le {α : Type} (f : α → List UInt8) (P : List α) (k : Nat) : ((P.take k).flatMap f).length ≤ (P.flatMap f).length := by
  conv => rhs; rw [← List.take_append_drop k P]
  rw [List.flatMap_append, List.length_append]; omega
theorem flat_size {α : Type} (f : α → List UInt8) (hf : ∀ x, 1 ≤ (f x).length) : ∀ P : List α, P.length ≤ (P.flatMap f).length
  | [] => by simp
  | x :: r => by have := flat_size f hf r; have := hf x; rw [List.flatMap_cons, List.length_append, List.length_cons]; omega
def argT (x : List UInt8) : List UInt8 := x ++ [44]
def itemT (p : Bool × List UInt8 × List UInt8) : List UInt8 := (if p.1 = true then [] else p.2.1 ++ [61]) ++ p.2.2 ++ [44]
theorem str_eq {a b : List UInt8} (h : a = b) : (Value.string ⟨a.toArray⟩) = .string ⟨b.toArray⟩ := by rw [h]
set_option maxHeartbeats 8000000 in
theorem shape_call (w : World) {g : Nat} {l n : Int} {s : List UInt8} {va vb vk vp vy : Value} {Ax : Option Addr} {cx : Nat} {X : List (List UInt8)} (h : ExC w g 8 l n s va vb vk (.slice Ax X.length cx) vp vy)
    {sa : List UInt8} (ha : ∀ n, Calls Tryz.prog 16 #[va] (w.drewN n) (Shapes (w.drewN n) sa)) (hX : ∀ i t, X[i]? = some t → EltAt w Ax i t) (hl : ([40] ++ sa ++ [40] ++ X.flatMap argT ++ [41, 41]).length ≤ 1099511627776) :
    Calls Tryz.prog 16 #[pV g] w (Shapes w ([40] ++ sa ++ [40] ++ X.flatMap argT ++ [41, 41])) := by
  have c0 := h.c0
  have c4 := h.c4
  have c7 := h.c7
  have ha : Calls Tryz.prog 16 #[va] w (Shapes w sa) := ha 0
  replace ha := Lib.hid ha
  have hsz := flat_size argT (fun x => by simp [argT]) X
  have hle := flat_le argT X
  have htk := flat_take argT X
  replace hX := Lib.hid hX
  obtain ⟨N, hN⟩ : ∃ N, N = X.length := ⟨_, rfl⟩
  rw [← hN] at c7 hsz
  simp only [List.length_append, List.length_cons, List.length_nil] at hl
  have n1 : ¬ 9223372036854775807 < 1 + sa.length := by omega
  have n2 : ¬ 9223372036854775807 < 1 + sa.length + 1 := by omega
  have hNb : N ≤ 1099511627776 := by omega
  replace hle := Lib.hid hle
  replace htk := Lib.hid htk
  replace hN := Lib.hid hN
  go_enter Tryz.func16, Tryz.ntmps16
  go_wp2_with (go_at_call_of 16 va; (with_reducible refine ha.out.mono ?_); rintro e w1 ⟨rfl, m1, rfl⟩)
  go_loopw [3, 4] (fun t i wr => ∃ k m : Nat, k ≤ N ∧ i = iV k ∧ (∃ u : List UInt8, t = sV u ∧ Hid (u = [40] ++ sa ++ [40] ++ (X.take k).flatMap argT)) ∧ wr = w.drewN m) (fun _ i _ => N - (intOf i).toNat)
  case atStart => exact ⟨0, _, Nat.zero_le _, rfl, ⟨[40] ++ sa ++ [40], congrArg Value.string (ByteArray.ext (by simp)), Lib.hid (by simp)⟩, rfl⟩
  case round =>
    obtain ⟨k, m, hk, rfl, ⟨u, rfl, hu⟩, rfl⟩ := hrel
    have hul : u.length = 1 + sa.length + 1 + ((X.take k).flatMap argT).length := by rw [hu.out]; simp only [List.length_append, List.length_cons, List.length_nil]
    have hlk := hle.out k
    by_cases hlt : k < N
    · obtain ⟨x, hx⟩ : ∃ x, X[k]? = some x := ⟨_, List.getElem?_eq_getElem (by rw [← hN.out]; exact hlt)⟩
      obtain ⟨gx, v, rfl, hv, hc⟩ := hX.out k x hx
      replace hc := Lib.hid hc
      have hn := htk.out k x hx
      have hlk1 := hle.out (k + 1)
      have e1 : (argT x).length = x.length + 1 := by simp [argT]
      rw [hn, List.length_append, e1] at hlk1
      replace hn := Lib.hid hn
      have n3 : ¬ 9223372036854775807 < u.length + x.length := by omega
      have n4 : ¬ 9223372036854775807 < u.length + x.length + 1 := by omega
      have k0 : (0 : Int) ≤ (k : Int) := by omega
      have k1 : (k : Int) < (N : Int) := by omega
      clear hul hlk hlk1 hl hx e1
      go_wp2_with (go_at_call_of 16 v; (with_reducible refine (hc.out _).mono ?_); rintro e w1 ⟨rfl, m2, rfl⟩)
      go_roundw
      case rel => exact ⟨k + 1, _, by omega, by go_num, ⟨u ++ x ++ [44], congrArg Value.string (ByteArray.ext (by simp)), Lib.hid (by rw [hn.out, hu.out]; simp [argT])⟩, rfl⟩
      case measure => simp [intOf]; omega
    · obtain rfl : k = N := by omega
      have hu2 : u = [40] ++ sa ++ [40] ++ X.flatMap argT := by rw [hu.out, hN.out, List.take_length]
      have n3 : ¬ 9223372036854775807 < u.length + 2 := by rw [hu2]; simp only [List.length_append, List.length_cons, List.length_nil]; omega
      replace hu2 := Lib.hid hu2
      clear hul hlk hl
      go_wp2_with fail
      go_ret
      exact ⟨congrArg Ending.returned (congrArg Value.string (ByteArray.ext (by rw [hu2.out]; simp))), m, rfl⟩
set_option maxHeartbeats 16000000 in
theorem shape_table (w : World) {g : Nat} {l n : Int} {s : List UInt8} {va vb vp vy : Value} {Ak Ax : Option Addr} {ck cx : Nat} {X : List (Bool × List UInt8 × List UInt8)} (h : ExC w g 12 l n s va vb (.slice Ak X.length ck) (.slice Ax X.length cx) vp vy)
    (hK : ∀ i p, X[i]? = some p → KeyAt w Ak i p.1 p.2.1) (hX : ∀ i p, X[i]? = some p → EltAt w Ax i p.2.2) (hl : ([123] ++ X.flatMap itemT ++ [125]).length ≤ 1099511627776) :
    Calls Tryz.prog 16 #[pV g] w (Shapes w ([123] ++ X.flatMap itemT ++ [125])) := by
  have c0 := h.c0
  have c6 := h.c6
  have c7 := h.c7
  have hsz := flat_size itemT (fun x => by unfold itemT; simp only [List.length_append, List.length_cons, List.length_nil]; omega) X
  have hle := flat_le itemT X
  have htk := flat_take itemT X
  replace hX := Lib.hid hX
  replace hK := Lib.hid hK
  obtain ⟨N, hN⟩ : ∃ N, N = X.length := ⟨_, rfl⟩
  rw [← hN] at c6 c7 hsz
  simp only [List.length_append, List.length_cons, List.length_nil] at hl
  replace hle := Lib.hid hle
  replace htk := Lib.hid htk
  replace hN := Lib.hid hN
  have hNb : N ≤ 1099511627776 := by omega
  have hNN : ((N : Int) == (N : Int)) = true := by simp
  go_enter Tryz.func16, Tryz.ntmps16
  go_wp2_with fail
  go_loopw [5, 6] (fun t i wr => ∃ k m : Nat, k ≤ N ∧ i = iV k ∧ (∃ u : List UInt8, t = sV u ∧ Hid (u = [123] ++ (X.take k).flatMap itemT)) ∧ wr = w.drewN m) (fun _ i _ => N - (intOf i).toNat)
  case atStart => exact ⟨0, 0, Nat.zero_le _, rfl, ⟨[123], by simp, Lib.hid (by simp)⟩, rfl⟩
  case round =>
    obtain ⟨k, m, hk, rfl, ⟨u, rfl, hu⟩, rfl⟩ := hrel
    have hul : u.length = 1 + ((X.take k).flatMap itemT).length := by rw [hu.out]; simp only [List.length_append, List.length_cons, List.length_nil]
    have hlk := hle.out k
    by_cases hlt : k < N
    · obtain ⟨⟨b, y, x⟩, hx⟩ : ∃ x, X[k]? = some x := ⟨_, List.getElem?_eq_getElem (by rw [← hN.out]; exact hlt)⟩
      obtain ⟨gx, v, rfl, hv, hc⟩ := hX.out k _ hx
      obtain ⟨gk, vk, rfl, hvk, hkk⟩ := hK.out k _ hx
      replace hc := Lib.hid hc
      have hn := htk.out k _ hx
      have hlk1 := hle.out (k + 1)
      rw [hn, List.length_append] at hlk1
      replace hn := Lib.hid hn
      have k0 : (0 : Int) ≤ (k : Int) := by omega
      have k1 : (k : Int) < (N : Int) := by omega
      rcases hkk with ⟨hb, rfl⟩ | ⟨hb, ⟨cb, rfl⟩, hck⟩
      · simp only [] at hb
        subst hb
        have e1 : (itemT (true, y, x)).length = x.length + 1 := by simp [itemT]
        rw [e1] at hlk1
        have n3 : ¬ 9223372036854775807 < u.length + x.length := by omega
        have n4 : ¬ 9223372036854775807 < u.length + x.length + 1 := by omega
        clear hul hlk hlk1 hl hx e1
        go_wp2_with fail
        go_quiet (fail)
        go_wp2_with (go_at_call_of 16 v; (with_reducible refine (hc.out _).mono ?_); rintro e w1 ⟨rfl, m2, rfl⟩)
        go_roundw
        case rel => exact ⟨k + 1, _, by omega, by go_num, ⟨u ++ x ++ [44], congrArg Value.string (ByteArray.ext (by simp)), Lib.hid (by rw [hn.out, hu.out]; simp [itemT])⟩, rfl⟩
        case measure => simp [intOf]; omega
      · simp only [] at hb hck
        subst hb
        replace hck := Lib.hid hck
        have e1 : (itemT (false, y, x)).length = y.length + 1 + x.length + 1 := by simp [itemT]; omega
        rw [e1] at hlk1
        have n1 : ¬ 9223372036854775807 < u.length + y.length := by omega
        have n2 : ¬ 9223372036854775807 < u.length + y.length + 1 := by omega
        have n3 : ¬ 9223372036854775807 < u.length + y.length + 1 + x.length := by omega
        have n4 : ¬ 9223372036854775807 < u.length + y.length + 1 + x.length + 1 := by omega
        clear hul hlk hlk1 hl hx e1
        go_wp2_with fail
        go_quiet (fail)
        go_wp2_with (first
          | (go_at_call_of 16 (pV cb); (with_reducible refine (hck.out _).mono ?_); rintro e w1 ⟨rfl, m2, rfl⟩)
          | (go_at_call_of 16 v; (with_reducible refine (hc.out _).mono ?_); rintro e w2 ⟨rfl, m3, rfl⟩))
        go_roundw
        case rel => exact ⟨k + 1, _, by omega, by go_num, ⟨u ++ y ++ [61] ++ x ++ [44], congrArg Value.string (ByteArray.ext (by simp)), Lib.hid (by rw [hn.out, hu.out]; simp [itemT])⟩, rfl⟩
        case measure => simp [intOf]; omega
    · obtain rfl : k = N := by omega
      have hu2 : u = [123] ++ X.flatMap itemT := by rw [hu.out, hN.out, List.take_length]
      have n3 : ¬ 9223372036854775807 < u.length + 1 := by rw [hu2]; simp only [List.length_append, List.length_cons, List.length_nil]; omega
      replace hu2 := Lib.hid hu2
      have hkk : ¬ (k : Int) < (k : Int) := by omega
      clear hul hlk hl
      go_wp2_with fail
      go_quiet (fail)
      go_wp2_with fail
      go_ret
      exact ⟨congrArg Ending.returned (congrArg Value.string (ByteArray.ext (by rw [hu2.out]; simp))), _, rfl⟩
end Go.Proofs.YtebkdegcifkigaaGreatDoor.P5
