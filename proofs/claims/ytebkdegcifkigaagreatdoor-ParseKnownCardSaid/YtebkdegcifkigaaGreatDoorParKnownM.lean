/- ParseKnown's first source: its tree, and what of it lies where. No walk. -/
import Derived.Test.YtebkdegcifkigaaGreatDoorParTold
namespace Go.Proofs.YtebkdegcifkigaaGreatDoor.P5
set_option maxRecDepth 20000
open Go.RowKit Go.Maps

def nthT : Tree → Nat → Tree
  | .cons x _, 0 => x
  | .cons _ r, j + 1 => nthT r j
  | _, _ => .nil
def kindsT : Tree → List Int
  | .cons x r => kindT x :: kindsT r
  | _ => []
def stsT : Tree → Bool
  | .cons x r => isSt x && stsT r
  | _ => true
theorem row_get {w : World} {S : Nat → Prop} : ∀ (t : Tree) (A : Option Addr) (i : Nat), RowT w S t A i → ∀ j, j < lenT t → ∃ a v, A = some ⟨a, 0, none⟩ ∧ S a ∧ w.cell? ⟨a, i + j, none⟩ = some v ∧ At w S (nthT t j) v
  | .cons x r, A, i, ⟨g, v, e, hS, hc, h1, h2⟩, 0, _ => ⟨g, v, e, hS, hc, h1⟩
  | .cons x r, A, i, ⟨g, v, e, hS, hc, h1, h2⟩, j + 1, hj => by
    obtain ⟨a, u, e2, h3, h4, h5⟩ := row_get r A (i + 1) h2 j (by simp only [lenT] at hj; omega)
    exact ⟨a, u, e2, h3, by rw [show i + (j + 1) = i + 1 + j by omega]; exact h4, h5⟩
  | .nil, _, _, _, _, hj => absurd hj (by simp [lenT])
  | .tx _, _, _, _, _, hj => absurd hj (by simp [lenT])
  | .ex .., _, _, _, _, hj => absurd hj (by simp [lenT])
  | .st .., _, _, _, _, hj => absurd hj (by simp [lenT])
theorem row_kinds {w : World} {lo : Nat} : ∀ (t : Tree) (A : Option Addr) (i : Nat), RowT w (Since lo w) t A i → stsT t = true → ∀ (j : Nat) (k : Int), (kindsT t)[j]? = some k → ∃ a g, A = some ⟨a, 0, none⟩ ∧ a < w.heap.size ∧ g < w.heap.size ∧ w.cell? ⟨a, i + j, none⟩ = some (pV g) ∧ w.cell? ⟨g, 0, none⟩ = some (iV k)
  | .cons x r, A, i, ⟨g, v, e, hS, hc, h1, h2⟩, hs, 0, k, hk => by
    simp only [stsT, Bool.and_eq_true] at hs
    simp only [kindsT, List.getElem?_cons_zero, Option.some.injEq] at hk
    subst hk
    obtain ⟨u, rfl, h3, _, h5⟩ := VS.name ⟨h1, hs.1⟩
    exact ⟨g, u, e, hS.2, h5, hc, h3⟩
  | .cons x r, A, i, ⟨g, v, e, hS, hc, h1, h2⟩, hs, j + 1, k, hk => by
    simp only [stsT, Bool.and_eq_true] at hs
    simp only [kindsT, List.getElem?_cons_succ] at hk
    obtain ⟨a, u, e2, h3, h4, h5, h6⟩ := row_kinds r A (i + 1) h2 hs.2 j k hk
    exact ⟨a, u, e2, h3, h4, by rw [show i + (j + 1) = i + 1 + j by omega]; exact h5, h6⟩
  | .nil, _, _, _, _, _, _, hk => by simp [kindsT] at hk
  | .tx _, _, _, _, _, _, _, hk => by simp [kindsT] at hk
  | .ex .., _, _, _, _, _, _, hk => by simp [kindsT] at hk
  | .st .., _, _, _, _, _, _, hk => by simp [kindsT] at hk
theorem kat_row {w : World} {lo : Nat} {t : Tree} {A : Option Addr} (h : RowT w (Since lo w) t A 0) (hs : stsT t = true) : KAt w A (kindsT t) := fun j k hk => by
  obtain ⟨a, g, e, h1, h2, h3, h4⟩ := row_kinds t A 0 h hs j k hk
  exact ⟨a, g, e, h1, h2, by rwa [Nat.zero_add] at h3, h4⟩
def knownB : ByteArray := ⟨#[108, 111, 99, 97, 108, 32, 120, 32, 108, 111, 99, 97, 108, 32, 121, 32, 61, 32, 49, 10, 108, 111, 99, 97, 108, 32, 102, 117, 110, 99, 116, 105, 111, 110, 32, 102, 40, 97, 44, 32, 98, 41, 32, 114, 101, 116, 117, 114, 110, 32, 97, 32, 101, 110, 100, 10, 102, 117, 110, 99, 116, 105, 111, 110, 32, 103, 40, 41, 32, 101, 110, 100, 32, 100, 111, 32, 98, 114, 101, 97, 107, 32, 101, 110, 100, 32, 119, 104, 105, 108, 101, 32, 97, 32, 100, 111, 32, 101, 110, 100, 32, 102, 111, 114, 32, 105, 32, 61, 32, 49, 44, 32, 50, 32, 100, 111, 32, 101, 110, 100, 10, 105, 102, 32, 97, 32, 116, 104, 101, 110, 32, 101, 108, 115, 101, 105, 102, 32, 98, 32, 116, 104, 101, 110, 32, 99, 40, 41, 32, 101, 108, 115, 101, 32, 100, 40, 41, 32, 101, 110, 100, 32, 116, 114, 121, 32, 101, 40, 41, 32, 99, 97, 116, 99, 104, 32, 122, 32, 104, 40, 41, 32, 101, 110, 100, 32, 120, 46, 121, 91, 49, 93, 32, 61, 32, 123, 49, 44, 32, 120, 32, 61, 32, 50, 44, 32, 91, 51, 93, 32, 61, 32, 52, 125, 32, 114, 101, 116, 117, 114, 110]⟩
def knownT : Tree := (.cons (.st 1 0 [120] .nil .nil .nil .nil .nil) (.cons (.st 1 0 [121] .nil (.ex 4 0 1 [] .nil .nil .nil .nil .nil .nil) .nil .nil .nil) (.cons (.st 11 1 [102] .nil (.ex 9 1 0 [] .nil .nil .nil .nil (.cons (.tx [97]) (.cons (.tx [98]) .nil)) (.cons (.st 8 1 [] .nil (.ex 6 1 0 [97] .nil .nil .nil .nil .nil .nil) .nil .nil .nil) .nil)) .nil .nil .nil) (.cons (.st 2 2 [] (.ex 6 2 0 [103] .nil .nil .nil .nil .nil .nil) (.ex 9 2 0 [] .nil .nil .nil .nil .nil .nil) .nil .nil .nil) (.cons (.st 4 2 [] .nil .nil .nil (.cons (.st 9 2 [] .nil .nil .nil .nil .nil) .nil) .nil) (.cons (.st 5 2 [] .nil (.ex 6 2 0 [97] .nil .nil .nil .nil .nil .nil) .nil .nil .nil) (.cons (.st 7 2 [105] .nil (.ex 4 2 1 [] .nil .nil .nil .nil .nil .nil) (.ex 4 2 2 [] .nil .nil .nil .nil .nil .nil) .nil .nil) (.cons (.st 6 3 [] .nil (.ex 6 3 0 [97] .nil .nil .nil .nil .nil .nil) .nil .nil (.cons (.st 6 3 [] .nil (.ex 6 3 0 [98] .nil .nil .nil .nil .nil .nil) .nil (.cons (.st 3 3 [] .nil (.ex 8 3 0 [] (.ex 6 3 0 [99] .nil .nil .nil .nil .nil .nil) .nil .nil .nil .nil .nil) .nil .nil .nil) .nil) (.cons (.st 3 3 [] .nil (.ex 8 3 0 [] (.ex 6 3 0 [100] .nil .nil .nil .nil .nil .nil) .nil .nil .nil .nil .nil) .nil .nil .nil) .nil)) .nil)) (.cons (.st 10 3 [122] .nil .nil .nil (.cons (.st 3 3 [] .nil (.ex 8 3 0 [] (.ex 6 3 0 [101] .nil .nil .nil .nil .nil .nil) .nil .nil .nil .nil .nil) .nil .nil .nil) .nil) (.cons (.st 3 3 [] .nil (.ex 8 3 0 [] (.ex 6 3 0 [104] .nil .nil .nil .nil .nil .nil) .nil .nil .nil .nil .nil) .nil .nil .nil) .nil)) (.cons (.st 2 3 [] (.ex 7 3 0 [] (.ex 7 3 0 [] (.ex 6 3 0 [120] .nil .nil .nil .nil .nil .nil) (.ex 5 3 0 [121] .nil .nil .nil .nil .nil .nil) .nil .nil .nil .nil) (.ex 4 3 1 [] .nil .nil .nil .nil .nil .nil) .nil .nil .nil .nil) (.ex 12 3 0 [] .nil .nil (.cons .nil (.cons (.ex 5 3 0 [120] .nil .nil .nil .nil .nil .nil) (.cons (.ex 4 3 3 [] .nil .nil .nil .nil .nil .nil) .nil))) (.cons (.ex 4 3 1 [] .nil .nil .nil .nil .nil .nil) (.cons (.ex 4 3 2 [] .nil .nil .nil .nil .nil .nil) (.cons (.ex 4 3 4 [] .nil .nil .nil .nil .nil .nil) .nil))) .nil .nil) .nil .nil .nil) (.cons (.st 8 3 [] .nil .nil .nil .nil .nil) .nil)))))))))))
theorem known_src : sourceF 300 knownB.data.toList = .ok knownT [⟨5, [], 0, 3⟩] := by kernel_rfl
/-- What the law looks at of the first source. -/
structure KC (w : World) (gb cb g0 g1 g2 g3 g6 g7 g8 g9 g10 e1 e2 e3 e6 h7 : Nat) (A2 A4 A5 A6 A7 A8 A9 Ap : Option Addr) (c2 c4 c5 c6 c7 c8 c9 cp a7 : Nat) (u9 t9 : Value) : Prop where
  f0 : gb < w.heap.size
  f1 : g0 < w.heap.size
  f2 : g1 < w.heap.size
  f3 : g2 < w.heap.size
  f4 : g3 < w.heap.size
  f5 : g6 < w.heap.size
  f6 : g7 < w.heap.size
  f7 : g8 < w.heap.size
  f8 : g9 < w.heap.size
  f9 : g10 < w.heap.size
  f10 : e1 < w.heap.size
  f11 : e2 < w.heap.size
  f12 : e3 < w.heap.size
  f13 : e6 < w.heap.size
  f14 : h7 < w.heap.size
  f15 : w.cell? ⟨gb, 0, none⟩ = some (pV g0)
  f16 : w.cell? ⟨gb, 1, none⟩ = some (pV g1)
  f17 : w.cell? ⟨gb, 2, none⟩ = some (pV g2)
  f18 : w.cell? ⟨gb, 3, none⟩ = some (pV g3)
  f19 : w.cell? ⟨gb, 6, none⟩ = some (pV g6)
  f20 : w.cell? ⟨gb, 7, none⟩ = some (pV g7)
  f21 : w.cell? ⟨gb, 8, none⟩ = some (pV g8)
  f22 : w.cell? ⟨gb, 9, none⟩ = some (pV g9)
  f23 : w.cell? ⟨gb, 10, none⟩ = some (pV g10)
  f24 : w.cell? ⟨g0, 4, none⟩ = some (.pointer none)
  f25 : w.cell? ⟨g1, 2, none⟩ = some (sV [121])
  f26 : w.cell? ⟨g1, 4, none⟩ = some (pV e1)
  f27 : w.cell? ⟨e1, 0, none⟩ = some (iV 4)
  f28 : w.cell? ⟨e1, 2, none⟩ = some (iV 1)
  f29 : w.cell? ⟨g2, 2, none⟩ = some (sV [102])
  f30 : w.cell? ⟨g2, 1, none⟩ = some (iV 1)
  f31 : w.cell? ⟨g2, 4, none⟩ = some (pV e2)
  f32 : w.cell? ⟨e2, 8, none⟩ = some (.slice Ap 2 cp)
  f33 : w.cell? ⟨e2, 9, none⟩ = some (.slice A2 1 c2)
  f34 : w.cell? ⟨g3, 3, none⟩ = some (pV e3)
  f35 : w.cell? ⟨e3, 3, none⟩ = some (sV [103])
  f36 : w.cell? ⟨g6, 2, none⟩ = some (sV [105])
  f37 : w.cell? ⟨g6, 5, none⟩ = some (pV e6)
  f38 : w.cell? ⟨e6, 2, none⟩ = some (iV 2)
  f39 : w.cell? ⟨g10, 4, none⟩ = some (.pointer none)
  f40 : w.cell? ⟨g7, 6, none⟩ = some (.slice A9 0 c9)
  f41 : w.cell? ⟨g7, 7, none⟩ = some (.slice (some ⟨a7, 0, none⟩) 1 c4)
  f42 : a7 < w.heap.size
  f43 : w.cell? ⟨a7, 0, none⟩ = some (pV h7)
  f44 : w.cell? ⟨h7, 1, none⟩ = some (iV 3)
  f45 : w.cell? ⟨h7, 6, none⟩ = some (.slice A5 1 c5)
  f46 : w.cell? ⟨h7, 7, none⟩ = some (.slice A6 1 c6)
  f47 : w.cell? ⟨g8, 2, none⟩ = some (sV [122])
  f48 : w.cell? ⟨g8, 6, none⟩ = some (.slice A7 1 c7)
  f49 : w.cell? ⟨g8, 7, none⟩ = some (.slice A8 1 c8)
  f50 : w.cell? ⟨g9, 3, none⟩ = some (u9)
  f51 : w.cell? ⟨g9, 4, none⟩ = some (t9)
  f52 : KAt w (some ⟨gb, 0, none⟩) [1, 1, 11, 2, 4, 5, 7, 6, 10, 2, 8]
  f53 : KAt w A2 [8]
  f54 : KAt w (some ⟨a7, 0, none⟩) [6]
  f55 : KAt w A5 [3]
  f56 : KAt w A6 [3]
  f57 : KAt w A7 [3]
  f58 : KAt w A8 [3]
  f59 : Holds w u9 [40, 40, 120, 91, 39, 121, 93, 41, 91, 63, 93, 41]
  f60 : Holds w t9 [123, 63, 44, 39, 120, 61, 63, 44, 63, 61, 63, 44, 125]
set_option maxHeartbeats 4000000 in
theorem known_cells {w : World} {lo : Nat} {v : Value} (h : VL lo knownT w v) : ∃ gb cb g0 g1 g2 g3 g6 g7 g8 g9 g10 e1 e2 e3 e6 h7 A2 A4 A5 A6 A7 A8 A9 Ap c2 c4 c5 c6 c7 c8 c9 cp a7 u9 t9, v = .slice (some ⟨gb, 0, none⟩) 11 cb ∧ KC w gb cb g0 g1 g2 g3 g6 g7 g8 g9 g10 e1 e2 e3 e6 h7 A2 A4 A5 A6 A7 A8 A9 Ap c2 c4 c5 c6 c7 c8 c9 cp a7 u9 t9 := by
  obtain ⟨A, cb, rfl, hr⟩ := h
  have hk := kat_row hr (by kernel_rfl)
  obtain ⟨gb, v0, rfl, sb, b0, n0⟩ := row_get knownT A 0 hr 0 (by decide)
  obtain ⟨gb, v1, eb, _, b1, n1⟩ := row_get knownT (some ⟨gb, 0, none⟩) 0 hr 1 (by decide)
  obtain rfl := (Addr.mk.inj (Option.some.inj eb)).1
  obtain ⟨gb, v2, eb, _, b2, n2⟩ := row_get knownT (some ⟨gb, 0, none⟩) 0 hr 2 (by decide)
  obtain rfl := (Addr.mk.inj (Option.some.inj eb)).1
  obtain ⟨gb, v3, eb, _, b3, n3⟩ := row_get knownT (some ⟨gb, 0, none⟩) 0 hr 3 (by decide)
  obtain rfl := (Addr.mk.inj (Option.some.inj eb)).1
  obtain ⟨gb, v6, eb, _, b6, n6⟩ := row_get knownT (some ⟨gb, 0, none⟩) 0 hr 6 (by decide)
  obtain rfl := (Addr.mk.inj (Option.some.inj eb)).1
  obtain ⟨gb, v7, eb, _, b7, n7⟩ := row_get knownT (some ⟨gb, 0, none⟩) 0 hr 7 (by decide)
  obtain rfl := (Addr.mk.inj (Option.some.inj eb)).1
  obtain ⟨gb, v8, eb, _, b8, n8⟩ := row_get knownT (some ⟨gb, 0, none⟩) 0 hr 8 (by decide)
  obtain rfl := (Addr.mk.inj (Option.some.inj eb)).1
  obtain ⟨gb, v9, eb, _, b9, n9⟩ := row_get knownT (some ⟨gb, 0, none⟩) 0 hr 9 (by decide)
  obtain rfl := (Addr.mk.inj (Option.some.inj eb)).1
  obtain ⟨gb, v10, eb, _, b10, n10⟩ := row_get knownT (some ⟨gb, 0, none⟩) 0 hr 10 (by decide)
  obtain rfl := (Addr.mk.inj (Option.some.inj eb)).1
  obtain ⟨g0, x0, y0, z0, P0, p0, Q0, q0, rfl, s0, k0, hx0, hy0, hz0, hP0, hQ0⟩ := n0
  obtain ⟨g1, x1, y1, z1, P1, p1, Q1, q1, rfl, s1, k1, hx1, hy1, hz1, hP1, hQ1⟩ := n1
  obtain ⟨g2, x2, y2, z2, P2, p2, Q2, q2, rfl, s2, k2, hx2, hy2, hz2, hP2, hQ2⟩ := n2
  obtain ⟨g3, x3, y3, z3, P3, p3, Q3, q3, rfl, s3, k3, hx3, hy3, hz3, hP3, hQ3⟩ := n3
  obtain ⟨g6, x6, y6, z6, P6, p6, Q6, q6, rfl, s6, k6, hx6, hy6, hz6, hP6, hQ6⟩ := n6
  obtain ⟨g7, x7, y7, z7, P7, p7, Q7, q7, rfl, s7, k7, hx7, hy7, hz7, hP7, hQ7⟩ := n7
  obtain ⟨g8, x8, y8, z8, P8, p8, Q8, q8, rfl, s8, k8, hx8, hy8, hz8, hP8, hQ8⟩ := n8
  obtain ⟨g9, x9, y9, z9, P9, p9, Q9, q9, rfl, s9, k9, hx9, hy9, hz9, hP9, hQ9⟩ := n9
  obtain ⟨g10, x10, y10, z10, P10, p10, Q10, q10, rfl, s10, k10, hx10, hy10, hz10, hP10, hQ10⟩ := n10
  obtain rfl : y0 = .pointer none := hy0
  obtain rfl : y10 = .pointer none := hy10
  obtain ⟨e1, _, _, Ak1, ak1, Ax1, ax1, Ap1, ap1, Ab1, ab1, rfl, t1, l1, _, _, _, _, hp1, hb1⟩ := hy1
  obtain ⟨e2, _, _, Ak2, ak2, Ax2, ax2, Ap2, ap2, Ab2, ab2, rfl, t2, l2, _, _, _, _, hp2, hb2⟩ := hy2
  obtain ⟨e3, _, _, Ak3, ak3, Ax3, ax3, Ap3, ap3, Ab3, ab3, rfl, t3, l3, _, _, _, _, hp3, hb3⟩ := hx3
  obtain ⟨e6, _, _, Ak6, ak6, Ax6, ax6, Ap6, ap6, Ab6, ab6, rfl, t6, l6, _, _, _, _, hp6, hb6⟩ := hz6
  have kb2 := kat_row hb2 (by kernel_rfl)
  have kk7 := kat_row hQ7 (by kernel_rfl)
  obtain ⟨a7, v11, e7, s7a, b11, n11⟩ := row_get _ Q7 0 hQ7 0 (by decide)
  subst e7
  obtain ⟨h7, x11, y11, z11, P11, p11, Q11, q11, rfl, s11, k11, hx11, hy11, hz11, hP11, hQ11⟩ := n11
  have k5 := kat_row hP11 (by kernel_rfl)
  have k6k := kat_row hQ11 (by kernel_rfl)
  have kp8 := kat_row hP8 (by kernel_rfl)
  have kq8 := kat_row hQ8 (by kernel_rfl)
  have w1 := holds_of hx9 (by kernel_rfl) (by kernel_rfl) (by decide +kernel)
  have w2 := holds_of hy9 (by kernel_rfl) (by kernel_rfl) (by decide +kernel)
  exact ⟨gb, cb, g0, g1, g2, g3, g6, g7, g8, g9, g10, e1, e2, e3, e6, h7, Ab2, none, P11, Q11, P8, Q8, P7, Ap2, ab2, q7, p11, q11, p8, q8, p7, ap2, a7, x9, y9, rfl, ⟨sb.2, s0.2, s1.2, s2.2, s3.2, s6.2, s7.2, s8.2, s9.2, s10.2, t1.2, t2.2, t3.2, t6.2, s11.2, b0, b1, b2, b3, b6, b7, b8, b9, b10, k0.c4, k1.c2, k1.c4, l1.c0, l1.c2, k2.c2, k2.c1, k2.c4, l2.c8, l2.c9, k3.c3, l3.c3, k6.c2, k6.c5, l6.c2, k10.c4, k7.c6, k7.c7, s7a.2, b11, k11.c1, k11.c6, k11.c7, k8.c2, k8.c6, k8.c7, k9.c3, k9.c4, hk, kb2, kk7, k5, k6k, kp8, kq8, w1, w2⟩⟩
end Go.Proofs.YtebkdegcifkigaaGreatDoor.P5
