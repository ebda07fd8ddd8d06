/- expr: the one expression of a source, and what shape answers of it from then on; works. -/
import Derived.Test.YtebkdegcifkigaaGreatDoorParShape4
import Derived.Lib.SmallJoins
namespace Go.Proofs.YtebkdegcifkigaaGreatDoor.P5
set_option maxRecDepth 20000
open Go.RowKit Go.Maps

def retL : List UInt8 := [114, 101, 116, 117, 114, 110, 32]
def retB : ByteArray := ⟨#[114, 101, 116, 117, 114, 110, 32]⟩
/-- A value that is an expression: shape answers this of it, now and later. -/
structure Holds (w : World) (v : Value) (s : List UInt8) : Prop where
  ptr : ∃ g, v = pV g
  says : ∀ w', Below w.heap.size w w' → Calls Tryz.prog 16 #[v] w' (Shapes w' s)
theorem Holds.below {w w' : World} {v : Value} {s : List UInt8} (h : Holds w v s) (hb : Below w.heap.size w w') : Holds w' v s := ⟨h.ptr, fun w2 h2 => h.says w2 (hb.trans (h2.mono hb.size))⟩
/-- Is a source one expression of this shape? -/
def shapesAs (n : Nat) (t want : List UInt8) : Bool :=
  match sourceF n (retL ++ t) with
  | .ok (.cons (.st k _ _ _ r _ _ _) .nil) _ => k == 8 && isEx r && wfE r && shapeT r == want
  | _ => false
theorem shapes_ok {n : Nat} {t want : List UInt8} (h : shapesAs n t want = true) : ∃ l s a r b x y ts, sourceF n (retL ++ t) = .ok (.cons (.st 8 l s a r b x y) .nil) ts ∧ isEx r = true ∧ wfE r = true ∧ shapeT r = want := by
  unfold shapesAs at h
  split at h
  · rename_i k l s a r b x y ts e
    simp only [Bool.and_eq_true, beq_iff_eq] at h
    obtain ⟨⟨⟨rfl, h1⟩, h2⟩, h3⟩ := h
    exact ⟨l, s, a, r, b, x, y, ts, e, h1, h2, h3⟩
  · cases h
theorem one_stmt {w : World} {lo : Nat} {k l : Int} {s : List UInt8} {a r b x y : Tree} {v : Value} (h : VL lo (.cons (.st k l s a r b x y) .nil) w v) :
    ∃ A c g u, v = .slice (some ⟨A, 0, none⟩) 1 c ∧ w.cell? ⟨A, 0, none⟩ = some (pV g) ∧ w.cell? ⟨g, 0, none⟩ = some (iV k) ∧ w.cell? ⟨g, 4, none⟩ = some u ∧ At w (Since lo w) r u := by
  obtain ⟨A, c, rfl, h⟩ := h
  obtain ⟨gA, z, rfl, _, hz, hst, _⟩ := h
  obtain ⟨g, va, vb, vc, Ax, cx, Ay, cy, rfl, _, hc, _, h2, _⟩ := hst
  exact ⟨gA, c, g, vb, rfl, hz, hc.c0, hc.c4, h2⟩
theorem ret_bytes (s : ByteArray) : (retB ++ s).data.toList = retL ++ s.data.toList := by rw [Joins.data_append]; rfl
theorem holds_of {w : World} {lo : Nat} {r : Tree} {u : Value} (h : At w (Since lo w) r u) (hx : isEx r = true) (hw : wfE r = true) (hl : (shapeT r).length ≤ 1099511627776) : Holds w u (shapeT r) := by
  refine ⟨VE.ptr ⟨h, hx⟩, fun w' hb => ?_⟩
  exact shape_any r hw hl w' (fun _ => True) u ((at_keep (fun g hg => ⟨trivial, hb.block g hg.2⟩) r).1 u h)
set_option maxHeartbeats 4000000 in
theorem expr_shape (n : Nat) (hn : n ≤ 1099511627776) (s : ByteArray) (want : List UInt8) (h : shapesAs n s.data.toList want = true) (hl : want.length ≤ 1099511627776) (hs : s.size ≤ 1099511627776) (w : World) (hE : Env4 w) :
    Calls Tryz.prog 14 #[.string s] w fun e w' => ∃ v, e = .returned v ∧ Holds w' v want ∧ Below w.heap.size w w' := by
  obtain ⟨l, t, a, r, b, x, y, ts, he, h1, h2, rfl⟩ := shapes_ok h
  have hP := Parse_all n hn (retB ++ s) w hE (by rw [ret_bytes, he]; intro h; cases h)
  rw [ret_bytes, he] at hP
  replace hP := Lib.hid hP
  have n1 : ¬ 9223372036854775807 < 7 + s.size := by omega
  have H := Lib.hid (fun (w1 : World) (u : Value) (q : At w1 (Since w.heap.size w1) r u) => holds_of q h1 h2 hl)
  clear h he hl hs
  unfold retB at hP
  go_enter Tryz.func14, Tryz.ntmps14
  go_wp2_with (go_at_call 8; (with_reducible refine hP.out.mono ?_); rintro e w1 ⟨hb, v, rfl, hv⟩; obtain ⟨A, c, g, u, rfl, k1, k2, k3, k4⟩ := one_stmt hv; have K := Lib.hid k4; have B := Lib.hid hb; clear hv k4 hb)
  go_ret
  exact ⟨u, rfl, H.out _ _ K.out, B.out⟩
set_option maxHeartbeats 4000000 in
theorem expr_bad (n : Nat) (hn : n ≤ 1099511627776) (s : ByteArray) (c : Int) (l : Nat) (h : sourceF n (retL ++ s.data.toList) = .bad c l) (hs : s.size ≤ 1099511627776) (w : World) (hE : Env4 w) :
    Calls Tryz.prog 14 #[.string s] w fun e w' => e = .returned (.pointer none) ∧ Below w.heap.size w w' := by
  have hP := Parse_all n hn (retB ++ s) w hE (by rw [ret_bytes, h]; intro h; cases h)
  rw [ret_bytes, h] at hP
  replace hP := Lib.hid hP
  have n1 : ¬ 9223372036854775807 < 7 + s.size := by omega
  clear h hs
  unfold retB at hP
  go_enter Tryz.func14, Tryz.ntmps14
  go_wp2_with (go_at_call 8; (with_reducible refine hP.out.mono ?_); rintro e w1 ⟨hb, b, rfl, hb1, hf⟩; have B := Lib.hid hb; clear hb hb1 hf)
  go_ret
  exact ⟨rfl, B.out⟩
theorem env_drewN {w : World} (h : Env4 w) (n : Nat) : Env4 (w.drewN n) := h.below (below_drewN (Below.refl _ _) n)
theorem sh_w1 : shapesAs 300 [97, 32, 43, 32, 98, 32, 42, 32, 99, 32, 46, 46, 32, 100, 32, 46, 46, 32, 101] [40, 40, 97, 32, 43, 32, 40, 98, 32, 42, 32, 99, 41, 41, 32, 46, 46, 32, 40, 100, 32, 46, 46, 32, 101, 41, 41] = true := by kernel_rfl
theorem sh_w2 : shapesAs 300 [110, 111, 116, 32, 97, 32, 61, 61, 32, 45, 32, 98, 46, 120, 40, 99, 41] [40, 40, 110, 111, 116, 32, 97, 41, 32, 61, 61, 32, 40, 45, 32, 40, 40, 98, 91, 39, 120, 93, 41, 40, 99, 44, 41, 41, 41, 41] = true := by kernel_rfl
/-- An expression's text and shape, known: expr at it. -/
theorem expr_at (b : ByteArray) (t want : List UInt8) (hb : b.data.toList = t) (h : shapesAs 300 t want = true) (hl : want.length ≤ 1000000) (hs : t.length ≤ 1000000) (w : World) (hE : Env4 w) :
    Calls Tryz.prog 14 #[.string b] w fun e w' => ∃ v, e = .returned v ∧ Holds w' v want ∧ Below w.heap.size w w' := by
  subst hb
  rw [size_toList] at hs
  exact expr_shape 300 (by decide) b want h (by omega) (by omega) w hE
set_option maxHeartbeats 8000000 in
/-- works. -/
theorem works_true (w : World) (hE : Env4 w) : Calls Tryz.prog 12 #[] w fun e w' => e = .returned (.bool true) ∧ Below w.heap.size w w' := by
  have T1 := Lib.hid (fun w hE => expr_at ⟨#[97, 32, 43, 32, 98, 32, 42, 32, 99, 32, 46, 46, 32, 100, 32, 46, 46, 32, 101]⟩ _ _ rfl sh_w1 (by decide) (by decide) w hE)
  have T2 := Lib.hid (fun w hE => expr_at ⟨#[110, 111, 116, 32, 97, 32, 61, 61, 32, 45, 32, 98, 46, 120, 40, 99, 41]⟩ _ _ rfl sh_w2 (by decide) (by decide) w hE)
  have E := Lib.hid hE
  clear hE
  go_enter Tryz.func12, Tryz.ntmps12
  go_wp2_with (first
    | (go_at_call 14; (with_reducible refine (T1.out _ E.out).mono ?_); rintro e w1 ⟨v1, rfl, h1, hb1⟩; have H1 := Lib.hid h1; have E1 := Lib.hid (E.out.below hb1); have B1 := Lib.hid hb1; clear h1 hb1)
    | (go_at_call_of 16 v1; (with_reducible refine (H1.out.says _ (Below.refl _ _)).mono ?_); rintro e w2 ⟨rfl, m1, rfl⟩)
    | (go_at_call 14; (with_reducible refine (T2.out _ (env_drewN E1.out _)).mono ?_); rintro e w3 ⟨v2, rfl, h2, hb2⟩; have H2 := Lib.hid h2; have B2 := Lib.hid ((below_drewN B1.out m1).trans (hb2.mono (below_drewN B1.out m1).size)); clear h2 hb2)
    | (go_at_call_of 16 v2; (with_reducible refine (H2.out.says _ (Below.refl _ _)).mono ?_); rintro e w4 ⟨rfl, m2, rfl⟩))
  go_ret
  exact ⟨rfl, below_drewN B2.out _⟩
end Go.Proofs.YtebkdegcifkigaaGreatDoor.P5
