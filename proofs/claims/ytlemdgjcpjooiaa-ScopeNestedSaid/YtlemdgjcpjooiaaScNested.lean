/- ScopeNested: blocks within one another, of any shape (20 bytes at most are looked at): each local has the register that the law says, is not boxed, and its use is of it; the argument reads as it did. Conditions: none but the form's own reach. -/
import Derived.Test.YtlemdgjcpjooiaaScNestW
import Derived.Test.YtlemdgjcpjooiaaLawPost
import Derived.ProofKit
import Derived.BigQuiet
namespace Go.Proofs.Ytlemdgjcpjooiaa.scopeNested
set_option maxRecDepth 20000
open Go.ChangeShapes Go.WideShapes Go.ChangeAt Go.RowKit

/-- A list of bytes that comes in. -/
theorem open_by {H : Type} {enc : TypeId × Value → H} {w : World} {base : Nat} {spare : Nat → Bool} {held : Bool} {r : Reach} {b0 : Nat} {v : Value} {d : DataW H} {p : List MemPlace} (hv : Value.okWide Try.prog w r b0 22 v) (h : DataW.Trod enc Try.prog w base spare held 22 v d p) :
    ∃ (A : Option Addr) (c : Nat) (l : List Nat), v = .slice A l.length c ∧ BySl w (.slice A l.length c) l := by
  obtain ⟨a, len, cap, rfl⟩ := okWide_slice Try.underlying22 hv
  obtain ⟨fuel, hf⟩ := h
  rcases Go.ChangeShapes.open_ints Try.underlying22 Try.underlying5 (by kernel_rfl) hf with ⟨hcs, _⟩ | ⟨a', len', cap', zs, hcs, _, hl, hm, hz, _, hcell, hwz⟩
  · simp [Value.cells] at hcs
    obtain ⟨rfl, rfl, rfl⟩ := hcs
    exact ⟨none, 0, [], rfl, none, 0, rfl, Nat.le_refl _, by decide, fun h => absurd rfl h⟩
  · simp [Value.cells] at hcs
    obtain ⟨rfl, rfl, rfl⟩ := hcs
    have hlen : len ≤ zs.length := by rw [hz]; split <;> omega
    have hll : ((zs.take len).map Int.toNat).length = len := by rw [List.length_map, List.length_take]; omega
    refine ⟨some a', cap, (zs.take len).map Int.toNat, by rw [hll], some a', cap, rfl, by rw [hll]; exact hl, by unfold maxLen at hm; omega, fun hne => ?_⟩
    have h0 : 0 < len := by rw [← hll]; exact List.length_pos_iff.2 hne
    refine ⟨a', rfl, ?_, fun i x hx => ?_⟩
    · have := World.block_lt_of_cell? w _ (hcell 0 (by omega))
      rwa [Go.ChangeShapes.block_add] at this
    · rw [List.getElem?_map] at hx
      obtain ⟨z, hz1, hz2⟩ := Option.map_eq_some_iff.1 hx
      have hi : i < len := by
        have := (List.getElem?_eq_some_iff.1 hz1).1
        rw [List.length_take] at this; omega
      rw [List.getElem?_take_of_lt hi] at hz1
      have hc := hcell i (by omega)
      have e : zs.getD i 0 = z := by rw [List.getD_eq_getElem?_getD, hz1]; rfl
      rw [e] at hc
      obtain ⟨b1, b2⟩ := of_wf_u8 (hwz z (List.mem_of_getElem? hz1))
      subst hz2
      have ez : ((z.toNat : Nat) : Int) = z := by omega
      exact ⟨by rw [hc, ez], by omega⟩
theorem by_take {w : World} {A : Option Addr} {c m : Nat} {l : List Nat} (h : BySl w (.slice A l.length c) l) (hm : m ≤ l.length) (B : Option Addr) (hB : m ≠ 0 → B = A) : BySl w (.slice B m c) (l.take m) := by
  obtain ⟨A', c', e, h1, h2, h3⟩ := h
  injection e with e1 e2 e3
  subst e1; subst e3
  have hl : (l.take m).length = m := by rw [List.length_take]; omega
  refine ⟨B, c, by rw [hl], by rw [hl]; omega, h2, fun hne => ?_⟩
  have hm0 : m ≠ 0 := by rintro rfl; exact hne (by simp)
  obtain ⟨a, e, h4, h5⟩ := h3 (by rintro rfl; simp at hm; exact hm0 hm)
  refine ⟨a, by rw [hB hm0, e], h4, fun i x hx => h5 i x ?_⟩
  have hi : i < m := by
    have := (List.getElem?_eq_some_iff.1 hx).1
    omega
  rwa [List.getElem?_take_of_lt hi] at hx
set_option maxHeartbeats 8000000 in
theorem walk (A : Option Addr) (c : Nat) (l : List Nat) (w : World) (hb : BySl w (.slice A l.length c) l) :
    Calls Try.prog 4 #[.slice A l.length c] w fun e w' => e = .returned (.bool true) ∧ Below w.heap.size w w' := by
  obtain ⟨m, hm⟩ : ∃ m, m = min l.length 20 := ⟨_, rfl⟩
  have hm1 : m ≤ l.length := by omega
  have hm2 : (if (20 : Int) < (l.length : Int) then (20 : Int) else (l.length : Int)) = (m : Int) := by split <;> omega
  have hcap : l.length ≤ c := by obtain ⟨A', c', e, h1, h2, _⟩ := hb; injection e with _ _ e3; omega
  have hcm : c ≤ 9223372036854775807 := by obtain ⟨A', c', e, h1, h2, _⟩ := hb; injection e with _ _ e3; omega
  have hll : (l.take m).length = m := by rw [List.length_take]; omega
  have M0 : ∀ B, (m ≠ 0 → B = A) → Calls Try.prog 8 #[.slice B m c, .int .i64 0] w (NestS (nestT (l.take m) 0).1 (nestT (l.take m) 0).2 w) := fun B hB => nested_any (l.take m) 0 (by omega) (by omega) w _ (by_take hb hm1 B hB)
  have M := Lib.hid M0
  clear M0
  have hwl := nestT_len (l.take m) 0
  have RN := Lib.hid (fun (w : World) (v : Value) => resolve_nest (l.take m) (by omega) w (v := v))
  generalize (nestT (l.take m) 0).1 = ts at M RN
  generalize (nestT (l.take m) 0).2 = ws at M RN hwl
  rw [hll] at hwl
  generalize l.length = n at hm hm1 hm2 hcap ⊢
  clear hb hll
  have hm3 : m ≤ 20 := by omega
  clear hm
  have m0 : (0 : Int) ≤ (m : Int) := by omega
  have mc : (m : Int) ≤ (c : Int) := by omega
  go_enter Try.func4, Try.ntmps4
  go_wp2_with (first
    | (go_at_call 8; go_loud (with_reducible refine (M.out _ (by first | exact fun _ => rfl | (intro hx; exact absurd (by assumption) hx) | (intro hx; rw [if_neg (by omega)]) | (intro hx; omega))).mono ?_); rintro e w1 ⟨b1, vb, vw, xs, rfl, hX⟩; obtain ⟨Aw, cw, rfl⟩ := own_slice hX.rw_; have HX := Lib.hid hX; have B1 := Lib.hid b1; clear hX b1)
    | (go_at_call 6; go_loud (with_reducible refine (RN.out _ _ HX.out.slB).mono ?_); rintro e w2 ⟨hb2, v, f, rfl, hs, hm⟩; have HC := nest_cells hs hm; obtain ⟨b, c2, U, cu, D, cd, P, np, cp, rfl, r0, r1, r2, rest⟩ := HC; have HR := Lib.hid rest; have B2 := Lib.hid (below_then B1.out hb2); have HW := Lib.hid (own_below HX.out.rw_ hb2); clear hb2 hs hm rest))
  go_loopg [7] ws.length (fun g i wr => ∃ j k : Nat, i = iV j ∧ j + g = ws.length ∧ wr = w2.drewN k)
  case atStart => exact ⟨0, 0, rfl, by simp, rfl⟩
  case round =>
    obtain ⟨j, k, rfl, hjk, rfl⟩ := hrel
    cases gk with
    | zero =>
      have hj : j = ws.length := by omega
      subst hj
      go_wp2_with (first
        | (go_at_call 7; (with_reducible refine (works_true _).mono ?_); rintro e w4 ⟨rfl, hb4⟩; have B := Lib.hid (below_then (below_drewN B2.out k) hb4); clear hb4))
      go_ret
      exact ⟨rfl, B.out⟩
    | succ g =>
      have q3 : (j : Int) < (ws.length : Int) := by omega
      obtain ⟨r, hr⟩ : ∃ r, ws[j]? = some r := ⟨_, List.getElem?_eq_getElem (by omega)⟩
      obtain ⟨gu, gd, rfl, rfl, u0, u1, u2, d0, d1⟩ := HR.out j r hr
      obtain ⟨gw, hAw⟩ : ∃ gw, Aw = some ⟨gw, 0, none⟩ := by
        rcases row_form HW.out with ⟨e, h0⟩ | ⟨g', cap, h0, _⟩
        · omega
        · injection h0 with h0; exact ⟨_, h0⟩
      subst hAw
      have x0 : w2.cell? ⟨gw, j, none⟩ = some (iV r) := row_cell HW.out (by rw [List.getElem?_map, hr]; rfl)
      clear hr
      go_wp2_with fail
      go_quiet (fail)
      go_wp2_with fail
      go_roundg g
      case measure => omega
      case rel => exact ⟨j + 1, _, by simp, by omega, rfl⟩
theorem own : ownKnob Try.prog.godebug = none := by kernel_rfl
theorem laidOut : laidOutB Try.prog = true := by kernel_rfl
set_option maxRecDepth 100000 in
theorem contract (H : Type) (enc : TypeId × Value → H) (W : World) (base : Nat) (args : Array Value) (ds gs : List (DataW H)) (before : List MemPlace)
    (hval : ∀ (j : Nat) t v, Try.f4.params[j]? = some t → args[j]? = some v → Value.okWide Try.prog W .any base t v)
    (hW : DataW.Whole enc Try.prog Try.f4.params.toList Rows.scopeNestedSpec.vars false W args.toList ds gs before)
    (hsz0 : (DataW.weightsEach Try.prog (Try.f4.params.toList ++ Rows.scopeNestedSpec.plain.varTypes Try.prog) (ds ++ gs)).all (· ≤ reachBytes) = true) :
    Calls Try.prog 4 args W fun e W' => ∃ v, e = .returned v ∧ Rows.scopeNestedSpec.post enc Try.prog Try.f4 false true false false W args v W' := by
  have hW' := hW
  obtain ⟨p, q, hA0, hV, rfl, hfz, hnd⟩ := hW
  have hA : DataW.TrodAll enc Try.prog W 0 (fun _ => true) true Try.f4.params.toList args.toList ds p := hA0
  have hsz := hsz0
  rw [Try.params4] at hA hval hsz
  obtain ⟨v0, vs0, d0, ds0, p0, q0, hargs, rfl, rfl, h0, r0⟩ := trodAll_cons hA
  obtain ⟨rfl, rfl, rfl⟩ := trodAll_nil r0
  obtain rfl : args = #[v0] := by cases args; simp_all
  obtain ⟨rfl, rfl⟩ := trodVars_none hV
  obtain ⟨A0, c0, l0, rfl, w0⟩ := open_by (hval 0 22 v0 rfl rfl) h0
  clear hA0 hsz hsz0
  simp only [List.append_nil] at hW'
  refine (walk A0 c0 l0 W w0).mono fun e W' ⟨he, hb⟩ => ?_
  subst he
  exact ⟨_, rfl, law_post laidOut (by kernel_rfl) (by kernel_rfl) Try.underlying4 hW' hb rfl⟩

set_option maxRecDepth 100000 in
theorem lifted (os : Os) (started : os.Started) (H : Type) (enc : TypeId × Value → H) :
    ReturnsInHanded {} Try.checked os 4 .any (Rows.scopeNestedSpec.pre6 enc Try.prog Try.f4 Rows.scopeNestedRow.domain false) (Rows.scopeNestedSpec.post enc Try.prog Try.f4 false true false false) := by
  refine returnsInHanded_of_change_sized (C := Try.checked) own started (by kernel_rfl) Try.func4
    (ChangeSpec.witness6 (enc := enc) (C := Try.checked) false ⟨#[], #[.slice none 0 0], []⟩ 8 (by kernel_rfl) (by kernel_rfl) (by kernel_rfl) (by kernel_rfl)) ?_
  intro W base args ds gs before hval hW _ hsz _
  exact contract H enc W base args ds gs before hval hW hsz
/-- The row. -/
theorem holds : Rows.ScopeNestedSaid :=
  OpenClaim.holds_of_wide 4 Try.f4 rfl rfl rfl rfl rfl rfl rfl ⟨rfl, rfl, rfl, rfl, rfl⟩ rfl rfl rfl rfl rfl (by kernel_rfl) Try.func4 (by kernel_rfl)
    (of_decide_eq_true (by kernel_rfl)) (by unfold Func.isWrapper; first | (rw [if_pos (by decide +kernel)]; kernel_rfl) | (rw [if_neg (by decide +kernel)]; exact ⟨rfl, rfl⟩))
    (fun os started H enc _ => lifted os started H enc)
end Go.Proofs.Ytlemdgjcpjooiaa.scopeNested
