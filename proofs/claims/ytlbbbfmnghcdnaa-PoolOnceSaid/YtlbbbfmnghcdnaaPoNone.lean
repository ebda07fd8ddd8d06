/- Pools that are none: what they answer. -/
import Derived.Test.YtlbbbfmnghcdnaaPoWorks
namespace Go.Proofs.Ytlbbbfmnghcdnaa
set_option maxRecDepth 20000
open Go.RowKit Go.Maps

def NoneP (w : World) (v : Value) : Prop := v = .pointer none ∨ ∃ b, v = bV b ∧ w.cell? ⟨b, 0, none⟩ = some (.pointer none)
theorem none_nil (w : World) : NoneP w (.pointer none) := .inl rfl
theorem NoneP.below {w w' : World} {v : Value} (h : NoneP w v) (hb : Below w.heap.size w w') : NoneP w' v := by
  rcases h with h | ⟨b, h1, h2⟩
  · exact .inl h
  · exact .inr ⟨b, h1, (hb.cell (p := ⟨b, 0, none⟩) (World.block_lt_of_cell? w _ h2)).trans h2⟩
theorem eql_nil_left (w : World) (a : Addr) : (binOp .eql 46 (.pointer none) (.pointer (some a))).run Try.prog w = .ok (.bool false) w := by
  have h : ∀ d : Nat, (Op.equalIn (d + 1) 46 (.pointer none) (.pointer (some a))).run Try.prog w = .ok false w := fun d => by
    simp [Op.equalIn, run_underlying Try.underlying46, sizeOf, typeInfo]
  simp only [binOp]
  simp [Op.equal, Op.maxDepth, h 9999]
theorem made_none (v : Value) (w : World) (h : NoneP w v) : Calls Try.prog 37 #[v] w fun e w' => e = .returned (.bool false) ∧ w = w' := by
  rcases h with rfl | ⟨b, rfl, h⟩
  · go_enter Try.func37, Try.ntmps37
    go_wp2
    go_ret
    exact ⟨rfl, rfl⟩
  · have E := eql_nil_left w ⟨b, 0, none⟩
    go_enter Try.func37, Try.ntmps37
    go_wp2
    go_ret
    exact ⟨rfl, rfl⟩
section
variable (v : Value) (w : World) (h : NoneP w v)
include h
theorem Take_none : Calls Try.prog 13 #[v] w fun e w' => e = .returned (nV 0) ∧ w = w' := by
  have H := Lib.hid h
  clear h
  go_enter Try.func13, Try.ntmps13
  go_wp2_with (go_at_call 37; (with_reducible refine (made_none _ _ H.out).mono ?_); rintro e w1 ⟨rfl, rfl⟩)
  go_ret
  exact ⟨rfl, rfl⟩
theorem In_none (n : Int) : Calls Try.prog 19 #[v, nV n] w fun e w' => e = .returned (.bool false) ∧ w = w' := by
  have H := Lib.hid h
  clear h
  go_enter Try.func19, Try.ntmps19
  go_wp2_with (go_at_call 37; (with_reducible refine (made_none _ _ H.out).mono ?_); rintro e w1 ⟨rfl, rfl⟩)
  go_ret
  exact ⟨rfl, rfl⟩
theorem Len_none : Calls Try.prog 21 #[v] w fun e w' => e = .returned (nV 0) ∧ w = w' := by
  have H := Lib.hid h
  clear h
  go_enter Try.func21, Try.ntmps21
  go_wp2_with (go_at_call 37; (with_reducible refine (made_none _ _ H.out).mono ?_); rintro e w1 ⟨rfl, rfl⟩)
  go_ret
  exact ⟨rfl, rfl⟩
theorem Last_none : Calls Try.prog 23 #[v] w fun e w' => e = .returned (nV 0) ∧ w = w' := by
  have H := Lib.hid h
  clear h
  go_enter Try.func23, Try.ntmps23
  go_wp2_with (go_at_call 37; (with_reducible refine (made_none _ _ H.out).mono ?_); rintro e w1 ⟨rfl, rfl⟩)
  go_ret
  exact ⟨rfl, rfl⟩
theorem Copy_none : Calls Try.prog 15 #[v] w fun e w' => e = .returned (.pointer none) ∧ w = w' := by
  have H := Lib.hid h
  clear h
  go_enter Try.func15, Try.ntmps15
  go_wp2_with (go_at_call 37; (with_reducible refine (made_none _ _ H.out).mono ?_); rintro e w1 ⟨rfl, rfl⟩)
  go_ret
  exact ⟨rfl, rfl⟩
theorem Give_none (n : Int) : Calls Try.prog 17 #[v, nV n] w fun e w' => e = .returned (.bool false) ∧ w = w' := by
  have H := Lib.hid h
  clear h
  go_enter Try.func17, Try.ntmps17
  go_wp2_with (go_at_call 19; (with_reducible refine (In_none _ _ H.out _).mono ?_); rintro e w1 ⟨rfl, rfl⟩)
  go_ret
  exact ⟨rfl, rfl⟩
end
theorem P_Copy {w : World} {lo ps k : Nat} {T : List Nat} (h : PoolAt w lo ps k T) (hk : k ≤ 1073741824) : Calls Try.prog 15 #[bV ps] w fun e w' => ∃ ps', e = .returned (bV ps') ∧ PoolAt w' w.heap.size ps' k T ∧ Below w.heap.size w w' := by
  obtain ⟨bx, mb, g, F, off, c, hh, hl⟩ := h
  exact (Copy_any hh hk).mono fun _ _ ⟨ps', bx', mb', g', c', he, ⟨h1, h2, h3, h4⟩, h5, h6⟩ => ⟨ps', he, ⟨bx', mb', g', F, 0, c', h5, h1, h2, h3, h4⟩, h6⟩
end Go.Proofs.Ytlbbbfmnghcdnaa
