/- Parse's deferred closure: a fault that was given up by a panic becomes the error. -/
import Derived.Test.YtebkdegcifkigaaGreatDoorParState
import Derived.Recover
import Derived.RegionTactic
namespace Go.Proofs.YtebkdegcifkigaaGreatDoor.P5
set_option maxRecDepth 20000
open Go.RowKit Go.Maps

theorem assert_fault (v : Value) (w : World) : (Instr.typeAssert (.iface 59 v) 20 59 false).run Tryz.prog w = .ok v w := by kernel_rfl
theorem catch_idle (a b : Nat) (w : World) :
    CallsD Tryz.prog 21 #[pV a, pV b] .returning w fun e u' w' => e = .returned (.tuple #[]) ∧ u' = .returning ∧ w' = w := by
  refine callsD_of_wpS Tryz.func21 rfl fun c₀ cs hu => ?_
  apply wpS_seq
  apply wpS_region
  simp [wpOpsS, go_sem, recoverD, hu, Tryz.ntmps21, Exit.thenS]
  apply wpS_seq
  apply wpS_region
  simp [wpOpsS, go_sem, Exit.thenS]
  refine wpS_cond (t := false) (by simp [Act.eval, Array.replicate]) ?_
  simp only [Bool.false_eq_true, if_false]
  refine wpS_of_wp (wp_skip ?_)
  cases c₀
  simp_all [bodyPostS, results, Tryz.results21]
theorem catch_panic (a b f : Nat) (w : World) (x : Value) (hab : a ≠ b) (ha : w.cell? ⟨a, 0, none⟩ = some x) (fa : w.frozen? ⟨a, 0, none⟩ = false) (y : Value) (hb : w.cell? ⟨b, 0, none⟩ = some y) (fb : w.frozen? ⟨b, 0, none⟩ = false) :
    CallsD Tryz.prog 21 #[pV a, pV b] (.panicking [{ v := .iface 59 (pV f), recovered := false }]) w fun e u' w' =>
      e = .returned (.tuple #[]) ∧ u' = .panicking [{ v := .iface 59 (pV f), recovered := true }] ∧ w'.cell? ⟨a, 0, none⟩ = some (.slice none 0 0) ∧ w'.cell? ⟨b, 0, none⟩ = some (.iface 59 (pV f)) ∧ Past [a, b] w w' := by
  refine callsD_of_wpS Tryz.func21 rfl fun c₀ cs hu => ?_
  apply wpS_seq
  apply wpS_region
  simp [wpOpsS, go_sem, recoverD, hu, Tryz.ntmps21, Exit.thenS]
  apply wpS_seq
  apply wpS_region
  simp [wpOpsS, go_sem, Exit.thenS]
  refine wpS_cond (t := true) (by simp [Act.eval, Array.replicate]) ?_
  simp only [if_true]
  refine wpS_of_wp ?_
  change Code.wp _ _ _ { tmps := #[pV a, pV b, .iface 59 (pV f), .iface 59 (pV f), .iface 59 (pV f), .bool true, undef, undef, undef], defers := [] } _
  have hba : b ≠ a := Ne.symm hab
  have TA := assert_fault
  go_region
  all_goals
    refine ⟨rfl, _, rfl, .tuple #[], results_none rfl _ _ _, rfl, rfl, ?_, ?_, ?_⟩
    · first | exact (cell_set_block hba _).trans (World.cell?_setCell_same _ _ _ (by simpa using ha)) | exact World.cell?_setCell_same _ _ _ ((cell_set_block hba _).trans (by simpa using ha))
    · first | exact World.cell?_setCell_same _ _ _ ((cell_set_block hab _).trans (by simpa using hb)) | exact (cell_set_block hab _).trans (World.cell?_setCell_same _ _ _ (by simpa using hb))
    · exact ((Past.refl [a, b] w).drew.setCell (.inl (by simp)) _).setCell (.inl (by simp)) _
end Go.Proofs.YtebkdegcifkigaaGreatDoor.P5
