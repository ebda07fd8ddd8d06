/- What is often shown in the same way. -/
namespace Go.Proofs.YtoggkigfijgbfaaGreatDoor
theorem ab0 {P : Prop} (h : P := by repeat' (first | exact Past.refl _ _ | exact Past.mono (by assumption) (by simp) | refine Past.alloc ?_ _ | refine Past.drew ?_ | refine Past.setCell ?_ ?_ _ | refine Past.trans ?_ (Past.mono (by assumption) (by simp)) | refine Past.then ?_ (by assumption) ?_ | (intro i hi; simp at hi ⊢; omega) | (left; simp; done) | (right; first | omega | (simp; done) | (simp; omega)))) : P := h
theorem ab1 {P : Prop} (h : P := by repeat' (first | assumption | refine PAt.alloc ?_ _ | refine PAt.drew ?_ | refine PAt.set ?_ (by omega) _)) : P := h
theorem ab2 {P : Prop} (h : P := by first | omega | (simp; done) | (simp; omega)) : P := h
theorem ab3 {P : Prop} (h : P := by repeat' (first | exact KK.out | with_reducible refine WK.drew ?_ | with_reducible refine WK.more ?_ hp0 _)) : P := h
theorem ab4 {P : Prop} (h : P := by repeat' (first | exact HB.out | with_reducible refine Below.drew ?_ | with_reducible refine below_al ?_ _)) : P := h
theorem ab5 {P : Prop} (h : P := by repeat' (first | exact KK.out | refine WK.more ?_ hp0 _ | refine WK.drew ?_)) : P := h
theorem ab6 {P : Prop} (h : P := by first | exact Nat.le_refl _ | omega | (simp; done) | (simp; omega)) : P := h
theorem ab7 {P : Prop} (h : P := by repeat' (first | exact XB.out | with_reducible refine Box2.drew ?_ | with_reducible refine Box2.alloc ?_ _)) : P := h
theorem ab8 {P : Prop} (h : P := by repeat' (first | exact HB.out | refine below_al ?_ _ | refine Below.drew ?_)) : P := h
theorem ab9 {P : Prop} (h : P := by repeat' (first | exact H.out | with_reducible refine WAt.drew ?_ | with_reducible refine WAt.alloc ?_ _)) : P := h
theorem ab10 {P : Prop} (h : P := by repeat' (first | exact H.out | refine WAt.alloc ?_ _ | refine WAt.drew ?_)) : P := h
theorem ab11 {P : Prop} (h : P := by (repeat' (first | assumption | refine PAt.alloc ?_ _ | refine PAt.drew ?_ | refine PAt.set ?_ (by omega) _))) : P := h
theorem ab12 {P : Prop} (h : P := by first | exact hq2 | exact (cell_set_block (by omega) _).trans hq2) : P := h
theorem ab13 {P : Prop} (h : P := by first | exact Nat.le_refl _ | exact Nat.zero_le _) : P := h
theorem ab14 {P : Prop} (h : P := by first | exact PW.out | exact PW.out.drew) : P := h
theorem ab15 {P : Prop} (h : P := by simp only [dW, rW]; omega) : P := h
theorem ab16 {P : Prop} (h : P := by simp [results, Tryz.results127, go_sem]; try rfl) : P := h
theorem ab17 {P : Prop} (h : P := by intro i hi; simp at hi ⊢; omega) : P := h
theorem ab18 {P : Prop} (h : P := by simp [results, Tryz.results67, go_sem]; try rfl) : P := h
end Go.Proofs.YtoggkigfijgbfaaGreatDoor
