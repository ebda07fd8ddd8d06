/- maps.Keys and slices.Sorted, at a set of numbers: its keys, each once. -/
import Derived.Test.YtghnjmodnhnmfaaRcSmall
import Derived.Test.YtghnjmodnhnmfaaRcLay
namespace Go.Proofs.Ytghnjmodnhnmfaa
set_option maxRecDepth 20000
open Go.RowKit Go.Maps Go.Sort Go.Shelf

theorem sorts_A (m : Nat) : AnyZI.SortsIn Try.prog Try.laysSlZI6_ren Fence.wide m :=
  ⟨fun blk off cap ss W hH hblk hsz => callsIn_wide.2 (AnyM.slices_Sort_int Try.laysSlM5 blk off cap ss W hH hblk hsz),
   fun p cap W => callsIn_wide.2 (AnyM.slices_Sort_int_none Try.laysSlM5 p cap W)⟩
theorem Keys_any (mb : Option Nat) (w : World) :
    Calls Try.prog 169 #[.map mb] w fun e w' => e = .returned (.func (.func 180) #[] #[bV w.heap.size]) ∧ w' = w.alloc (.cells #[.map mb] 127 (0, 0)) :=
  (callsIn_wide (n := 5)).1 (AnyZI.keys_in Try.laysSlZI7 Fence.wide 5 trivial rfl mb w)
theorem Sorted_any {W : World} {bm mb : Nat} {T : List Nat} (hbm : W.cell? ⟨bm, 0, none⟩ = some (.map (some mb))) (hM : MapT W mb T) :
    Calls Try.prog 168 #[.func (.func 180) #[] #[bV bm]] W fun e w' => ∃ (v : Value) (K : List Nat), e = .returned v ∧ K.Perm T ∧
      w'.ownsRow W.heap.size 3 1 v (intsOf K).length ((intsOf K).map (Value.int .i64)) ∧ Below W.heap.size W w' := by
  refine (callsIn_wide (n := 5)).1 ?_
  have hl := short_of hM.1 hM.2.1
  obtain ⟨hd, hb, D, ho, hs, hh⟩ := hM
  have hseq : SeqGives Fence.wide 2 Try.prog 180 #[bV bm] encZ (fun ss => ss.Perm (intKeys D)) (Maps.size D) W :=
    AnyZI.keys_gives (ρ := Try.laysSlZI7_ren) { Try.laysSlZI7 with } Fence.wide _ trivial rfl (by omega) bm mb _ D W (World.block_lt_of_cell? W _ hbm) hbm ho
  have cS := AnyZI.sorted_in Try.laysSlZI6 Fence.wide 5 trivial trivial trivial trivial rfl (by omega) (sorts_A _) (enters_of Try.func64 (by kernel_rfl) rfl) 180 #[bV bm] trivial (enters_of Try.func180 (by kernel_rfl) rfl) _ _ (by unfold maxLen; omega) (by omega) _ hseq
  change CallsIn _ _ Try.prog 168 _ _ _ at cS
  refine cS.mono ?_
  rintro e w' ⟨v, ss, rfl, hS, hrow, -, hbl⟩
  obtain ⟨K, hK, hm⟩ := keys_of ho hh hd hS
  have hlen : ss.length = (intsOf K).length := by
    have := congrArg List.length hm
    rw [List.length_mergeSort] at this
    unfold intsOf
    exact this
  rw [hm, hlen] at hrow
  exact ⟨v, K, rfl, hK, hrow, hbl⟩
end Go.Proofs.Ytghnjmodnhnmfaa
