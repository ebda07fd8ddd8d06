/- The contracts of val.Name, Lib, LibOf and of the document's own; what a row's list says of the two tables. -/
import Derived.Test.YtapofoepijkcoaaDoorValMay
namespace Go.Proofs.YtapofoepijkcoaaDoor
open Go.RowKit

/-- The two tables stand as they were laid. -/
def Env (w : World) : Prop := (0 < w.heap.size ∧ ∀ k : Nat, k < 10 → w.cell? ⟨0, k, none⟩ = some (.string (kindT k))) ∧ 1 < w.heap.size ∧ ∀ k : Nat, k < 13 → w.cell? ⟨1, k, none⟩ = some (.string (libT k))
theorem Env.below {w w' : World} (h : Env w) (hb : Below w.heap.size w w') : Env w' :=
  ⟨⟨Nat.lt_of_lt_of_le h.1.1 hb.size, fun k hk => (hb.cell (p := ⟨0, k, none⟩) h.1.1).trans (h.1.2 k hk)⟩,
    Nat.lt_of_lt_of_le h.2.1 hb.size, fun k hk => (hb.cell (p := ⟨1, k, none⟩) h.2.1).trans (h.2.2 k hk)⟩
theorem gKinds : Tryd.prog.globalNamed "tallow/val.kinds" = some 0 := by kernel_rfl
theorem gKindsType : (Tryd.prog.globals[0]?).map (·.type) = some 39 := by kernel_rfl
theorem cellsKinds : Tryd.prog.cellsOf 39 = 10 := by kernel_rfl
theorem gLibs : Tryd.prog.globalNamed "tallow/val.libs" = some 1 := by kernel_rfl
theorem gLibsType : (Tryd.prog.globals[1]?).map (·.type) = some 40 := by kernel_rfl
theorem cellsLibs : Tryd.prog.cellsOf 40 = 13 := by kernel_rfl
theorem cellsText : Tryd.prog.cellsOf 9 = 1 := by kernel_rfl
theorem env_of_laid {W : World} {rest : List (String × DataW Unit)} (h : laidMet Tryd.prog (("tallow/val.kinds", Rows.laid_tallow_val_kinds) :: ("tallow/val.libs", Rows.laid_tallow_val_libs) :: rest) W) : Env W := by
  refine ⟨?_, ?_⟩
  · obtain ⟨ps, ⟨g', t', cs, fuel, p, q, hg', ht', hvar, hd, _, _⟩, _⟩ := h
    obtain rfl := Option.some.inj (gKinds.symm.trans hg')
    obtain rfl := Option.some.inj (gKindsType.symm.trans ht')
    refine ⟨lt_of_var gKinds hvar, fun k hk => ?_⟩
    have hl : ((List.range 10).map kindL)[k]? = some (kindL k) := by simp [hk]
    have hcell := cells_of_texts (tx := (List.range 10).map kindL) Tryd.underlying39 Tryd.underlying9 cellsText cellsKinds hd k (kindL k) hl
    have hv := World.var?_cell gKinds hvar k
    rw [hv]
    unfold kindT
    simpa using hcell
  · obtain ⟨ps, ⟨g', t', cs, fuel, p, q, hg', ht', hvar, hd, _, _⟩, _⟩ := h.tail
    obtain rfl := Option.some.inj (gLibs.symm.trans hg')
    obtain rfl := Option.some.inj (gLibsType.symm.trans ht')
    refine ⟨lt_of_var gLibs hvar, fun k hk => ?_⟩
    have hl : ((List.range 13).map libL)[k]? = some (libL k) := by simp [hk]
    have hcell := cells_of_texts (tx := (List.range 13).map libL) Tryd.underlying40 Tryd.underlying9 cellsText cellsLibs hd k (libL k) hl
    have hv := World.var?_cell gLibs hvar k
    rw [hv]
    unfold libT
    simpa using hcell

theorem Name_yes (k : Nat) (w : World) (hk : k < 10) (hc : w.cell? ⟨0, k, none⟩ = some (.string (kindT k))) :
    Calls Tryd.prog 19 #[.int .i64 k] w fun e w' => e = .returned (.string (kindT k)) ∧ w' = w := by
  go_enter Tryd.func19, Tryd.ntmps19
  go_wp2_with fail
  go_ret
  exact ⟨rfl, rfl⟩
theorem Name_no (k : Int) (w : World) (h : ¬ (0 ≤ k ∧ k ≤ 9)) :
    Calls Tryd.prog 19 #[.int .i64 k] w fun e w' => e = .returned (.string ⟨#[]⟩) ∧ w' = w := by
  by_cases h0 : k < 0
  · clear h
    go_enter Tryd.func19, Tryd.ntmps19
    go_wp2_with fail
    go_ret
    exact ⟨rfl, rfl⟩
  · have h1 : 9 < k := by omega
    have h0 := decide_eq_false h0
    clear h
    go_enter Tryd.func19, Tryd.ntmps19
    go_wp2_with fail
    go_ret
    exact ⟨rfl, rfl⟩
/-- val.Name. -/
theorem Name_any (k : Int) (w : World) (hE : Env w) :
    Calls Tryd.prog 19 #[.int .i64 k] w fun e w' => e = .returned (.string (nameB k)) ∧ w' = w := by
  by_cases h : 0 ≤ k ∧ k ≤ 9
  · unfold nameB; rw [if_pos h]
    have := Name_yes k.toNat w (by omega) (hE.1.2 _ (by omega))
    rw [Int.toNat_of_nonneg h.1] at this
    exact this
  · unfold nameB; rw [if_neg h]; exact Name_no k w h
set_option maxHeartbeats 1000000 in
theorem RName_yes (k : Nat) (w : World) (hk : k < 10) :
    Calls Tryd.prog 20 #[.int .i64 k] w fun e w' => e = .returned (.string (kindT k)) ∧ Below w.heap.size w w' := by
  have hc : ∀ T : TypeId, (w.alloc (.cells #[.string ⟨#[110, 111, 110, 101]⟩, .string ⟨#[110, 105, 108]⟩, .string ⟨#[98, 111, 111, 108]⟩, .string ⟨#[105, 110, 116]⟩, .string ⟨#[98, 117, 105, 108, 116, 105, 110]⟩, .string ⟨#[115, 116, 114, 105, 110, 103]⟩, .string ⟨#[116, 97, 98, 108, 101]⟩, .string ⟨#[102, 117, 110, 99, 116, 105, 111, 110]⟩, .string ⟨#[99, 111, 114, 111, 117, 116, 105, 110, 101]⟩, .string ⟨#[99, 101, 108, 108]⟩] T)).cell? ⟨w.heap.size, k, none⟩ = some (.string (kindT k)) := fun T => by
    have : k = 0 ∨ k = 1 ∨ k = 2 ∨ k = 3 ∨ k = 4 ∨ k = 5 ∨ k = 6 ∨ k = 7 ∨ k = 8 ∨ k = 9 := by omega
    rcases this with rfl | rfl | rfl | rfl | rfl | rfl | rfl | rfl | rfl | rfl <;> simp [go_sem, kindT, kindL]
  go_enter Tryd.func20, Tryd.ntmps20
  go_wp2_with fail
  go_ret
  exact ⟨rfl, (Below.refl _ _).alloc (Nat.le_refl _) _⟩
set_option maxHeartbeats 1000000 in
theorem RName_no (k : Int) (w : World) (h : ¬ (0 ≤ k ∧ k ≤ 9)) :
    Calls Tryd.prog 20 #[.int .i64 k] w fun e w' => e = .returned (.string ⟨#[]⟩) ∧ Below w.heap.size w w' := by
  by_cases h0 : k < 0
  · clear h
    go_enter Tryd.func20, Tryd.ntmps20
    go_wp2_with fail
    go_ret
    exact ⟨rfl, (Below.refl _ _).alloc (Nat.le_refl _) _⟩
  · have h1 : 9 < k := by omega
    have h0 := decide_eq_false h0
    clear h
    go_enter Tryd.func20, Tryd.ntmps20
    go_wp2_with fail
    go_ret
    exact ⟨rfl, (Below.refl _ _).alloc (Nat.le_refl _) _⟩
/-- tallowref02.Name. -/
theorem RName_any (k : Int) (w : World) :
    Calls Tryd.prog 20 #[.int .i64 k] w fun e w' => e = .returned (.string (nameB k)) ∧ Below w.heap.size w w' := by
  by_cases h : 0 ≤ k ∧ k ≤ 9
  · unfold nameB; rw [if_pos h]
    have := RName_yes k.toNat w (by omega)
    rw [Int.toNat_of_nonneg h.1] at this
    exact this
  · unfold nameB; rw [if_neg h]; exact RName_no k w h
theorem Lib_yes (k : Nat) (w : World) (hk : k < 13) (hc : w.cell? ⟨1, k, none⟩ = some (.string (libT k))) :
    Calls Tryd.prog 21 #[.int .i64 k] w fun e w' => e = .returned (.string (libT k)) ∧ w' = w := by
  go_enter Tryd.func21, Tryd.ntmps21
  go_wp2_with fail
  go_ret
  exact ⟨rfl, rfl⟩
theorem Lib_no (k : Int) (w : World) (h : ¬ (0 ≤ k ∧ k ≤ 12)) :
    Calls Tryd.prog 21 #[.int .i64 k] w fun e w' => e = .returned (.string ⟨#[]⟩) ∧ w' = w := by
  by_cases h0 : k < 0
  · clear h
    go_enter Tryd.func21, Tryd.ntmps21
    go_wp2_with fail
    go_ret
    exact ⟨rfl, rfl⟩
  · have h1 : 12 < k := by omega
    have h0 := decide_eq_false h0
    clear h
    go_enter Tryd.func21, Tryd.ntmps21
    go_wp2_with fail
    go_ret
    exact ⟨rfl, rfl⟩
/-- val.Lib. -/
theorem Lib_any (k : Int) (w : World) (hE : Env w) :
    Calls Tryd.prog 21 #[.int .i64 k] w fun e w' => e = .returned (.string (libB k)) ∧ w' = w := by
  by_cases h : 0 ≤ k ∧ k ≤ 12
  · unfold libB; rw [if_pos h]
    have := Lib_yes k.toNat w (by omega) (hE.2.2 _ (by omega))
    rw [Int.toNat_of_nonneg h.1] at this
    exact this
  · unfold libB; rw [if_neg h]; exact Lib_no k w h
set_option maxHeartbeats 1000000 in
theorem RLib_yes (k : Nat) (w : World) (hk : k < 13) :
    Calls Tryd.prog 22 #[.int .i64 k] w fun e w' => e = .returned (.string (libT k)) ∧ Below w.heap.size w w' := by
  have hc : ∀ T : TypeId, (w.alloc (.cells #[.string ⟨#[111, 117, 116]⟩, .string ⟨#[101, 114, 114, 111, 114]⟩, .string ⟨#[116, 121, 112, 101]⟩, .string ⟨#[115, 101, 116, 109, 101, 116, 97]⟩, .string ⟨#[103, 101, 116, 109, 101, 116, 97]⟩, .string ⟨#[114, 97, 119, 103, 101, 116]⟩, .string ⟨#[114, 97, 119, 115, 101, 116]⟩, .string ⟨#[110, 101, 120, 116]⟩, .string ⟨#[99, 111, 108, 108, 101, 99, 116]⟩, .string ⟨#[99, 114, 101, 97, 116, 101]⟩, .string ⟨#[114, 101, 115, 117, 109, 101]⟩, .string ⟨#[121, 105, 101, 108, 100]⟩, .string ⟨#[115, 116, 97, 116, 117, 115]⟩] T)).cell? ⟨w.heap.size, k, none⟩ = some (.string (libT k)) := fun T => by
    have : k = 0 ∨ k = 1 ∨ k = 2 ∨ k = 3 ∨ k = 4 ∨ k = 5 ∨ k = 6 ∨ k = 7 ∨ k = 8 ∨ k = 9 ∨ k = 10 ∨ k = 11 ∨ k = 12 := by omega
    rcases this with rfl | rfl | rfl | rfl | rfl | rfl | rfl | rfl | rfl | rfl | rfl | rfl | rfl <;> simp [go_sem, libT, libL]
  go_enter Tryd.func22, Tryd.ntmps22
  go_wp2_with fail
  go_ret
  exact ⟨rfl, (Below.refl _ _).alloc (Nat.le_refl _) _⟩
set_option maxHeartbeats 1000000 in
theorem RLib_no (k : Int) (w : World) (h : ¬ (0 ≤ k ∧ k ≤ 12)) :
    Calls Tryd.prog 22 #[.int .i64 k] w fun e w' => e = .returned (.string ⟨#[]⟩) ∧ Below w.heap.size w w' := by
  by_cases h0 : k < 0
  · clear h
    go_enter Tryd.func22, Tryd.ntmps22
    go_wp2_with fail
    go_ret
    exact ⟨rfl, (Below.refl _ _).alloc (Nat.le_refl _) _⟩
  · have h1 : 12 < k := by omega
    have h0 := decide_eq_false h0
    clear h
    go_enter Tryd.func22, Tryd.ntmps22
    go_wp2_with fail
    go_ret
    exact ⟨rfl, (Below.refl _ _).alloc (Nat.le_refl _) _⟩
/-- tallowref02.Lib. -/
theorem RLib_any (k : Int) (w : World) :
    Calls Tryd.prog 22 #[.int .i64 k] w fun e w' => e = .returned (.string (libB k)) ∧ Below w.heap.size w w' := by
  by_cases h : 0 ≤ k ∧ k ≤ 12
  · unfold libB; rw [if_pos h]
    have := RLib_yes k.toNat w (by omega)
    rw [Int.toNat_of_nonneg h.1] at this
    exact this
  · unfold libB; rw [if_neg h]; exact RLib_no k w h
set_option maxHeartbeats 400000 in
/-- val.LibOf. -/
theorem LibOf_any (t : ByteArray) (w : World) (hE : Env w) :
    Calls Tryd.prog 23 #[.string t] w fun e w' => e = .returned (.int .i64 (libI t)) ∧ w' = w := by
  have S := Lib.hid hE.2.2
  clear hE
  go_enter Tryd.func23, Tryd.ntmps23
  go_wp2_with fail
  go_loop [4] (fun i => ∃ k : Nat, k ≤ 13 ∧ i = .int .i64 k ∧ Hid (∀ j, j < k → ((libT j).toList == t.toList) = false)) (fun i => 13 - (intOf i).toNat)
  case atStart => exact ⟨0, by omega, rfl, fun j hj => by omega⟩
  case round =>
    obtain ⟨k, hk, rfl, HN⟩ := hrel
    by_cases hlt : k < 13
    · have hc := S.out k hlt
      cases he : ((libT k).toList == t.toList) with
      | true =>
        have R := Lib.hid (libI_at hlt he HN.out)
        go_wp2_with fail
        go_ret
        exact ⟨ret_int R.out.symm, rfl⟩
      | false =>
        have HN2 : Hid (∀ j, j < k + 1 → ((libT j).toList == t.toList) = false) := fun j hj => by
          by_cases e : j = k
          · rw [e]; exact he
          · exact HN.out j (by omega)
        go_wp2_with fail
        go_round
        case rel => exact ⟨k + 1, by omega, by go_num, HN2⟩
        case measure => simp [intOf]; omega
    · obtain rfl : k = 13 := by omega
      have R := Lib.hid (libI_none HN.out)
      go_wp2_with fail
      go_ret
      exact ⟨ret_int R.out.symm, rfl⟩
set_option maxHeartbeats 1000000 in
/-- tallowref02.LibOf. -/
theorem RLibOf_any (t : ByteArray) (w : World) :
    Calls Tryd.prog 24 #[.string t] w fun e w' => e = .returned (.int .i64 (libI t)) ∧ Below w.heap.size w w' := by
  have S : Hid (∀ (k : Nat) (w : World), k < 13 → Calls Tryd.prog 22 #[.int .i64 k] w fun e w' => e = .returned (.string (libT k)) ∧ Below w.heap.size w w') := fun k w hk => RLib_yes k w hk
  go_enter Tryd.func24, Tryd.ntmps24
  go_wp2_with fail
  go_loopw [3] (fun i wr => ∃ k : Nat, k ≤ 13 ∧ i = .int .i64 k ∧ Hid (∀ j, j < k → ((libT j).toList == t.toList) = false) ∧ Below w.heap.size w wr) (fun i _ => 13 - (intOf i).toNat)
  case atStart => exact ⟨0, by omega, rfl, fun j hj => by omega, Below.refl _ _⟩
  case round =>
    obtain ⟨k, hk, rfl, HN, hb⟩ := hrel
    have HB := Lib.hid hb
    clear hb
    by_cases hlt : k < 13
    · cases he : ((libT k).toList == t.toList) with
      | true =>
        have R := Lib.hid (libI_at hlt he HN.out)
        go_wp2_with (go_at_call 22; refine (S.out k _ hlt).mono ?_; rintro e w1 ⟨rfl, hb1⟩)
        go_ret
        exact ⟨ret_int R.out.symm, HB.out.trans (hb1.mono HB.out.size)⟩
      | false =>
        have HN2 : Hid (∀ j, j < k + 1 → ((libT j).toList == t.toList) = false) := fun j hj => by
          by_cases e : j = k
          · rw [e]; exact he
          · exact HN.out j (by omega)
        go_wp2_with (go_at_call 22; refine (S.out k _ hlt).mono ?_; rintro e w1 ⟨rfl, hb1⟩)
        go_roundw
        case rel => exact ⟨k + 1, by omega, by go_num, HN2, HB.out.trans (hb1.mono HB.out.size)⟩
        case measure => simp [intOf]; omega
    · obtain rfl : k = 13 := by omega
      have R := Lib.hid (libI_none HN.out)
      go_wp2_with fail
      go_ret
      exact ⟨ret_int R.out.symm, HB.out⟩
end Go.Proofs.YtapofoepijkcoaaDoor
