/- The contracts of num.Sign, num.Op and of the document's own Sign and Op; what a row's list says of the table of signs. -/
import Derived.Test.YtfbhbodimdlldaaDoorNumWorks
import Derived.Test.YtfbhbodimdlldaaDoorRefDo
import Derived.Lib.LaidTab
import Derived.Stop.LaidErr
import Derived.WalkSmall
namespace Go.Proofs.YtfbhbodimdlldaaDoor
open Go.RowKit

/-- The signs' bytes. -/
def sgL : Nat → List UInt8
  | 0 => [43] | 1 => [45] | 2 => [42] | 3 => [47, 47] | 4 => [37] | 5 => [38] | 6 => [124] | 7 => [126] | 8 => [60, 60] | 9 => [62, 62]
  | _ => []
def sgB (k : Nat) : ByteArray := ⟨(sgL k).toArray⟩
def SignsEnv (w : World) : Prop := 1 < w.heap.size ∧ ∀ k : Nat, k < 10 → w.cell? ⟨1, k, none⟩ = some (.string (sgB k))
theorem SignsEnv.below {w w' : World} (h : SignsEnv w) (hb : Below w.heap.size w w') : SignsEnv w' :=
  ⟨Nat.lt_of_lt_of_le h.1 hb.size, fun k hk => (hb.cell (p := ⟨1, k, none⟩) h.1).trans (h.2 k hk)⟩
theorem cells_of_texts {H : Type} {enc : TypeId × Value → H} {P : Program} {w : World} {base : Nat} {sp : Nat → Bool} {held : Bool} {fuel : Nat} {t e : TypeId} {n : Nat} {cs : List Value} {tx : List (List UInt8)} {p : List MemPlace}
    (ht : P.underlying t = some (.array n e)) (he : P.underlying e = some .string) (hce : P.cellsOf e = 1) (hct : P.cellsOf t = n)
    (h : DataW.trod enc P w base sp held fuel t cs = some (.agg (tx.map fun l => .lit (.string l)), p)) (i : Nat) (l : List UInt8) (hl : tx[i]? = some l) : cs[i]? = some (.string ⟨l.toArray⟩) := by
  match fuel, h with
  | fuel + 1, h =>
    simp only [DataW.trod, ht, hce, hct, Nat.mul_one] at h
    split at h
    · obtain ⟨xs, hm, hx⟩ := Option.map_eq_some_iff.1 h
      have hx1 : xs.map (·.1) = tx.map fun l => (DataW.lit (.string l) : DataW H) := by
        have h3 := congrArg Prod.fst hx
        simpa using h3
      have hn : tx.length = n := by
        have h4 := congrArg List.length hx1
        have h5 := Lib.mapM_length hm
        simp at h4 h5
        omega
      have hi : i < n := by rw [← hn]; exact (List.getElem?_eq_some_iff.1 hl).1
      obtain ⟨b, hb, hf⟩ := Lib.mapM_at hm i i (by simp [hi])
      obtain ⟨s, hc, rfl, _⟩ := DataW.trod_string he hf
      have h6 : (xs.map (·.1))[i]? = some (DataW.lit (.string s.data.toList) : DataW H) := by simp [hb]
      rw [hx1, List.getElem?_map, hl] at h6
      simp only [Option.map_some, Option.some.injEq, DataW.lit.injEq, Lit.string.injEq] at h6
      subst h6
      have h7 := congrArg (·[0]?) hc
      have h8 : cs[i]? = some (.string s) := by simpa [List.getElem?_take, List.getElem?_drop] using h7
      rw [h8]
    · cases h
theorem gSigns : Tryd.prog.globalNamed "tallow/num.signs" = some 1 := by kernel_rfl
theorem gSignsType : (Tryd.prog.globals[1]?).map (·.type) = some 57 := by kernel_rfl
theorem cellsSigns : Tryd.prog.cellsOf 57 = 10 := by kernel_rfl
theorem cellsText : Tryd.prog.cellsOf 9 = 1 := by kernel_rfl
theorem signs_of_laid {W : World} {rest : List (String × DataW Unit)} (h : laidMet Tryd.prog (("tallow/num.signs", Rows.laid_tallow_num_signs) :: rest) W) : SignsEnv W := by
  obtain ⟨ps, ⟨g', t', cs, fuel, p, q, hg', ht', hvar, hd, _, _⟩, _⟩ := h
  obtain rfl := Option.some.inj (gSigns.symm.trans hg')
  obtain rfl := Option.some.inj (gSignsType.symm.trans ht')
  refine ⟨lt_of_var gSigns hvar, fun k hk => ?_⟩
  have hl : ((List.range 10).map sgL)[k]? = some (sgL k) := by simp [hk]
  have hcell := cells_of_texts (tx := (List.range 10).map sgL) Tryd.underlying57 Tryd.underlying9 cellsText cellsSigns hd k (sgL k) hl
  have hv := World.var?_cell gSigns hvar k
  rw [hv]
  unfold sgB
  simpa using hcell

/-- Which operation's sign that is. -/
def opI (t : ByteArray) : Int := match (List.range 10).find? (fun k => (sgB k).toList == t.toList) with
  | some k => k
  | none => -1
theorem opI_at {t : ByteArray} {k : Nat} (hk : k < 10) (h : ((sgB k).toList == t.toList) = true) (hn : ∀ j, j < k → ((sgB j).toList == t.toList) = false) : opI t = k := by
  unfold opI
  have e : (List.range 10).find? (fun k => (sgB k).toList == t.toList) = some k := by
    rw [List.find?_range_eq_some]
    exact ⟨h, by simpa using hk, fun j hj => by simp [hn j hj]⟩
  rw [e]
theorem opI_none {t : ByteArray} (hn : ∀ j, j < 10 → ((sgB j).toList == t.toList) = false) : opI t = -1 := by
  unfold opI
  have e : (List.range 10).find? (fun k => (sgB k).toList == t.toList) = none := by
    rw [List.find?_range_eq_none]
    intro j hj; simp [hn j hj]
  rw [e]
def signB (op : Int) : ByteArray := if 0 ≤ op ∧ op ≤ 9 then sgB op.toNat else ⟨#[]⟩

set_option maxHeartbeats 400000 in
theorem Sign_yes (k : Nat) (w : World) (hk : k < 10) (hc : w.cell? ⟨1, k, none⟩ = some (.string (sgB k))) :
    Calls Tryd.prog 20 #[.int .i64 k] w fun e w' => e = .returned (.string (sgB k)) ∧ w' = w := by
  have C := isOp_any k w
  rw [show decide (0 ≤ (k : Int) ∧ (k : Int) ≤ 9) = true by simp; omega] at C
  have C := Lib.hid C
  go_enter Tryd.func20, Tryd.ntmps20
  go_wp2_with (go_at_call 25; refine C.out.mono ?_; rintro e w' ⟨rfl, hq⟩; obtain rfl := hq.symm)
  go_ret
  exact ⟨rfl, rfl⟩
set_option maxHeartbeats 400000 in
theorem Sign_no (op : Int) (w : World) (h : ¬ (0 ≤ op ∧ op ≤ 9)) :
    Calls Tryd.prog 20 #[.int .i64 op] w fun e w' => e = .returned (.string ⟨#[]⟩) ∧ w' = w := by
  have C := isOp_any op w
  rw [show decide (0 ≤ op ∧ op ≤ 9) = false by simp; omega] at C
  have C := Lib.hid C
  clear h
  go_enter Tryd.func20, Tryd.ntmps20
  go_wp2_with (go_at_call 25; refine C.out.mono ?_; rintro e w' ⟨rfl, hq⟩; obtain rfl := hq.symm)
  go_ret
  exact ⟨rfl, rfl⟩
/-- num.Sign. -/
theorem Sign_any (op : Int) (w : World) (hS : SignsEnv w) :
    Calls Tryd.prog 20 #[.int .i64 op] w fun e w' => e = .returned (.string (signB op)) ∧ w' = w := by
  by_cases h : 0 ≤ op ∧ op ≤ 9
  · unfold signB; rw [if_pos h]
    have := Sign_yes op.toNat w (by omega) (hS.2 _ (by omega))
    rw [Int.toNat_of_nonneg h.1] at this
    exact this
  · unfold signB; rw [if_neg h]; exact Sign_no op w h
set_option maxHeartbeats 400000 in
/-- num.Op. -/
theorem Op_any (t : ByteArray) (w : World) (hS : SignsEnv w) :
    Calls Tryd.prog 22 #[.string t] w fun e w' => e = .returned (.int .i64 (opI t)) ∧ w' = w := by
  have S := Lib.hid hS.2
  clear hS
  go_enter Tryd.func22, Tryd.ntmps22
  go_wp2_with fail
  go_loop [3, 4] (fun _ i => ∃ k : Nat, k ≤ 10 ∧ i = .int .i64 k ∧ Hid (∀ j, j < k → ((sgB j).toList == t.toList) = false)) (fun _ i => 10 - (intOf i).toNat)
  case atStart => exact ⟨0, by omega, rfl, fun j hj => by omega⟩
  case round =>
    obtain ⟨k, hk, rfl, HN⟩ := hrel
    by_cases hlt : k < 10
    · have hc := S.out k hlt
      cases he : ((sgB k).toList == t.toList) with
      | true =>
        have R := Lib.hid (opI_at hlt he HN.out)
        go_wp2_with fail
        go_ret
        exact ⟨ret_int R.out.symm, rfl⟩
      | false =>
        have HN2 : Hid (∀ j, j < k + 1 → ((sgB j).toList == t.toList) = false) := fun j hj => by
          by_cases e : j = k
          · rw [e]; exact he
          · exact HN.out j (by omega)
        go_wp2_with fail
        go_round
        case rel => exact ⟨k + 1, by omega, by go_num, HN2⟩
        case measure => simp [intOf]; omega
    · obtain rfl : k = 10 := by omega
      have R := Lib.hid (opI_none HN.out)
      go_wp2_with fail
      go_ret
      exact ⟨ret_int R.out.symm, rfl⟩

set_option maxHeartbeats 1000000 in
theorem RSign_yes (k : Nat) (w : World) (hk : k < 10) :
    Calls Tryd.prog 21 #[.int .i64 k] w fun e w' => e = .returned (.string (sgB k)) ∧ Below w.heap.size w w' := by
  have hc : ∀ T : TypeId, (w.alloc (.cells #[.string ⟨#[43]⟩, .string ⟨#[45]⟩, .string ⟨#[42]⟩, .string ⟨#[47, 47]⟩, .string ⟨#[37]⟩, .string ⟨#[38]⟩, .string ⟨#[124]⟩, .string ⟨#[126]⟩, .string ⟨#[60, 60]⟩, .string ⟨#[62, 62]⟩] T)).cell? ⟨w.heap.size, k, none⟩ = some (.string (sgB k)) := fun T => by
    have : k = 0 ∨ k = 1 ∨ k = 2 ∨ k = 3 ∨ k = 4 ∨ k = 5 ∨ k = 6 ∨ k = 7 ∨ k = 8 ∨ k = 9 := by omega
    rcases this with rfl | rfl | rfl | rfl | rfl | rfl | rfl | rfl | rfl | rfl <;> simp [go_sem, sgB, sgL]
  go_enter Tryd.func21, Tryd.ntmps21
  go_wp2_with fail
  go_ret
  exact ⟨rfl, (Below.refl _ _).alloc (Nat.le_refl _) _⟩
set_option maxHeartbeats 1000000 in
theorem RSign_no (op : Int) (w : World) (h : ¬ (0 ≤ op ∧ op ≤ 9)) :
    Calls Tryd.prog 21 #[.int .i64 op] w fun e w' => e = .returned (.string ⟨#[]⟩) ∧ Below w.heap.size w w' := by
  by_cases h0 : op < 0
  · clear h
    go_enter Tryd.func21, Tryd.ntmps21
    go_wp2_with fail
    go_ret
    exact ⟨rfl, (Below.refl _ _).alloc (Nat.le_refl _) _⟩
  · have h1 : 9 < op := by omega
    clear h
    go_enter Tryd.func21, Tryd.ntmps21
    go_wp2_with fail
    go_ret
    exact ⟨rfl, (Below.refl _ _).alloc (Nat.le_refl _) _⟩
/-- tallowref01.Sign. -/
theorem RSign_any (op : Int) (w : World) :
    Calls Tryd.prog 21 #[.int .i64 op] w fun e w' => e = .returned (.string (signB op)) ∧ Below w.heap.size w w' := by
  by_cases h : 0 ≤ op ∧ op ≤ 9
  · unfold signB; rw [if_pos h]
    have := RSign_yes op.toNat w (by omega)
    rw [Int.toNat_of_nonneg h.1] at this
    exact this
  · unfold signB; rw [if_neg h]; exact RSign_no op w h
set_option maxHeartbeats 1000000 in
/-- tallowref01.Op. -/
theorem ROp_any (t : ByteArray) (w : World) :
    Calls Tryd.prog 23 #[.string t] w fun e w' => e = .returned (.int .i64 (opI t)) ∧ Below w.heap.size w w' := by
  have S : Hid (∀ (k : Nat) (w : World), k < 10 → Calls Tryd.prog 21 #[.int .i64 k] w fun e w' => e = .returned (.string (sgB k)) ∧ Below w.heap.size w w') := fun k w hk => RSign_yes k w hk
  go_enter Tryd.func23, Tryd.ntmps23
  go_wp2_with fail
  go_loopw [3] (fun i wr => ∃ k : Nat, k ≤ 10 ∧ i = .int .i64 k ∧ Hid (∀ j, j < k → ((sgB j).toList == t.toList) = false) ∧ Below w.heap.size w wr) (fun i _ => 10 - (intOf i).toNat)
  case atStart => exact ⟨0, by omega, rfl, fun j hj => by omega, Below.refl _ _⟩
  case round =>
    obtain ⟨k, hk, rfl, HN, hb⟩ := hrel
    have HB := Lib.hid hb
    clear hb
    by_cases hlt : k < 10
    · cases he : ((sgB k).toList == t.toList) with
      | true =>
        have R := Lib.hid (opI_at hlt he HN.out)
        go_wp2_with (go_at_call 21; refine (S.out k _ hlt).mono ?_; rintro e w1 ⟨rfl, hb1⟩)
        go_ret
        exact ⟨ret_int R.out.symm, HB.out.trans (hb1.mono HB.out.size)⟩
      | false =>
        have HN2 : Hid (∀ j, j < k + 1 → ((sgB j).toList == t.toList) = false) := fun j hj => by
          by_cases e : j = k
          · rw [e]; exact he
          · exact HN.out j (by omega)
        go_wp2_with (go_at_call 21; refine (S.out k _ hlt).mono ?_; rintro e w1 ⟨rfl, hb1⟩)
        go_roundw
        case rel => exact ⟨k + 1, by omega, by go_num, HN2, HB.out.trans (hb1.mono HB.out.size)⟩
        case measure => simp [intOf]; omega
    · obtain rfl : k = 10 := by omega
      have R := Lib.hid (opI_none HN.out)
      go_wp2_with fail
      go_ret
      exact ⟨ret_int R.out.symm, HB.out⟩
end Go.Proofs.YtfbhbodimdlldaaDoor
