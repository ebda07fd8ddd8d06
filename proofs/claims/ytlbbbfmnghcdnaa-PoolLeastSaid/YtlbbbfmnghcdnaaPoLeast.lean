/- PoolLeast: of numbers that were taken from 1 on those that were given back come again, rising, and then the next ones: for every set of numbers up to sixteen. Conditions: none. -/
import Derived.Test.YtlbbbfmnghcdnaaPoNone
import Derived.Test.YtlbbbfmnghcdnaaLawPost
import Derived.ProofKit
import Derived.BigQuiet
import Derived.Deep.LoopGhost
namespace Go.Proofs.Ytlbbbfmnghcdnaa.poolLeast
set_option maxRecDepth 20000
open Go.ChangeShapes Go.WideShapes Go.ChangeAt Go.RowKit

theorem len_of {T : List Nat} {n : Nat} (hn : T.Nodup) (h : ∀ m, m ∈ T ↔ 1 ≤ m ∧ m ≤ n) : T.length = n := by
  have hp : T.Perm (List.range' 1 n) := (List.perm_ext_iff_of_nodup hn (List.nodup_range')).2 fun m => by
    rw [h, List.mem_range'_1]; omega
  rw [hp.length_eq, List.length_range']
theorem of_wf_u16 {n : Int} (h : (Lit.int .u16 n).wf = true) : 0 ≤ n ∧ n ≤ 65535 := by
  have e1 : IntKind.u16.min = 0 := rfl
  have e2 : IntKind.u16.max = 65535 := rfl
  simp [Lit.wf, e1, e2] at h
  omega
def bitB (s : Int) (i : Nat) : Bool := bits .and .u16 (s / 2 ^ i) 1 == 1
set_option maxHeartbeats 4000000 in
theorem walk (s : Int) (hs0 : 0 ≤ s) (hs1 : s ≤ 65535) (w : World) : Calls Try.prog 6 #[.int .u16 s] w fun e w' => e = .returned (.bool true) ∧ Below w.heap.size w w' := by
  have HS0 := Lib.hid hs0
  have HS1 := Lib.hid hs1
  clear hs0 hs1
  go_enter Try.func6, Try.ntmps6
  go_wp2_with (first
    | (go_at_call 25; (with_reducible refine (works_true _).mono ?_); rintro e w0 ⟨rfl, b0⟩; have B0 := Lib.hid b0; clear b0)
    | (go_at_call 11; (with_reducible refine (P_New _).mono ?_); rintro e w1 ⟨ps, rfl, h1, b1⟩; have H1 := Lib.hid (h1.mono B0.out.size); have B1 := Lib.hid (below_hi B0.out b1); clear h1 b1))
  go_loopg [4] 16 (fun g s4 wr => ∃ (j : Nat) (T : List Nat), s4 = nV j ∧ j + g = 16 ∧ Hid (PoolAt wr w.heap.size ps j T) ∧ Hid (∀ m, m ∈ T ↔ 1 ≤ m ∧ m ≤ j) ∧ Hid (Below w.heap.size w wr))
  case atStart => exact ⟨0, [], rfl, rfl, H1.out, (fun m => by simp; omega : ∀ m, m ∈ ([] : List Nat) ↔ 1 ≤ m ∧ m ≤ 0), B1.out⟩
  case round =>
    clear H1 B1
    obtain ⟨j, T, rfl, hj, H, M, B⟩ := hrel
    cases gk with
    | succ g =>
      have q1 : (j : Int) < 16 := by omega
      have L : Hid (Least T (j + 1)) := ⟨by omega, by rw [M.out]; omega, fun m h1 h2 => by rw [M.out]; omega⟩
      have q2 : j ≤ 1073741824 := by omega
      go_wp2_with (go_at_call 13; (with_reducible refine (P_Take_is H.out q2 (j + 1) L.out).mono ?_); rintro e w2 ⟨rfl, h2, b2, -⟩; have H2 := Lib.hid h2; have B2 := Lib.hid (below_lo B.out b2); clear h2 b2)
      go_roundg g
      case measure => omega
      case rel => exact ⟨j + 1, (j + 1) :: T, by simp, by omega, H2.out, (fun m => by rw [List.mem_cons, M.out]; omega : ∀ m, m ∈ (j + 1) :: T ↔ 1 ≤ m ∧ m ≤ j + 1), B2.out⟩
    | zero =>
      obtain rfl : j = 16 := by omega
      go_wp2_with fail
      go_loopg [5] 16 (fun g s5 wx => ∃ (z : Int) (T : List Nat), s5 = .int .i64 z ∧ z = (g : Int) - 1 ∧ g ≤ 16 ∧ Hid (PoolAt wx w.heap.size ps 16 T) ∧ Hid (∀ m, m ∈ T ↔ 1 ≤ m ∧ m ≤ 16 ∧ ¬ (g < m ∧ bitB s (m - 1) = true)) ∧ Hid (Below w.heap.size w wx))
      case atStart => exact ⟨15, T, rfl, rfl, Nat.le_refl _, H.out, (fun m => by rw [M.out]; omega : ∀ m, m ∈ T ↔ 1 ≤ m ∧ m ≤ 16 ∧ ¬ (16 < m ∧ bitB s (m - 1) = true)), B.out⟩
      case round =>
        clear H M B
        obtain ⟨z, T, rfl, hz, hg, H, M, B⟩ := hrel
        cases gk with
        | succ g =>
          obtain rfl : z = (g : Int) := by omega
          clear hz
          have q1 : (0 : Int) ≤ (g : Int) := by omega
          by_cases hb : bitB s g = true
          · have hb1 : (bits .and .u16 (s / 2 ^ g) 1 == 1) = true := hb
            have HB := Lib.hid hb
            clear hb
            have MT : Hid (g + 1 ∈ T) := (M.out (g + 1)).2 ⟨by omega, by omega, by omega⟩
            have z1 : (g : Int) + 1 = ((g + 1 : Nat) : Int) := by omega
            have Z1 := Lib.hid z1
            clear z1
            go_wp2_with (go_at_call 17; (with_reducible refine (P_Give_z H.out (by decide) (g + 1) _ Z1.out MT.out).mono ?_); rintro e w2 ⟨rfl, h2, b2, -⟩; have H2 := Lib.hid h2; have B2 := Lib.hid (below_lo B.out b2); clear h2 b2)
            go_roundg g
            case measure => omega
            case rel => exact ⟨_, T.erase (g + 1), rfl, rfl, by omega, H2.out, (fun m => by
              have h4 := HB.out
              rw [H.out.nodup.mem_erase_iff, M.out]
              constructor
              · rintro ⟨h1, h2, h3, h5⟩
                exact ⟨h2, h3, fun h6 => h5 ⟨by omega, h6.2⟩⟩
              · rintro ⟨h2, h3, h5⟩
                exact ⟨fun h6 => h5 ⟨by omega, by rw [h6]; exact h4⟩, h2, h3, fun h6 => h5 ⟨by omega, h6.2⟩⟩ : ∀ m, m ∈ T.erase (g + 1) ↔ 1 ≤ m ∧ m ≤ 16 ∧ ¬ (g < m ∧ bitB s (m - 1) = true)), B2.out⟩
          · have hb1 : (bits .and .u16 (s / 2 ^ g) 1 == 1) = false := false_of hb
            have HB := Lib.hid hb
            clear hb
            go_wp2_with fail
            go_roundg g
            case measure => omega
            case rel => exact ⟨_, T, rfl, rfl, by omega, H.out, (fun m => by
              have h4 := HB.out
              rw [M.out]
              constructor
              · rintro ⟨h2, h3, h5⟩
                refine ⟨h2, h3, fun h6 => ?_⟩
                by_cases h7 : m = g + 1
                · rw [h7] at h6; exact h4 h6.2
                · exact h5 ⟨by omega, h6.2⟩
              · rintro ⟨h2, h3, h5⟩
                exact ⟨h2, h3, fun h6 => h5 ⟨by omega, h6.2⟩⟩ : ∀ m, m ∈ T ↔ 1 ≤ m ∧ m ≤ 16 ∧ ¬ (g < m ∧ bitB s (m - 1) = true)), B.out⟩
        | zero =>
          have q1 : z < 0 := by omega
          clear hz
          go_wp2_with fail
          go_loopg [6] 16 (fun g s6 wx => ∃ (j : Nat) (T : List Nat) (k : Nat), s6 = nV j ∧ j + g = 16 ∧ k ≤ 16 + j ∧ Hid (PoolAt wx w.heap.size ps k T) ∧ Hid (∀ m, m ∈ T ↔ 1 ≤ m ∧ m ≤ 16 ∧ ¬ (j < m ∧ bitB s (m - 1) = true)) ∧ Hid (Below w.heap.size w wx))
          case atStart => exact ⟨0, T, 16, rfl, rfl, by omega, H.out, M.out, B.out⟩
          case round =>
            clear H M B q1 hg
            obtain ⟨j, T, k, rfl, hj, hk, H, M, B⟩ := hrel
            cases gk with
            | succ g =>
              have q1 : (j : Int) < 16 := by omega
              have q2 : k ≤ 1073741824 := by omega
              by_cases hb : bitB s j = true
              · have hb1 : (bits .and .u16 (s / 2 ^ j) 1 == 1) = true := hb
                have HB := Lib.hid hb
                clear hb
                have L : Hid (Least T (j + 1)) := ⟨by omega, by rw [M.out]; exact fun h => h.2.2 ⟨by omega, HB.out⟩, fun m h1 h2 => by rw [M.out]; exact ⟨h1, by omega, fun h => by omega⟩⟩
                go_wp2_with (go_at_call 13; (with_reducible refine (P_Take_is H.out q2 (j + 1) L.out).mono ?_); rintro e w2 ⟨rfl, h2, b2, -⟩; have H2 := Lib.hid h2; have B2 := Lib.hid (below_lo B.out b2); clear h2 b2)
                go_roundg g
                case measure => omega
                case rel => exact ⟨j + 1, (j + 1) :: T, k + 1, by simp, by omega, by omega, H2.out, (fun m => by
                  have h4 := HB.out
                  rw [List.mem_cons, M.out]
                  constructor
                  · rintro (h1 | ⟨h1, h2, h3⟩)
                    · subst h1; exact ⟨by omega, by omega, fun h => by omega⟩
                    · exact ⟨h1, h2, fun h => h3 ⟨by omega, h.2⟩⟩
                  · rintro ⟨h1, h2, h3⟩
                    by_cases h7 : m = j + 1
                    · exact .inl h7
                    · exact .inr ⟨h1, h2, fun h => h3 ⟨by omega, h.2⟩⟩ : ∀ m, m ∈ (j + 1) :: T ↔ 1 ≤ m ∧ m ≤ 16 ∧ ¬ (j + 1 < m ∧ bitB s (m - 1) = true)), B2.out⟩
              · have hb1 : (bits .and .u16 (s / 2 ^ j) 1 == 1) = false := false_of hb
                have HB := Lib.hid hb
                clear hb
                go_wp2_with fail
                go_roundg g
                case measure => omega
                case rel => exact ⟨j + 1, T, k, by simp, by omega, by omega, H.out, (fun m => by
                  have h4 := HB.out
                  rw [M.out]
                  constructor
                  · rintro ⟨h1, h2, h3⟩; exact ⟨h1, h2, fun h => h3 ⟨by omega, h.2⟩⟩
                  · rintro ⟨h1, h2, h3⟩
                    refine ⟨h1, h2, fun h => ?_⟩
                    by_cases h7 : m = j + 1
                    · rw [h7] at h; exact h4 h.2
                    · exact h3 ⟨by omega, h.2⟩ : ∀ m, m ∈ T ↔ 1 ≤ m ∧ m ≤ 16 ∧ ¬ (j + 1 < m ∧ bitB s (m - 1) = true)), B.out⟩
            | zero =>
              obtain rfl : j = 16 := by omega
              have q2 : k ≤ 1073741824 := by omega
              have M2 : Hid (∀ m, m ∈ T ↔ 1 ≤ m ∧ m ≤ 16) := fun m => by rw [M.out]; exact ⟨fun h => ⟨h.1, h.2.1⟩, fun h => ⟨h.1, h.2, fun h3 => by omega⟩⟩
              have L : Hid (Least T 17) := ⟨by omega, by rw [M2.out]; omega, fun m h1 h2 => by rw [M2.out]; omega⟩
              have LL : Hid ((17 :: T).length = 17) := len_of (List.nodup_cons.2 ⟨L.out.2.1, H.out.nodup⟩) (fun m => by rw [List.mem_cons, M2.out]; omega)
              go_wp2_with (first
                | (go_at_call 13; (with_reducible refine (P_Take_is H.out q2 17 L.out).mono ?_); rintro e w2 ⟨rfl, h2, b2, -⟩; have H2 := Lib.hid h2; have B2 := Lib.hid (below_lo B.out b2); clear h2 b2)
                | (go_at_call 21; (with_reducible refine (P_Len H2.out).mono ?_); rintro e w3 ⟨rfl, rfl⟩; rw [LL.out]))
              go_ret
              exact ⟨rfl, B2.out⟩
theorem own : ownKnob Try.prog.godebug = none := by kernel_rfl
theorem laidOut : laidOutB Try.prog = true := by kernel_rfl
set_option maxRecDepth 100000 in
theorem contract (H : Type) (enc : TypeId × Value → H) (W : World) (base : Nat) (args : Array Value) (ds gs : List (DataW H)) (before : List MemPlace)
    (hval : ∀ (j : Nat) t v, Try.f6.params[j]? = some t → args[j]? = some v → Value.okWide Try.prog W .any base t v)
    (hW : DataW.Whole enc Try.prog Try.f6.params.toList Rows.poolLeastSpec.vars false W args.toList ds gs before)
    (hsz0 : (DataW.weightsEach Try.prog (Try.f6.params.toList ++ Rows.poolLeastSpec.plain.varTypes Try.prog) (ds ++ gs)).all (· ≤ reachBytes) = true) :
    Calls Try.prog 6 args W fun e W' => ∃ v, e = .returned v ∧ Rows.poolLeastSpec.post enc Try.prog Try.f6 false true false false W args v W' := by
  have hW' := hW
  obtain ⟨p, q, hA0, hV, rfl, hfz, hnd⟩ := hW
  have hA : DataW.TrodAll enc Try.prog W 0 (fun _ => true) true Try.f6.params.toList args.toList ds p := hA0
  have hsz := hsz0
  rw [Try.params6] at hA hval hsz
  obtain ⟨v0, vs0, d0, ds0, p0, q0, hargs, rfl, rfl, h0, r0⟩ := trodAll_cons hA
  obtain ⟨rfl, rfl, rfl⟩ := trodAll_nil r0
  obtain rfl : args = #[v0] := by cases args; simp_all
  obtain ⟨rfl, rfl⟩ := trodVars_none hV
  obtain ⟨a0, rfl, rfl, rfl, w0⟩ := open_int Try.underlying53 (hval 0 53 v0 rfl rfl) h0
  obtain ⟨l0, u0⟩ := of_wf_u16 w0
  clear hA0 hsz hsz0
  simp only [List.append_nil] at hW'
  refine (walk a0 l0 u0 W).mono fun e W' ⟨he, hb⟩ => ?_
  subst he
  exact ⟨_, rfl, law_post laidOut (by kernel_rfl) (by kernel_rfl) Try.underlying4 hW' hb rfl⟩

set_option maxRecDepth 100000 in
theorem lifted (os : Os) (started : os.Started) (H : Type) (enc : TypeId × Value → H) :
    ReturnsInHanded {} Try.checked os 6 .any (Rows.poolLeastSpec.pre6 enc Try.prog Try.f6 Rows.poolLeastRow.domain false) (Rows.poolLeastSpec.post enc Try.prog Try.f6 false true false false) := by
  refine returnsInHanded_of_change_sized (C := Try.checked) own started (by kernel_rfl) Try.func6
    (ChangeSpec.witness6 (enc := enc) (C := Try.checked) false ⟨#[], #[.int .u16 0], []⟩ 8 (by kernel_rfl) (by kernel_rfl) (by kernel_rfl) (by kernel_rfl)) ?_
  intro W base args ds gs before hval hW _ hsz _
  exact contract H enc W base args ds gs before hval hW hsz
/-- The row. -/
theorem holds : Rows.PoolLeastSaid :=
  OpenClaim.holds_of_wide 6 Try.f6 rfl rfl rfl rfl rfl rfl rfl ⟨rfl, rfl, rfl, rfl, rfl⟩ rfl rfl rfl rfl rfl (by kernel_rfl) Try.func6 (by kernel_rfl)
    (of_decide_eq_true (by kernel_rfl)) (by unfold Func.isWrapper; first | (rw [if_pos (by decide +kernel)]; kernel_rfl) | (rw [if_neg (by decide +kernel)]; exact ⟨rfl, rfl⟩))
    (fun os started H enc _ => lifted os started H enc)
end Go.Proofs.Ytlbbbfmnghcdnaa.poolLeast
