/- made, In, Len, Last, Take: contracts over a pool in memory. -/
import Derived.Test.YtlbbbfmnghcdnaaPoState
import Derived.Deep.QuietTactic
import Derived.LaidEqlPtr
import Derived.IntWalk
import Derived.BigQuiet
namespace Go.Proofs.Ytlbbbfmnghcdnaa
set_option maxRecDepth 20000
open Go.RowKit Go.Maps

def isT (T : List Nat) (n : Int) : Bool := decide (∃ m ∈ T, (m : Int) = n)
theorem isT_nat (T : List Nat) (n : Nat) : isT T (n : Int) = decide (n ∈ T) := by
  unfold isT
  congr 1
  apply propext
  constructor
  · rintro ⟨x, hx, he⟩
    have : x = n := by omega
    subst this; exact hx
  · intro h; exact ⟨n, h, rfl⟩
theorem pool_info : (Try.prog.info? 59).isSome = true := by kernel_rfl
theorem made_any (ps : Nat) (w : World) (h : w.cell? ⟨ps, 0, none⟩ = some (bV ps)) : Calls Try.prog 37 #[bV ps] w fun e w' => e = .returned (.bool true) ∧ w = w' := by
  obtain ⟨j, hj⟩ := Option.isSome_iff_exists.1 pool_info
  have E := run_eql_ptr_same (P := Try.prog) w ⟨ps, 0, none⟩ Try.underlying46 hj
  clear hj
  go_enter Try.func37, Try.ntmps37
  go_wp2
  go_ret
  exact ⟨rfl, rfl⟩
section
variable {w : World} {ps bx mb g k : Nat} {T : List Nat} {F : List (Nat × Nat)} {off c : Nat} (h : Held w ps bx mb g k T F off c)
include h
theorem In_any (n : Int) (h1 : -9223372036854775808 ≤ n) (h2 : n ≤ 9223372036854775807) : Calls Try.prog 19 #[bV ps, nV n] w fun e w' => e = .returned (.bool (isT T n)) ∧ Below w.heap.size w w' := by
  obtain ⟨c0, c1, _, _, _⟩ := h.cells
  obtain ⟨D, ho, _, hh⟩ := h.map
  have HO := Lib.hid ho
  have hD : has D (.int .i64 n) = isT T n := hh n
  have HD := Lib.hid hD
  clear hh ho hD h
  go_enter Try.func19, Try.ntmps19
  go_wp2_with (first
    | (go_at_call 37; (with_reducible refine (made_any _ _ c0).mono ?_); rintro e w1 ⟨rfl, rfl⟩)
    | (at_lookup; refine wpList_lookup_own_unit _ rfl _ _ 55 rfl 3 81 keyedI Try.underlying55 (zeroU _) mb _ D rfl HO.out _ _ rfl (keyI h1 h2) ?_; rw [HD.out]))
  go_ret
  exact ⟨rfl, (Below.refl _ _).alloc (Nat.le_refl _) _⟩
theorem Len_any : Calls Try.prog 21 #[bV ps] w fun e w' => e = .returned (nV T.length) ∧ w = w' := by
  obtain ⟨c0, c1, _, _, _⟩ := h.cells
  obtain ⟨D, ho, hs, _⟩ := h.map
  have HO := Lib.hid ho
  have HD := Lib.hid hs
  clear ho hs h
  go_enter Try.func21, Try.ntmps21
  go_wp2_with (first
    | (go_at_call 37; (with_reducible refine (made_any _ _ c0).mono ?_); rintro e w1 ⟨rfl, rfl⟩)
    | (at_len; refine wpList_len_own _ rfl _ 55 rfl 3 81 Try.underlying55 _ mb _ D rfl HO.out ?_; rw [HD.out]))
  go_ret
  exact ⟨rfl, rfl⟩
/-- The greatest one that is taken; 0, if none is. -/
theorem Last_any (hk : k ≤ 1073741824) : Calls Try.prog 23 #[bV ps] w fun e w' => (∃ n : Nat, e = .returned (nV n) ∧ n ≤ k ∧ (T = [] → n = 0) ∧ (T ≠ [] → n ∈ T) ∧ ∀ m ∈ T, m ≤ n) ∧ ∃ q, w' = w.drewN q := by
  obtain ⟨c0, _, c2, _, _⟩ := h.cells
  obtain ⟨top, hr, ht⟩ := h.top
  have hne := hr.ne
  have hlen := hr.length
  have hpos : 0 < F.length := List.length_pos_iff.2 hne
  obtain ⟨S, hS, _, h1t⟩ := hr.form
  have hlast : F[F.length - 1]? = some (top, topM) := by rw [hS]; simp
  have hsp := (h.span hlast).1
  simp only [] at hsp
  have P1 : ∀ m ∈ T, m ≤ top - 1 := fun m hm => by
    have h3 := (h.is m).1 hm
    have : ¬ top ≤ m := fun h4 => h3.2.2 (hr.top_free h4 h3.2.1)
    omega
  have P2 : T = [] → top - 1 = 0 := fun he => by
    rcases hr.top_taken with h3 | h3
    · omega
    · by_cases h4 : top = 1
      · omega
      · have := (h.is (top - 1)).2 ⟨by omega, by unfold topM; omega, h3⟩
        rw [he] at this; simp at this
  have P3 : T ≠ [] → top - 1 ∈ T := fun he => by
    obtain ⟨m, hm⟩ := List.exists_mem_of_ne_nil _ he
    have h5 := P1 m hm
    have h6 := (h.is m).1 hm
    rcases hr.top_taken with h3 | h3
    · omega
    · exact (h.is (top - 1)).2 ⟨by omega, by unfold topM; omega, h3⟩
  have PP : Hid ((∀ m ∈ T, m ≤ top - 1) ∧ (T = [] → top - 1 = 0) ∧ (T ≠ [] → top - 1 ∈ T)) := ⟨P1, P2, P3⟩
  have e1 : ((top - 1 : Nat) : Int) = (top : Int) - 1 := by omega
  have E1 := Lib.hid e1
  generalize hn : F.length = n at *
  clear P1 P2 P3 hS hr hlast h hne hn e1
  have q1 : (0 : Int) ≤ (n : Int) - 1 := by omega
  have q2 : ((n : Int) - 1).toNat = n - 1 := by omega
  have q3 : ((n : Int) - 1) < n := by omega
  have q4 : (top : Int) ≤ 1073741825 := by omega
  have q5 : (1 : Int) ≤ (top : Int) := by omega
  have q6 : IntKind.i64.wrap ((n : Int) - 1) = (n : Int) - 1 := IntWalk.i64_in _ (by omega)
  have q7 : IntKind.i64.wrap ((top : Int) - 1) = (top : Int) - 1 := IntWalk.i64_in _ (by omega)
  go_enter Try.func23, Try.ntmps23
  go_wp2_with (first
    | (go_at_call 37; (with_reducible refine (made_any _ _ c0).mono ?_); rintro e w1 ⟨rfl, rfl⟩))
  go_quiet (fail)
  go_wp2_with fail
  go_ret
  exact ⟨⟨top - 1, ret_int E1.out.symm, by omega, PP.out.2.1, PP.out.2.2, PP.out.1⟩, _, rfl⟩
end
end Go.Proofs.Ytlbbbfmnghcdnaa
