/- slices.swapRangeCmpFunc and rotateCmpFunc at ints: two blocks of a row exchanged. -/
import Derived.Test.YtghnjmodnhnmfaaStMath
import Derived.Test.YtghnjmodnhnmfaaBase
import Derived.Shelf.SlSortCmp.Insertion1
import Derived.Shelf.SlSortCmp.Kit1
import Derived.Sort.WalkA
import Derived.Sort.WalkB2
import Derived.Sort.WalkB12
import Derived.Deep.LoopGhost
import Derived.Shelf.Abstract
namespace Go.Proofs.Ytghnjmodnhnmfaa
set_option maxRecDepth 1000000
open Go.Shelf Go.RowKit Go.Lib Go.Sort
abbrev encN {α : Type} (num : α → Int) : α → Value := fun x => .int .i64 (num x)
theorem encN_one {α : Type} (num : α → Int) : OneCell (encN num) := fun _ => rfl
variable {α : Type} [Inhabited α]
set_option maxHeartbeats 8000000 in
theorem swapR_any {num : α → Int} {blk cap : Nat} {d0 d : Array α} {w0 w : World} {fv : Value} (R : Row1 (encN num) w0 blk 0 d0) (hs : d0.size = d.size) (S : SW (encN num) w0 blk 0 d w) (hsz : d.size ≤ 1099511627776) (a b n : Nat) (h1 : a + n ≤ b) (h2 : b + n ≤ d.size) :
    Calls Try.prog 183 #[.slice (some ⟨blk, 0, none⟩) d.size cap, .int .i64 a, .int .i64 b, .int .i64 n, fv] w fun e w' => e = .returned (.tuple #[]) ∧ ∃ d', d'.size = d.size ∧ FA d' = swrF (FA d) a b n ∧ SW (encN num) w0 blk 0 d' w' := by
  have S0 := Lib.hid S
  have Z0 := Lib.hid (swr_zero (FA d) a b)
  have ST : Hid (∀ k, k < n → swpF (swrF (FA d) a b k) (a + k) (b + k) = swrF (FA d) a b (k + 1)) := fun k hk => swr_step (by omega)
  clear S
  have mixed : Try.prog.follows .mixedOrders = true := by kernel_rfl
  go_enter Try.func183, Try.ntmps183
  go_wp2_with fail
  go_loopg [10] n (fun gg s10 wr => ∃ k : Nat, k ≤ n ∧ n - k ≤ gg ∧ s10 = .int .i64 k ∧ Hid (∃ dk : Array α, dk.size = d.size ∧ FA dk = swrF (FA d) a b k ∧ SW (encN num) w0 blk 0 dk wr))
  case atStart => exact ⟨0, Nat.zero_le _, by omega, rfl, d, rfl, Z0.out.symm, S0.out⟩
  case round =>
    obtain ⟨k, hk, hgg, rfl, QQ⟩ := hrel
    by_cases hlt : k < n
    · obtain ⟨dk, hdk, hF, hS⟩ := QQ.out
      obtain ⟨iN, hiN⟩ : ∃ q, q = a + k := ⟨_, rfl⟩
      obtain ⟨jN, hjN⟩ : ∃ q, q = b + k := ⟨_, rfl⟩
      have ea : ((a : Int) + (k : Int)).toNat = iN := by omega
      have pa : (0 : Int) ≤ (a : Int) + (k : Int) := by omega
      have ba : (a : Int) + (k : Int) < (d.size : Int) := by omega
      have ra : IntKind.i64.wrap ((a : Int) + (k : Int)) = (a : Int) + (k : Int) := by rw [IntKind.wrap_i64]; omega
      have eb : ((b : Int) + (k : Int)).toNat = jN := by omega
      have pb : (0 : Int) ≤ (b : Int) + (k : Int) := by omega
      have bb : (b : Int) + (k : Int) < (d.size : Int) := by omega
      have rb : IntKind.i64.wrap ((b : Int) + (k : Int)) = (b : Int) + (k : Int) := by rw [IntKind.wrap_i64]; omega
      obtain ⟨x, hx⟩ : ∃ x, x = dk[iN]! := ⟨_, rfl⟩
      obtain ⟨y, hy⟩ : ∃ x, x = dk[jN]! := ⟨_, rfl⟩
      have S2 : Hid (SW (encN num) w0 blk 0 (swp dk iN jN) ((wr.setCell ⟨blk, 0 + iN, none⟩ (.int .i64 (num y))).setCell ⟨blk, 0 + jN, none⟩ (.int .i64 (num x))).drew) := by rw [hx, hy]; exact hS.swapped R iN jN (by omega) (by omega)
      have ca := hS.c1 R (by omega) iN (by omega)
      have cb := hS.c1 R (by omega) jN (by omega)
      have fa := hS.f1 R (by omega) iN (by omega)
      have fb := hS.f1 R (by omega) jN (by omega)
      obtain ⟨u, cc⟩ := hS.c2 R (by omega) iN jN (by omega) (by omega) (.int .i64 (num y))
      rw [← hx] at ca
      rw [← hy] at cb
      have FS : Hid (FA (swp dk iN jN) = swrF (FA d) a b (k + 1)) := by
        show _ = _
        rw [FA_swp2 (by omega) (by omega), hF, hiN, hjN]
        exact ST.out k hlt
      have SZ : Hid ((swp dk iN jN).size = d.size) := by show _ = _; rw [size_swp]; exact hdk
      clear hx hy hS hF hdk QQ hiN hjN
      simp only [encN, Nat.zero_add] at ca cb fa fb cc S2
      go_wp2_with fail
      go_big_region_o
      clear ca cb cc fa fb
      generalize ((wr.setCell ⟨blk, iN, none⟩ (.int .i64 (num y))).setCell ⟨blk, jN, none⟩ (.int .i64 (num x))).drew = w2 at S2 ⊢
      clear ea eb
      go_wp2_with fail
      go_roundg (n - (k + 1))
      case measure => omega
      case rel => exact ⟨k + 1, by omega, by omega, by go_num, _, SZ.out, FS.out, S2.out⟩
    · have hkn : k = n := by omega
      subst hkn
      go_wp2_with fail
      refine bodyPost_end (results_none rfl _ _ _) rfl ?_
      exact ⟨rfl, QQ.out⟩
set_option maxHeartbeats 8000000 in
theorem rotate_any {num : α → Int} {blk cap : Nat} {d0 d : Array α} {w0 w : World} {fv : Value} (R : Row1 (encN num) w0 blk 0 d0) (hs : d0.size = d.size) (S : SW (encN num) w0 blk 0 d w) (hsz : d.size ≤ 1099511627776) (a m b : Nat) (h1 : a < m) (h2 : m < b) (h3 : b ≤ d.size) :
    Calls Try.prog 178 #[.slice (some ⟨blk, 0, none⟩) d.size cap, .int .i64 a, .int .i64 m, .int .i64 b, fv] w fun e w' => e = .returned (.tuple #[]) ∧ ∃ d', d'.size = d.size ∧ FA d' = rotF (FA d) a m b ∧ SW (encN num) w0 blk 0 d' w' := by
  have CS : Hid (∀ (W : World) (dk : Array α) (x y n : Nat), dk.size = d.size → SW (encN num) w0 blk 0 dk W → x + n ≤ y → y + n ≤ d.size → Calls Try.prog 183 #[.slice (some ⟨blk, 0, none⟩) d.size cap, .int .i64 x, .int .i64 y, .int .i64 n, fv] W fun e w' => e = .returned (.tuple #[]) ∧ ∃ d', d'.size = d.size ∧ FA d' = swrF (FA dk) x y n ∧ SW (encN num) w0 blk 0 d' w') := fun W dk x y n hd hS hx hy => by
    have := swapR_any (cap := cap) (fv := fv) R (hs.trans hd.symm) hS (by omega) x y n hx (by omega)
    rwa [hd] at this
  have S0 := Lib.hid S
  clear S R hs
  generalize hRF : rotF (FA d) a m b = RF
  have R0 : Hid (∃ i j : Nat, i = m - a ∧ j = b - m ∧ rotF (FA d) (m - i) m (m + j) = RF) := ⟨m - a, b - m, rfl, rfl, by rw [← hRF, show m - (m - a) = a by omega, show m + (b - m) = b by omega]⟩
  clear hRF
  have e1 : (m : Int) - (a : Int) = ((m - a : Nat) : Int) := by omega
  have e2 : (b : Int) - (m : Int) = ((b - m : Nat) : Int) := by omega
  go_enter Try.func178, Try.ntmps178
  go_wp2_with fail
  go_loopg [10, 11] (m + b) (fun gg s10 s11 wr => ∃ i j : Nat, 1 ≤ i ∧ i ≤ m ∧ 1 ≤ j ∧ m + j ≤ d.size ∧ i + j ≤ gg ∧ s10 = .int .i64 i ∧ s11 = .int .i64 j ∧ Hid (∃ dk : Array α, dk.size = d.size ∧ rotF (FA dk) (m - i) m (m + j) = RF ∧ SW (encN num) w0 blk 0 dk wr))
  case atStart =>
    obtain ⟨i, j, hi, hj, h⟩ := R0.out
    exact ⟨i, j, by omega, by omega, by omega, by omega, by omega, by rw [hi], by rw [hj], d, rfl, h, S0.out⟩
  case round =>
    obtain ⟨i, j, hi1, hi2, hj1, hj2, hgg, rfl, rfl, QQ⟩ := hrel
    clear e1 e2
    obtain ⟨dk, hdk, hF, hS⟩ := QQ.out
    have e3 : (m : Int) - (i : Int) = ((m - i : Nat) : Int) := by omega
    rcases Nat.lt_trichotomy i j with hij | hij | hij
    · have n1 : ((i : Int) != (j : Int)) = true := by simp; omega
      have n2 : decide ((j : Int) < (i : Int)) = false := by simp; omega
      have n2' : ¬ (j : Int) < (i : Int) := by omega
      have e4 : (m : Int) + (j : Int) - (i : Int) = ((m + j - i : Nat) : Int) := by omega
      have e5 : (j : Int) - (i : Int) = ((j - i : Nat) : Int) := by omega
      have CALL := Lib.hid (CS.out wr dk (m - i) (m + j - i) i hdk hS (by omega) (by omega))
      have FF : Hid (rotF (swrF (FA dk) (m - i) (m + j - i) i) (m - i) m (m + (j - i)) = RF) := (rot_right hi2 hij).trans hF
      clear hF hS hdk QQ
      go_wp2_with (go_at_call 183; (with_reducible refine CALL.out.mono ?_); rintro e w2 ⟨rfl, d2, hd2, hF2, hS2⟩; have Q2 : Hid (∃ dk : Array α, dk.size = d.size ∧ rotF (FA dk) (m - i) m (m + (j - i)) = RF ∧ SW (encN num) w0 blk 0 dk w2) := ⟨d2, hd2, by rw [hF2]; exact FF.out, hS2⟩; clear hd2 hF2 hS2)
      go_roundg (i + (j - i))
      case measure => omega
      case rel => exact ⟨i, j - i, by omega, by omega, by omega, by omega, by omega, rfl, rfl, Q2.out⟩
    · subst hij
      have n1 : ((i : Int) != (i : Int)) = false := by simp
      have CALL := Lib.hid (CS.out wr dk (m - i) m i hdk hS (by omega) (by omega))
      have FF : Hid (swrF (FA dk) (m - i) m i = RF) := (rot_eq hi2).trans hF
      clear hF hS hdk QQ
      go_wp2_with (go_at_call 183; (with_reducible refine CALL.out.mono ?_); rintro e w2 ⟨rfl, d2, hd2, hF2, hS2⟩; have Q2 : Hid (∃ dk : Array α, dk.size = d.size ∧ FA dk = RF ∧ SW (encN num) w0 blk 0 dk w2) := ⟨d2, hd2, hF2.trans FF.out, hS2⟩; clear hd2 hF2 hS2)
      refine bodyPost_end (results_none rfl _ _ _) rfl ?_
      exact ⟨rfl, Q2.out⟩
    · have n1 : ((i : Int) != (j : Int)) = true := by simp; omega
      have n2 : decide ((j : Int) < (i : Int)) = true := by simp; omega
      have n2' : (j : Int) < (i : Int) := by omega
      have e5 : (i : Int) - (j : Int) = ((i - j : Nat) : Int) := by omega
      have CALL := Lib.hid (CS.out wr dk (m - i) m j hdk hS (by omega) (by omega))
      have FF : Hid (rotF (swrF (FA dk) (m - i) m j) (m - (i - j)) m (m + j) = RF) := (rot_left hi2 hij).trans hF
      clear hF hS hdk QQ
      go_wp2_with (go_at_call 183; (with_reducible refine CALL.out.mono ?_); rintro e w2 ⟨rfl, d2, hd2, hF2, hS2⟩; have Q2 : Hid (∃ dk : Array α, dk.size = d.size ∧ rotF (FA dk) (m - (i - j)) m (m + j) = RF ∧ SW (encN num) w0 blk 0 dk w2) := ⟨d2, hd2, by rw [hF2]; exact FF.out, hS2⟩; clear hd2 hF2 hS2)
      go_roundg (i - j + j)
      case measure => omega
      case rel => exact ⟨i - j, j, by omega, by omega, by omega, by omega, by omega, rfl, rfl, Q2.out⟩
end Go.Proofs.Ytghnjmodnhnmfaa
