/- The walk through any tree, by induction on its size. -/
import Derived.Test.YtlbbbfmnghcdnaaScExpr
namespace Go.Proofs.Ytlbbbfmnghcdnaa
set_option maxRecDepth 20000
open Go.RowKit Go.Maps

theorem stmts_nil {N : Nat} {w : World} {T : Own} {lo p : Nat} {G : Nat → Gh} {vn : Value} {st : StS} (A : Option Addr) (c : Nat) (l : Int) (h : WAt w T lo p G vn st) : Calls Try.prog 34 #[pV p, .slice A 0 c, iV l] w (EndsS N T lo p G (.ok st) w) := by
  have H := Lib.hid h
  clear h
  go_enter Try.func34, Try.ntmps34
  go_wp2_with fail
  go_loopg [10] 0 (fun m v wr => v = iV 0 ∧ wr = w)
  case atStart => exact ⟨rfl, rfl⟩
  case round =>
    obtain ⟨rfl, rfl⟩ := hrel
    go_wp2_with fail
    refine bodyPost_end (results_none rfl _ _ _) rfl ?_
    exact ends_ok rfl H.out (Turn.refl _ _ _) (Same.refl _ _)
theorem spec_zero : ScSpec 0 where
  stmts := fun t v l h hN hs ht hw hb hz hD => by
    obtain ⟨A, c, rfl, hr⟩ := ht
    cases t with
    | nil => exact stmts_nil A c l h
    | tx _ => cases hb
    | ex => cases hb
    | st => cases hb
    | cons => simp only [szT] at hz; omega
  stmt := fun t v l h hN hs ht hw hb hz hD => by
    cases t with
    | st => simp only [szT] at hz; omega
    | _ => cases hb
  expr := fun t v l kv h hN hs ht hw hb hz hk hD => by
    cases t with
    | ex => simp only [szT] at hz; omega
    | _ => cases hb
theorem stmt_full {N : Nat} {w : World} {T : Own} {lo p g : Nat} {G : Nat → Gh} {vn : Value} {st : StS} {l0 c l' : Int} (l : Int) (h : WAt w T lo p G vn st) (h1 : w.cell? ⟨g, 1, none⟩ = some (iV l0)) (hb : beginS l0 st = .bad c l') : Calls Try.prog 41 #[pV p, pV g, iV l] w (EndsS N T lo p G (.bad c l') w) := by
  have C := Lib.hid (begin_any (N := N) h l0)
  rw [hb] at C
  clear h hb
  go_enter Try.func41, Try.ntmps41
  go_wp2_with (first
    | (go_at_call 49; (with_reducible refine C.out.mono ?_); intro e w2 hE; obtain ⟨b0, T', rfl, hb1, hb2, hb3⟩ := hE))
  exact ⟨rfl, b0, T', rfl, hb1, hb2, hb3⟩
theorem expr_full {N : Nat} {w : World} {T : Own} {lo p g : Nat} {G : Nat → Gh} {vn : Value} {st : StS} {l0 c l' : Int} (l : Int) (h : WAt w T lo p G vn st) (h1 : w.cell? ⟨g, 1, none⟩ = some (iV l0)) (hb : beginS l0 st = .bad c l') : Calls Try.prog 52 #[pV p, pV g, iV l, .slice none 0 0] w (EndsS N T lo p G (.bad c l') w) := by
  have C := Lib.hid (begin_any (N := N) h l0)
  rw [hb] at C
  clear h hb
  go_enter Try.func52, Try.ntmps52
  go_wp2_with (first
    | (go_at_call 49; (with_reducible refine C.out.mono ?_); intro e w2 hE; obtain ⟨b0, T', rfl, hb1, hb2, hb3⟩ := hE))
  exact ⟨rfl, b0, T', rfl, hb1, hb2, hb3⟩
theorem begin_out {l : Int} {st : StS} {f : StS → ResS} (hf : ∀ s, f s = .out) (h : (beginS l st).bind f ≠ .out) : ∃ c l', beginS l st = .bad c l' ∧ (beginS l st).bind f = .bad c l' := by
  cases hb : beginS l st with
  | out => rw [hb] at h; exact absurd rfl h
  | ok s => rw [hb] at h; exact absurd (hf s) h
  | bad c l' => exact ⟨c, l', rfl, rfl⟩
theorem spec_step {n : Nat} (S : ScSpec n) (hn : n ≤ 1099511627776) : ScSpec (n + 1) where
  stmts := fun t v l h hN hs ht hw hb hz hD => stmts_step S hn t v l h hN hs ht hw hb hz hD
  stmt := fun {_ _ _ _ _ _ _ st} t v l h hN hs ht hw hb hz hD => by
    cases t with
    | nil => cases hb
    | tx _ => cases hb
    | ex => cases hb
    | cons => cases hb
    | st k l0 s a b c x y =>
      by_cases k1 : k = 1
      · subst k1; exact stmt_local S v l h hN hs ht hw hz hD
      by_cases k3 : k = 3
      · subst k3; exact stmt_call S v l h hN hs ht hw hz hD
      by_cases k4 : k = 4
      · subst k4; exact stmt_do S v l h hN hs ht hw hz hD
      by_cases k8 : k = 8
      · subst k8; exact stmt_return S v l h hN hs ht hw hz hD
      have e : goS (.st k l0 s a b c x y) st = (beginS l0 st).bind fun _ => .out := by
        rw [goS]
        congr 1
        funext st
        rw [if_neg k1, if_neg k3, if_neg k4, if_neg k8]
      rw [e] at hD ⊢
      obtain ⟨c', l', hb1, hb2⟩ := begin_out (fun _ => rfl) hD
      rw [hb2]
      obtain ⟨g, va, vb, vc, Ax, cx, Ay, cy, rfl, hg, hc, _⟩ := ht
      exact stmt_full l h hc.c1 hb1
  expr := fun t v l kv h hN hs ht hw hb hz hk hD => by
    cases t with
    | nil => cases hb
    | tx _ => cases hb
    | st => cases hb
    | cons => cases hb
    | ex k l0 n0 s a b ks xs ps bd =>
      obtain ⟨g, va, vb, Ak, ck, Ax, cx, Ap, cp, Ab, cb, rfl, hg, hc, h1, h2, h3, h4, h5, h6, h7⟩ := ht
      rw [goS_ex] at hD ⊢
      have E := ExprIn.mk S hn h hN hs hg hc h1 h4 h5 h6 h7 hw hz
      rcases hk with rfl | ⟨q8, rfl, h8, f8, k8⟩
      · by_cases k6 : k = 6
        · subst k6; exact expr_name l E hD
        by_cases k8 : k = 8
        · subst k8; exact expr_call l E hD
        by_cases k9 : k = 9
        · subst k9; exact expr_func l E hD
        obtain ⟨c', l', hb1, hb2⟩ := begin_out (fun s => by unfold behindS; rw [if_neg k6, if_neg k8, if_neg k9]) hD
        rw [hb2]
        exact expr_full l h hc.c1 hb1
      · have k8' : k = 8 := k8
        subst k8'
        exact expr_call8 l E q8 h8 f8 hD
theorem spec_all : ∀ n, n ≤ 1099511627777 → ScSpec n
  | 0, _ => spec_zero
  | n + 1, h => spec_step (spec_all n (by omega)) (by omega)
end Go.Proofs.Ytlbbbfmnghcdnaa
