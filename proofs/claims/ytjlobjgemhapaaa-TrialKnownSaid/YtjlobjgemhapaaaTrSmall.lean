/- trial.looksAt, count, pick, heldBy. -/
import Derived.Test.YtjlobjgemhapaaaTrMath
import Derived.Test.YtjlobjgemhapaaaOldG
import Derived.Test.YtjlobjgemhapaaaOldG
import Derived.Deep.LoopGhost
import Derived.Shelf.Abstract
namespace Go.Proofs.Ytjlobjgemhapaaa
set_option maxRecDepth 20000
open Go.RowKit Go.Maps

/-- f says of a number what p says, of all numbers of which D is so. -/
def YesAt (w : World) (f : Value) (D : Int → Prop) (p : Int → Bool) : Prop :=
  ∃ g lb, f = .func (.func g) #[] lb ∧ (∀ args w, (callFunc g args).run Try.prog w = .ok (.enter g args) w) ∧
    ∀ (W : World) (n : Int), Below w.heap.size w W → D n → Calls Try.prog g (#[iV n] ++ lb) W fun e w' => e = .returned (.bool (p n)) ∧ Below W.heap.size W w'
theorem YesAt.below {w w' : World} {f : Value} {D : Int → Prop} {p : Int → Bool} (h : YesAt w f D p) (hb : Below w.heap.size w w') : YesAt w' f D p := by
  obtain ⟨g, lb, e, h1, h2⟩ := h
  exact ⟨g, lb, e, h1, fun W n hW => h2 W n (hb.trans (hW.mono hb.size))⟩
theorem YesAt.imp {w : World} {f : Value} {D E : Int → Prop} {p : Int → Bool} (h : YesAt w f D p) (he : ∀ n, E n → D n) : YesAt w f E p := by
  obtain ⟨g, lb, e, h1, h2⟩ := h
  exact ⟨g, lb, e, h1, fun W n hW hn => h2 W n hW (he n hn)⟩
theorem looks1_any {w : World} {A : Option Addr} {c : Nat} {g : List OB} (hg : GAt w A g) (hn : g.length * 64 ≤ 140737488355328) {bg : Nat} (h0 : w.cell? ⟨bg, 0, none⟩ = some (.slice A g.length c)) (m : Int) :
    Calls Try.prog 87 #[iV m, bV bg] w fun e w' => e = .returned (.bool (looksB g m)) ∧ Below w.heap.size w w' := by
  by_cases hm : 1 ≤ m
  · obtain ⟨k, rfl⟩ : ∃ k : Nat, m = (k : Int) + 1 := ⟨(m - 1).toNat, by omega⟩
    have d1 : decide (1 ≤ (k : Int) + 1) = true := by simp; omega
    by_cases hk : k < g.length
    · obtain ⟨o, ho⟩ : ∃ o, g[k]? = some o := ⟨_, List.getElem?_eq_getElem hk⟩
      obtain ⟨a, sA, sc, rfl, hal, ⟨c0, c1, c2, c3, c4⟩, hs⟩ := hg k o ho
      rw [looks_at ho]
      have d2 : decide ((k : Int) + 1 ≤ (g.length : Int)) = true := by simp; omega
      clear hg ho hs c1 c2 c3 c4
      generalize g.length = n at *
      have hl2 : (a.add (k * 5)).block < w.heap.size := by rw [Go.ChangeShapes.block_add]; exact hal
      go_enter Try.func87, Try.ntmps87
      go_wp2
      go_ret
      exact ⟨by simp, Below.refl _ _⟩
    · have e : looksB g ((k : Int) + 1) = false := by
        unfold looksB
        rw [List.getElem?_eq_none (by omega)]; simp
      rw [e]
      have d2 : decide ((k : Int) + 1 ≤ (g.length : Int)) = false := by simp; omega
      clear hg e
      generalize g.length = n at *
      go_enter Try.func87, Try.ntmps87
      go_wp2
      go_ret
      exact ⟨rfl, Below.refl _ _⟩
  · have d1 : decide (1 ≤ m) = false := by simpa using hm
    have e : looksB g m = false := by unfold looksB; rw [d1]; rfl
    rw [e]
    clear hg e
    generalize g.length = n at *
    go_enter Try.func87, Try.ntmps87
    go_wp2
    go_ret
    exact ⟨rfl, Below.refl _ _⟩
theorem looksAt_any {w : World} {A : Option Addr} {c : Nat} {g : List OB} (hg : GAt w A g) (hn : g.length * 64 ≤ 140737488355328) :
    Calls Try.prog 35 #[gV A g.length c] w fun e w' => ∃ b, e = .returned (.func (.func 87) #[] #[bV b]) ∧ YesAt w' (.func (.func 87) #[] #[bV b]) (fun _ => True) (looksB g) ∧ Below w.heap.size w w' := by
  have hmf := hmf2
  have FIN : Hid (YesAt (w.alloc (.cells #[.slice A g.length c] 24 (0, 0))) (.func (.func 87) #[] #[bV w.heap.size]) (fun _ => True) (looksB g)) := by
    refine ⟨_, _, rfl, fun _ _ => rfl, fun W m hW _ => ?_⟩
    have hb1 : Below w.heap.size w (w.alloc (.cells #[.slice A g.length c] 24 (0, 0))) := (Below.refl _ _).alloc (Nat.le_refl _) _
    exact looks1_any (hg.below (hb1.trans (hW.mono hb1.size))) hn (boxed hW (j := 0) rfl) m
  clear hg
  generalize looksB g = p at *
  generalize g.length = n at *
  go_enter Try.func35, Try.ntmps35
  go_wp2
  go_ret
  exact ⟨_, rfl, FIN.out, (Below.refl _ _).alloc (Nat.le_refl _) _⟩
def filtP (p : Int → Bool) (xs : List Int) (k : Nat) : List Int := (xs.take k).filter p
theorem filtP_yes {p : Int → Bool} {xs : List Int} {k : Nat} {x : Int} (h : xs[k]? = some x) (hr : p x = true) : filtP p xs (k + 1) = filtP p xs k ++ [x] := by
  unfold filtP; rw [List.take_add_one, h, List.filter_append]; simp [hr]
theorem filtP_no {p : Int → Bool} {xs : List Int} {k : Nat} {x : Int} (h : xs[k]? = some x) (hr : p x = false) : filtP p xs (k + 1) = filtP p xs k := by
  unfold filtP; rw [List.take_add_one, h, List.filter_append]; simp [hr]
theorem filtP_len (p : Int → Bool) (xs : List Int) (k : Nat) : (filtP p xs k).length ≤ k := Nat.le_trans (List.length_filter_le _ _) (by simp; omega)
set_option maxHeartbeats 2000000 in
theorem pick_any {w : World} {A : Option Addr} {c : Nat} {xs : List Int} (hl : xs.length ≤ 1099511627776) (h : IntsAt w A xs) {f : Value} {D : Int → Prop} {p : Int → Bool} (hf : YesAt w f D p) (hD : ∀ x ∈ xs, D x) :
    Calls Try.prog 42 #[.slice A xs.length c, f] w (GivesInts (xs.filter p) w) := by
  obtain ⟨i0, hi, hz0, hz1, hz2⟩ := info_parts int_info
  obtain ⟨g, lb, rfl, eg, hf⟩ := hf
  have H := Lib.hid h
  have HF := Lib.hid hf
  have DD := Lib.hid hD
  have GET : Hid (∀ i, i < xs.length → ∃ p, xs[i]? = some p) := fun i hi => ⟨_, List.getElem?_eq_getElem hi⟩
  have PL : Hid (∀ k, (filtP p xs k).length ≤ k) := filtP_len p xs
  have PY : Hid (∀ k x, xs[k]? = some x → p x = true → filtP p xs (k + 1) = filtP p xs k ++ [x]) := fun k x => filtP_yes
  have PN : Hid (∀ k x, xs[k]? = some x → p x = false → filtP p xs (k + 1) = filtP p xs k) := fun k x => filtP_no
  rw [show xs.filter p = filtP p xs xs.length by unfold filtP; rw [List.take_of_length_le (Nat.le_refl _)]]
  have P0 : Hid (filtP p xs 0 = []) := (rfl : filtP p xs 0 = [])
  clear h hf hD
  generalize filtP p xs = P at *
  generalize hn : xs.length = n at *
  clear hn
  go_enter Try.func42, Try.ntmps42
  go_wp2_with fail
  go_loopg [5, 10] n (fun gg v s10 wr => ∃ k : Nat, k ≤ n ∧ n - k ≤ gg ∧ s10 = .int .i64 k ∧ Hid (wr.ownsRow w.heap.size 3 1 v (P k).length ((P k).map (Value.int .i64))) ∧ Hid (Below w.heap.size w wr))
  case atStart => exact ⟨0, Nat.zero_le _, by omega, rfl, (show World.ownsRow _ _ _ _ _ _ _ by rw [P0.out]; exact World.ownsRow_nil _ _ _ _), Below.refl _ _⟩
  case round =>
    obtain ⟨k, hk, hgg, rfl, O, BB⟩ := hrel
    by_cases hlt : k < n
    · obtain ⟨x, hx⟩ := GET.out k hlt
      obtain ⟨a, e, hal, hc⟩ := (H.out.below BB.out) k x hx
      subst e
      have hl2 : (a.add k).block < wr.heap.size := by rw [Go.ChangeShapes.block_add]; exact hal
      have hcall := HF.out wr x BB.out (DD.out x (List.mem_of_getElem? hx))
      have HX := Lib.hid hx
      have L1 := PL.out k
      clear hx
      cases hq : p x with
      | true =>
        rw [hq] at hcall
        have E1 := Lib.hid (PY.out k x HX.out hq)
        have CALL := Lib.hid hcall
        clear hq hcall
        go_wp2_with (first
          | (go_at_fn g; refine CALL.out.mono ?_; rintro e w1 ⟨rfl, hb1⟩; have B1 := Lib.hid hb1; clear hb1)
          | (at_builtin; refine wpList_append_own _ rfl (.tmp 17) (.tmp 19) _ rfl w.heap.size 3 i0 _ 1 8 Try.underlying25 hi hz0 hz1 hz2 rfl (by decide) _ _ _ rfl ((own_below O.out B1.out).alloc _) ⟨w1.heap.size, 0, none⟩ 1 1 [.int .i64 x] rfl rfl one_cell (by simp [Value.oneCell']) (by unfold maxLen; omega) (by omega) (by have := BB.out.size; have := B1.out.size; simp; omega) ?_; intro v' w2 hown2 hg2 _))
        have R := refs_step (own_below O.out B1.out) (BB.out.trans (B1.out.mono BB.out.size)) hown2 hg2 E1.out
        have R1 := Lib.hid R.1
        have R2 := Lib.hid R.2
        clear hown2 hg2 R
        go_roundg (n - (k + 1))
        case measure => omega
        case rel => exact ⟨k + 1, by omega, by omega, by go_num, R1, R2⟩
      | false =>
        rw [hq] at hcall
        have E1 := Lib.hid (PN.out k x HX.out hq)
        have CALL := Lib.hid hcall
        clear hq hcall
        go_wp2_with (go_at_fn g; refine CALL.out.mono ?_; rintro e w1 ⟨rfl, hb1⟩; have B1 := Lib.hid hb1; clear hb1)
        go_roundg (n - (k + 1))
        case measure => omega
        case rel => exact ⟨k + 1, by omega, by omega, by go_num, (by rw [E1.out]; exact own_below O.out B1.out), BB.out.trans (B1.out.mono BB.out.size)⟩
    · have hkn : k = n := by omega
      subst hkn
      go_wp2_with fail
      go_ret
      exact ⟨_, rfl, O.out, BB.out⟩
set_option maxHeartbeats 2000000 in
theorem tcount_any {w : World} {A : Option Addr} {c : Nat} {xs : List Int} (hl : xs.length ≤ 1099511627776) (h : IntsAt w A xs) (hr : ∀ x ∈ xs, 1 ≤ x ∧ x ≤ 2147483647) :
    Calls Try.prog 40 #[.slice A xs.length c] w fun e w' => ∃ mb, e = .returned (.map (some mb)) ∧ MapI w' mb (cntF xs) ∧ w.heap.size ≤ mb ∧ Below w.heap.size w w' := by
  have H := Lib.hid h
  have RG := Lib.hid hr
  have GET : Hid (∀ i, i < xs.length → ∃ p, xs[i]? = some p) := fun i hi => ⟨_, List.getElem?_eq_getElem hi⟩
  have FULL : Hid (xs.take xs.length = xs) := List.take_of_length_le (Nat.le_refl _)
  clear h hr
  generalize hn : xs.length = n at *
  clear hn
  have hmm := @run_makeMap Try.prog
  have M0 : Hid (MapI (w.alloc (.map #[] 0)) w.heap.size (cntF (xs.take 0))) := (MapI.made w).congr (fun _ _ => by simp [cntF, wrap64])
  go_enter Try.func40, Try.ntmps40
  go_wp2_with fail
  go_loopg [9] n (fun gg s9 wr => ∃ k : Nat, k ≤ n ∧ n - k ≤ gg ∧ s9 = .int .i64 k ∧ Hid (MapI wr w.heap.size (cntF (xs.take k))) ∧ Hid ((w.alloc (.map #[] 0)).grownBy wr (some w.heap.size)))
  case atStart => exact ⟨0, Nat.zero_le _, by omega, rfl, M0, ⟨rfl, rfl, rfl, Nat.le_refl _, fun _ _ _ => rfl⟩⟩
  case round =>
    obtain ⟨k, hk, hgg, rfl, M, GW⟩ := hrel
    by_cases hlt : k < n
    · obtain ⟨x, hx⟩ := GET.out k hlt
      obtain ⟨ad, e, hal, hc⟩ := H.out k x hx
      subst e
      have hal2 : (ad.add k).block < w.heap.size := by rw [Go.ChangeShapes.block_add]; exact hal
      have d0 : wr.cell? (ad.add k) = some (.int .i64 x) := (GW.out.cell (((Below.refl _ w).alloc (Nat.le_refl _) _).cell (p := ad.add k) hal2 |>.trans hc) (by intro e; injection e with e; omega))
      have hr := RG.out x (List.mem_of_getElem? hx)
      have HX := Lib.hid hx
      have hget := M.out.run_get (k := x) ⟨by omega, by omega⟩
      obtain ⟨y, hy⟩ : ∃ y, y = cntF (xs.take k) x := ⟨_, rfl⟩
      rw [← hy] at hget
      obtain ⟨w', hput, hM', hG'⟩ := M.out.run_put hr.1 hr.2 (w64_wf (y + 1))
      have HM' := Lib.hid hM'
      have HG' := Lib.hid hG'
      have HY := Lib.hid hy
      clear hx hc hr hM' hG' hy
      have FS : Hid (∀ v, wf64 v → putI (cntF (xs.take k)) x (wrap64 (y + 1)) v = cntF (xs.take (k + 1)) v) := fun v _ => by
        rw [HY.out, cntF_snoc, List.take_add_one, HX.out]; rfl
      go_wp2_with fail
      go_roundg (n - (k + 1))
      case measure => omega
      case rel => exact ⟨k + 1, by omega, by omega, by go_num, HM'.out.congr FS.out, grown_trans GW.out HG'.out⟩
    · have hkn : k = n := by omega
      rw [hkn, FULL.out] at M
      clear hkn
      go_wp2_with fail
      go_ret
      exact ⟨_, rfl, M.out, Nat.le_refl _, ((Below.refl _ w).alloc (Nat.le_refl _) _).grown GW.out (by simp) fun k hk => (by injection hk with hk; omega)⟩
end Go.Proofs.Ytjlobjgemhapaaa
