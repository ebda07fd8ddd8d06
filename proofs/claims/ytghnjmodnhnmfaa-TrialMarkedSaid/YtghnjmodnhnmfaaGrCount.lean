/- graph.count: how often each number stands in slots, and in more. -/
import Derived.Test.YtghnjmodnhnmfaaBase
import Derived.Test.YtghnjmodnhnmfaaGrWhich
namespace Go.Proofs.Ytghnjmodnhnmfaa
set_option maxRecDepth 20000
set_option maxRecDepth 20000
open Go.RowKit Go.Maps

theorem refs_values {A : Option Addr} {c : Nat} {l : List (Int × Int)} {w : World} (hl : l.length * 16 ≤ 140737488355328) (h : PairsAt w A l) :
    Calls Try.prog 24 #[.slice A l.length c] w fun e w' => ∃ A' c', e = .returned (.slice A' (refsL l).length c') ∧ (∀ (i : Nat) x, (refsL l)[i]? = some x → ∃ ad, A' = some ad ∧ w.heap.size ≤ ad.block ∧ ad.block < w'.heap.size ∧ w'.cell? (ad.add i) = some (.int .i64 x)) ∧ Below w.heap.size w w' := by
  refine (Refs_any A c l w hl h).mono ?_
  rintro e w' ⟨v, rfl, ho, hb⟩
  have h0 := ho
  rcases ho.2 with ⟨rfl, h1⟩ | ⟨g, cap, cur, rfl, hg1, hg, _⟩
  · refine ⟨none, 0, by rw [h1], fun i x hx => ?_, hb⟩
    rw [List.length_eq_zero_iff.1 h1] at hx; simp at hx
  · refine ⟨some ⟨g, 0, none⟩, cap, rfl, fun i x hx => ⟨_, rfl, hg1, (Array.getElem?_eq_some_iff.1 hg).1, h0.cells rfl i _ (by simp [hx])⟩, hb⟩
theorem grown_trans {a b c : World} {r : Option Nat} (h : a.grownBy b r) (k : b.grownBy c r) : a.grownBy c r :=
  ⟨k.os.trans h.os, k.tape.trans h.tape, k.output.trans h.output, Nat.le_trans h.size k.size, fun i hi hne => (k.block i (Nat.lt_of_lt_of_le hi h.size) hne).trans (h.block i hi hne)⟩
theorem grown_below {a b : World} {r : Option Nat} (h : Below a.heap.size a b) : a.grownBy b r := ⟨h.os, h.tape, h.output, h.size, fun k hk _ => h.block k hk⟩
set_option maxHeartbeats 2000000 in
theorem add_any {w : World} {A : Option Addr} {c : Nat} {l : List (Int × Int)} (hl : l.length * 16 ≤ 140737488355328) (h : PairsAt w A l) (bm mb : Nat) (hbm : w.cell? ⟨bm, 0, none⟩ = some (.map (some mb))) (hne : bm ≠ mb) (L : List Int) (hm : MapI w mb (cntF L)) :
    Calls Try.prog 164 #[.slice A l.length c, bV bm] w fun e w' => e = .returned (.tuple #[]) ∧ MapI w' mb (cntF (L ++ refsL l)) ∧ w.grownBy w' (some mb) := by
  have HR := Lib.hid (refs_values (c := c) hl h)
  have RG : Hid (∀ x, x ∈ refsL l → 1 ≤ x ∧ x ≤ 2147483647) := fun x hx => refs_range hx
  have LN := refsL_len l
  have hbl : bm < w.heap.size := World.block_lt_of_cell? w _ hbm
  have HM := Lib.hid hm
  have hml := hm.lt
  clear h hm
  generalize refsL l = X at *
  obtain ⟨n, hn⟩ : ∃ n, n = X.length := ⟨_, rfl⟩
  rw [← hn] at HR LN
  have GET : Hid (∀ i, i < n → ∃ p, X[i]? = some p) := fun i hi => ⟨_, List.getElem?_eq_getElem (by omega)⟩
  have FULL : Hid (X.take n = X) := List.take_of_length_le (by omega)
  clear hn
  go_enter Try.func164, Try.ntmps164
  go_wp2_with (go_at_call 24; refine HR.out.mono ?_; rintro e w1 ⟨A1, c1, rfl, hi, hb⟩; have I1 := Lib.hid hi; have B1 := Lib.hid hb; clear hi hb)
  go_loopw [8] (fun i wr => ∃ k : Nat, k ≤ n ∧ i = .int .i64 k ∧ Hid (MapI wr mb (cntF (L ++ X.take k))) ∧ Hid (w1.grownBy wr (some mb))) (fun i _ => n - (intOf i).toNat)
  case atStart => exact ⟨0, Nat.zero_le _, rfl, (show MapI _ _ _ from by rw [List.take_zero, List.append_nil]; exact HM.out.keep (B1.out.block _ hml)), ⟨rfl, rfl, rfl, Nat.le_refl _, fun _ _ _ => rfl⟩⟩
  case round =>
    obtain ⟨k, hk, rfl, M, GW⟩ := hrel
    by_cases hlt : k < n
    · obtain ⟨x, hx⟩ := GET.out k hlt
      obtain ⟨ad, e, hge, hal, hc⟩ := I1.out k x hx
      subst e
      have d0 : wr.cell? (ad.add k) = some (.int .i64 x) := (GW.out.cell hc (by rw [Go.ChangeShapes.block_add]; intro e; injection e with e; omega))
      have dm : wr.cell? ⟨bm, 0, none⟩ = some (.map (some mb)) := GW.out.cell ((B1.out.cell (p := ⟨bm, 0, none⟩) hbl).trans hbm) (by simpa using hne)
      have hr := RG.out x (List.mem_of_getElem? hx)
      have HX := Lib.hid hx
      have HRG := Lib.hid hr
      have hget := M.out.run_get (k := x) ⟨by omega, by omega⟩
      obtain ⟨y, hy⟩ : ∃ y, y = cntF (L ++ X.take k) x := ⟨_, rfl⟩
      rw [← hy] at hget
      obtain ⟨w', hput, hM', hG'⟩ := M.out.run_put hr.1 hr.2 (w64_wf (y + 1))
      have HM' := Lib.hid hM'
      have HG' := Lib.hid hG'
      have HY := Lib.hid hy
      clear hx hc hr hM' hG' hy
      have FS : Hid (∀ v, wf64 v → putI (cntF (L ++ X.take k)) x (wrap64 (y + 1)) v = cntF (L ++ X.take (k + 1)) v) := fun v _ => by
        rw [HY.out, cntF_snoc, List.take_add_one, HX.out, List.append_assoc]; rfl
      go_wp2_with fail
      go_roundw
      case rel => exact ⟨k + 1, by omega, by go_num, HM'.out.congr FS.out, grown_trans GW.out HG'.out⟩
      case measure => simp [intOf]; omega
    · have hkn : k = n := by omega
      rw [hkn, FULL.out] at M
      clear hkn
      go_wp2_with fail
      refine bodyPost_end (results_none rfl _ _ _) rfl ?_
      exact ⟨rfl, M.out, grown_trans (grown_below B1.out) GW.out⟩
set_option maxHeartbeats 2000000 in
theorem count_any {w : World} {A : Option Addr} {c : Nat} {g : List OB} (hg : GAt w A g) (hn : g.length * 64 ≤ 140737488355328) {B : Option Addr} {d : Nat} {more : List (Int × Int)} (hB : PairsAt w B more) (hl : more.length * 16 ≤ 140737488355328) :
    Calls Try.prog 126 #[gV A g.length c, .slice B more.length d] w fun e w' => ∃ mb, e = .returned (.map (some mb)) ∧ MapI w' mb (cntF (allRefs g ++ refsL more)) ∧ w.heap.size ≤ mb ∧ Below w.heap.size w w' := by
  have hmf := hmf2
  have G := Lib.hid hg
  have BM := Lib.hid hB
  have AD : Hid (∀ W o sA sc bm mb L, SlotsAt W o sA → W.cell? ⟨bm, 0, none⟩ = some (.map (some mb)) → bm ≠ mb → MapI W mb (cntF L) → Calls Try.prog 164 #[.slice sA o.slots.length sc, bV bm] W fun e w' => e = .returned (.tuple #[]) ∧ MapI w' mb (cntF (L ++ refsL o.slots)) ∧ W.grownBy w' (some mb)) :=
    fun W o sA sc bm mb L hs h1 h2 h3 => add_any hs.2 hs.1 bm mb h1 h2 L h3
  have AM : Hid (∀ W bm mb L, PairsAt W B more → W.cell? ⟨bm, 0, none⟩ = some (.map (some mb)) → bm ≠ mb → MapI W mb (cntF L) → Calls Try.prog 164 #[.slice B more.length d, bV bm] W fun e w' => e = .returned (.tuple #[]) ∧ MapI w' mb (cntF (L ++ refsL more)) ∧ W.grownBy w' (some mb)) :=
    fun W bm mb L hs h1 h2 h3 => add_any hl hs bm mb h1 h2 L h3
  have GET : Hid (∀ i, i < g.length → ∃ p, g[i]? = some p) := fun i hi => ⟨_, List.getElem?_eq_getElem hi⟩
  have FULL : Hid (g.take g.length = g) := List.take_of_length_le (Nat.le_refl _)
  clear hg hB hl
  generalize hlen : g.length = n at *
  clear hlen
  have hmm := @run_makeMap Try.prog
  go_enter Try.func126, Try.ntmps126
  go_wp2_with fail
  go_loopw [14] (fun i wr => ∃ k : Nat, k ≤ n ∧ i = .int .i64 k ∧ Hid (MapI wr (w.heap.size + 1) (cntF (allRefs (g.take k)))) ∧ Hid (Below w.heap.size w wr) ∧ w.heap.size + 1 + 1 < wr.heap.size ∧ wr.cell? ⟨w.heap.size + 1 + 1, 0, none⟩ = some (.map (some (w.heap.size + 1)))) (fun i _ => n - (intOf i).toNat)
  case atStart =>
    have b1 : Below w.heap.size w (w.alloc (.cells #[.slice A n c] 24 (0, 0))) := (Below.refl _ _).alloc (Nat.le_refl _) _
    have m1 := MapI.made (w.alloc (.cells #[.slice A n c] 24 (0, 0)))
    have e1 : (w.alloc (.cells #[.slice A n c] 24 (0, 0))).heap.size = w.heap.size + 1 := by simp
    rw [e1] at m1
    have m2 : MapI _ _ (cntF (allRefs (g.take 0))) := m1.congr (fun _ _ => by simp [cntF, allRefs, wrap64])
    exact ⟨0, Nat.zero_le _, rfl, (show MapI _ _ _ from m2.keep (Below.heap_alloc _ _ _ (by simp))), (show Below _ _ _ from (b1.alloc b1.size _).alloc (by simp; omega) _), by simp, by simp [go_sem]⟩
  case round =>
    obtain ⟨k, hk, rfl, M, BB, hsz, hcb⟩ := hrel
    by_cases hlt : k < n
    · obtain ⟨o, ho⟩ := GET.out k hlt
      obtain ⟨a, sA, sc, e, hal, hc, hs⟩ := (G.out.below BB.out) k o ho
      subst e
      obtain ⟨c0, c1, c2, c3, c4⟩ := hc
      have HS := Lib.hid hs
      have ED : Hid (allRefs (g.take (k + 1)) = allRefs (g.take k) ++ refsL o.slots) := allRefs_snoc ho
      have hl2 : (a.add (k * 5)).block < wr.heap.size := by rw [Go.ChangeShapes.block_add]; exact hal
      clear ho hs
      have CALL : Hid (∀ (oo : Obj), Calls Try.prog 164 #[.slice sA o.slots.length sc, bV (w.heap.size + 1 + 1)] (wr.alloc oo) fun e w' => e = .returned (.tuple #[]) ∧ MapI w' (w.heap.size + 1) (cntF (allRefs (g.take (k + 1)))) ∧ (wr.alloc oo).grownBy w' (some (w.heap.size + 1))) := fun oo => by
        have b2 : Below wr.heap.size wr (wr.alloc oo) := (Below.refl _ _).alloc (Nat.le_refl _) _
        rw [ED.out]
        exact AD.out _ o sA sc _ _ _ (HS.out.below b2) ((b2.cell (p := ⟨w.heap.size + 1 + 1, 0, none⟩) hsz).trans hcb) (by omega) (M.out.keep (b2.block _ M.out.lt))
      go_wp2_with (go_at_call 164; refine (CALL.out _).mono ?_; rintro e w1 ⟨rfl, hM, hG⟩; have M1 := Lib.hid hM; have G1 := Lib.hid hG; clear hM hG)
      have B2 : Hid (Below w.heap.size w w1) := (BB.out.alloc BB.out.size _).grown G1.out (by have := BB.out.size; simp; omega) fun k hk => by injection hk with hk; omega
      have z1 : wr.heap.size < w1.heap.size := by have := G1.out.size; simp at this; omega
      have c1' : w1.cell? ⟨w.heap.size + 1 + 1, 0, none⟩ = some (.map (some (w.heap.size + 1))) := G1.out.cell (((Below.refl _ _).alloc (Nat.le_refl _) _ : Below wr.heap.size wr (wr.alloc _)).cell (p := ⟨w.heap.size + 1 + 1, 0, none⟩) hsz |>.trans hcb) (by simp)
      go_roundw
      case rel => exact ⟨k + 1, by omega, by go_num, M1, B2, by omega, c1'⟩
      case measure => simp [intOf]; omega
    · have hkn : k = n := by omega
      rw [hkn, FULL.out] at M
      have CALL := Lib.hid (AM.out wr (w.heap.size + 1 + 1) (w.heap.size + 1) _ (pairs_below BM.out BB.out) hcb (by omega) M.out)
      clear hkn M
      go_wp2_with (go_at_call 164; refine CALL.out.mono ?_; rintro e w1 ⟨rfl, hM, hG⟩; have M1 := Lib.hid hM; have c1' : w1.cell? ⟨w.heap.size + 1 + 1, 0, none⟩ = some (.map (some (w.heap.size + 1))) := hG.cell hcb (by simp); have B2 : Hid (Below w.heap.size w w1) := BB.out.grown hG BB.out.size fun k hk => (by injection hk with hk; omega); clear hM hG)
      go_ret
      exact ⟨_, rfl, M1.out, by omega, B2.out⟩
end Go.Proofs.Ytghnjmodnhnmfaa
