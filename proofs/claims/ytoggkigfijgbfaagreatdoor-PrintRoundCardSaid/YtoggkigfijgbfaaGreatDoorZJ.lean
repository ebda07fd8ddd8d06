/- print.Same and print.Print at trees as statements have them. | What is written of a source; the chapter's rows. -/
import Derived.Test.YtoggkigfijgbfaaGreatDoorZPrSame4
import Derived.Test.YtoggkigfijgbfaaGreatDoorZPrSame5
import Derived.Test.YtoggkigfijgbfaaGreatDoorZI
import Derived.Test.YtoggkigfijgbfaaGreatDoorZOldRef
import Derived.Test.YtoggkigfijgbfaaGreatDoorZF
namespace Go.Proofs.YtoggkigfijgbfaaGreatDoor.P6
set_option maxRecDepth 20000
open Go.RowKit Go.Extern.Stop Go.Stop Go.Extern

theorem sspec {b : World} {p : Nat} (hp : b.heap.size ≤ p) : ∀ n, SSpec b p n
  | 0 => ⟨fun _ _ _ _ h => absurd h (Nat.not_lt_zero _), fun _ _ _ _ h => absurd h (Nat.not_lt_zero _)⟩
  | n + 1 => ⟨fun a c d e h => ofExpr_next (sspec hp n) hp a c d e h, fun a c d e h => ofStmt_next (sspec hp n) hp a c d e h⟩
/-- Same: alike but for lines, and not too many parts. -/
theorem Same_any {b w : World} {t u : Tree} {x y : Value} (hB : Below b.heap.size b w) (hX : TL b .ss t x) (hY : TL b .ss u y) :
    Calls Tryz.prog 20 #[x, y] w fun e w' => e = .returned (.bool (eqT t u && decide (sizeT t ≤ 65536))) ∧ Below w.heap.size w w' := by
  have P1 : Below w.heap.size w (w.alloc (.cells #[iV 0] 90)) := (Below.refl _ _).alloc (Nat.le_refl _) _
  have PP : PA (w.alloc (.cells #[iV 0] 90)) w.heap.size 0 := ⟨by simp [go_sem], by simp [go_sem], by omega⟩
  have C := Lib.hid ((sspec hB.size (depthT t + 1)).ofStmts hB.size (hB.trans (P1.mono hB.size)) PP hX hY (Nat.lt_succ_self _))
  have PB := Lib.hid P1
  clear hX hY hB PP P1
  go_enter Tryz.func20, Tryz.ntmps20
  go_wp2_with (go_at_call 40; (with_reducible refine C.out.mono ?_); rintro e w1 hC; have hr := hC.ret; have hq := Lib.hid hC.past; clear hC; rw [Nat.zero_add] at hr; subst hr)
  go_ret
  exact ⟨rfl, PB.out.trans (hq.out.toBelow PB.out.size (by intro i hi; simp at hi; omega))⟩
/-- What Print answers. -/
def printR (t : Tree) : List UInt8 × Int := match textF t with
  | .out => ([], 0)
  | .bad c => ([], c)
  | .ok s _ => match readF s with
    | .out => ([], 0)
    | .bad c _ => ([], if c = 3 then 3 else 2)
    | .ok x _ => if (eqT x t && decide (sizeT x ≤ 65536)) = true then (s, 0) else ([], 2)
theorem noIsE (v : Value) (xT : TypeId) (w : World) : (Instr.typeAssert (.iface 29 v) xT 158 true).run Tryz.prog w = .ok (.tuple #[.nilIface, .bool false]) w := run_typeAssert_lacksB Tryz.underlying158 (by kernel_rfl) (by kernel_rfl) v xT w
theorem noUnE (v : Value) (xT : TypeId) (w : World) : (Instr.typeAssert (.iface 29 v) xT 153 true).run Tryz.prog w = .ok (.tuple #[.nilIface, .bool false]) w := run_typeAssert_lacksB Tryz.underlying153 (by kernel_rfl) (by kernel_rfl) v xT w
theorem noUnsE (v : Value) (xT : TypeId) (w : World) : (Instr.typeAssert (.iface 29 v) xT 155 true).run Tryz.prog w = .ok (.tuple #[.nilIface, .bool false]) w := run_typeAssert_lacksB Tryz.underlying155 (by kernel_rfl) (by kernel_rfl) v xT w
set_option maxHeartbeats 2000000 in
/-- errors.Is at a fault and another number. -/
theorem is_other (pb : Nat) (c d : Int) (hcd : c ≠ d) (w : World) (h0 : w.cell? ⟨pb, 0, none⟩ = some (.int .i64 c)) :
    Calls Tryz.prog 34 #[.iface 59 (.pointer (some ⟨pb, 0, none⟩)), .iface 29 (.int .i64 d)] w fun e w' => e = .returned (.bool false) ∧ w' = w := by
  obtain ⟨b0, tT, cT⟩ := isFactsE
  have nW := noIsF
  have uW := hasUnwrapF
  have n1 := noIsE
  have n2 := noUnE
  have n3 := noUnsE
  have heq := Lib.run_eql_iface_int (P := Tryz.prog) (tx := 29) w (k := .i64) c d Tryz.underlying26 isCompE Tryz.underlying29
  rw [beq_eq_false_iff_ne.2 hcd] at heq
  have hty := run_eql_iface_types (P := Tryz.prog) 59 29 (.pointer (some ⟨pb, 0, none⟩)) (.int .i64 d) Tryz.underlying26 (by decide) w
  go_enter Tryz.func34, Tryz.ntmps34
  go_wp2
  refine wp_loop_rounds 2 ?_
  rw [rounds_succ]
  go_wp2
  rw [rounds_succ]
  go_wp2
  go_ret
  exact ⟨rfl, rfl⟩
set_option maxHeartbeats 2000000 in
/-- errors.Is at no error. -/
theorem is_none (d : Int) (w : World) :
    Calls Tryz.prog 34 #[.nilIface, .iface 29 (.int .i64 d)] w fun e w' => e = .returned (.bool false) ∧ w' = w := by
  have ne : ∀ W : World, (binOp BinOp.eql 26 .nilIface (.iface 29 (.int .i64 d))).run Tryz.prog W = .ok (.bool false) W := fun W => by kernel_rfl
  go_enter Tryz.func34, Tryz.ntmps34
  go_wp2
  go_ret
  exact ⟨rfl, rfl⟩
theorem tl_read {lo : Nat} {w : World} {x : Tree} {v : Value} (h : P5.VL lo x w v) (ho : okT .ss x = true ∧ lenT x ≤ 1048576) : TL w .ss x v := by
  obtain ⟨A, c, rfl, hr⟩ := h
  exact ⟨⟨A, c, rfl, (at_keep (fun g hg => ⟨hg.2, rfl⟩) x).2 _ _ hr⟩, ho.1, ho.2⟩
theorem vl_zero {lo : Nat} {w : World} {x : Tree} {v : Value} (h : P5.VL lo x w v) : P5.VL 0 x w v := by
  obtain ⟨A, c, rfl, hr⟩ := h
  exact ⟨A, c, rfl, (at_keep (fun g hg => ⟨⟨Nat.zero_le _, hg.2⟩, rfl⟩) x).2 _ _ hr⟩
theorem TL.below {b w : World} {q : Srt} {t : Tree} {v : Value} (h : TL b q t v) (hB : Below b.heap.size b w) : TL w q t v := by
  obtain ⟨⟨A, c, rfl, hr⟩, ho, hf⟩ := h
  exact ⟨⟨A, c, rfl, (at_keep (fun g hg => ⟨Nat.lt_of_lt_of_le hg hB.size, hB.block g hg⟩) t).2 _ _ hr⟩, ho, hf⟩
set_option maxHeartbeats 4000000 in
theorem Print_any {w : World} {t : Tree} {v : Value} (hE : Env4 w) (ht : TL w .ss t v) :
    Calls Tryz.prog 16 #[v] w fun e w' => e = .returned (.tuple #[sV (printR t).1, iV (printR t).2]) ∧ Below w.heap.size w w' := by
  have hF := text_fin t
  have T := textOf_any (8 * depthT t + 4) hE (Below.refl _ _) ht (fun h => by have h2 := hF; unfold textF at h2; rw [h] at h2; exact h2)
  change Calls _ _ _ _ (TextEnds (textF t) w) at T
  have HT := Lib.hid ht
  have HE := Lib.hid hE
  clear ht hE
  cases hr : textF t with
  | out => rw [hr] at hF; exact hF.elim
  | bad c =>
    rw [hr] at hF T
    have hc : (c != 0) = true := by rcases hF with rfl | rfl <;> decide
    have hp : printR t = ([], c) := by unfold printR; rw [hr]
    rw [hp]
    replace T := Lib.hid T
    clear hF hr HT HE hp
    go_enter Tryz.func16, Tryz.ntmps16
    go_wp2_with (go_at_call 37; (with_reducible refine T.out.mono ?_); rintro e w1 ⟨hb, rfl⟩; replace hb := Lib.hid hb)
    go_ret2
    exact ⟨rfl, hb.out⟩
  | ok s k =>
    rw [hr] at T
    replace T := Lib.hid T
    clear hF
    have hRE := read_ends s
    have RD := fun (w1 : World) (hb : Below w.heap.size w w1) => P5.Parse_all 1100000 (by omega) ⟨s.toArray⟩ w1 (HE.out.below hb) (by simpa [readF] using hRE.1)
    simp only [] at RD
    change ∀ w1, Below w.heap.size w w1 → Calls _ _ _ _ (P5.GivesP (readF s) w1) at RD
    cases hq : readF s with
    | out => exact absurd hq hRE.1
    | bad c l =>
      rw [hq] at RD
      replace RD := Lib.hid RD
      by_cases h3 : c = 3
      · subst h3
        have hp : printR t = ([], 3) := by unfold printR; rw [hr]; dsimp only; rw [hq]; dsimp only; rw [if_pos rfl]
        rw [hp]
        clear hq hRE hp hr
        go_enter Tryz.func16, Tryz.ntmps16
        go_wp2_with (first
          | (go_at_call 37; (with_reducible refine T.out.mono ?_); rintro e w1 ⟨hb, rfl⟩; replace hb := Lib.hid hb)
          | (go_at_call 11; (with_reducible refine (RD.out _ hb.out).mono ?_); rintro e w2 ⟨hb2, bb, rfl, hlo, hf⟩; replace hb2 := Lib.hid (hb.out.trans (hb2.mono hb.out.size)); replace hf := Lib.hid hf; clear hlo)
          | (go_at_call 34; refine (is_fault bb 3 _ hf.out.1).mono ?_; rintro e w3 ⟨rfl, hq⟩; obtain rfl := hq.symm; skip))
        go_ret2
        exact ⟨rfl, hb2.out⟩
      · have hp : printR t = ([], 2) := by unfold printR; rw [hr]; dsimp only; rw [hq]; dsimp only; rw [if_neg h3]
        rw [hp]
        clear hq hRE hp hr
        go_enter Tryz.func16, Tryz.ntmps16
        go_wp2_with (first
          | (go_at_call 37; (with_reducible refine T.out.mono ?_); rintro e w1 ⟨hb, rfl⟩; replace hb := Lib.hid hb)
          | (go_at_call 11; (with_reducible refine (RD.out _ hb.out).mono ?_); rintro e w2 ⟨hb2, bb, rfl, hlo, hf⟩; replace hb2 := Lib.hid (hb.out.trans (hb2.mono hb.out.size)); replace hf := Lib.hid hf; clear hlo)
          | (go_at_call 34; refine (is_other bb c 3 h3 _ hf.out.1).mono ?_; rintro e w3 ⟨rfl, hq⟩; obtain rfl := hq.symm; skip))
        go_ret2
        exact ⟨rfl, hb2.out⟩
    | ok x ts =>
      rw [hq] at RD
      replace RD := Lib.hid RD
      have ho := hRE.2 x ts hq
      have SM := Lib.hid (fun (w2 : World) (v2 : Value) (hb : Below w.heap.size w w2) (hv : P5.VL 0 x w2 v2) => Same_any (Below.refl _ w2) (tl_read hv ho) (HT.out.below hb))
      cases hk : (eqT x t && decide (sizeT x ≤ 65536)) with
      | true =>
        rw [hk] at SM
        have hp : printR t = (s, 0) := by unfold printR; rw [hr]; dsimp only; rw [hq]; dsimp only; rw [if_pos hk]
        rw [hp]
        clear hq hRE ho hk hp hr
        go_enter Tryz.func16, Tryz.ntmps16
        go_wp2_with (first
          | (go_at_call 37; (with_reducible refine T.out.mono ?_); rintro e w1 ⟨hb, rfl⟩; replace hb := Lib.hid hb)
          | (go_at_call 11; (with_reducible refine (RD.out _ hb.out).mono ?_); rintro e w2 ⟨hb2, vr, rfl, hv⟩; replace hb2 := Lib.hid (hb.out.trans (hb2.mono hb.out.size)); replace hv := Lib.hid (vl_zero hv))
          | (go_at_call 34; refine (is_none 3 _).mono ?_; rintro e w3 ⟨rfl, hq⟩; obtain rfl := hq.symm; skip)
          | (go_at_call 20; (with_reducible refine (SM.out _ _ hb2.out hv.out).mono ?_); rintro e w3 ⟨rfl, hb3⟩; replace hb2 := Lib.hid (hb2.out.trans (hb3.mono hb2.out.size))))
        go_ret2
        exact ⟨rfl, hb2.out⟩
      | false =>
        rw [hk] at SM
        have hp : printR t = ([], 2) := by unfold printR; rw [hr]; dsimp only; rw [hq]; dsimp only; rw [if_neg (by rw [hk]; decide)]
        rw [hp]
        clear hq hRE ho hk hp hr
        go_enter Tryz.func16, Tryz.ntmps16
        go_wp2_with (first
          | (go_at_call 37; (with_reducible refine T.out.mono ?_); rintro e w1 ⟨hb, rfl⟩; replace hb := Lib.hid hb)
          | (go_at_call 11; (with_reducible refine (RD.out _ hb.out).mono ?_); rintro e w2 ⟨hb2, vr, rfl, hv⟩; replace hb2 := Lib.hid (hb.out.trans (hb2.mono hb.out.size)); replace hv := Lib.hid (vl_zero hv))
          | (go_at_call 34; refine (is_none 3 _).mono ?_; rintro e w3 ⟨rfl, hq⟩; obtain rfl := hq.symm; skip)
          | (go_at_call 20; (with_reducible refine (SM.out _ _ hb2.out hv.out).mono ?_); rintro e w3 ⟨rfl, hb3⟩; replace hb2 := Lib.hid (hb2.out.trans (hb3.mono hb2.out.size))))
        go_ret2
        exact ⟨rfl, hb2.out⟩
end Go.Proofs.YtoggkigfijgbfaaGreatDoor.P6
namespace Go.Proofs.YtoggkigfijgbfaaGreatDoor.P6
set_option maxRecDepth 20000
open Go.RowKit

def againF (t : List UInt8) : List UInt8 := match readF t with
  | .ok x _ => (printR x).1
  | _ => []
set_option maxHeartbeats 4000000 in
theorem again_any {w : World} (hE : Env4 w) (s : ByteArray) : Calls Tryz.prog 22 #[.string s] w fun e w' => e = .returned (sV (againF s.data.toList)) ∧ Below w.heap.size w w' := by
  have hRE := read_ends s.data.toList
  have RD := P5.Parse_all 1100000 (by omega) s w hE (by simpa [readF] using hRE.1)
  change Calls _ _ _ _ (P5.GivesP (readF s.data.toList) w) at RD
  have HE := Lib.hid hE
  unfold againF
  clear hE
  cases hq : readF s.data.toList with
  | out => exact absurd hq hRE.1
  | bad c l =>
    rw [hq] at RD
    replace RD := Lib.hid RD
    clear hq hRE
    go_enter Tryz.func22, Tryz.ntmps22
    go_wp2_with (go_at_call 11; (with_reducible refine RD.out.mono ?_); rintro e w2 ⟨hb2, bb, rfl, hlo, hf⟩; replace hb2 := Lib.hid hb2; clear hlo hf)
    go_ret
    exact ⟨rfl, hb2.out⟩
  | ok x ts =>
    rw [hq] at RD
    replace RD := Lib.hid RD
    have ho := hRE.2 x ts hq
    have PR := Lib.hid (fun (w2 : World) (v2 : Value) (hb : Below w.heap.size w w2) (hv : P5.VL 0 x w2 v2) => Print_any (HE.out.below hb) (tl_read hv ho))
    dsimp only
    generalize printR x = r at PR
    obtain ⟨r1, r2⟩ := r
    clear hq hRE ho
    go_enter Tryz.func22, Tryz.ntmps22
    go_wp2_with (first
      | (go_at_call 11; (with_reducible refine RD.out.mono ?_); rintro e w2 ⟨hb2, vr, rfl, hv⟩; replace hb2 := Lib.hid hb2; replace hv := Lib.hid (vl_zero hv))
      | (go_at_call 16; (with_reducible refine (PR.out _ _ hb2.out hv.out).mono ?_); rintro e w3 ⟨rfl, hb3⟩; replace hb2 := Lib.hid (hb2.out.trans (hb3.mono hb2.out.size))))
    go_ret
    exact ⟨rfl, hb2.out⟩
theorem again1 : againF [97, 61, 49, 43, 50, 42, 51, 32, 98, 32, 61, 32, 40, 49, 43, 50, 41, 42, 51] = [97, 32, 61, 32, 49, 32, 43, 32, 50, 32, 42, 32, 51, 10, 98, 32, 61, 32, 40, 49, 32, 43, 32, 50, 41, 32, 42, 32, 51, 10] := by kernel_rfl
theorem again2 : againF [116, 91, 34, 120, 34, 93, 61, 45, 40, 45, 49, 41, 32, 116, 91, 34, 101, 110, 100, 34, 93, 61, 110, 111, 116, 32, 40, 97, 61, 61, 98, 41] = [116, 46, 120, 32, 61, 32, 45, 32, 45, 32, 49, 10, 116, 91, 34, 101, 110, 100, 34, 93, 32, 61, 32, 110, 111, 116, 32, 40, 97, 32, 61, 61, 32, 98, 41, 10] := by kernel_rfl
set_option maxHeartbeats 4000000 in
theorem works_true6 {w : World} (hE : Env4 w) : Calls Tryz.prog 19 #[] w fun e w' => e = .returned (.bool true) ∧ Below w.heap.size w w' := by
  have A1 := fun (W : World) (h : Env4 W) => again_any h ⟨#[97, 61, 49, 43, 50, 42, 51, 32, 98, 32, 61, 32, 40, 49, 43, 50, 41, 42, 51]⟩
  have A2 := fun (W : World) (h : Env4 W) => again_any h ⟨#[116, 91, 34, 120, 34, 93, 61, 45, 40, 45, 49, 41, 32, 116, 91, 34, 101, 110, 100, 34, 93, 61, 110, 111, 116, 32, 40, 97, 61, 61, 98, 41]⟩
  simp only [again1, again2] at A1 A2
  replace A1 := Lib.hid A1
  replace A2 := Lib.hid A2
  have HE := Lib.hid hE
  have B0 := Lib.hid (Below.refl w.heap.size w)
  clear hE
  go_enter Tryz.func19, Tryz.ntmps19
  go_wp2_with (first
    | (go_at_call 22; (with_reducible refine (A1.out _ (HE.out.below B0.out)).mono ?_); rintro e w1 ⟨rfl, hb⟩; replace B0 := Lib.hid (B0.out.trans (hb.mono B0.out.size)); clear hb)
    | (go_at_call 22; (with_reducible refine (A2.out _ (HE.out.below B0.out)).mono ?_); rintro e w1 ⟨rfl, hb⟩; replace B0 := Lib.hid (B0.out.trans (hb.mono B0.out.size)); clear hb))
  go_ret
  exact ⟨rfl, B0.out⟩
end Go.Proofs.YtoggkigfijgbfaaGreatDoor.P6
