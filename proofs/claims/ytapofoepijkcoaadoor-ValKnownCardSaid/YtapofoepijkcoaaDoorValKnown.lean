/- ValKnown: the chapter's examples: the law, called once, answers true. Conditions: none but the tied package-level variables and the form's own reach. -/
import Derived.Test.YtapofoepijkcoaaDoorCards
import Derived.Test.YtapofoepijkcoaaDoorTie
import Derived.Test.YtapofoepijkcoaaDoorValFrame
namespace Go.Proofs.YtapofoepijkcoaaDoor.valKnown
open Go.ChangeShapes Go.WideShapes Go.ChangeAt Go.RowKit

def L7 : List (Int × Int) := [(0, 0), (1, 0), (2, 1), (4, 0), (4, 12), (5, 1), (9, 2147483647)]
def L10 : List (Int × Int) := [(5, 0), (5, 2147483648), (0, 1), (10, 1), (-1, 0), (1, 1), (2, -1), (4, 13), (4, -1), (9, -1)]
theorem L7_may : ∀ (i : Nat) p, L7[i]? = some p → mayB p.1 p.2 = true := fun i p h => (show ∀ p ∈ L7, mayB p.1 p.2 = true by decide) p (List.mem_of_getElem? h)
theorem L10_not : ∀ (i : Nat) p, L10[i]? = some p → mayB p.1 p.2 = false ∧ refB p.1 p.2 = false ∧ truthB p.1 p.2 = false ∧ keyB p.1 p.2 = false := fun i p h => (show ∀ p ∈ L10, mayB p.1 p.2 = false ∧ refB p.1 p.2 = false ∧ truthB p.1 p.2 = false ∧ keyB p.1 p.2 = false by decide) p (List.mem_of_getElem? h)
structure Good (w : World) (A B : Option Addr) (w1 : World) : Prop where
  below : Below w.heap.size w w1
  env : Env w1
  p7 : PairsAt w1 A L7
  p10 : PairsAt w1 B L10
theorem Good.next {w w1 w2 : World} {A B : Option Addr} (h : Good w A B w1) (hb : Below w1.heap.size w1 w2) : Good w A B w2 := ⟨h.below.trans (hb.mono h.below.size), h.env.below hb, pairs_below h.p7 hb, pairs_below h.p10 hb⟩
theorem pair_at {w : World} {b k : Nat} {p : Int × Int} (h : ∃ ad, some (⟨b, 0, none⟩ : Addr) = some ad ∧ ad.block < w.heap.size ∧ w.cell? (ad.add (k * 2)) = some (.int .i64 p.1) ∧ w.cell? ((ad.add (k * 2)).add 1) = some (.int .i64 p.2)) :
    w.cell? ⟨b, k * 2, none⟩ = some (.int .i64 p.1) ∧ w.cell? ⟨b, k * 2 + 1, none⟩ = some (.int .i64 p.2) := by
  obtain ⟨ad, e, _, h0, h1⟩ := h
  obtain rfl := Option.some.inj e
  have e : ∀ j, (⟨b, 0, none⟩ : Addr).add j = ⟨b, j, none⟩ := fun j => by unfold Addr.add; split <;> simp_all
  rw [e] at h0 h1
  rw [add_one] at h1
  exact ⟨h0, h1⟩
theorem next {w w1 w2 : World} (I : Below w.heap.size w w1 ∧ Env w1) (hb : Below w1.heap.size w1 w2) : Below w.heap.size w w2 ∧ Env w2 := ⟨I.1.trans (hb.mono I.1.size), I.2.below hb⟩
theorem next7 {w w1 w2 : World} {A : Option Addr} (J : Below w.heap.size w w1 ∧ Env w1 ∧ PairsAt w1 A L7) (hb : Below w1.heap.size w1 w2) : Below w.heap.size w w2 ∧ Env w2 ∧ PairsAt w2 A L7 := ⟨J.1.trans (hb.mono J.1.size), J.2.1.below hb, pairs_below J.2.2 hb⟩
set_option maxHeartbeats 4000000 in
set_option maxRecDepth 100000 in
theorem walk (w : World) (hE : Env w) :
    Calls Tryd.prog 9 #[] w fun e w' => e = .returned (.bool true) ∧ Below w.heap.size w w' := by
  have I : Hid (Below w.heap.size w w ∧ Env w) := ⟨Below.refl _ _, hE⟩
  clear hE
  go_enter Tryd.func9, Tryd.ntmps9
  iterate 6
    go_wp2_with fail
    refine (of_any _ _ _).mono ?_
    rintro e w1 ⟨rfl, hb⟩
    replace I := Lib.hid (And.intro (I.out.1.trans (hb.mono I.out.1.size)) (I.out.2.below hb))
    clear hb
  go_wp2_with fail
  have J : Hid (Below w.heap.size w (w1.alloc (.cells (pairCells L7).toArray 23)) ∧ Env (w1.alloc (.cells (pairCells L7).toArray 23)) ∧ PairsAt (w1.alloc (.cells (pairCells L7).toArray 23)) (some ⟨w1.heap.size, 0, none⟩) L7) :=
    ⟨I.out.1.alloc I.out.1.size _, I.out.2.below ((Below.refl _ _).alloc (Nat.le_refl _) _), pairs_alloc _ _ _⟩
  clear I
  iterate 10
    refine (of_any _ _ _).mono ?_
    rintro e w2 ⟨rfl, hb⟩
    replace J := Lib.hid (next7 J.out hb)
    clear hb
    go_wp2_with fail
  have G : Hid (Good w (some ⟨w1.heap.size, 0, none⟩) (some ⟨w2.heap.size, 0, none⟩) (w2.alloc (.cells (pairCells L10).toArray 23))) :=
    ⟨J.out.1.alloc J.out.1.size _, J.out.2.1.below ((Below.refl _ _).alloc (Nat.le_refl _) _), pairs_below J.out.2.2 ((Below.refl _ _).alloc (Nat.le_refl _) _), pairs_alloc _ _ _⟩
  clear J
  go_loopw [3] (fun i wr => ∃ k : Nat, k ≤ 7 ∧ i = .int .i64 k ∧ Good w (some ⟨w1.heap.size, 0, none⟩) (some ⟨w2.heap.size, 0, none⟩) wr) (fun i _ => 7 - (intOf i).toNat)
  case atStart => exact ⟨0, by omega, rfl, G.out⟩
  case round =>
    obtain ⟨k, hk, rfl, hG⟩ := hrel
    clear G
    have G := Lib.hid hG
    clear hG
    by_cases hlt : k < 7
    · obtain ⟨p, hp⟩ : ∃ p, L7[k]? = some p := ⟨_, List.getElem?_eq_getElem (l := L7) hlt⟩
      have C := Lib.hid (May_any p.1 p.2)
      rw [L7_may k p hp] at C
      have d := pair_at (G.out.p7 k p hp)
      have d0 := d.1
      have d1 := d.2
      clear d
      clear hp
      go_wp2_with (go_at_call 10; refine (C.out _).mono ?_; rintro e w3 ⟨rfl, hb⟩; replace G := Lib.hid (G.out.next hb); clear hb)
      go_roundw
      case rel => exact ⟨k + 1, by omega, by go_num, G.out⟩
      case measure => simp [intOf]; omega
    · go_wp2_with fail
      go_loopw [4] (fun i wr => ∃ k : Nat, k ≤ 10 ∧ i = .int .i64 k ∧ Good w (some ⟨w1.heap.size, 0, none⟩) (some ⟨w2.heap.size, 0, none⟩) wr) (fun i _ => 10 - (intOf i).toNat)
      case atStart => exact ⟨0, by omega, rfl, G.out⟩
      case round =>
        obtain ⟨k, hk, rfl, hG⟩ := hrel
        clear G
        have G := Lib.hid hG
        clear hG
        by_cases hlt : k < 10
        · obtain ⟨p, hp⟩ : ∃ p, L10[k]? = some p := ⟨_, List.getElem?_eq_getElem (l := L10) hlt⟩
          obtain ⟨m1, m2, m3, m4⟩ := L10_not k p hp
          have C1 := Lib.hid (May_any p.1 p.2)
          have C2 := Lib.hid (Ref_any p.1 p.2)
          have C3 := Lib.hid (Truth_any p.1 p.2)
          have C4 := Lib.hid (Key_any p.1 p.2)
          rw [m1] at C1
          rw [m2] at C2
          rw [m3] at C3
          rw [m4] at C4
          have H := Lib.hid hp
          clear hp m1 m2 m3 m4
          have d := pair_at (G.out.p10 k p H.out)
          have d0 := d.1
          have d1 := d.2
          clear d
          go_wp2_with (first
            | (go_at_call 10; refine (C1.out _).mono ?_; rintro e w3 ⟨rfl, hb⟩; replace G := Lib.hid (G.out.next hb); have e0 := (pair_at (G.out.p10 k p H.out)).1; have e1 := (pair_at (G.out.p10 k p H.out)).2; clear hb)
            | (go_at_call 12; refine (C2.out _).mono ?_; rintro e w3 ⟨rfl, hb⟩; replace G := Lib.hid (G.out.next hb); have e0 := (pair_at (G.out.p10 k p H.out)).1; have e1 := (pair_at (G.out.p10 k p H.out)).2; clear hb)
            | (go_at_call 14; refine (C3.out _).mono ?_; rintro e w3 ⟨rfl, hb⟩; replace G := Lib.hid (G.out.next hb); have e0 := (pair_at (G.out.p10 k p H.out)).1; have e1 := (pair_at (G.out.p10 k p H.out)).2; clear hb)
            | (go_at_call 16; refine (C4.out _).mono ?_; rintro e w3 ⟨rfl, hb⟩; replace G := Lib.hid (G.out.next hb); clear hb))
          go_roundw
          case rel => exact ⟨k + 1, by omega, by go_num, G.out⟩
          case measure => simp [intOf]; omega
        · replace G := Lib.hid (And.intro G.out.below G.out.env)
          have m1 : truthB 1 0 = false := by decide
          have m2 : truthB 0 0 = false := by decide
          have m3 : truthB 4 0 = true := by decide
          have m4 : keyB 0 0 = false := by decide
          have m5 : keyB 4 12 = true := by decide
          have N1 := Lib.hid (Name_any 10)
          rw [show nameB 10 = ⟨#[]⟩ from rfl] at N1
          have N2 := Lib.hid (Name_any 0)
          rw [show nameB 0 = ⟨#[110, 111, 110, 101]⟩ from rfl] at N2
          have N3 := Lib.hid (Name_any 9)
          rw [show nameB 9 = ⟨#[99, 101, 108, 108]⟩ from rfl] at N3
          have L1 := Lib.hid (Lib_any 13)
          rw [show libB 13 = ⟨#[]⟩ from rfl] at L1
          have L2 := Lib.hid (Lib_any 12)
          rw [show libB 12 = ⟨#[115, 116, 97, 116, 117, 115]⟩ from rfl] at L2
          have O1 := Lib.hid (LibOf_any ⟨#[79, 117, 116]⟩)
          rw [show libI ⟨#[79, 117, 116]⟩ = -1 by decide +kernel] at O1
          have O2 := Lib.hid (LibOf_any ⟨#[]⟩)
          rw [show libI ⟨#[]⟩ = -1 by decide +kernel] at O2
          go_wp2_with (first
            | (go_at_call 18; refine (works_true _ G.out.2).mono ?_; rintro e w3 ⟨rfl, hb⟩; replace G := Lib.hid (next G.out hb); clear hb)
            | (go_at_call 28; refine (of_any _ _ _).mono ?_; rintro e w3 ⟨rfl, hb⟩; replace G := Lib.hid (next G.out hb); clear hb)
            | (go_at_call 14; refine (Truth_any _ _ _).mono ?_; rintro e w3 ⟨rfl, hb⟩; replace G := Lib.hid (next G.out hb); clear hb)
            | (go_at_call 16; refine (Key_any _ _ _).mono ?_; rintro e w3 ⟨rfl, hb⟩; replace G := Lib.hid (next G.out hb); clear hb)
            | (go_at_call 19; (first | (with_reducible refine (N1.out _ G.out.2).mono ?_) | (with_reducible refine (N2.out _ G.out.2).mono ?_) | (with_reducible refine (N3.out _ G.out.2).mono ?_)); rintro e w' ⟨rfl, hq⟩; obtain rfl := hq.symm)
            | (go_at_call 21; (first | (with_reducible refine (L1.out _ G.out.2).mono ?_) | (with_reducible refine (L2.out _ G.out.2).mono ?_)); rintro e w' ⟨rfl, hq⟩; obtain rfl := hq.symm)
            | (go_at_call 23; (first | (with_reducible refine (O1.out _ G.out.2).mono ?_) | (with_reducible refine (O2.out _ G.out.2).mono ?_)); rintro e w' ⟨rfl, hq⟩; obtain rfl := hq.symm)
            | (go_at_call 26; refine (Refs_none 0 _).mono ?_; rintro e w3 ⟨v, rfl, own, hb⟩; obtain ⟨A, c, rfl, _⟩ := ints_of_own own; replace G := Lib.hid (next G.out hb); clear hb own))
          go_ret
          exact ⟨rfl, G.out.1⟩
set_option maxRecDepth 100000 in
theorem contract (H : Type) (enc : TypeId × Value → H) (W : World) (base : Nat) (args : Array Value) (ds gs : List (DataW H)) (before : List MemPlace)
    (hval : ∀ (j : Nat) t v, Tryd.f9.params[j]? = some t → args[j]? = some v → Value.okWide Tryd.prog W .any base t v)
    (hW : DataW.Whole enc Tryd.prog Tryd.f9.params.toList Rows.valKnownSpec.vars false W args.toList ds gs before)
    (hsz0 : (DataW.weightsEach Tryd.prog (Tryd.f9.params.toList ++ (OpenSpec.ofChange Rows.valKnownSpec).bare.plain.varTypes Tryd.prog) (ds ++ gs)).all (· ≤ reachBytes) = true) (hL : laidMetH Tryd.prog Rows.valKnownRow.laid W) :
    Calls Tryd.prog 9 args W fun e W' => ∃ v, e = .returned v ∧ Rows.valKnownSpec.post enc Tryd.prog Tryd.f9 false true false false W args v W' := by
  have hW' := hW
  obtain ⟨p, q, hA0, hV, rfl, hfz, hnd⟩ := hW
  have hA : DataW.TrodAll enc Tryd.prog W 0 (fun _ => true) true Tryd.f9.params.toList args.toList ds p := hA0
  have hsz := hsz0
  rw [Tryd.params9] at hA hval hsz
  obtain ⟨hargs, rfl, rfl⟩ := trodAll_nil hA
  obtain rfl : args = #[] := by cases args; simp_all
  obtain ⟨rfl, rfl⟩ := trodVars_none hV
  clear hA0 hsz hsz0
  simp only [List.append_nil] at hW'
  refine (walk W (env_of_laid hL)).mono fun e W' ⟨he, hb⟩ => ?_
  subst he
  exact ⟨_, rfl, law_post laidOut (by kernel_rfl) (by kernel_rfl) Tryd.underlying4 hW' hb rfl⟩

theorem laid_met (os : Os) : laidMet Tryd.prog Rows.valKnownRow.laid ((laidWorld os).forCall (fun _ _ => 0) ⟨#[], #[], []⟩).memory :=
  laidMet_of_run' 8 (by kernel_rfl) (by kernel_rfl)
theorem reads (os : Os) {H : Type} (enc : TypeId × Value → H) : ∃ places, DataW.whole enc Tryd.prog ((laidWorld os).forCall (fun _ _ => 0) ⟨#[], #[], []⟩).memory Tryd.f9.params.toList Rows.valKnownSpec.vars false (#[] : Array Value).toList 8 = some ([], [], places) :=
  ⟨[], by kernel_rfl⟩

set_option maxRecDepth 100000 in
theorem lifted (os : Os) (started : os.Started) (H : Type) (enc : TypeId × Value → H) (F : Stop.Interp) :
    ReturnsInHanded {} Tryd.checked os 9 .any ((OpenSpec.ofChange Rows.valKnownSpec).preRow enc Tryd.prog Tryd.f9 Rows.valKnownRow.domain false Rows.valKnownRow.laid) (((OpenSpec.ofChange Rows.valKnownSpec).at F).post enc Tryd.prog Tryd.f9 false true false false) := by
  obtain ⟨places, hx⟩ := reads os enc
  refine returnsInHanded_of_row (C := Tryd.checked) (s := (OpenSpec.ofChange Rows.valKnownSpec)) own started (by kernel_rfl) Tryd.func9
    (witness_row_atRef (enc := enc) (C := Tryd.checked) false (laidWorld os) #[] rfl (by kernel_rfl) (by kernel_rfl) (by kernel_rfl)
      (OpenSpec.preRow_of_cond 8 hx (by kernel_rfl) (fun k hk => by cases hk) (by kernel_rfl) (laid_met os))) ?_
  intro W base args ds gs before hval hW _ _ hsz hL _ _
  exact contract H enc W base args ds gs before hval hW hsz hL

theorem said : Rows.ValKnownSaid :=
  OpenClaim.holds_of_cond 9 Tryd.f9 rfl rfl rfl rfl rfl rfl rfl ⟨rfl, rfl, rfl, rfl, rfl⟩ rfl rfl rfl rfl rfl (by kernel_rfl) Tryd.func9 (by kernel_rfl)
    (of_decide_eq_true (by kernel_rfl)) (by unfold Func.isWrapper; first | (rw [if_pos (by decide +kernel)]; kernel_rfl) | (rw [if_neg (by decide +kernel)]; exact ⟨rfl, rfl⟩))
    (fun os started H enc _ F => by rw [OpenClaim.pre_eq_preRow]; exact lifted os started H enc F)

/-- No parameter wants a stand-in; the program's own looks are off: what the card asks. -/
theorem plain (f : FuncId) (fn : Func) (hf : Tryd.pinned.checked.prog.funcNamed "tallow/tallowlaw02.ValKnown" = some f) (hfn : Tryd.pinned.checked.prog.funcs[f]? = some fn) :
    Rows.valKnownCard.stood.looks = Tryd.pinned.checked.prog.looks [] ∧ ∀ (j : Nat) t, fn.params[j]? = some t → Tryd.pinned.checked.prog.wantsStandIn t = false := by
  obtain rfl : f = 9 := Option.some.inj ((show Tryd.prog.funcNamed "tallow/tallowlaw02.ValKnown" = some 9 by kernel_rfl).symm.trans hf) |>.symm
  obtain rfl : fn = Tryd.f9 := (Option.some.inj (Tryd.func9.symm.trans hfn)).symm
  refine ⟨by kernel_rfl, fun j t ht => ?_⟩
  rw [Tryd.params9] at ht
  simp at ht

/-- THE CARD. -/
theorem card : Rows.ValKnownCardSaid :=
  Claim7.holds_tied_plain_at .later [] _ _ _ _ said (fun _ h => by cases h) (by kernel_rfl) (fun _ h => by cases h) valKnown_row_tie rfl ⟨rfl, rfl⟩ (by kernel_rfl) rfl plain (by kernel_rfl)
end Go.Proofs.YtapofoepijkcoaaDoor.valKnown
