/- LexKnown: the chapter's examples; each sign and reserved word, and what is none; numbers, names and strings at their limits (a closed statement). Conditions: the listed variables as the program's text lays them. -/
import Derived.Test.YteoccfmhpakplaaGreatDoorLexFrame
import Derived.Test.YteoccfmhpakplaaGreatDoorLexFill
import Derived.Test.YteoccfmhpakplaaGreatDoorLexKnownC
import Derived.Test.YteoccfmhpakplaaGreatDoorTie
import Derived.Test.YteoccfmhpakplaaGreatDoorCards
import Derived.BigQuiet
import Derived.Deep.QuietTactic
import Derived.Deep.RegionWith
import Derived.Deep.CutRange
import Derived.Deep.RegionHeld3
namespace Go.Proofs.YteoccfmhpakplaaGreatDoor.lexKnown
set_option maxRecDepth 20000
open Go.ChangeShapes Go.WideShapes Go.ChangeAt Go.RowKit

/-- A row of texts of the call's own. -/
structure TextsAt (w : World) (B n : Nat) (f : Nat → ByteArray) : Prop where
  lt : B < w.heap.size
  cell : ∀ k, k < n → w.cell? ⟨B, k, none⟩ = some (.string (f k))
theorem texts_of (w : World) (cs : Array Value) (E : TypeId) {n : Nat} {f : Nat → ByteArray} (h : cs = ((List.range n).map fun k => Value.string (f k)).toArray) : TextsAt (w.alloc (.cells cs E)) w.heap.size n f := by
  refine ⟨by simp, fun k hk => ?_⟩
  subst h
  simp [go_sem, hk]
theorem TextsAt.below {w w' : World} {B n : Nat} {f : Nat → ByteArray} (h : TextsAt w B n f) (hb : Below w.heap.size w w') : TextsAt w' B n f :=
  ⟨Nat.lt_of_lt_of_le h.lt hb.size, fun k hk => (hb.cell (p := ⟨B, k, none⟩) h.lt).trans (h.cell k hk)⟩
theorem feed_bd (t : ByteArray) : ((⟨#[10]⟩ : ByteArray) ++ t).data.toList = 10 :: t.data.toList := by
  rw [ByteArray.data_append]; simp
theorem bd_sizes : ((List.range 15).all fun k => decide ((⟨#[10]⟩ ++ bdT k : ByteArray).size ≤ 100)) = true := by decide +kernel
theorem bd_size (k : Nat) (hk : k < 15) : (⟨#[10]⟩ ++ bdT k : ByteArray).size ≤ 100 := by
  have := List.all_eq_true.1 bd_sizes k (List.mem_range.2 hk)
  simpa using this
theorem bd_own (k : Nat) (hk : k < 15) : (bdT k).size ≤ 100 := by
  have := bd_size k hk
  rw [ByteArray.size_append] at this
  omega
set_option maxHeartbeats 40000000 in
theorem walk (w : World) (hE : Env4 w) : Calls Tryz.prog 8 #[] w fun e w' => e = .returned (.bool true) ∧ Below w.heap.size w w' := by
  have E := Lib.hid hE
  have HT := Lib.hid (texts_of (n := 47) (f := sgT) w #[.string ⟨#[43]⟩, .string ⟨#[45]⟩, .string ⟨#[42]⟩, .string ⟨#[47, 47]⟩, .string ⟨#[37]⟩, .string ⟨#[38]⟩, .string ⟨#[124]⟩, .string ⟨#[126]⟩, .string ⟨#[60, 60]⟩, .string ⟨#[62, 62]⟩, .string ⟨#[61, 61]⟩, .string ⟨#[126, 61]⟩, .string ⟨#[60, 61]⟩, .string ⟨#[62, 61]⟩, .string ⟨#[60]⟩, .string ⟨#[62]⟩, .string ⟨#[61]⟩, .string ⟨#[46, 46]⟩, .string ⟨#[46]⟩, .string ⟨#[44]⟩, .string ⟨#[40]⟩, .string ⟨#[41]⟩, .string ⟨#[91]⟩, .string ⟨#[93]⟩, .string ⟨#[123]⟩, .string ⟨#[125]⟩, .string ⟨#[35]⟩, .string ⟨#[97, 110, 100]⟩, .string ⟨#[98, 114, 101, 97, 107]⟩, .string ⟨#[99, 97, 116, 99, 104]⟩, .string ⟨#[100, 111]⟩, .string ⟨#[101, 108, 115, 101]⟩, .string ⟨#[101, 108, 115, 101, 105, 102]⟩, .string ⟨#[101, 110, 100]⟩, .string ⟨#[102, 97, 108, 115, 101]⟩, .string ⟨#[102, 111, 114]⟩, .string ⟨#[102, 117, 110, 99, 116, 105, 111, 110]⟩, .string ⟨#[105, 102]⟩, .string ⟨#[108, 111, 99, 97, 108]⟩, .string ⟨#[110, 105, 108]⟩, .string ⟨#[110, 111, 116]⟩, .string ⟨#[111, 114]⟩, .string ⟨#[114, 101, 116, 117, 114, 110]⟩, .string ⟨#[116, 104, 101, 110]⟩, .string ⟨#[116, 114, 117, 101]⟩, .string ⟨#[116, 114, 121]⟩, .string ⟨#[119, 104, 105, 108, 101]⟩] 9 rfl)
  have HB : Hid (Below w.heap.size w (w.alloc (.cells #[.string ⟨#[43]⟩, .string ⟨#[45]⟩, .string ⟨#[42]⟩, .string ⟨#[47, 47]⟩, .string ⟨#[37]⟩, .string ⟨#[38]⟩, .string ⟨#[124]⟩, .string ⟨#[126]⟩, .string ⟨#[60, 60]⟩, .string ⟨#[62, 62]⟩, .string ⟨#[61, 61]⟩, .string ⟨#[126, 61]⟩, .string ⟨#[60, 61]⟩, .string ⟨#[62, 61]⟩, .string ⟨#[60]⟩, .string ⟨#[62]⟩, .string ⟨#[61]⟩, .string ⟨#[46, 46]⟩, .string ⟨#[46]⟩, .string ⟨#[44]⟩, .string ⟨#[40]⟩, .string ⟨#[41]⟩, .string ⟨#[91]⟩, .string ⟨#[93]⟩, .string ⟨#[123]⟩, .string ⟨#[125]⟩, .string ⟨#[35]⟩, .string ⟨#[97, 110, 100]⟩, .string ⟨#[98, 114, 101, 97, 107]⟩, .string ⟨#[99, 97, 116, 99, 104]⟩, .string ⟨#[100, 111]⟩, .string ⟨#[101, 108, 115, 101]⟩, .string ⟨#[101, 108, 115, 101, 105, 102]⟩, .string ⟨#[101, 110, 100]⟩, .string ⟨#[102, 97, 108, 115, 101]⟩, .string ⟨#[102, 111, 114]⟩, .string ⟨#[102, 117, 110, 99, 116, 105, 111, 110]⟩, .string ⟨#[105, 102]⟩, .string ⟨#[108, 111, 99, 97, 108]⟩, .string ⟨#[110, 105, 108]⟩, .string ⟨#[110, 111, 116]⟩, .string ⟨#[111, 114]⟩, .string ⟨#[114, 101, 116, 117, 114, 110]⟩, .string ⟨#[116, 104, 101, 110]⟩, .string ⟨#[116, 114, 117, 101]⟩, .string ⟨#[116, 114, 121]⟩, .string ⟨#[119, 104, 105, 108, 101]⟩] 9))) := (Below.refl _ _).alloc (Nat.le_refl _) _
  clear hE
  go_enter Tryz.func8, Tryz.ntmps8
  go_wp2_with fail
  generalize (w.alloc (.cells #[.string ⟨#[43]⟩, .string ⟨#[45]⟩, .string ⟨#[42]⟩, .string ⟨#[47, 47]⟩, .string ⟨#[37]⟩, .string ⟨#[38]⟩, .string ⟨#[124]⟩, .string ⟨#[126]⟩, .string ⟨#[60, 60]⟩, .string ⟨#[62, 62]⟩, .string ⟨#[61, 61]⟩, .string ⟨#[126, 61]⟩, .string ⟨#[60, 61]⟩, .string ⟨#[62, 61]⟩, .string ⟨#[60]⟩, .string ⟨#[62]⟩, .string ⟨#[61]⟩, .string ⟨#[46, 46]⟩, .string ⟨#[46]⟩, .string ⟨#[44]⟩, .string ⟨#[40]⟩, .string ⟨#[41]⟩, .string ⟨#[91]⟩, .string ⟨#[93]⟩, .string ⟨#[123]⟩, .string ⟨#[125]⟩, .string ⟨#[35]⟩, .string ⟨#[97, 110, 100]⟩, .string ⟨#[98, 114, 101, 97, 107]⟩, .string ⟨#[99, 97, 116, 99, 104]⟩, .string ⟨#[100, 111]⟩, .string ⟨#[101, 108, 115, 101]⟩, .string ⟨#[101, 108, 115, 101, 105, 102]⟩, .string ⟨#[101, 110, 100]⟩, .string ⟨#[102, 97, 108, 115, 101]⟩, .string ⟨#[102, 111, 114]⟩, .string ⟨#[102, 117, 110, 99, 116, 105, 111, 110]⟩, .string ⟨#[105, 102]⟩, .string ⟨#[108, 111, 99, 97, 108]⟩, .string ⟨#[110, 105, 108]⟩, .string ⟨#[110, 111, 116]⟩, .string ⟨#[111, 114]⟩, .string ⟨#[114, 101, 116, 117, 114, 110]⟩, .string ⟨#[116, 104, 101, 110]⟩, .string ⟨#[116, 114, 117, 101]⟩, .string ⟨#[116, 114, 121]⟩, .string ⟨#[119, 104, 105, 108, 101]⟩] 9)) = w1 at HT HB ⊢
  go_loopw [2] (fun i wr => ∃ k : Nat, k ≤ 47 ∧ i = .int .i64 k ∧ Hid (TextsAt wr w.heap.size 47 sgT) ∧ Hid (Below w.heap.size w wr)) (fun i _ => 47 - (intOf i).toNat)
  case atStart => exact ⟨0, by omega, rfl, HT, HB⟩
  case round =>
    obtain ⟨k, hk, rfl, HT2, HB2⟩ := hrel
    clear HT HB
    by_cases hlt : k < 47
    · have c0 := HT2.out.cell k hlt
      have T := Lib.hid (fun w hE => Tokens_ok (sgT k) _ 2 0 w hE (sg_all k hlt) rfl)
      have k0 : (0 : Int) ≤ (k : Int) := by omega
      have k1 : (k : Int) < (47 : Int) := by omega
      generalize sgT k = t at c0 T
      have hd : (t.toList == t.toList) = true := by simp
      go_wp2_with (go_at_call 9; with_reducible refine (T.out _ (E.out.below HB2.out)).mono ?_; rintro e w2 ⟨A, c, rfl, hA, hb⟩; obtain ⟨g, rfl⟩ := hA.blk (by simp); have x := hA.get 0 _ rfl; have x0 := x.c0; have x1 := x.c1; simp only [] at x1; rw [Lib.mk_data] at x1; have HT3 := Lib.hid (HT2.out.below hb); have HB3 := Lib.hid (HB2.out.trans (hb.mono HB2.out.size)); have d0 := (hb.cell (p := ⟨w.heap.size, k, none⟩) HT2.out.lt).trans c0; clear c0 x hA hb)
      go_quiet (fail)
      go_wp2_with fail
      go_roundw
      case rel => exact ⟨k + 1, by omega, by go_num, HT3.out.below (below_drewN (Below.refl _ _) _), below_drewN HB3.out _⟩
      case measure => simp [intOf]; omega
    · have ql : decide ((k : Int) < 47) = false := decide_eq_false (by omega)
      clear hlt
      obtain ⟨v, hv⟩ : ∃ v : World, v = wr := ⟨_, rfl⟩
      subst hv
      clear HT2
      have HT := Lib.hid (texts_of (n := 15) (f := bdT) v #[.string ⟨#[48, 49]⟩, .string ⟨#[36]⟩, .string ⟨#[49, 95]⟩, .string ⟨#[34]⟩, .string ⟨#[34, 97, 10, 34]⟩, .string ⟨#[34, 92]⟩, .string ⟨#[34, 92, 10, 34]⟩, .string ⟨#[34, 92, 113, 34]⟩, .string ⟨#[47]⟩, .string ⟨#[33]⟩, .string ⟨#[97, 49, 50, 51, 52, 53, 54, 55, 56, 57, 48, 49, 50, 51, 52, 53, 54, 55, 56, 57, 48, 49, 50, 51, 52]⟩, .string ⟨#[0]⟩, .string ⟨#[39]⟩, .string ⟨#[195, 169]⟩, .string ⟨#[48, 48]⟩] 9 rfl)
      have HB := Lib.hid (HB2.out.alloc HB2.out.size (.cells #[.string ⟨#[48, 49]⟩, .string ⟨#[36]⟩, .string ⟨#[49, 95]⟩, .string ⟨#[34]⟩, .string ⟨#[34, 97, 10, 34]⟩, .string ⟨#[34, 92]⟩, .string ⟨#[34, 92, 10, 34]⟩, .string ⟨#[34, 92, 113, 34]⟩, .string ⟨#[47]⟩, .string ⟨#[33]⟩, .string ⟨#[97, 49, 50, 51, 52, 53, 54, 55, 56, 57, 48, 49, 50, 51, 52, 53, 54, 55, 56, 57, 48, 49, 50, 51, 52]⟩, .string ⟨#[0]⟩, .string ⟨#[39]⟩, .string ⟨#[195, 169]⟩, .string ⟨#[48, 48]⟩] 9))
      go_wp2_with fail
      generalize (v.alloc (.cells #[.string ⟨#[48, 49]⟩, .string ⟨#[36]⟩, .string ⟨#[49, 95]⟩, .string ⟨#[34]⟩, .string ⟨#[34, 97, 10, 34]⟩, .string ⟨#[34, 92]⟩, .string ⟨#[34, 92, 10, 34]⟩, .string ⟨#[34, 92, 113, 34]⟩, .string ⟨#[47]⟩, .string ⟨#[33]⟩, .string ⟨#[97, 49, 50, 51, 52, 53, 54, 55, 56, 57, 48, 49, 50, 51, 52, 53, 54, 55, 56, 57, 48, 49, 50, 51, 52]⟩, .string ⟨#[0]⟩, .string ⟨#[39]⟩, .string ⟨#[195, 169]⟩, .string ⟨#[48, 48]⟩] 9)) = w2 at HT HB ⊢
      have HS := Lib.hid HB2.out.size
      generalize v.heap.size = vb at HT HS ⊢
      clear HB2
      go_loopw [6] (fun i wr => ∃ k : Nat, k ≤ 15 ∧ i = .int .i64 k ∧ Hid (TextsAt wr vb 15 bdT) ∧ Hid (Below w.heap.size w wr)) (fun i _ => 15 - (intOf i).toNat)
      case atStart => exact ⟨0, by omega, rfl, HT, HB⟩
      case round =>
        obtain ⟨j, hj, rfl, HT2, HB2⟩ := hrel
        clear HT HB
        by_cases hjt : j < 15
        · have c0 := HT2.out.cell j hjt
          have T := Lib.hid (fun w hE => Tokens_bad (⟨#[10]⟩ ++ bdT j) _ 14 1 1 w hE ((congrArg lexL (feed_bd (bdT j))).trans (bd_all j hjt)) (by decide) rfl)
          have k0 : (0 : Int) ≤ (j : Int) := by omega
          have k1 : (j : Int) < (15 : Int) := by omega
          have hsz : (⟨#[10]⟩ ++ bdT j).size ≤ 100 := bd_size j hjt
          have htz : (bdT j).size ≤ 100 := bd_own j hjt
          generalize bdT j = t at c0 T hsz htz
          go_wp2_with (first
            | (go_at_call 9; with_reducible refine (T.out _ (E.out.below HB2.out)).mono ?_; rintro e w3 ⟨b, rfl, hlt, h0, h1, hb⟩; have HT3 := Lib.hid (HT2.out.below hb); have HB3 := Lib.hid (HB2.out.trans (hb.mono HB2.out.size)); have TS := Lib.hid (told_some b 14 1 w3 (by decide) hlt h0 h1 (E.out.below HB3.out).err); clear hlt h0 h1 hb)
            | (go_at_call 11; refine TS.out.mono ?_; rintro e w4 ⟨rfl, hb4⟩; have HT4 := Lib.hid (HT3.out.below hb4); have HB4 := Lib.hid (HB3.out.trans (hb4.mono HB3.out.size)); clear hb4))
          go_roundw
          case rel => exact ⟨j + 1, by omega, by go_num, HT4, HB4⟩
          case measure => simp [intOf]; omega
        · have ql2 : decide ((j : Int) < 15) = false := decide_eq_false (by omega)
          clear HT2 hjt
          go_upto_region 15 with (fail)
          exact tail w _ E.out HB2.out _ (by assumption)
set_option maxRecDepth 100000 in
theorem contract (H : Type) (enc : TypeId × Value → H) (W : World) (base : Nat) (args : Array Value) (ds gs : List (DataW H)) (before : List MemPlace)
    (hval : ∀ (j : Nat) t v, Tryz.f8.params[j]? = some t → args[j]? = some v → Value.okWide Tryz.prog W .any base t v)
    (hW : DataW.Whole enc Tryz.prog Tryz.f8.params.toList Rows.lexKnownSpec.vars false W args.toList ds gs before)
    (hsz0 : (DataW.weightsEach Tryz.prog (Tryz.f8.params.toList ++ (OpenSpec.ofChange Rows.lexKnownSpec).bare.plain.varTypes Tryz.prog) (ds ++ gs)).all (· ≤ reachBytes) = true) (hL : laidMetH Tryz.prog Rows.lexKnownRow.laid W) :
    Calls Tryz.prog 8 args W fun e W' => ∃ v, e = .returned v ∧ Rows.lexKnownSpec.post enc Tryz.prog Tryz.f8 false true false false W args v W' := by
  have hW' := hW
  obtain ⟨p, q, hA0, hV, rfl, hfz, hnd⟩ := hW
  have hA : DataW.TrodAll enc Tryz.prog W 0 (fun _ => true) true Tryz.f8.params.toList args.toList ds p := hA0
  have hsz := hsz0
  rw [Tryz.params8] at hA hval hsz
  obtain ⟨hargs, rfl, rfl⟩ := trodAll_nil hA
  obtain rfl : args = #[] := by cases args; simp_all
  obtain ⟨rfl, rfl⟩ := trodVars_none hV
  clear hA0 hsz hsz0
  simp only [List.append_nil] at hW'
  refine (walk W (env_of_laid hL)).mono fun e W' ⟨he, hb⟩ => ?_
  subst he
  exact ⟨_, rfl, law_post laidOut (by kernel_rfl) (by kernel_rfl) Tryz.underlying4 hW' hb rfl⟩

theorem laid_met (os : Os) : laidMetH Tryz.prog Rows.lexKnownRow.laid ((laidWorld os).forCall (fun _ _ => 0) ⟨#[], #[], []⟩).memory :=
  laid_metH os _ (laidMet_of_run' 8 (by kernel_rfl) (by kernel_rfl)) (by kernel_rfl)
theorem reads (os : Os) {H : Type} (enc : TypeId × Value → H) : ∃ places, DataW.whole enc Tryz.prog ((laidWorld os).forCall (fun _ _ => 0) ⟨#[], #[], []⟩).memory Tryz.f8.params.toList Rows.lexKnownSpec.vars false (#[] : Array Value).toList 8 = some ([], [], places) :=
  ⟨[], by kernel_rfl⟩

set_option maxRecDepth 100000 in
theorem lifted (os : Os) (started : os.Started) (H : Type) (enc : TypeId × Value → H) (F : Stop.Interp) :
    ReturnsInHanded {} Tryz.checked os 8 .any ((OpenSpec.ofChange Rows.lexKnownSpec).preRow enc Tryz.prog Tryz.f8 Rows.lexKnownRow.domain false Rows.lexKnownRow.laid) (((OpenSpec.ofChange Rows.lexKnownSpec).at F).post enc Tryz.prog Tryz.f8 false true false false) := by
  obtain ⟨places, hx⟩ := reads os enc
  refine returnsInHanded_of_row (C := Tryz.checked) (s := (OpenSpec.ofChange Rows.lexKnownSpec)) own started (by kernel_rfl) Tryz.func8
    (witness_row_atRef (enc := enc) (C := Tryz.checked) false (laidWorld os) #[] rfl (by kernel_rfl) (by kernel_rfl) (by kernel_rfl)
      (OpenSpec.preRow_of_cond 8 hx (by kernel_rfl) (fun k hk => by cases hk) (by kernel_rfl) (laid_met os))) ?_
  intro W base args ds gs before hval hW _ _ hsz hL _ _
  exact contract H enc W base args ds gs before hval hW hsz hL

theorem said : Rows.LexKnownSaid :=
  OpenClaim.holds_of_cond 8 Tryz.f8 rfl rfl rfl rfl rfl rfl rfl ⟨rfl, rfl, rfl, rfl, rfl⟩ rfl rfl rfl rfl rfl (by kernel_rfl) Tryz.func8 (by kernel_rfl)
    (of_decide_eq_true (by kernel_rfl)) (by unfold Func.isWrapper; first | (rw [if_pos (by decide +kernel)]; kernel_rfl) | (rw [if_neg (by decide +kernel)]; exact ⟨rfl, rfl⟩))
    (fun os started H enc _ F => by rw [OpenClaim.pre_eq_preRow]; exact lifted os started H enc F)

/-- No parameter wants a stand-in; the program's own looks are off: what the card asks. -/
theorem plain (f : FuncId) (fn : Func) (hf : Tryz.pinned.checked.prog.funcNamed "tallow/tallowlaw04.LexKnown" = some f) (hfn : Tryz.pinned.checked.prog.funcs[f]? = some fn) :
    Rows.lexKnownCard.stood.looks = Tryz.pinned.checked.prog.looks [] ∧ ∀ (j : Nat) t, fn.params[j]? = some t → Tryz.pinned.checked.prog.wantsStandIn t = false := by
  obtain rfl : f = 8 := Option.some.inj ((show Tryz.prog.funcNamed "tallow/tallowlaw04.LexKnown" = some 8 by kernel_rfl).symm.trans hf) |>.symm
  obtain rfl : fn = Tryz.f8 := (Option.some.inj (Tryz.func8.symm.trans hfn)).symm
  refine ⟨by kernel_rfl, fun j t ht => ?_⟩
  rw [Tryz.params8] at ht
  simp at ht

/-- THE CARD. -/
theorem card : Rows.LexKnownCardSaid :=
  Claim7.holds_tied_plain_at .later [] _ _ _ _ said (fun _ h => by cases h) (by kernel_rfl) (fun _ h => by cases h) lexKnown_row_tie rfl ⟨rfl, rfl⟩ (by kernel_rfl) rfl plain (by kernel_rfl)
end Go.Proofs.YteoccfmhpakplaaGreatDoor.lexKnown
