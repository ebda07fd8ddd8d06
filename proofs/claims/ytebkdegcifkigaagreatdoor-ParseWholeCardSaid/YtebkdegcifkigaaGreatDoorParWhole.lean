/- ParseWhole: an expression with all its parentheses, of any choices (60 at most), is just what they say, or too deep; the argument reads as it did. Conditions: none but the form's own reach; the listed variables as the program's text lays them. -/
import Derived.Test.YtebkdegcifkigaaGreatDoorParFrame
import Derived.Test.YtebkdegcifkigaaGreatDoorParMade
import Derived.Test.YtebkdegcifkigaaGreatDoorOldRef
import Derived.Test.YtebkdegcifkigaaGreatDoorTie
import Derived.Test.YtebkdegcifkigaaGreatDoorCards
import Derived.BigQuiet
namespace Go.Proofs.YtebkdegcifkigaaGreatDoor.parseWhole
set_option maxRecDepth 20000
open Go.ChangeShapes Go.WideShapes Go.ChangeAt Go.RowKit Go.Proofs.YtebkdegcifkigaaGreatDoor.P5

theorem p_ret (n d : Nat) (ts : List Tok) (he : endsT ts = false) : parseF (n + 4) .stmts d (⟨4, [114, 101, 116, 117, 114, 110], 0, 0⟩ :: ts) = ((parseF n (.operation 1) d ts).bind fun e ts3 => .ok (.st 8 0 [] .nil e .nil .nil .nil) ts3).bind fun s ts2 => if isRet s = true then .ok (treeL ([] ++ [s])) ts2 else parseF (n + 2) (.stmtsLoop ([] ++ [s])) d ts2 := by
  have h : parseF (n + 4) .stmts d (⟨4, [114, 101, 116, 117, 114, 110], 0, 0⟩ :: ts) = (if endsT ts = true then Res.ok (.st 8 0 [] .nil .nil .nil .nil .nil) ts else (parseF n (.operation 1) d ts).bind fun e ts3 => .ok (.st 8 0 [] .nil e .nil .nil .nil) ts3).bind fun s ts2 => if isRet s = true then .ok (treeL ([] ++ [s])) ts2 else parseF (n + 2) (.stmtsLoop ([] ++ [s])) d ts2 := rfl
  rw [h, he, if_neg (by decide)]
theorem tk_first (f : Fm) (r : List Tok) : endsT (tkF f ++ r) = false := by
  cases f with
  | nm s => rfl
  | un u f => rfl
  | bin o f g => rfl
theorem whole_stmts (f : Fm) (n : Nat) (hn : costF f ≤ n) : parseF (n + 6) .stmts 0 (⟨4, [114, 101, 116, 117, 114, 110], 0, 0⟩ :: (tkF f ++ [⟨5, [], 0, 0⟩])) = if fitsF 0 f = true then .ok (.cons (.st 8 0 [] .nil (treeF f) .nil .nil .nil) .nil) [⟨5, [], 0, 0⟩] else .bad 3 0 := by
  rw [p_ret (n + 2) 0 _ (tk_first f _), p_operation, parse_fm f (n + 1) 0 _ (by omega) (by omega) ⟨by decide, by decide, by decide⟩]
  by_cases h : fitsF 0 f = true
  · rw [if_pos h, if_pos h, bind_ok, p_opLoop]; rfl
  · rw [if_neg h, if_neg h]; rfl
theorem whole_src (f : Fm) (n : Nat) (hn : costF f ≤ n) (hf : okF f) (hl : (txF f).length ≤ 1000) : sourceF (n + 6) (retL ++ txF f) = if fitsF 0 f = true then .ok (.cons (.st 8 0 [] .nil (treeF f) .nil .nil .nil) .nil) [⟨5, [], 0, 0⟩] else .bad 3 0 := by
  unfold sourceF
  rw [lex_whole f hf hl, if_pos rfl]
  simp only []
  rw [whole_stmts f n hn]
  by_cases h : fitsF 0 f = true
  · rw [if_pos h]; rfl
  · rw [if_neg h]; rfl
theorem whole_ok (f : Fm) (hf : okF f) (hl : (txF f).length ≤ 1000) (h : fitsF 0 f = true) : shapesAs (costF f + 6) (txF f) (txF f) = true := by
  unfold shapesAs
  rw [whole_src f _ (Nat.le_refl _) hf hl, if_pos h]
  simp [ex_tree_F, wf_tree_F, shape_tree_F]
theorem whole_bad (f : Fm) (hf : okF f) (hl : (txF f).length ≤ 1000) (h : ¬ fitsF 0 f = true) : sourceF (costF f + 6) (retL ++ txF f) = .bad 3 0 := by
  rw [whole_src f _ (Nat.le_refl _) hf hl, if_neg h]
theorem says_text {w : World} {v : Value} {s : List UInt8} {x : ByteArray} (h : Holds w v s) (hx : x = ⟨s.toArray⟩) : Calls Tryz.prog 16 #[v] w fun e w2 => e = .returned (.string x) ∧ ∃ m, w2 = w.drewN m := by
  subst hx
  exact h.says w (Below.refl _ _)
/-- A list of bytes that comes in. -/
theorem open_by {H : Type} {enc : TypeId × Value → H} {w : World} {base : Nat} {spare : Nat → Bool} {held : Bool} {r : Reach} {b0 : Nat} {v : Value} {d : DataW H} {p : List MemPlace} (hv : Value.okWide Tryz.prog w r b0 22 v) (h : DataW.Trod enc Tryz.prog w base spare held 22 v d p) :
    ∃ (A : Option Addr) (c : Nat) (l : List Nat), v = .slice A l.length c ∧ BySl w (.slice A l.length c) l := by
  obtain ⟨a, len, cap, rfl⟩ := okWide_slice Tryz.underlying22 hv
  obtain ⟨fuel, hf⟩ := h
  rcases Go.ChangeShapes.open_ints Tryz.underlying22 Tryz.underlying5 (by kernel_rfl) hf with ⟨hcs, _⟩ | ⟨a', len', cap', zs, hcs, _, hl, hm, hz, _, hcell, hwz⟩
  · simp [Value.cells] at hcs
    obtain ⟨rfl, rfl, rfl⟩ := hcs
    exact ⟨none, 0, [], rfl, none, 0, rfl, Nat.le_refl _, by decide, fun h => absurd rfl h⟩
  · simp [Value.cells] at hcs
    obtain ⟨rfl, rfl, rfl⟩ := hcs
    have hlen : len ≤ zs.length := by rw [hz]; split <;> omega
    have hll : ((zs.take len).map Int.toNat).length = len := by rw [List.length_map, List.length_take]; omega
    refine ⟨some a', cap, (zs.take len).map Int.toNat, by rw [hll], some a', cap, rfl, by rw [hll]; exact hl, by unfold maxLen at hm; omega, fun hne => ?_⟩
    have h0 : 0 < len := by rw [← hll]; exact List.length_pos_iff.2 hne
    refine ⟨a', rfl, ?_, fun i x hx => ?_⟩
    · have := World.block_lt_of_cell? w _ (hcell 0 (by omega))
      rwa [Go.ChangeShapes.block_add] at this
    · rw [List.getElem?_map] at hx
      obtain ⟨z, hz1, hz2⟩ := Option.map_eq_some_iff.1 hx
      have hi : i < len := by
        have := (List.getElem?_eq_some_iff.1 hz1).1
        rw [List.length_take] at this; omega
      rw [List.getElem?_take_of_lt hi] at hz1
      have hc := hcell i (by omega)
      have e : zs.getD i 0 = z := by rw [List.getD_eq_getElem?_getD, hz1]; rfl
      rw [e] at hc
      obtain ⟨b1, b2⟩ := of_wf_u8 (hwz z (List.mem_of_getElem? hz1))
      subst hz2
      have ez : ((z.toNat : Nat) : Int) = z := by omega
      exact ⟨by rw [hc, ez], by omega⟩
theorem by_take {w : World} {A : Option Addr} {c m : Nat} {l : List Nat} (h : BySl w (.slice A l.length c) l) (hm : m ≤ l.length) (B : Option Addr) (hB : m ≠ 0 → B = A) : BySl w (.slice B m c) (l.take m) := by
  obtain ⟨A', c', e, h1, h2, h3⟩ := h
  injection e with e1 e2 e3
  subst e1; subst e3
  have hl : (l.take m).length = m := by rw [List.length_take]; omega
  refine ⟨B, c, by rw [hl], by rw [hl]; omega, h2, fun hne => ?_⟩
  have hm0 : m ≠ 0 := by rintro rfl; exact hne (by simp)
  obtain ⟨a, e, h4, h5⟩ := h3 (by rintro rfl; simp at hm; exact hm0 hm)
  refine ⟨a, by rw [hB hm0, e], h4, fun i x hx => h5 i x ?_⟩
  have hi : i < m := by
    have := (List.getElem?_eq_some_iff.1 hx).1
    omega
  rwa [List.getElem?_take_of_lt hi] at hx
theorem parse_bad (f : Fm) (T : ByteArray) (hT : T.data.toList = txF f) (h : sourceF (costF f + 6) (retL ++ txF f) = .bad 3 0) (hc : costF f + 6 ≤ 1099511627776) (w : World) (hE : Env4 w) :
    Calls Tryz.prog 8 #[.string (⟨#[114, 101, 116, 117, 114, 110, 32]⟩ ++ T)] w fun e w' => ∃ b, e = .returned (.tuple #[.slice none 0 0, .iface 59 (pV b)]) ∧ w'.cell? ⟨b, 0, none⟩ = some (iV 3) ∧ Below w.heap.size w w' := by
  have e : ((⟨#[114, 101, 116, 117, 114, 110, 32]⟩ ++ T : ByteArray)).data.toList = retL ++ txF f := by rw [Joins.data_append, hT]; rfl
  have hP := Parse_all (costF f + 6) hc (⟨#[114, 101, 116, 117, 114, 110, 32]⟩ ++ T) w hE (by rw [e, h]; intro h; cases h)
  rw [e, h] at hP
  refine hP.mono ?_
  rintro x w1 ⟨hb, b, rfl, _, hf⟩
  exact ⟨b, rfl, hf.1, hb⟩
set_option maxHeartbeats 8000000 in
theorem walk (A : Option Addr) (c : Nat) (l : List Nat) (w : World) (hb : BySl w (.slice A l.length c) l) (hE : Env4 w) :
    Calls Tryz.prog 4 #[.slice A l.length c] w fun e w' => e = .returned (.bool true) ∧ Below w.heap.size w w' := by
  obtain ⟨m, hm⟩ : ∃ m, m = min l.length 60 := ⟨_, rfl⟩
  have hm1 : m ≤ l.length := by omega
  have hm2 : min (l.length : Int) 60 = (m : Int) := by omega
  have hcap : l.length ≤ c := by obtain ⟨A', c', e, h1, h2, _⟩ := hb; injection e with _ _ e3; omega
  have hcm : c ≤ 9223372036854775807 := by obtain ⟨A', c', e, h1, h2, _⟩ := hb; injection e with _ _ e3; omega
  have hll : (l.take m).length = m := by rw [List.length_take]; omega
  have M := Lib.hid (fun B hB => made_any m (l.take m) (by omega) (by omega) w _ (by_take hb hm1 B hB))
  have hfl := made_len m (l.take m)
  have hff := made_fine m (l.take m)
  have hrest : ∃ f rest, f = (madeF m (l.take m)).1 ∧ rest = (madeF m (l.take m)).2 := ⟨_, _, rfl, rfl⟩
  obtain ⟨f, rest, hf1, hf2⟩ := hrest
  rw [← hf1, ← hf2] at M hfl
  rw [← hf1] at hff
  have hlen : (txF f).length ≤ 1000 := by omega
  clear hf1 hf2 hb
  generalize l.length = n at hm hm1 hm2 hcap ⊢
  clear hm hfl hll
  have m0 : (0 : Int) ≤ (m : Int) := by omega
  have mc : (m : Int) ≤ (c : Int) := by omega
  replace hE := Lib.hid hE
  have hcost := cost_le f
  obtain ⟨T, hT⟩ : ∃ T : ByteArray, T = ⟨(txF f).toArray⟩ := ⟨_, rfl⟩
  have hTl : T.data.toList = txF f := by rw [hT]
  have hTs : T.size ≤ 1000 := by rw [← size_toList, hTl]; exact hlen
  have M2 : ∀ B, (m ≠ 0 → B = A) → Calls Tryz.prog 13 #[.slice B m c] w fun e w' => ∃ v, e = .returned (.tuple #[.string T, .string T, v]) ∧ Below w.heap.size w w' := fun B hB => (M.out B hB).mono (by rw [hT]; rintro e w' ⟨v, rfl, _, h⟩; exact ⟨v, rfl, h⟩)
  replace M2 := Lib.hid M2
  clear M
  by_cases hfit : fitsF 0 f = true
  · have X := Lib.hid (fun w hE => expr_shape (costF f + 6) (by omega) T (txF f) (by rw [hTl]; exact whole_ok f hff hlen hfit) (by omega) (by omega) w hE)
    have SH := Lib.hid (fun (w : World) (v : Value) (h : Holds w v (txF f)) => says_text h hT)
    have hd : (T.toList == T.toList) = true := by simp
    clear hT hTl hTs hcost hlen hff hfit
    go_enter Tryz.func4, Tryz.ntmps4
    go_wp2_with (first
      | (go_at_call 13; (refine (M2.out _ (fun _ => rfl)).mono ?_); rintro e w1 ⟨v1, rfl, hb1⟩; have B := Lib.hid hb1; have E := Lib.hid (hE.out.below hb1); clear hb1)
      | (go_at_call 14; (with_reducible refine (X.out _ E.out).mono ?_); rintro e w2 ⟨v2, rfl, h2, hb2⟩; obtain ⟨g2, rfl⟩ := h2.ptr; have H := Lib.hid h2; replace B := Lib.hid (below_then B.out hb2); replace E := Lib.hid (E.out.below hb2); clear hb2 h2)
      | (go_at_call 16; (with_reducible refine (SH.out _ _ H.out).mono ?_); rintro e w3 ⟨rfl, m3, rfl⟩; replace B := Lib.hid (below_drewN B.out m3); replace E := Lib.hid (env_drewN E.out m3))
      | (go_at_call 12; (with_reducible refine (works_true _ E.out).mono ?_); rintro e w4 ⟨rfl, hb4⟩; replace B := Lib.hid (below_then B.out hb4); clear hb4))
    go_ret
    exact ⟨rfl, B.out⟩
  · have X := Lib.hid (fun w hE => expr_bad (costF f + 6) (by omega) T 3 0 (by rw [hTl]; exact whole_bad f hff hlen hfit) (by omega) w hE)
    have Y := Lib.hid (fun w hE => parse_bad f T hTl (whole_bad f hff hlen hfit) (by omega) w hE)
    have n1 : ¬ 9223372036854775807 < 7 + T.size := by omega
    clear hT hTl hTs hcost hlen hff hfit
    go_enter Tryz.func4, Tryz.ntmps4
    go_wp2_with (first
      | (go_at_call 13; (refine (M2.out _ (fun _ => rfl)).mono ?_); rintro e w1 ⟨v1, rfl, hb1⟩; have B := Lib.hid hb1; have E := Lib.hid (hE.out.below hb1); clear hb1)
      | (go_at_call 14; (with_reducible refine (X.out _ E.out).mono ?_); rintro e w2 ⟨rfl, hb2⟩; replace B := Lib.hid (below_then B.out hb2); replace E := Lib.hid (E.out.below hb2); clear hb2)
      | (go_at_call 8; (with_reducible refine (Y.out _ E.out).mono ?_); rintro e w3 ⟨b, rfl, h3, hb3⟩; replace B := Lib.hid (below_then B.out hb3); replace E := Lib.hid (E.out.below hb3); clear hb3)
      | (go_at_call 15; (with_reducible refine (is_fault b 3 _ h3).mono ?_); rintro e w4 ⟨rfl, hq⟩; obtain rfl := hq.symm)
      | (go_at_call 12; (with_reducible refine (works_true _ E.out).mono ?_); rintro e w4 ⟨rfl, hb4⟩; replace B := Lib.hid (below_then B.out hb4); clear hb4))
    go_ret
    exact ⟨rfl, B.out⟩
set_option maxRecDepth 100000 in
theorem contract (H : Type) (enc : TypeId × Value → H) (W : World) (base : Nat) (args : Array Value) (ds gs : List (DataW H)) (before : List MemPlace)
    (hval : ∀ (j : Nat) t v, Tryz.f4.params[j]? = some t → args[j]? = some v → Value.okWide Tryz.prog W .any base t v)
    (hW : DataW.Whole enc Tryz.prog Tryz.f4.params.toList Rows.parseWholeSpec.vars false W args.toList ds gs before)
    (hsz0 : (DataW.weightsEach Tryz.prog (Tryz.f4.params.toList ++ (OpenSpec.ofChange Rows.parseWholeSpec).bare.plain.varTypes Tryz.prog) (ds ++ gs)).all (· ≤ reachBytes) = true) (hL : laidMetH Tryz.prog Rows.parseWholeRow.laid W) :
    Calls Tryz.prog 4 args W fun e W' => ∃ v, e = .returned v ∧ Rows.parseWholeSpec.post enc Tryz.prog Tryz.f4 false true false false W args v W' := by
  have hW' := hW
  obtain ⟨p, q, hA0, hV, rfl, hfz, hnd⟩ := hW
  have hA : DataW.TrodAll enc Tryz.prog W 0 (fun _ => true) true Tryz.f4.params.toList args.toList ds p := hA0
  have hsz := hsz0
  rw [Tryz.params4] at hA hval hsz
  obtain ⟨v0, vs0, d0, ds0, p0, q0, hargs, rfl, rfl, h0, r0⟩ := trodAll_cons hA
  obtain ⟨rfl, rfl, rfl⟩ := trodAll_nil r0
  obtain rfl : args = #[v0] := by cases args; simp_all
  obtain ⟨rfl, rfl⟩ := trodVars_none hV
  obtain ⟨A0, c0, l0, rfl, w0⟩ := open_by (hval 0 22 v0 rfl rfl) h0
  clear hA0 hsz hsz0
  simp only [List.append_nil] at hW'
  refine (walk A0 c0 l0 W w0 (env_of_laid hL)).mono fun e W' ⟨he, hb⟩ => ?_
  subst he
  exact ⟨_, rfl, law_post laidOut (by kernel_rfl) (by kernel_rfl) Tryz.underlying4 hW' hb rfl⟩

theorem laid_met (os : Os) : laidMetH Tryz.prog Rows.parseWholeRow.laid ((laidWorld os).forCall (fun _ _ => 0) ⟨#[], #[.slice none 0 0], []⟩).memory :=
  laid_metH os _ (laidMet_of_run' 8 (by kernel_rfl) (by kernel_rfl)) (by kernel_rfl)
theorem reads (os : Os) {H : Type} (enc : TypeId × Value → H) : ∃ places, DataW.whole enc Tryz.prog ((laidWorld os).forCall (fun _ _ => 0) ⟨#[], #[.slice none 0 0], []⟩).memory Tryz.f4.params.toList Rows.parseWholeSpec.vars false (#[.slice none 0 0] : Array Value).toList 8 = some ([.nil], [], places) :=
  ⟨[], by kernel_rfl⟩

set_option maxRecDepth 100000 in
theorem lifted (os : Os) (started : os.Started) (H : Type) (enc : TypeId × Value → H) (F : Stop.Interp) :
    ReturnsInHanded {} Tryz.checked os 4 .any ((OpenSpec.ofChange Rows.parseWholeSpec).preRow enc Tryz.prog Tryz.f4 Rows.parseWholeRow.domain false Rows.parseWholeRow.laid) (((OpenSpec.ofChange Rows.parseWholeSpec).at F).post enc Tryz.prog Tryz.f4 false true false false) := by
  obtain ⟨places, hx⟩ := reads os enc
  refine returnsInHanded_of_row (C := Tryz.checked) (s := (OpenSpec.ofChange Rows.parseWholeSpec)) own started (by kernel_rfl) Tryz.func4
    (witness_row_atRef (enc := enc) (C := Tryz.checked) false (laidWorld os) #[.slice none 0 0] rfl (by kernel_rfl) (by kernel_rfl) (by kernel_rfl)
      (OpenSpec.preRow_of_cond 8 hx (by kernel_rfl) (fun k hk => by cases hk) (by kernel_rfl) (laid_met os))) ?_
  intro W base args ds gs before hval hW _ _ hsz hL _ _
  exact contract H enc W base args ds gs before hval hW hsz hL

theorem said : Rows.ParseWholeSaid :=
  OpenClaim.holds_of_cond 4 Tryz.f4 rfl rfl rfl rfl rfl rfl rfl ⟨rfl, rfl, rfl, rfl, rfl⟩ rfl rfl rfl rfl rfl (by kernel_rfl) Tryz.func4 (by kernel_rfl)
    (of_decide_eq_true (by kernel_rfl)) (by unfold Func.isWrapper; first | (rw [if_pos (by decide +kernel)]; kernel_rfl) | (rw [if_neg (by decide +kernel)]; exact ⟨rfl, rfl⟩))
    (fun os started H enc _ F => by rw [OpenClaim.pre_eq_preRow]; exact lifted os started H enc F)

/-- No parameter wants a stand-in; the program's own looks are off: what the card asks. -/
theorem plain (f : FuncId) (fn : Func) (hf : Tryz.pinned.checked.prog.funcNamed "tallow/tallowlaw05.ParseWhole" = some f) (hfn : Tryz.pinned.checked.prog.funcs[f]? = some fn) :
    Rows.parseWholeCard.stood.looks = Tryz.pinned.checked.prog.looks [] ∧ ∀ (j : Nat) t, fn.params[j]? = some t → Tryz.pinned.checked.prog.wantsStandIn t = false := by
  obtain rfl : f = 4 := Option.some.inj ((show Tryz.prog.funcNamed "tallow/tallowlaw05.ParseWhole" = some 4 by kernel_rfl).symm.trans hf) |>.symm
  obtain rfl : fn = Tryz.f4 := (Option.some.inj (Tryz.func4.symm.trans hfn)).symm
  refine ⟨by kernel_rfl, fun j t ht => ?_⟩
  rw [Tryz.params4] at ht
  have hm : t ∈ ([22] : List TypeId) := by simpa using Array.mem_of_getElem? ht
  have ha : ([22] : List TypeId).all (fun t => !Tryz.prog.wantsStandIn t) = true := by kernel_rfl
  have hb := List.all_eq_true.1 ha t hm
  have hc : Tryz.prog.wantsStandIn t = false := by simpa using hb
  exact hc

/-- THE CARD. -/
theorem card : Rows.ParseWholeCardSaid :=
  Claim7.holds_tied_plain_at .later [] _ _ _ _ said (fun _ h => by cases h) (by kernel_rfl) (fun _ h => by cases h) parseWhole_row_tie rfl ⟨rfl, rfl⟩ (by kernel_rfl) rfl plain (by kernel_rfl)
end Go.Proofs.YtebkdegcifkigaaGreatDoor.parseWhole
