/- LexStrings: any string, cut at 1000 bytes, and so many line feeds ahead: its text is one word, that is read as that string, on its line; the arguments read as they did. Conditions: none but the form's own reach; the listed variables as the program's text lays them. -/
import Derived.Test.YteoccfmhpakplaaGreatDoorLexFrame
import Derived.Test.YteoccfmhpakplaaGreatDoorLexFill
import Derived.Test.YteoccfmhpakplaaGreatDoorTie
import Derived.Test.YteoccfmhpakplaaGreatDoorCards
import Derived.Deep.RegionWith
namespace Go.Proofs.YteoccfmhpakplaaGreatDoor.lexStrings
set_option maxRecDepth 20000
open Go.ChangeShapes Go.WideShapes Go.ChangeAt Go.RowKit

theorem tokL_feeds : ∀ (n : Nat) (t : List UInt8) (l : Nat), tokL (List.replicate n 10 ++ t) l = tokL t (l + n)
  | 0, t, l => by simp
  | n + 1, t, l => by
    rw [List.replicate_succ, List.cons_append, tokL_space l (by decide), if_pos rfl, tokL_feeds n]
    congr 1; omega
theorem string_word (s : List UInt8) (r : List UInt8) (hs : s.length ≤ 4096) : kindL (quoteL s ++ r) = 3 ∧ wordL (quoteL s ++ r) = ⟨0, 3, s, 0, (quoteL s).length⟩ := by
  have hc : quoteL s ++ r = 34 :: (bodyL s ++ 34 :: r) := by unfold quoteL; simp
  have hk : kindL (quoteL s ++ r) = 3 := by
    rw [hc]
    rcases kind_cases 34 (bodyL s ++ 34 :: r) with ⟨g, _⟩ | ⟨_, ⟨h, _⟩ | ⟨_, h, _⟩ | ⟨_, _, _, e⟩ | ⟨_, _, h, _⟩⟩
    · rcases g with g | g
      · exact absurd g (by decide)
      · rw [prefix_take] at g; simp at g
    · exact absurd h (by decide)
    · exact absurd h (by decide)
    · exact e
    · exact absurd rfl h
  have hq : quotedN (quoteL s ++ r) = (quoteL s).length := by
    have h1 := closeF_of_R _ _ _ (close_read _ (bodyL s) s r (Nat.le_refl _) (read_body s))
    unfold quotedN
    rw [hc, List.drop_one, List.tail_cons, h1, quote_length]
  refine ⟨hk, ?_⟩
  unfold wordL
  rw [hk]
  show strW (headL 3 (quoteL s ++ r)) = _
  have eh : headL 3 (quoteL s ++ r) = quoteL s := by
    unfold headL
    rw [if_neg (by omega), if_pos rfl, hq, List.take_left']
    rfl
  rw [eh]
  have e0 : unqL (quoteL s) = (s, 0) := by rw [unq_quote, if_neg (by omega)]
  unfold strW
  rw [e0]; rfl
theorem lex_string (s : List UInt8) (n : Nat) (hs : s.length ≤ 1000) (hn : n ≤ 255) : lexL (List.replicate n 10 ++ quoteL s ++ [120]) = ⟨[⟨3, s, 0, n⟩, ⟨1, [120], 0, n⟩, ⟨5, [], 0, n⟩], 0, n⟩ := by
  have hb := body_length s
  have hl : (List.replicate n 10 ++ quoteL s ++ [120]).length ≤ 32768 := by
    rw [List.length_append, List.length_append, List.length_replicate, quote_length]; simp only [List.length_cons, List.length_nil]; omega
  unfold lexL
  rw [if_neg (by omega), List.append_assoc, tokL_feeds, Nat.zero_add]
  obtain ⟨h1, h2⟩ := string_word s [120] (by omega)
  rw [tokL_word n (by unfold quoteL; simp) (by rw [h1]; decide) (by rw [h2]), h2]
  show pushL ⟨3, s, 0, n⟩ (tokL ((quoteL s ++ [120]).drop (quoteL s).length) n) = _
  rw [List.drop_left']
  · rfl
  · rfl
theorem bytes3 (a b c : List UInt8) : ((⟨a.toArray⟩ : ByteArray) ++ ⟨b.toArray⟩ ++ ⟨c.toArray⟩).data.toList = a ++ b ++ c := by
  rw [ByteArray.mk_append_mk, ByteArray.mk_append_mk]
theorem cut_size (s : ByteArray) (m : Nat) : (s.extract 0 (min (s.size : Int) (m : Int)).toNat).size ≤ m := by
  rw [← size_toList, Lib.extract_data, List.length_take]; omega
theorem _root_.Go.Proofs.YteoccfmhpakplaaGreatDoor.Row.keep {w w1 w2 : World} {v : Value} {l : List UInt8} (h : Row w v l w1) (hb : Below w1.heap.size w1 w2) : Row w v l w2 := ⟨own_below h.own hb, h.below.trans (hb.mono h.below.size)⟩
set_option maxHeartbeats 8000000 in
theorem walk_nat (s : ByteArray) (_u0 : s.size ≤ 281474976710656) (t : ByteArray) (ht : s.extract 0 (min (s.size : Int) 1000).toNat = t) (hts : t.size ≤ 1000) (n : Nat) (hn : n ≤ 255) (w : World) (hE : Env4 w) :
    Calls Tryz.prog 6 #[.string s, .int .u8 n] w fun e w' => e = .returned (.bool true) ∧ Below w.heap.size w w' := by
  have Q := Lib.hid (fun w => Quote_any t w (by omega))
  have hx : ((⟨(List.replicate n 10).toArray⟩ : ByteArray) ++ ⟨(quoteL t.data.toList).toArray⟩ ++ ⟨#[120]⟩).data.toList = List.replicate n 10 ++ quoteL t.data.toList ++ [120] := bytes3 _ _ [120]
  have hlex := lex_string t.data.toList n (by rw [size_toList]; exact hts) hn
  rw [← hx] at hlex
  have T := Lib.hid (fun w hE => Tokens_ok _ _ 3 n w hE hlex rfl)
  have Ln := Lib.hid (lines_any n hn)
  have E := Lib.hid hE
  have hd : (t.toList == t.toList) = true := by simp
  have hq : (⟨(quoteL t.data.toList).toArray⟩ : ByteArray).size ≤ 4002 := by
    have := body_length t.data.toList
    rw [← size_toList]
    show (quoteL t.data.toList).length ≤ _
    rw [quote_length]; rw [size_toList] at this; omega
  have hp : (⟨(List.replicate n 10).toArray⟩ : ByteArray).size ≤ 255 := by
    rw [← size_toList]
    show (List.replicate n (10 : UInt8)).length ≤ _
    rw [List.length_replicate]; exact hn
  clear hE hx hlex
  generalize (⟨(quoteL t.data.toList).toArray⟩ : ByteArray) = q at Q T hq
  have CV := Lib.hid (fun (w w' : World) (v : Value) (h : Row w v (List.replicate n 10) w') => str_of_own h.own)
  generalize (⟨(List.replicate n 10).toArray⟩ : ByteArray) = p at T hp CV
  have hpq : (p ++ q).size ≤ 4257 := by rw [ByteArray.size_append]; omega
  have hpx : (p ++ q ++ ⟨#[120]⟩).size ≤ 4258 := by rw [ByteArray.size_append]; show (p ++ q).size + 1 ≤ _; omega
  go_enter Tryz.func6, Tryz.ntmps6
  go_wp2_with (go_at_call 13; refine (works_true _ E.out).mono ?_; rintro e w0 ⟨rfl, hb0⟩; have B := Lib.hid hb0.drew; have E0 := Lib.hid (E.out.below hb0.drew); clear hb0)
  go_region_with (first
    | (go_at_call 17; refine (Ln.out _).mono ?_; rintro e w1 ⟨v, rfl, hR⟩; replace B := Lib.hid (B.out.trans (hR.below.mono B.out.size)); have C := CV.out _ _ _ hR; have RR := Lib.hid hR; clear hR)
    | (go_at_call 18; refine (Q.out _).mono ?_; rintro e w2 ⟨rfl, hb2⟩; replace B := Lib.hid (B.out.trans (hb2.mono B.out.size)); have C2 := CV.out _ _ _ (RR.out.keep hb2); clear hb2)
    | (go_at_call 9; refine (T.out _ (E.out.below B.out)).mono ?_; rintro e w3 ⟨A, c, rfl, hA, hb3⟩; obtain ⟨g, rfl⟩ := hA.blk (by simp); have x := hA.get 0 _ rfl; have x0 := x.c0; have x1 := x.c1; have x2 := x.c2; have x3 := x.c3; replace x := hA.get 1 _ rfl; have y0 := x.c0; simp only [] at x1; rw [Lib.mk_data] at x1; replace B := Lib.hid (B.out.trans (hb3.mono B.out.size)); clear x hA hb3))
  all_goals
    go_wp2_with fail
    go_ret
    exact ⟨rfl, B.out⟩
theorem walk (s : ByteArray) (a1 : Int) (_u0 : s.size ≤ 281474976710656) (l1 : 0 ≤ a1) (u1 : a1 ≤ 255) (w : World) (hE : Env4 w) :
    Calls Tryz.prog 6 #[.string s, .int .u8 a1] w fun e w' => e = .returned (.bool true) ∧ Below w.heap.size w w' := by
  obtain ⟨n, rfl⟩ : ∃ n : Nat, a1 = n := ⟨a1.toNat, by omega⟩
  exact walk_nat s _u0 _ rfl (cut_size s 1000) n (by omega) w hE
set_option maxRecDepth 100000 in
theorem contract (H : Type) (enc : TypeId × Value → H) (W : World) (base : Nat) (args : Array Value) (ds gs : List (DataW H)) (before : List MemPlace)
    (hval : ∀ (j : Nat) t v, Tryz.f6.params[j]? = some t → args[j]? = some v → Value.okWide Tryz.prog W .any base t v)
    (hW : DataW.Whole enc Tryz.prog Tryz.f6.params.toList Rows.lexStringsSpec.vars false W args.toList ds gs before)
    (hsz0 : (DataW.weightsEach Tryz.prog (Tryz.f6.params.toList ++ (OpenSpec.ofChange Rows.lexStringsSpec).bare.plain.varTypes Tryz.prog) (ds ++ gs)).all (· ≤ reachBytes) = true) (hL : laidMetH Tryz.prog Rows.lexStringsRow.laid W) :
    Calls Tryz.prog 6 args W fun e W' => ∃ v, e = .returned v ∧ Rows.lexStringsSpec.post enc Tryz.prog Tryz.f6 false true false false W args v W' := by
  have hW' := hW
  obtain ⟨p, q, hA0, hV, rfl, hfz, hnd⟩ := hW
  have hA : DataW.TrodAll enc Tryz.prog W 0 (fun _ => true) true Tryz.f6.params.toList args.toList ds p := hA0
  have hsz := hsz0
  rw [Tryz.params6] at hA hval hsz
  obtain ⟨v0, vs0, d0, ds0, p0, q0, hargs, rfl, rfl, h0, r0⟩ := trodAll_cons hA
  obtain ⟨v1, vs1, d1, ds1, p1, q1, rfl, rfl, rfl, h1, r1⟩ := trodAll_cons r0
  obtain ⟨rfl, rfl, rfl⟩ := trodAll_nil r1
  obtain rfl : args = #[v0, v1] := by cases args; simp_all
  obtain ⟨rfl, rfl⟩ := trodVars_none hV
  obtain ⟨a0, rfl, rfl, rfl, w0⟩ := Go.ChangeMaps.open_string Tryz.underlying9 (hval 0 9 v0 rfl rfl) h0
  have u0 := str_reach (sized_string hsz (j := 0) (t := 9) rfl rfl)
  obtain ⟨a1, rfl, rfl, rfl, w1⟩ := open_int Tryz.underlying5 (hval 1 5 v1 rfl rfl) h1
  obtain ⟨l1, u1⟩ := of_wf_u8 w1
  clear hA0 hsz hsz0
  simp only [List.append_nil] at hW'
  refine (walk a0 a1 u0 l1 u1 W (env_of_laid hL)).mono fun e W' ⟨he, hb⟩ => ?_
  subst he
  exact ⟨_, rfl, law_post laidOut (by kernel_rfl) (by kernel_rfl) Tryz.underlying4 hW' hb rfl⟩

theorem laid_met (os : Os) : laidMetH Tryz.prog Rows.lexStringsRow.laid ((laidWorld os).forCall (fun _ _ => 0) ⟨#[], #[.string ⟨#[]⟩, .int .u8 0], []⟩).memory :=
  laid_metH os _ (laidMet_of_run' 8 (by kernel_rfl) (by kernel_rfl)) (by kernel_rfl)
theorem reads (os : Os) {H : Type} (enc : TypeId × Value → H) : ∃ places, DataW.whole enc Tryz.prog ((laidWorld os).forCall (fun _ _ => 0) ⟨#[], #[.string ⟨#[]⟩, .int .u8 0], []⟩).memory Tryz.f6.params.toList Rows.lexStringsSpec.vars false (#[.string ⟨#[]⟩, .int .u8 0] : Array Value).toList 8 = some ([.lit (.string []), .lit (.int .u8 0)], [], places) :=
  ⟨[], by kernel_rfl⟩

set_option maxRecDepth 100000 in
theorem lifted (os : Os) (started : os.Started) (H : Type) (enc : TypeId × Value → H) (F : Stop.Interp) :
    ReturnsInHanded {} Tryz.checked os 6 .any ((OpenSpec.ofChange Rows.lexStringsSpec).preRow enc Tryz.prog Tryz.f6 Rows.lexStringsRow.domain false Rows.lexStringsRow.laid) (((OpenSpec.ofChange Rows.lexStringsSpec).at F).post enc Tryz.prog Tryz.f6 false true false false) := by
  obtain ⟨places, hx⟩ := reads os enc
  refine returnsInHanded_of_row (C := Tryz.checked) (s := (OpenSpec.ofChange Rows.lexStringsSpec)) own started (by kernel_rfl) Tryz.func6
    (witness_row_atRef (enc := enc) (C := Tryz.checked) false (laidWorld os) #[.string ⟨#[]⟩, .int .u8 0] rfl (by kernel_rfl) (by kernel_rfl) (by kernel_rfl)
      (OpenSpec.preRow_of_cond 8 hx (by kernel_rfl) (fun k hk => by cases hk) (by kernel_rfl) (laid_met os))) ?_
  intro W base args ds gs before hval hW _ _ hsz hL _ _
  exact contract H enc W base args ds gs before hval hW hsz hL

theorem said : Rows.LexStringsSaid :=
  OpenClaim.holds_of_cond 6 Tryz.f6 rfl rfl rfl rfl rfl rfl rfl ⟨rfl, rfl, rfl, rfl, rfl⟩ rfl rfl rfl rfl rfl (by kernel_rfl) Tryz.func6 (by kernel_rfl)
    (of_decide_eq_true (by kernel_rfl)) (by unfold Func.isWrapper; first | (rw [if_pos (by decide +kernel)]; kernel_rfl) | (rw [if_neg (by decide +kernel)]; exact ⟨rfl, rfl⟩))
    (fun os started H enc _ F => by rw [OpenClaim.pre_eq_preRow]; exact lifted os started H enc F)

/-- No parameter wants a stand-in; the program's own looks are off: what the card asks. -/
theorem plain (f : FuncId) (fn : Func) (hf : Tryz.pinned.checked.prog.funcNamed "tallow/tallowlaw04.LexStrings" = some f) (hfn : Tryz.pinned.checked.prog.funcs[f]? = some fn) :
    Rows.lexStringsCard.stood.looks = Tryz.pinned.checked.prog.looks [] ∧ ∀ (j : Nat) t, fn.params[j]? = some t → Tryz.pinned.checked.prog.wantsStandIn t = false := by
  obtain rfl : f = 6 := Option.some.inj ((show Tryz.prog.funcNamed "tallow/tallowlaw04.LexStrings" = some 6 by kernel_rfl).symm.trans hf) |>.symm
  obtain rfl : fn = Tryz.f6 := (Option.some.inj (Tryz.func6.symm.trans hfn)).symm
  refine ⟨by kernel_rfl, fun j t ht => ?_⟩
  rw [Tryz.params6] at ht
  have hm : t ∈ ([9, 5] : List TypeId) := by simpa using Array.mem_of_getElem? ht
  have ha : ([9, 5] : List TypeId).all (fun t => !Tryz.prog.wantsStandIn t) = true := by kernel_rfl
  have hb := List.all_eq_true.1 ha t hm
  have hc : Tryz.prog.wantsStandIn t = false := by simpa using hb
  exact hc

/-- THE CARD. -/
theorem card : Rows.LexStringsCardSaid :=
  Claim7.holds_tied_plain_at .later [] _ _ _ _ said (fun _ h => by cases h) (by kernel_rfl) (fun _ h => by cases h) lexStrings_row_tie rfl ⟨rfl, rfl⟩ (by kernel_rfl) rfl plain (by kernel_rfl)
end Go.Proofs.YteoccfmhpakplaaGreatDoor.lexStrings
