/- ValBack: of every two numbers and every text: a builtin and its name are found by each other, and no two kinds have one name; the arguments read as they did. Conditions: none but the tied package-level variables and the form's own reach. -/
import Derived.Test.YtapofoepijkcoaaDoorCards
import Derived.Test.YtapofoepijkcoaaDoorTie
import Derived.Test.YtapofoepijkcoaaDoorValFrame
namespace Go.Proofs.YtapofoepijkcoaaDoor.valBack
open Go.ChangeShapes Go.WideShapes Go.ChangeAt Go.RowKit

theorem bytes_eq {a b : ByteArray} (h : (a.toList == b.toList) = true) : a = b := by
  have h2 : a.toList = b.toList := by simpa using h
  rw [Go.ByteArray.toList_eq, Go.ByteArray.toList_eq] at h2
  exact Go.WideShapes.bytes_inj h2
theorem libI_cases (s : ByteArray) : libI s = -1 ∨ ∃ k : Nat, k < 13 ∧ libI s = k ∧ libT k = s := by
  unfold libI
  cases h : (List.range 13).find? (fun k => (libT k).toList == s.toList) with
  | none => exact .inl rfl
  | some k =>
    have h1 := List.find?_some h
    have h2 := List.mem_of_find?_eq_some h
    exact .inr ⟨k, by simpa using h2, rfl, bytes_eq h1⟩
theorem libI_libT : ∀ k : Nat, k < 13 → libI (libT k) = k ∧ (libT k).toList.isEmpty = false := by decide +kernel
theorem kindT_ne : ∀ k : Nat, k < 10 → (kindT k).toList.isEmpty = false ∧ ∀ j : Nat, j < 10 → k ≠ j → ((kindT k).toList == (kindT j).toList) = false := by decide +kernel
set_option maxHeartbeats 2000000 in
theorem walk_of (n m k : Int) (s x y z u : ByteArray) (w : World) (hE : Env w) (hk : 0 ≤ k ∧ x = s ∨ k = -1)
    (hy : (y.toList.isEmpty = false ∧ ∀ w, Env w → Calls Tryd.prog 23 #[.string y] w fun e w' => e = .returned (.int .i64 n) ∧ w' = w) ∨ y = ⟨#[]⟩)
    (hz : z = ⟨#[]⟩ ∨ z.toList.isEmpty = false ∧ (n = m ∧ u = z ∨ (n == m) = false ∧ (z.toList == u.toList) = false))
    (K1 : Hid (∀ w, Env w → Calls Tryd.prog 23 #[.string s] w fun e w' => e = .returned (.int .i64 k) ∧ w' = w))
    (L1 : Hid (∀ w, Env w → Calls Tryd.prog 21 #[.int .i64 k] w fun e w' => e = .returned (.string x) ∧ w' = w))
    (L2 : Hid (∀ w, Env w → Calls Tryd.prog 21 #[.int .i64 n] w fun e w' => e = .returned (.string y) ∧ w' = w))
    (N1 : Hid (∀ w, Env w → Calls Tryd.prog 19 #[.int .i64 n] w fun e w' => e = .returned (.string z) ∧ w' = w))
    (N2 : Hid (∀ w, Env w → Calls Tryd.prog 19 #[.int .i64 m] w fun e w' => e = .returned (.string u) ∧ w' = w)) :
    Calls Tryd.prog 7 #[.int .i64 n, .int .i64 m, .string s] w fun e w' => e = .returned (.bool true) ∧ Below w.heap.size w w' := by
  have I : Hid (Below w.heap.size w w ∧ Env w) := ⟨Below.refl _ _, hE⟩
  clear hE
  rcases hk with ⟨hk, rfl⟩ | rfl <;> rcases hy with ⟨hy, Y⟩ | rfl <;> rcases hz with rfl | ⟨hz, ⟨rfl, rfl⟩ | ⟨hz1, hz2⟩⟩
  all_goals
    try have hk1 := decide_eq_false (show ¬ k < -1 by omega)
    try have hk2 := decide_eq_true hk
    try replace Y := Lib.hid Y
    go_enter Tryd.func7, Tryd.ntmps7
    go_wp2_with (first
      | (go_at_call 18; refine (works_true _ I.out.2).mono ?_; rintro e w1 ⟨rfl, hb⟩; replace I := Lib.hid (And.intro (I.out.1.trans (hb.mono I.out.1.size)) (I.out.2.below hb)); clear hb)
      | (go_at_call 23; (first | (with_reducible refine (K1.out _ I.out.2).mono ?_) | (with_reducible refine (Y.out _ I.out.2).mono ?_)); rintro e w' ⟨rfl, hq⟩; obtain rfl := hq.symm)
      | (go_at_call 21; (first | (with_reducible refine (L1.out _ I.out.2).mono ?_) | (with_reducible refine (L2.out _ I.out.2).mono ?_)); rintro e w' ⟨rfl, hq⟩; obtain rfl := hq.symm)
      | (go_at_call 19; (first | (with_reducible refine (N1.out _ I.out.2).mono ?_) | (with_reducible refine (N2.out _ I.out.2).mono ?_)); rintro e w' ⟨rfl, hq⟩; obtain rfl := hq.symm))
    go_ret
    exact ⟨rfl, I.out.1⟩
theorem walk (n m : Int) (s : ByteArray) (_ : -9223372036854775808 ≤ n) (_ : n ≤ 9223372036854775807) (_ : -9223372036854775808 ≤ m) (_ : m ≤ 9223372036854775807) (_ : s.size ≤ 281474976710656) (w : World) (hE : Env w) :
    Calls Tryd.prog 7 #[.int .i64 n, .int .i64 m, .string s] w fun e w' => e = .returned (.bool true) ∧ Below w.heap.size w w' := by
  refine walk_of n m (libI s) s (libB (libI s)) (libB n) (nameB n) (nameB m) w hE ?_ ?_ ?_ (Lib.hid (LibOf_any s)) (Lib.hid (Lib_any _)) (Lib.hid (Lib_any _)) (Lib.hid (Name_any _)) (Lib.hid (Name_any _))
  · rcases libI_cases s with h | ⟨k, hk, h1, h2⟩
    · exact .inr h
    · refine .inl ⟨by omega, ?_⟩
      rw [h1]
      unfold libB
      rw [if_pos (by omega)]
      exact h2
  · unfold libB
    by_cases h : 0 ≤ n ∧ n ≤ 12
    · rw [if_pos h]
      obtain ⟨h1, h2⟩ := libI_libT n.toNat (by omega)
      refine .inl ⟨h2, fun w hE => ?_⟩
      have := LibOf_any (libT n.toNat) w hE
      rw [h1, Int.toNat_of_nonneg h.1] at this
      exact this
    · rw [if_neg h]; exact .inr rfl
  · unfold nameB
    by_cases h : 0 ≤ n ∧ n ≤ 9
    · rw [if_pos h]
      obtain ⟨h1, h2⟩ := kindT_ne n.toNat (by omega)
      refine .inr ⟨h1, ?_⟩
      by_cases hm : 0 ≤ m ∧ m ≤ 9
      · rw [if_pos hm]
        by_cases e : n = m
        · subst e; exact .inl ⟨rfl, rfl⟩
        · exact .inr ⟨not_eq e, h2 m.toNat (by omega) (by omega)⟩
      · rw [if_neg hm]
        refine .inr ⟨not_eq (by omega), ?_⟩
        cases hl : (kindT n.toNat).toList with
        | nil => rw [hl] at h1; cases h1
        | cons a b => rw [show (⟨#[]⟩ : ByteArray).toList = [] by rw [Go.ByteArray.toList_eq]]; rfl
    · rw [if_neg h]; exact .inl rfl
set_option maxRecDepth 100000 in
theorem contract (H : Type) (enc : TypeId × Value → H) (W : World) (base : Nat) (args : Array Value) (ds gs : List (DataW H)) (before : List MemPlace)
    (hval : ∀ (j : Nat) t v, Tryd.f7.params[j]? = some t → args[j]? = some v → Value.okWide Tryd.prog W .any base t v)
    (hW : DataW.Whole enc Tryd.prog Tryd.f7.params.toList Rows.valBackSpec.vars false W args.toList ds gs before)
    (hsz0 : (DataW.weightsEach Tryd.prog (Tryd.f7.params.toList ++ (OpenSpec.ofChange Rows.valBackSpec).bare.plain.varTypes Tryd.prog) (ds ++ gs)).all (· ≤ reachBytes) = true) (hL : laidMetH Tryd.prog Rows.valBackRow.laid W) :
    Calls Tryd.prog 7 args W fun e W' => ∃ v, e = .returned v ∧ Rows.valBackSpec.post enc Tryd.prog Tryd.f7 false true false false W args v W' := by
  have hW' := hW
  obtain ⟨p, q, hA0, hV, rfl, hfz, hnd⟩ := hW
  have hA : DataW.TrodAll enc Tryd.prog W 0 (fun _ => true) true Tryd.f7.params.toList args.toList ds p := hA0
  have hsz := hsz0
  rw [Tryd.params7] at hA hval hsz
  obtain ⟨v0, vs0, d0, ds0, p0, q0, hargs, rfl, rfl, h0, r0⟩ := trodAll_cons hA
  obtain ⟨v1, vs1, d1, ds1, p1, q1, rfl, rfl, rfl, h1, r1⟩ := trodAll_cons r0
  obtain ⟨v2, vs2, d2, ds2, p2, q2, rfl, rfl, rfl, h2, r2⟩ := trodAll_cons r1
  obtain ⟨rfl, rfl, rfl⟩ := trodAll_nil r2
  obtain rfl : args = #[v0, v1, v2] := by cases args; simp_all
  obtain ⟨rfl, rfl⟩ := trodVars_none hV
  obtain ⟨a0, rfl, rfl, rfl, w0⟩ := open_int Tryd.underlying3 (hval 0 3 v0 rfl rfl) h0
  obtain ⟨l0, u0⟩ := of_wf_i64 w0
  obtain ⟨a1, rfl, rfl, rfl, w1⟩ := open_int Tryd.underlying3 (hval 1 3 v1 rfl rfl) h1
  obtain ⟨l1, u1⟩ := of_wf_i64 w1
  obtain ⟨a2, rfl, rfl, rfl, w2⟩ := Go.ChangeMaps.open_string Tryd.underlying9 (hval 2 9 v2 rfl rfl) h2
  have u2 := str_reach (sized_string hsz (j := 2) (t := 9) rfl rfl)
  clear hA0 hsz hsz0
  simp only [List.append_nil] at hW'
  refine (walk a0 a1 a2 l0 u0 l1 u1 u2 W (env_of_laid hL)).mono fun e W' ⟨he, hb⟩ => ?_
  subst he
  exact ⟨_, rfl, law_post laidOut (by kernel_rfl) (by kernel_rfl) Tryd.underlying4 hW' hb rfl⟩

theorem laid_met (os : Os) : laidMet Tryd.prog Rows.valBackRow.laid ((laidWorld os).forCall (fun _ _ => 0) ⟨#[], #[.int .i64 0, .int .i64 0, .string ⟨#[]⟩], []⟩).memory :=
  laidMet_of_run' 8 (by kernel_rfl) (by kernel_rfl)
theorem reads (os : Os) {H : Type} (enc : TypeId × Value → H) : ∃ places, DataW.whole enc Tryd.prog ((laidWorld os).forCall (fun _ _ => 0) ⟨#[], #[.int .i64 0, .int .i64 0, .string ⟨#[]⟩], []⟩).memory Tryd.f7.params.toList Rows.valBackSpec.vars false (#[.int .i64 0, .int .i64 0, .string ⟨#[]⟩] : Array Value).toList 8 = some ([.lit (.int .i64 0), .lit (.int .i64 0), .lit (.string [])], [], places) :=
  ⟨[], by kernel_rfl⟩

set_option maxRecDepth 100000 in
theorem lifted (os : Os) (started : os.Started) (H : Type) (enc : TypeId × Value → H) (F : Stop.Interp) :
    ReturnsInHanded {} Tryd.checked os 7 .any ((OpenSpec.ofChange Rows.valBackSpec).preRow enc Tryd.prog Tryd.f7 Rows.valBackRow.domain false Rows.valBackRow.laid) (((OpenSpec.ofChange Rows.valBackSpec).at F).post enc Tryd.prog Tryd.f7 false true false false) := by
  obtain ⟨places, hx⟩ := reads os enc
  refine returnsInHanded_of_row (C := Tryd.checked) (s := (OpenSpec.ofChange Rows.valBackSpec)) own started (by kernel_rfl) Tryd.func7
    (witness_row_atRef (enc := enc) (C := Tryd.checked) false (laidWorld os) #[.int .i64 0, .int .i64 0, .string ⟨#[]⟩] rfl (by kernel_rfl) (by kernel_rfl) (by kernel_rfl)
      (OpenSpec.preRow_of_cond 8 hx (by kernel_rfl) (fun k hk => by cases hk) (by kernel_rfl) (laid_met os))) ?_
  intro W base args ds gs before hval hW _ _ hsz hL _ _
  exact contract H enc W base args ds gs before hval hW hsz hL

theorem said : Rows.ValBackSaid :=
  OpenClaim.holds_of_cond 7 Tryd.f7 rfl rfl rfl rfl rfl rfl rfl ⟨rfl, rfl, rfl, rfl, rfl⟩ rfl rfl rfl rfl rfl (by kernel_rfl) Tryd.func7 (by kernel_rfl)
    (of_decide_eq_true (by kernel_rfl)) (by unfold Func.isWrapper; first | (rw [if_pos (by decide +kernel)]; kernel_rfl) | (rw [if_neg (by decide +kernel)]; exact ⟨rfl, rfl⟩))
    (fun os started H enc _ F => by rw [OpenClaim.pre_eq_preRow]; exact lifted os started H enc F)

/-- No parameter wants a stand-in; the program's own looks are off: what the card asks. -/
theorem plain (f : FuncId) (fn : Func) (hf : Tryd.pinned.checked.prog.funcNamed "tallow/tallowlaw02.ValBack" = some f) (hfn : Tryd.pinned.checked.prog.funcs[f]? = some fn) :
    Rows.valBackCard.stood.looks = Tryd.pinned.checked.prog.looks [] ∧ ∀ (j : Nat) t, fn.params[j]? = some t → Tryd.pinned.checked.prog.wantsStandIn t = false := by
  obtain rfl : f = 7 := Option.some.inj ((show Tryd.prog.funcNamed "tallow/tallowlaw02.ValBack" = some 7 by kernel_rfl).symm.trans hf) |>.symm
  obtain rfl : fn = Tryd.f7 := (Option.some.inj (Tryd.func7.symm.trans hfn)).symm
  refine ⟨by kernel_rfl, fun j t ht => ?_⟩
  rw [Tryd.params7] at ht
  have hm : t ∈ ([3, 3, 9] : List TypeId) := by simpa using Array.mem_of_getElem? ht
  have ha : ([3, 3, 9] : List TypeId).all (fun t => !Tryd.prog.wantsStandIn t) = true := by kernel_rfl
  have hb := List.all_eq_true.1 ha t hm
  have hc : Tryd.prog.wantsStandIn t = false := by simpa using hb
  exact hc

/-- THE CARD. -/
theorem card : Rows.ValBackCardSaid :=
  Claim7.holds_tied_plain_at .later [] _ _ _ _ said (fun _ h => by cases h) (by kernel_rfl) (fun _ h => by cases h) valBack_row_tie rfl ⟨rfl, rfl⟩ (by kernel_rfl) rfl plain (by kernel_rfl)
end Go.Proofs.YtapofoepijkcoaaDoor.valBack
