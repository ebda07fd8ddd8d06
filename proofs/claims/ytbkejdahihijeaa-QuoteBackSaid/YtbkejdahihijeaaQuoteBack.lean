/- QuoteBack: any string, cut at 6000 bytes: what is quoted is read as it was, or, of more than 4096 bytes, refused as too long; its text has no byte below 32 or above 126, and no quote between; the argument reads as it did. Conditions: none but the form's own reach. -/
import Derived.Test.YtbkejdahihijeaaQuoteWorks
import Derived.Test.YtbkejdahihijeaaLawPost
import Derived.ProofKit
namespace Go.Proofs.Ytbkejdahihijeaa.quoteBack
open Go.ChangeShapes Go.WideShapes Go.ChangeAt Go.RowKit

/-- How far the text was gone through: the next byte's place, and whether it is escaped. -/
def Scan (body : List UInt8) (k : Nat) (e : Bool) : Prop :=
  (k = 0 ∧ e = false) ∨ (1 ≤ k ∧ k ≤ body.length + 1 ∧ fineB e (body.drop (k - 1)) = true) ∨ k = body.length + 2
theorem scan_next {s : List UInt8} {k : Nat} {e : Bool} {c : UInt8} (h : Scan (bodyL s) k e) (hc : (quoteL s)[k]? = some c) :
    32 ≤ c.toNat ∧ c.toNat ≤ 126 ∧ (c = 34 → e = false → k = 0 ∨ k = (bodyL s).length + 1) ∧ Scan (bodyL s) (k + 1) (c == 92 && !e) := by
  unfold quoteL at hc
  rcases h with ⟨rfl, rfl⟩ | ⟨h1, h2, h3⟩ | rfl
  · simp at hc
    subst hc
    exact ⟨by decide, by decide, fun _ _ => .inl rfl, .inr (.inl ⟨by omega, by omega, by simpa using fine_body s⟩)⟩
  · obtain ⟨j, rfl⟩ : ∃ j, k = j + 1 := ⟨k - 1, by omega⟩
    rw [List.getElem?_cons_succ] at hc
    simp only [Nat.add_sub_cancel] at h3
    by_cases hj : j < (bodyL s).length
    · rw [List.getElem?_append_left hj] at hc
      have hd : (bodyL s).drop j = c :: (bodyL s).drop (j + 1) := by
        rw [List.drop_eq_getElem_cons hj]
        rw [List.getElem?_eq_getElem hj, Option.some.injEq] at hc
        rw [hc]
      rw [hd, fineB] at h3
      simp only [Bool.and_eq_true, decide_eq_true_eq] at h3
      obtain ⟨⟨⟨a1, a2⟩, a3⟩, a4⟩ := h3
      refine ⟨a1, a2, fun e1 e2 => ?_, .inr (.inl ⟨by omega, by omega, by simpa using a4⟩)⟩
      subst e1; subst e2
      simp at a3
    · obtain rfl : j = (bodyL s).length := by omega
      simp at hc
      subst hc
      exact ⟨by decide, by decide, fun _ _ => .inr rfl, .inr (.inr (by omega))⟩
  · rw [List.getElem?_cons_succ, List.getElem?_eq_none (by simp)] at hc
    cases hc
theorem walk_long (s t : ByteArray) (u0 : s.size ≤ 281474976710656) (ht : s.extract 0 (min (s.size : Int) 6000).toNat = t) (hs : t.size ≤ 6000) (hl : 4096 < t.size) (w : World) :
    Calls Try.prog 5 #[.string s] w fun e w' => e = .returned (.bool true) ∧ Below w.heap.size w w' := by
  have Q := Lib.hid (fun w => Quote_any t w (by omega))
  have hq : (ByteArray.mk (quoteL t.data.toList).toArray).size ≤ 1048576 := by
    have h1 := body_length t.data.toList
    rw [← size_toList]
    show (quoteL t.data.toList).length ≤ _
    rw [quote_length, size_toList] at *
    omega
  have U := Lib.hid (fun w => Unquote_any ⟨(quoteL t.data.toList).toArray⟩ w hq)
  have eu : unqL (quoteL t.data.toList) = ([], 3) := by rw [unq_quote, if_pos (by rw [size_toList]; exact hl)]
  rw [show (ByteArray.mk (quoteL t.data.toList).toArray).data.toList = quoteL t.data.toList from rfl, eu] at U
  generalize (ByteArray.mk (quoteL t.data.toList).toArray) = q at Q U hq
  go_enter Try.func5, Try.ntmps5
  go_wp2_with (first
    | (go_at_call 8; refine (Q.out _).mono ?_; rintro e w1 ⟨rfl, hb1⟩)
    | (go_at_call 11; refine (U.out _).mono ?_; rintro e w2 ⟨rfl, hb2⟩)
    | (go_at_call 10; refine (works_true _).mono ?_; rintro e w3 ⟨rfl, hb3⟩))
  go_ret
  exact ⟨rfl, hb1.trans ((hb2.trans (hb3.mono hb2.size)).mono hb1.size)⟩
set_option maxHeartbeats 4000000 in
theorem walk_short (s t : ByteArray) (u0 : s.size ≤ 281474976710656) (ht : s.extract 0 (min (s.size : Int) 6000).toNat = t) (hs : t.size ≤ 6000) (hl : ¬ 4096 < t.size) (w : World) :
    Calls Try.prog 5 #[.string s] w fun e w' => e = .returned (.bool true) ∧ Below w.heap.size w w' := by
  have Q := Lib.hid (fun w => Quote_any t w (by omega))
  have hq : (ByteArray.mk (quoteL t.data.toList).toArray).size ≤ 1048576 := by
    have h1 := body_length t.data.toList
    rw [← size_toList]
    show (quoteL t.data.toList).length ≤ _
    rw [quote_length, size_toList] at *
    omega
  have U := Lib.hid (fun w => Unquote_any ⟨(quoteL t.data.toList).toArray⟩ w hq)
  have eu : unqL (quoteL t.data.toList) = (t.data.toList, 0) := by rw [unq_quote, if_neg (by rw [size_toList]; exact hl)]
  rw [show (ByteArray.mk (quoteL t.data.toList).toArray).data.toList = quoteL t.data.toList from rfl, eu] at U
  simp only [Lib.mk_data] at U
  have L := Lib.hid (show (ByteArray.mk (quoteL t.data.toList).toArray).data.toList = quoteL t.data.toList from rfl)
  have N := Lib.hid (quote_length t.data.toList)
  generalize (ByteArray.mk (quoteL t.data.toList).toArray) = q at Q U hq L
  have hqs : q.size = (bodyL t.data.toList).length + 2 := by rw [← size_toList, L.out, N.out]
  have hqs2 := Lib.hid hqs
  have hq2 : 2 ≤ q.size := by omega
  clear hqs
  have hd : (t.toList == t.toList) = true := by simp
  go_enter Try.func5, Try.ntmps5
  go_wp2_with (first
    | (go_at_call 8; refine (Q.out _).mono ?_; rintro e w1 ⟨rfl, hb1⟩)
    | (go_at_call 11; refine (U.out _).mono ?_; rintro e w2 ⟨rfl, hb2⟩))
  have hbb := Lib.hid (hb1.trans (hb2.mono hb1.size))
  clear hb1 hb2 Q U ht hl hs hd
  go_loop [6, 7] (fun v i => ∃ (k : Nat) (e : Bool), k ≤ q.size ∧ i = .int .i64 k ∧ v = .bool e ∧ Hid (Scan (bodyL t.data.toList) k e)) (fun _ i => q.size - (intOf i).toNat)
  case atStart => exact ⟨0, false, by omega, rfl, rfl, .inl ⟨rfl, rfl⟩⟩
  case round =>
    obtain ⟨k, e, hk, rfl, rfl, hS⟩ := hrel
    by_cases hlt : k < q.size
    · have hc : (quoteL t.data.toList)[k]? = some q[k] := by rw [← L.out]; exact byte_at hlt
      obtain ⟨c1, c2, c3, c4⟩ := scan_next hS.out hc
      have c4 := Lib.hid c4
      have c3 := Lib.hid c3
      have q32 : decide ((q[k].toNat : Int) < 32) = false := decide_eq_false (by omega)
      have q126 : decide ((126 : Int) < q[k].toNat) = false := decide_eq_false (by omega)
      clear hc
      cases e with
      | true =>
        by_cases h34 : q[k] = 34
        · have hb34 : ((q[k].toNat : Int) == 34) = true := beq_byte h34
          have hb92 : ((q[k].toNat : Int) == 92) = false := by rw [h34]; rfl
          have R : Hid (Scan (bodyL t.data.toList) (k + 1) false) := by have := c4.out; rw [h34] at this; exact this
          go_wp2_with fail
          go_round
          case rel => exact ⟨k + 1, false, by omega, by go_num, rfl, R⟩
          case measure => simp [intOf]; omega
        · have hb34 : ((q[k].toNat : Int) == 34) = false := bne_byte h34
          have R : Hid (Scan (bodyL t.data.toList) (k + 1) false) := by have := c4.out; rw [Bool.not_true, Bool.and_false] at this; exact this
          by_cases h92 : q[k] = 92
          · have hb92 : ((q[k].toNat : Int) == 92) = true := beq_byte h92
            go_wp2_with fail
            go_round
            case rel => exact ⟨k + 1, false, by omega, by go_num, rfl, R⟩
            case measure => simp [intOf]; omega
          · have hb92 : ((q[k].toNat : Int) == 92) = false := bne_byte h92
            go_wp2_with fail
            go_round
            case rel => exact ⟨k + 1, false, by omega, by go_num, rfl, R⟩
            case measure => simp [intOf]; omega
      | false =>
        by_cases h34 : q[k] = 34
        · have hb34 : ((q[k].toNat : Int) == 34) = true := beq_byte h34
          have hb92 : ((q[k].toNat : Int) == 92) = false := by rw [h34]; rfl
          have R : Hid (Scan (bodyL t.data.toList) (k + 1) false) := by have := c4.out; rw [h34] at this; exact this
          have hat := c3.out h34 rfl
          rw [← show q.size - 1 = (bodyL t.data.toList).length + 1 by have := hqs2.out; omega] at hat
          rcases hat with h0 | h0
          · have g0 : decide ((0 : Int) < (k : Int)) = false := decide_eq_false (by omega)
            have g3 : decide (0 < k) = false := decide_eq_false (by omega)
            clear h0
            go_wp2_with fail
            go_round
            case rel => exact ⟨k + 1, false, by omega, by go_num, rfl, R⟩
            case measure => simp [intOf]; omega
          · have g0 : decide ((0 : Int) < (k : Int)) = true := decide_eq_true (by omega)
            have g1 : decide ((k : Int) < (q.size : Int) - 1) = false := decide_eq_false (by omega)
            have g2 : q.size ≤ k + 1 := by omega
            clear h0
            go_wp2_with fail
            go_round
            case rel => exact ⟨k + 1, false, by omega, by go_num, rfl, R⟩
            case measure => simp [intOf]; omega
        · have hb34 : ((q[k].toNat : Int) == 34) = false := bne_byte h34
          by_cases h92 : q[k] = 92
          · have hb92 : ((q[k].toNat : Int) == 92) = true := beq_byte h92
            have R : Hid (Scan (bodyL t.data.toList) (k + 1) true) := by have := c4.out; rw [h92] at this; exact this
            go_wp2_with fail
            go_round
            case rel => exact ⟨k + 1, true, by omega, by go_num, rfl, R⟩
            case measure => simp [intOf]; omega
          · have hb92 : ((q[k].toNat : Int) == 92) = false := bne_byte h92
            have R : Hid (Scan (bodyL t.data.toList) (k + 1) false) := by have := c4.out; rw [show (q[k] == 92) = false from beq_eq_false_iff_ne.2 h92] at this; exact this
            go_wp2_with fail
            go_round
            case rel => exact ⟨k + 1, false, by omega, by go_num, rfl, R⟩
            case measure => simp [intOf]; omega
    · go_wp2_with (go_at_call 10; refine (works_true _).mono ?_; rintro e w3 ⟨rfl, hb3⟩)
      go_ret
      exact ⟨rfl, hbb.out.trans (hb3.mono hbb.out.size)⟩
theorem walk (s : ByteArray) (u0 : s.size ≤ 281474976710656) (w : World) :
    Calls Try.prog 5 #[.string s] w fun e w' => e = .returned (.bool true) ∧ Below w.heap.size w w' := by
  obtain ⟨t, ht⟩ : ∃ t, s.extract 0 (min (s.size : Int) 6000).toNat = t := ⟨_, rfl⟩
  have hs : t.size ≤ 6000 := by rw [← ht]; exact cut_size s 6000
  by_cases hl : 4096 < t.size
  · exact walk_long s t u0 ht hs hl w
  · exact walk_short s t u0 ht hs hl w
theorem own : ownKnob Try.prog.godebug = none := by kernel_rfl
theorem laidOut : laidOutB Try.prog = true := by kernel_rfl
set_option maxRecDepth 100000 in
theorem contract (H : Type) (enc : TypeId × Value → H) (W : World) (base : Nat) (args : Array Value) (ds gs : List (DataW H)) (before : List MemPlace)
    (hval : ∀ (j : Nat) t v, Try.f5.params[j]? = some t → args[j]? = some v → Value.okWide Try.prog W .any base t v)
    (hW : DataW.Whole enc Try.prog Try.f5.params.toList Rows.quoteBackSpec.vars false W args.toList ds gs before)
    (hsz0 : (DataW.weightsEach Try.prog (Try.f5.params.toList ++ Rows.quoteBackSpec.plain.varTypes Try.prog) (ds ++ gs)).all (· ≤ reachBytes) = true) :
    Calls Try.prog 5 args W fun e W' => ∃ v, e = .returned v ∧ Rows.quoteBackSpec.post enc Try.prog Try.f5 false true false false W args v W' := by
  have hW' := hW
  obtain ⟨p, q, hA0, hV, rfl, hfz, hnd⟩ := hW
  have hA : DataW.TrodAll enc Try.prog W 0 (fun _ => true) true Try.f5.params.toList args.toList ds p := hA0
  have hsz := hsz0
  rw [Try.params5] at hA hval hsz
  obtain ⟨v0, vs0, d0, ds0, p0, q0, hargs, rfl, rfl, h0, r0⟩ := trodAll_cons hA
  obtain ⟨rfl, rfl, rfl⟩ := trodAll_nil r0
  obtain rfl : args = #[v0] := by cases args; simp_all
  obtain ⟨rfl, rfl⟩ := trodVars_none hV
  obtain ⟨a0, rfl, rfl, rfl, w0⟩ := Go.ChangeMaps.open_string Try.underlying9 (hval 0 9 v0 rfl rfl) h0
  have u0 := str_reach (sized_string hsz (j := 0) (t := 9) rfl rfl)
  clear hA0 hsz hsz0
  simp only [List.append_nil] at hW'
  refine (walk a0 u0 W).mono fun e W' ⟨he, hb⟩ => ?_
  subst he
  exact ⟨_, rfl, law_post laidOut (by kernel_rfl) (by kernel_rfl) Try.underlying4 hW' hb rfl⟩

set_option maxRecDepth 100000 in
theorem lifted (os : Os) (started : os.Started) (H : Type) (enc : TypeId × Value → H) :
    ReturnsInHanded {} Try.checked os 5 .any (Rows.quoteBackSpec.pre6 enc Try.prog Try.f5 Rows.quoteBackRow.domain false) (Rows.quoteBackSpec.post enc Try.prog Try.f5 false true false false) := by
  refine returnsInHanded_of_change_sized (C := Try.checked) own started (by kernel_rfl) Try.func5
    (ChangeSpec.witness6 (enc := enc) (C := Try.checked) false ⟨#[], #[.string ⟨#[]⟩], []⟩ 8 (by kernel_rfl) (by kernel_rfl) (by kernel_rfl) (by kernel_rfl)) ?_
  intro W base args ds gs before hval hW _ hsz _
  exact contract H enc W base args ds gs before hval hW hsz
/-- The row. -/
theorem holds : Rows.QuoteBackSaid :=
  OpenClaim.holds_of_wide 5 Try.f5 rfl rfl rfl rfl rfl rfl rfl ⟨rfl, rfl, rfl, rfl, rfl⟩ rfl rfl rfl rfl rfl (by kernel_rfl) Try.func5 (by kernel_rfl)
    (of_decide_eq_true (by kernel_rfl)) (by unfold Func.isWrapper; first | (rw [if_pos (by decide +kernel)]; kernel_rfl) | (rw [if_neg (by decide +kernel)]; exact ⟨rfl, rfl⟩))
    (fun os started H enc _ => lifted os started H enc)
end Go.Proofs.Ytbkejdahihijeaa.quoteBack
