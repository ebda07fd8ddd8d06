/- reach.lengths: how many objects the shortest way from each has. -/
import Derived.Test.YtiocfnpfmilkgaaRcHold
import Derived.Test.YtiocfnpfmilkgaaRcLenM
namespace Go.Proofs.Ytiocfnpfmilkgaa
set_option maxRecDepth 20000
open Go.RowKit Go.Maps

theorem wpList_insert_run {P : Program} (w : World) {ops : Array Oper} {rest : List Oper} {o : Oper} {a : Act} {Q : Exit → Act → World → Prop}
    (hg : o.guard = none) (m x v : Operand) (t : TypeId) (hop : o.op = Op.insert t m x v) (vm vx vv : Value) (hm : a.eval m = vm) (hx : a.eval x = vx) (hv : a.eval v = vv)
    {w' : World} (hrun : (Instr.mapUpdate t vm vx vv).run P w = .ok () w') (hK : wpList P ops Q rest (a.put o.dst undef) w') :
    wpList P ops Q (o :: rest) a w := by
  refine wpList_plain hg fun K' hK' => ?_
  unfold Oper.wp
  simp [execOp, hop, hm, hx, hv, hrun, Result.andThen]
  exact hK' _ _ hK
def RowL (w : World) (b n : Nat) (L : Nat → Nat) : Prop := w.rowIs b 3 n fun i => iV (L i)
theorem RowL.frm {w w' : World} {b n : Nat} {L : Nat → Nat} (h : RowL w b n L) {S : Nat → Prop} (hf : Frm S w w') (hn : ¬ S b) : RowL w' b n L := h.of_block (hf.block _ h.lt hn)
theorem RowL.below {w w' : World} {b n : Nat} {L : Nat → Nat} (h : RowL w b n L) (hb : Below w.heap.size w w') : RowL w' b n L := h.of_block (hb.block _ h.lt)
theorem RowL.set {w : World} {b n m : Nat} {L : Nat → Nat} (h : RowL w b n L) (r : Nat) : RowL (w.setCell ⟨b, m, none⟩ (.int .i64 r)) b n (updL L m r) := by
  refine (World.rowIs.set h m (.int .i64 r)).congr fun i _ => ?_
  unfold updL
  by_cases e : i = m <;> simp [e]
theorem RowL.cell {w : World} {b n : Nat} {L : Nat → Nat} (h : RowL w b n L) {k : Nat} (hk : k < n) : w.cell? ⟨b, k, none⟩ = some (.int .i64 (L k)) := World.rowIs.cell h hk
/-- What the closure's variables hold. -/
structure LEnv (w : World) (n b5 b6 b7 bl bh mb hi : Nat) (F : Nat → List Nat) : Prop where
  c5 : w.cell? ⟨b5, 0, none⟩ = some (.slice (some ⟨bl, 0, none⟩) (n + 1) (n + 1))
  c6 : w.cell? ⟨b6, 0, none⟩ = some (.slice (some ⟨bh, 0, none⟩) (n + 1) (n + 1))
  c7 : w.cell? ⟨b7, 0, none⟩ = some (.map (some mb))
  hold : HoldS w bh (n + 1) hi F
  ne : b5 ≠ bl ∧ b6 ≠ bl ∧ b7 ≠ bl ∧ b5 ≠ mb ∧ b6 ≠ mb ∧ b7 ≠ mb ∧ bl ≠ mb
  out : bl < bh ∧ hi ≤ mb
theorem LEnv.frm {w w' : World} {n b5 b6 b7 bl bh mb hi : Nat} {F : Nat → List Nat} (h : LEnv w n b5 b6 b7 bl bh mb hi F) {S : Nat → Prop} (hf : Frm S w w') (hs : ∀ k, S k → k = bl ∨ k = mb) : LEnv w' n b5 b6 b7 bl bh mb hi F := by
  obtain ⟨n1, n2, n3, n4, n5, n6, n7⟩ := h.ne
  have k : ∀ {j}, j ≠ bl → j ≠ mb → ¬ S j := fun h1 h2 h3 => by rcases hs _ h3 with h4 | h4; exact h1 h4; exact h2 h4
  refine ⟨(hf.cell (World.block_lt_of_cell? w _ h.c5) (k n1 n4)).trans h.c5, (hf.cell (World.block_lt_of_cell? w _ h.c6) (k n2 n5)).trans h.c6, (hf.cell (World.block_lt_of_cell? w _ h.c7) (k n3 n6)).trans h.c7, h.hold.frm hf fun j h1 h2 => k ?_ ?_, h.ne, h.out⟩
  · have := h.out.1; omega
  · have := h.out.2; omega
set_option maxHeartbeats 4000000 in
theorem lenlook_any {w : World} {n b5 b6 b7 bl bh mb hi : Nat} {F : Nat → List Nat} (hE : LEnv w n b5 b6 b7 bl bh mb hi F) (hn : n ≤ 900) {L : Nat → Nat} (hR : RowL w bl (n + 1) L) {T : List Nat} (hM : MapT w mb T) (k r : Nat) (hk : k ≤ n) (hFl : (F k).length ≤ 1048576000) (hFn : ∀ x ∈ F k, x ≤ n) :
    Calls Try.prog 110 #[iV k, iV r, bV b5, bV b6, bV b7] w fun e w' => e = .returned (.tuple #[]) ∧ RowL w' bl (n + 1) (updL L k r) ∧ (∃ T', MapT w' mb T' ∧ ∀ a, a ∈ T' ↔ a ∈ T ∨ (a ∈ F k ∧ updL L k r a = 0)) ∧ Frm (fun x => x = bl ∨ x = mb) w w' := by
  have c5 := hE.c5
  have hcell := hR.cell (k := k) (by omega)
  have hfz : w.frozen? ⟨bl, k, none⟩ = false := World.rowIs.frozen hR k
  have R1 : Hid (RowL (w.setCell ⟨bl, k, none⟩ (.int .i64 r)) bl (n + 1) (updL L k r)) := hR.set r
  have F1 : Hid (Frm (fun x => x = bl) w (w.setCell ⟨bl, k, none⟩ (.int .i64 r))) := Frm.set (S := fun x => x = bl) (p := ⟨bl, k, none⟩) (Frm.refl _ w) (show bl = bl from rfl) _
  have E1 : LEnv (w.setCell ⟨bl, k, none⟩ (.int .i64 r)) n b5 b6 b7 bl bh mb hi F := hE.frm F1.out fun _ h => Or.inl h
  have M1 : Hid (MapT (w.setCell ⟨bl, k, none⟩ (.int .i64 r)) mb T) := hM.keep (F1.out.block _ hM.lt (Ne.symm hE.ne.2.2.2.2.2.2))
  have EE := Lib.hid E1
  obtain ⟨A, ca, d0, hIA, hA⟩ := E1.hold.2.2 k (by omega)
  have IA := Lib.hid hIA
  have GET : Hid (∀ i, i < (F k).length → ∃ p, (F k)[i]? = some p) := fun i hi => ⟨_, List.getElem?_eq_getElem hi⟩
  have FN := Lib.hid hFn
  have LK : Hid ((intsOf (F k)).length = (F k).length) := show _ = _ from intsOf_len _
  have d6 := E1.c6
  have NA : Hid (∀ a, A = some a → ¬ (a.block = mb)) := fun a ha he => by have := (hA a ha).2; have := E1.out.2; omega
  clear hE hR hM E1 hIA hA hFn
  generalize updL L k r = L2 at *
  generalize hV : w.setCell ⟨bl, k, none⟩ (.int .i64 (r : Int)) = V at *
  rw [LK.out] at d0
  generalize hX : F k = X at *
  clear hX
  go_enter Try.func110, Try.ntmps110
  go_wp2_with fail
  go_loopg [18] X.length (fun gg s18 wr => ∃ j : Nat, j ≤ X.length ∧ X.length - j ≤ gg ∧ s18 = .int .i64 j ∧ Hid (∃ T', MapT wr mb T' ∧ ∀ a, a ∈ T' ↔ a ∈ T ∨ (a ∈ X.take j ∧ L2 a = 0)) ∧ Hid (Frm (fun x => x = mb) V wr))
  case atStart => exact ⟨0, Nat.zero_le _, by omega, rfl, ⟨T, M1.out, by simp⟩, Frm.refl _ _⟩
  case round =>
    obtain ⟨j, hj, hgg, rfl, QQ, FF⟩ := hrel
    have EW := Lib.hid (EE.out.frm FF.out fun _ h => Or.inr h)
    have x5 := EW.out.c5
    have x7 := EW.out.c7
    have RW := Lib.hid (R1.out.frm FF.out EE.out.ne.2.2.2.2.2.2)
    obtain ⟨T1, hM1, hT1⟩ := QQ.out
    by_cases hlt : j < X.length
    · obtain ⟨x, hx⟩ := GET.out j hlt
      have hxn := FN.out x (List.mem_of_getElem? hx)
      obtain ⟨ad, e, hal, hc⟩ := (ints_frm FF.out IA.out NA.out) j x (intsOf_get hx)
      subst e
      have hl2 : (ad.add j).block < wr.heap.size := by rw [Go.ChangeShapes.block_add]; exact hal
      have y0 := RW.out.cell (k := x) (by omega)
      have TK : Hid (X.take (j + 1) = X.take j ++ [x]) := show _ = _ by rw [List.take_add_one, hx]; rfl
      cases hq : (((L2 x : Nat) : Int) == 0) with
      | true =>
        have hz : L2 x = 0 := by have : ((L2 x : Nat) : Int) = 0 := by simpa using hq
                                 omega
        obtain ⟨w', hput, hM', hG'⟩ := hM1.run_put x (by omega)
        have Q2 : Hid (∃ T', MapT w' mb T' ∧ ∀ a, a ∈ T' ↔ a ∈ T ∨ (a ∈ X.take (j + 1) ∧ L2 a = 0)) := ⟨_, hM', fun y => by
          rw [TK.out]
          have hy := hT1 y
          by_cases e : x ∈ T1
          · rw [if_pos e, hy]
            have hx1 := (hT1 x).1 e
            constructor
            · rintro (h | ⟨h, h2⟩)
              · exact Or.inl h
              · exact Or.inr ⟨by simp [h], h2⟩
            · rintro (h | ⟨h, h2⟩)
              · exact Or.inl h
              · rcases List.mem_append.1 h with h | h
                · exact Or.inr ⟨h, h2⟩
                · simp at h; subst h; exact hx1
          · rw [if_neg e, List.mem_cons, hy]
            constructor
            · rintro (h | h | ⟨h, h2⟩)
              · subst h; exact Or.inr ⟨by simp, hz⟩
              · exact Or.inl h
              · exact Or.inr ⟨by simp [h], h2⟩
            · rintro (h | ⟨h, h2⟩)
              · exact Or.inr (Or.inl h)
              · rcases List.mem_append.1 h with h | h
                · exact Or.inr (Or.inr ⟨h, h2⟩)
                · simp at h; exact Or.inl h⟩
        have F2 : Hid (Frm (fun x => x = mb) V w') := FF.out.grown hG' rfl
        clear hM' hG' hM1 hT1 QQ hx hz
        go_wp2_with fail
        go_roundg (X.length - (j + 1))
        case measure => omega
        case rel => exact ⟨j + 1, by omega, by omega, by go_num, Q2.out, F2.out⟩
      | false =>
        have hz : L2 x ≠ 0 := by intro h; rw [h] at hq; cases hq
        have Q2 : Hid (∃ T', MapT wr mb T' ∧ ∀ a, a ∈ T' ↔ a ∈ T ∨ (a ∈ X.take (j + 1) ∧ L2 a = 0)) := ⟨_, hM1, fun y => by
          rw [TK.out, hT1 y]
          constructor
          · rintro (h | ⟨h, h2⟩)
            · exact Or.inl h
            · exact Or.inr ⟨by simp [h], h2⟩
          · rintro (h | ⟨h, h2⟩)
            · exact Or.inl h
            · rcases List.mem_append.1 h with h | h
              · exact Or.inr ⟨h, h2⟩
              · simp at h; subst h; exact absurd h2 hz⟩
        clear hM1 hT1 QQ hx hz
        go_wp2_with fail
        go_roundg (X.length - (j + 1))
        case measure => omega
        case rel => exact ⟨j + 1, by omega, by omega, by go_num, Q2.out, FF.out⟩
    · have hjn : j = X.length := by omega
      have Q2 : Hid (∃ T', MapT wr mb T' ∧ ∀ a, a ∈ T' ↔ a ∈ T ∨ (a ∈ X ∧ L2 a = 0)) := ⟨T1, hM1, fun y => by rw [hT1 y, hjn, List.take_of_length_le (Nat.le_refl _)]⟩
      clear hM1 hT1 QQ hjn
      go_wp2_with fail
      refine bodyPost_end (results_none rfl _ _ _) rfl ?_
      exact ⟨rfl, RW.out, Q2.out, (F1.out.mono fun _ h => Or.inl h).trans (FF.out.mono fun _ h => Or.inr h)⟩
end Go.Proofs.Ytiocfnpfmilkgaa
