/- reach.holdersOf: which objects hold which. -/
import Derived.Test.YtghnjmodnhnmfaaRcHoldM
namespace Go.Proofs.Ytghnjmodnhnmfaa
set_option maxRecDepth 20000
open Go.RowKit Go.Maps

theorem ints_info : (Try.prog.info? 25).map (fun i => (i.zero, i.size, i.bytes)) = some (some (.slice none 0 0), 1, 24) := by kernel_rfl
theorem run_make_rows (n : Nat) (hn : n ≤ 1099511627776) (w : World) : (Instr.makeSlice 89 (.int .i64 ((n : Int) + 1)) (.int .i64 ((n : Int) + 1))).run Try.prog w = .ok (.slice (some ⟨w.heap.size, 0, none⟩) (n + 1) (n + 1)) (w.alloc (.cells (madeCells #[.slice none 0 0] (n + 1)) 25 (0, 0))) := by
  have := run_make_row' (P := Try.prog) 89 25 (.slice none 0 0) 24 Try.underlying89 ints_info rfl .i64 .i64 (n + 1) (by omega) (by omega) w
  rw [show (((n + 1 : Nat) : Int)) = (n : Int) + 1 by omega] at this
  exact this
theorem hold_start (w : World) (n : Nat) (P : Nat → Prop) (lo : Nat) : HoldR (w.alloc (.cells (madeCells #[.slice none 0 0] (n + 1)) 25 (0, 0))) lo w.heap.size (n + 1) P (fun _ => []) fun _ => .slice none 0 0 :=
  ⟨World.rowIs_made w (.slice none 0 0) (n + 1) 25, fun _ _ => World.ownsRow_nil _ _ _ _, fun _ _ _ _ _ => Or.inl rfl, fun _ _ _ h => by cases h⟩
theorem slice_of_own {w : World} {base n : Nat} {v : Value} {xs : List Value} (h : w.ownsRow base 3 1 v n xs) : ∃ A c, v = .slice A n c := by
  rcases h.2 with ⟨rfl, h1⟩ | ⟨g, cap, cur, rfl, _, hg, _⟩
  · subst h1; exact ⟨none, 0, rfl⟩
  · exact ⟨_, _, rfl⟩
/-- The block of a row that is not the rows'. -/
def OffR (RA : Option Addr) : Nat → Prop := fun k => ¬ ∃ a, RA = some a ∧ a.block = k
set_option maxHeartbeats 4000000 in
theorem holdersOf_any {w : World} {A : Option Addr} {c : Nat} {g : List OB} (hg : GAt w A g) (hck : checkB g = true) (hn : g.length ≤ 900) (hh : ∀ m, (heldN g m).length ≤ 1048576) :
    Calls Try.prog 133 #[gV A g.length c] w fun e w' => ∃ b F, e = .returned (.slice (some ⟨b, 0, none⟩) (g.length + 1) (g.length + 1)) ∧ HoldS w' b (g.length + 1) w'.heap.size F ∧ (∀ m x, x ∈ F m ↔ m ∈ heldN g x) ∧ (∀ m, (F m).length ≤ 1048576000) ∧ w.heap.size ≤ b ∧ Below w.heap.size w w' := by
  obtain ⟨i0, hi, hz0, hz1, hz2⟩ := info_parts int_info
  have mk := run_make_rows g.length (by omega)
  have HL : Hid (∀ W (k : Nat), Below w.heap.size w W → k < g.length → Calls Try.prog 130 #[gV A g.length c, iV ((k : Int) + 1)] W (GivesInts (intsOf (heldN g (k + 1))) W)) := fun W k hW hk => held_any (hg.below hW) (by omega) hk
  have HT : Hid (∀ m i x, (heldN g m)[i]? = some x → x < g.length + 1) := fun m i x hx => by
    have := there_le (held_there hck (List.mem_of_getElem? hx))
    omega
  have HH := Lib.hid hh
  have FIN : Hid (∀ F, HoldJ g g.length 0 1048576 F → ∀ m x, x ∈ F m ↔ m ∈ heldN g x) := fun F h => h.fin
  clear hg hck hh
  generalize g.length = n at *
  go_enter Try.func133, Try.ntmps133
  go_wp2_with fail
  refine at_world (fun V => Below w.heap.size w V ∧ (V.cell? ⟨w.heap.size, 0, none⟩ = some (.slice A n c)) ∧ w.heap.size + 1 < V.heap.size ∧ HoldR V (w.heap.size + 1 + 1) (w.heap.size + 1) (n + 1) (fun _ => True) (fun _ => []) fun _ => .slice none 0 0) ?_ fun V HV => ?_
  · refine ⟨((Below.refl _ _).alloc (Nat.le_refl _) _).alloc (by simp) _, by simp [go_sem], by simp, ?_⟩
    have := hold_start (w.alloc (Obj.cells #[Value.slice A n c] 24 (0, 0))) n (fun _ => True) (w.heap.size + 1 + 1)
    have e : (w.alloc (Obj.cells #[Value.slice A n c] 24 (0, 0))).heap.size = w.heap.size + 1 := by simp
    rw [e] at this
    exact this
  obtain ⟨hbl, c0, hsz, hhr⟩ := HV
  have BV := Lib.hid hbl
  have H0 := Lib.hid hhr
  clear hbl hhr mk
  obtain ⟨b1, hb1⟩ : ∃ b1, b1 = w.heap.size + 1 := ⟨_, rfl⟩
  obtain ⟨bg, hbg⟩ : ∃ bg, bg = w.heap.size := ⟨_, rfl⟩
  have hgb : bg < b1 := by omega
  have hgb2 : bg = w.heap.size := hbg
  rw [← hb1] at H0 hsz ⊢
  rw [← hbg] at c0 ⊢
  clear hb1 hbg
  have HGB : Hid (bg = w.heap.size) := hgb2
  clear hgb2
  go_loopg [15] n (fun gg s15 wr => ∃ k : Nat, k ≤ n ∧ n - k ≤ gg ∧ s15 = .int .i64 k ∧ Hid (∃ F vs, HoldR wr (b1 + 1) b1 (n + 1) (fun _ => True) F vs ∧ HoldJ g k 0 1048576 F) ∧ Hid (Frm (fun x => b1 ≤ x) V wr))
  case atStart => exact ⟨0, Nat.zero_le _, by omega, rfl, ⟨_, _, H0.out, HoldJ.start⟩, Frm.refl _ _⟩
  case round =>
    obtain ⟨k, hk, hgg, rfl, QQ, FF⟩ := hrel
    have x0 : wr.cell? ⟨bg, 0, none⟩ = some (.slice A n c) := (FF.out.cell (p := ⟨bg, 0, none⟩) (by show bg < _; omega) (by show ¬ (b1 ≤ bg); omega)).trans c0
    have BW : Hid (Below w.heap.size w wr) := ⟨FF.out.os.trans BV.out.os, FF.out.tape.trans BV.out.tape, FF.out.output.trans BV.out.output, Nat.le_trans BV.out.size FF.out.size, fun j hj => (FF.out.block j (Nat.lt_of_lt_of_le hj BV.out.size) (by have := HGB.out; omega)).trans (BV.out.block j hj)⟩
    by_cases hlt : k < n
    · have CALL := Lib.hid (HL.out wr k BW.out hlt)
      go_wp2_with (go_at_call 130; (with_reducible refine CALL.out.mono ?_); rintro e U ⟨v, rfl, hown, hb⟩; have BU := Lib.hid hb; obtain ⟨RA, rc, rfl, hri, hra⟩ := ints_of_own2 hown; have RI := Lib.hid hri; have RB := Lib.hid hra; clear hown hb hri hra)
      have OB : Hid (OffR RA b1) := by
        rintro ⟨a, ha, he⟩
        have := RB.out a ha
        have := FF.out.size
        omega
      have QU : Hid (∃ F vs, HoldR U (b1 + 1) b1 (n + 1) (OffR RA) F vs ∧ HoldJ g k 0 1048576 F) := by
        obtain ⟨F, vs, h1, h2⟩ := QQ.out
        refine ⟨F, vs, (h1.weak (P' := OffR RA) fun x hx _ => ?_).below BU.out, h2⟩
        rintro ⟨a, ha, he⟩
        have := RB.out a ha
        omega
      have LK : Hid ((intsOf (heldN g (k + 1))).length = (heldN g (k + 1)).length) := show _ = _ from intsOf_len _
      have HK := HH.out (k + 1)
      have FU : Hid (Frm (fun x => b1 ≤ x) V U) := FF.out.trans (Frm.of_below _ BU.out)
      clear QQ RB
      rw [LK.out]
      obtain ⟨R, hR⟩ : ∃ R, R = gk := ⟨_, rfl⟩
      rw [← hR] at *
      clear hR
      go_loopg [23] (heldN g (k + 1)).length (fun gg s23 wr => ∃ j : Nat, j ≤ (heldN g (k + 1)).length ∧ (heldN g (k + 1)).length - j ≤ gg ∧ s23 = .int .i64 j ∧ Hid (∃ F vs, HoldR wr (b1 + 1) b1 (n + 1) (OffR RA) F vs ∧ HoldJ g k j 1048576 F) ∧ Hid (Frm (fun x => b1 ≤ x ∧ OffR RA x) U wr))
      case atStart => exact ⟨0, Nat.zero_le _, by omega, rfl, QU.out, Frm.refl _ _⟩
      case round =>
        obtain ⟨j, hj, hg2, rfl, QJ, FJ⟩ := hrel
        obtain ⟨F, vs, hr, hjn⟩ := QJ.out
        by_cases hlt2 : j < (heldN g (k + 1)).length
        · obtain ⟨m, hm⟩ : ∃ m, (heldN g (k + 1))[j]? = some m := ⟨_, List.getElem?_eq_getElem hlt2⟩
          have hmn := HT.out _ _ _ hm
          obtain ⟨ad, e, hal, hc⟩ := (ints_frm FJ.out RI.out (fun a ha hs => hs.2 ⟨a, ha, rfl⟩)) j m (intsOf_get hm)
          subst e
          have hl2 : (ad.add j).block < wr.heap.size := by rw [Go.ChangeShapes.block_add]; exact hal
          have hcell : wr.cell? ⟨b1, m, none⟩ = some (vs m) := hr.1.cell hmn
          have hlb := hr.1.lt
          have hlen := hjn.len m
          have hkb : k * 1048576 ≤ 943718400 := by omega
          have RR := Lib.hid hr
          have HJ := Lib.hid (hjn.step hm)
          have hown := Lib.hid (hr.2.1 m hmn)
          have hil := intsOf_len (F m)
          clear hr hjn hm QJ
          go_wp2_with (at_builtin; refine wpList_append_own_at _ rfl (.tmp 32) (.tmp 35) _ rfl (b1 + 1) 3 i0 _ 1 8 Try.underlying25 hi hz0 hz1 hz2 rfl (by decide) _ _ _ rfl (hown.out.alloc _) ⟨wr.heap.size, 0, none⟩ 1 1 [.int .i64 ((k : Int) + 1)] rfl rfl one_cell (by simp [Value.oneCell']) (by unfold maxLen; omega) (by omega) (by simp; omega) ?_; intro v' w2 hown2 hg3 _ hat; have hb2 : w2.heap[b1]? = wr.heap[b1]? := (hg3.block b1 (by simp; omega) (fun e => by have := (hown.out.lt b1 e.symm).1; omega)).trans (Below.heap_alloc _ _ _ hlb); have c2 : w2.cell? ⟨b1, m, none⟩ = some (vs m) := (World.cell?_of_block (w := wr) (a := ⟨b1, m, none⟩) hb2).trans hcell; have z2 : w2.frozen? ⟨b1, m, none⟩ = false := (World.frozen?_of_block (w := wr) (a := ⟨b1, m, none⟩) hb2).trans (RR.out.1.frozen m); obtain ⟨vA, vc, rfl⟩ := slice_of_own hown2; have HO2 := Lib.hid hown2; have HG3 := Lib.hid hg3; have HA := Lib.hid hat; clear hown2 hg3 hat hb2)
          have PP : HoldR (w2.setCell ⟨b1, m, none⟩ (.slice vA ((intsOf (F m)).length + 1) vc)) (b1 + 1) b1 (n + 1) (OffR (some ad)) (updF F m (k + 1)) (fun j => if j = m then .slice vA ((intsOf (F m)).length + 1) vc else vs j) ∧ Frm (fun x => b1 ≤ x ∧ OffR (some ad) x) wr (w2.setCell ⟨b1, m, none⟩ (.slice vA ((intsOf (F m)).length + 1) vc)) := by
            have ho := HO2.out
            refine RR.out.push (x := k + 1) (Nat.lt_succ_self _) hmn ((Below.refl _ _).alloc (Nat.le_refl _) _) ?_ HG3.out HA.out ?_ (fun x => b1 ≤ x ∧ OffR (some ad) x) ⟨Nat.le_refl _, OB.out⟩ (fun x hx hp => ⟨by omega, hp⟩)
            · rw [show (((k + 1 : Nat) : Int)) = (k : Int) + 1 by omega]
              exact ho
            · rintro ⟨a, ha, he⟩
              simp at he
              injection ha with ha
              subst ha
              rw [Go.ChangeShapes.block_add] at hl2
              omega
          rw [hil] at PP
          have P1 := Lib.hid PP.1
          have P2 := Lib.hid PP.2
          clear PP HO2 HG3 HA
          go_roundg ((heldN g (k + 1)).length - (j + 1))
          case measure => omega
          case rel => exact ⟨j + 1, by omega, by omega, by go_num, ⟨_, _, P1.out, HJ.out⟩, FJ.out.trans P2.out⟩
        · have hjl : j = (heldN g (k + 1)).length := by omega
          have Q9 : Hid (∃ F vs, HoldR wr (b1 + 1) b1 (n + 1) (fun _ => True) F vs ∧ HoldJ g (k + 1) 0 1048576 F) := ⟨F, vs, hr.weak (fun _ _ _ => trivial), hjn.next hjl (by omega)⟩
          clear QJ hr hjn hjl
          go_wp2_with fail
          go_roundg (n - (k + 1))
          case measure => omega
          case rel => exact ⟨k + 1, by omega, by omega, by go_num, Q9.out, FU.out.trans (FJ.out.mono fun x hx => hx.1)⟩
    · have hkn : k = n := by omega
      obtain ⟨F, vs, hr, hj⟩ := QQ.out
      have R9 := Lib.hid (hr.read (Nat.lt_succ_self _))
      have L9 : Hid (∀ m, (F m).length ≤ 1048576000) := fun m => by have := hj.len m; omega
      have J9 : Hid (HoldJ g n 0 1048576 F) := by rw [← hkn]; exact hj
      clear QQ hr hj hkn
      go_wp2_with fail
      go_ret
      exact ⟨b1, F, rfl, R9.out, FIN.out F J9.out, L9.out, by have := HGB.out; omega, BW.out⟩
end Go.Proofs.Ytghnjmodnhnmfaa
