/- trial.follow: the first ones, and then, one after the other, what each of those that it answers holds. -/
import Derived.Test.YtghnjmodnhnmfaaTrMeet
import Derived.Deep.RegionLaw
import Derived.Deep.RegionHeld3
import Derived.BigQuiet
namespace Go.Proofs.Ytghnjmodnhnmfaa
set_option maxRecDepth 20000
open Go.RowKit Go.Maps

theorem lit_one {w : World} {T : TypeId} (x : Int) : IntsAt (w.alloc (.cells #[.int .i64 x] T (0, 0))) (some ⟨w.heap.size, 0, none⟩) [x] := fun i y hy => by
  match i, hy with
  | 0, hy => injection hy with hy; subst hy; exact ⟨_, rfl, by simp, by simp [Addr.add, go_sem]⟩
  | _ + 1, hy => simp at hy
theorem lit_one_drew {w : World} {T : TypeId} (x : Int) : IntsAt (w.alloc (.cells #[.int .i64 x] T (0, 0))).drew (some ⟨w.heap.size, 0, none⟩) [x] := lit_one (w := w) (T := T) x
set_option maxHeartbeats 4000000 in
theorem follow_any {w : World} {A : Option Addr} {c : Nat} {g : List OB} (hg : GAt w A g) (hn : g.length ≤ 900) (hs : ∀ o ∈ g, o.slots.length ≤ 1048576) {f : Value} {whom : Int → Bool} (hf : YesAt w f wf64 whom)
    {B : Option Addr} {d : Nat} {l : List Int} (hl : l.length ≤ 1099511627776) (h : IntsAt w B l) (hwf : ∀ x ∈ l, wf64 x) (Ok : Int → Prop) (hok : ∀ n, Ok n → 1 ≤ n ∧ n ≤ g.length ∧ ∀ x ∈ heldG g n, wf64 x ∧ (whom x = true → Ok x)) (hr : ∀ x ∈ l, whom x = true → Ok x) :
    Calls Try.prog 53 #[gV A g.length c, .slice B l.length d, f] w (GivesInts (followL g whom l) w) := by
  have hfo : ∀ n, Fol g whom l n → Ok n := fun n h => by
    induction h with
    | root h h2 => exact hr _ h h2
    | step _ hx h2 ih => exact ((hok _ ih).2.2 _ hx).2 h2
  have hf0 := hf
  obtain ⟨fg, lb, rfl, eg, hf1⟩ := hf
  have HF := Lib.hid hf0
  have HBY : Hid (∀ W (B : Option Addr) (x : Int), Below w.heap.size w W → Ok x → IntsAt W B [x] → Calls Try.prog 60 #[gV A g.length c, .slice B 1 1] W (GivesInts (heldG g x) W)) := fun W B x hW hx hi => by
    have := heldBy_any (c := c) (d := 1) (hg.below hW) hn hs (xs := [x]) (by simp) hi (fun y hy => by simp at hy; subst hy; exact ⟨(hok _ hx).1, (hok _ hx).2.1⟩)
    simpa using this
  have HL : Hid (∀ x, (heldG g x).length ≤ 1048576) := fun x => by have := held_total hs [x]; simpa using this
  have OK := Lib.hid hok
  have ME : Hid (∀ (W : World) (base bt bm bw mb : Nat) (met : List Int) (v : Value) (B : Option Addr) (d : Nat) (l : List Int), W.cell? ⟨bw, 0, none⟩ = some (.func (.func fg) #[] lb) → Below w.heap.size w W → (w.heap.size ≤ bt ∧ w.heap.size ≤ bm ∧ w.heap.size ≤ mb) → (bw ≠ mb ∧ bw ≠ bm ∧ bw < base) → base ≤ W.heap.size → MetAt base W bt bm mb met v → met.Nodup → (∀ x ∈ met, Ok x) → l.length ≤ 1099511627776 → IntsAt W B l → (l ≠ [] → ∀ a, B = some a → a.block ≠ mb ∧ a.block ≠ bm ∧ v.ownBlock ≠ some a.block) → (∀ x ∈ l, wf64 x) → (∀ x ∈ l, whom x = true → Ok x) →
      Calls Try.prog 112 #[.slice B l.length d, bV bt, bV bw, bV bm] W fun e w' => e = .returned (.tuple #[]) ∧ ∃ v', MetAt base w' bt bm mb (meetL whom met l) v' ∧ Frm (fun k => k = mb ∨ k = bm ∨ v.ownBlock = some k) W w') := fun W base bt bm bw mb met v B d l h1 h2 h3 h4 h5 h6 h7 h8 h9 h10 h11 h12 h13 =>
    meet_any hf0 h1 h2 h3 h4 h5 h6 (N := g.length) (by omega) ⟨h7, fun x hx => ⟨(hok x (h8 x hx)).1, (hok x (h8 x hx)).2.1⟩⟩ h9 h10 h11 h12 (fun x hx hw => ⟨(hok x (h13 x hx hw)).1, (hok x (h13 x hx hw)).2.1⟩)
  have FB := Lib.hid h
  have WF := Lib.hid hwf
  have LR := Lib.hid hr
  have SH : Hid (∀ met : List Int, met.Nodup → (∀ x ∈ met, Ok x) → met.length ≤ g.length) := fun met hd hm => nums_short hd fun x hx => ⟨(hok x (hm x hx)).1, (hok x (hm x hx)).2.1⟩
  have FS : Hid (∀ (f i : Nat) (met : List Int) (n : Int), met[i]? = some n → followF g whom (f + 1) i met = followF g whom f (i + 1) (meetL whom met (heldG g n))) := fun f i met n h => followF_step h
  have FE : Hid (∀ (f i : Nat) (met : List Int), met.length ≤ i → followF g whom f i met = met) := fun f i met h => followF_end h
  have R0 : Hid (followF g whom (g.length + 1) 0 (meetL whom [] l) = followL g whom l) := (rfl : followF g whom (g.length + 1) 0 (meetL whom [] l) = followL g whom l)
  clear hg h hwf hr hf0 hf1 hok hs hfo
  generalize followL g whom l = R at *
  generalize g.length = N at *
  have hmf := hmf2
  have hmm := @run_makeMap Try.prog
  generalize hll : l.length = nl at *
  go_enter Try.func53, Try.ntmps53
  go_upto_region 4 with fail
  refine at_world (fun V => Below w.heap.size w V ∧ V.cell? ⟨w.heap.size, 0, none⟩ = some (.slice A N c) ∧ V.cell? ⟨w.heap.size + 1, 0, none⟩ = some (.func (.func fg) #[] lb) ∧ MetAt (w.heap.size + 1 + 1 + 1 + 1 + 1) V (w.heap.size + 1 + 1 + 1 + 1) (w.heap.size + 1 + 1) (w.heap.size + 1 + 1 + 1) [] (.slice none 0 0) ∧ V.heap.size = w.heap.size + 1 + 1 + 1 + 1 + 1) ?_ (fun V HV => ?_)
  · refine ⟨(((((Below.refl _ _).alloc (Nat.le_refl _) _).alloc (by simp) _).alloc (by simp; omega) _).alloc (by simp; omega) _).alloc (by simp; omega) _, by simp [go_sem], by simp [go_sem], ⟨by simp [go_sem], by simp [go_sem], by simp [go_sem], ?_, World.ownsRow_nil _ _ _ _, by omega, by omega, by omega, by omega, by omega, by omega⟩, by simp⟩
    have m1 := MapI.made (((w.alloc (Obj.cells #[Value.slice A N c] 24 (0, 0))).alloc (Obj.cells #[Value.func (Fn.func fg) #[] lb] 65 (0, 0))).alloc (Obj.cells #[Value.slice none 0 0] 25 (0, 0)))
    have m2 : MapI _ _ (cntF []) := m1.congr (fun _ _ => by simp [cntF, wrap64])
    have e : (((w.alloc (Obj.cells #[Value.slice A N c] 24 (0, 0))).alloc (Obj.cells #[Value.func (Fn.func fg) #[] lb] 65 (0, 0))).alloc (Obj.cells #[Value.slice none 0 0] 25 (0, 0))).heap.size = w.heap.size + 1 + 1 + 1 := by simp
    rw [e] at m2
    exact m2.keep (Below.heap_alloc _ _ _ (by simp))
  obtain ⟨hb, x0, xw, hM, hsz⟩ := HV
  have BV := Lib.hid hb
  have M0 := Lib.hid hM
  clear hb hM
  obtain ⟨bg, hbg⟩ : ∃ b, b = w.heap.size := ⟨_, rfl⟩
  obtain ⟨bw, hbw⟩ : ∃ b, b = w.heap.size + 1 := ⟨_, rfl⟩
  obtain ⟨bm, hbm⟩ : ∃ b, b = w.heap.size + 1 + 1 := ⟨_, rfl⟩
  obtain ⟨mb, hmb⟩ : ∃ b, b = w.heap.size + 1 + 1 + 1 := ⟨_, rfl⟩
  obtain ⟨bt, hbt⟩ : ∃ b, b = w.heap.size + 1 + 1 + 1 + 1 := ⟨_, rfl⟩
  obtain ⟨base, hba⟩ : ∃ b, b = w.heap.size + 1 + 1 + 1 + 1 + 1 := ⟨_, rfl⟩
  rw [← hba] at M0 hsz
  rw [← hbt] at M0 ⊢
  rw [← hmb] at M0
  rw [← hbm] at M0 ⊢
  rw [← hbw] at xw ⊢
  rw [← hbg] at x0 ⊢
  have EQ : Hid (bg = w.heap.size ∧ bw = w.heap.size + 1 ∧ bm = w.heap.size + 1 + 1 ∧ mb = w.heap.size + 1 + 1 + 1 ∧ bt = w.heap.size + 1 + 1 + 1 + 1 ∧ base = w.heap.size + 1 + 1 + 1 + 1 + 1 ∧ V.heap.size = base) := ⟨hbg, hbw, hbm, hmb, hbt, hba, hsz⟩
  clear hbg hbw hbm hmb hbt hba hsz
  have CALL : Hid (Calls Try.prog 112 #[.slice B nl d, bV bt, bV bw, bV bm] V fun e w' => e = .returned (.tuple #[]) ∧ ∃ v', MetAt base w' bt bm mb (meetL whom [] l) v' ∧ Frm (fun k => k = mb ∨ k = bm) V w') := by
    obtain ⟨q1, q2, q3, q4, q5, q6, q7⟩ := EQ.out
    have := ME.out V base bt bm bw mb [] (.slice none 0 0) B d l xw BV.out (by omega) (by omega) (by omega) M0.out List.nodup_nil (fun _ h => by cases h) (by rw [hll]; exact hl) (FB.out.below BV.out) (fun hne a ha => by
      obtain ⟨y, hy⟩ := List.exists_mem_of_ne_nil _ hne
      obtain ⟨i, hi⟩ := List.getElem?_of_mem hy
      obtain ⟨ad, e, hlt, _⟩ := FB.out i y hi
      rw [ha] at e
      injection e with e
      subst e
      exact ⟨by omega, by omega, by simp [Value.ownBlock]⟩) WF.out LR.out
    rw [hll] at this
    refine this.mono ?_
    rintro e w' ⟨rfl, v', h1, h2⟩
    refine ⟨rfl, v', h1, h2.mono ?_⟩
    rintro k (h | h | h)
    · exact .inl h
    · exact .inr h
    · cases h
  go_upto_region 5 with (go_at_call 112; refine CALL.out.mono ?_; rintro e w1 ⟨rfl, v1, hm1, hf1⟩; have M1 := Lib.hid hm1; have F1 := Lib.hid hf1; clear hm1 hf1)
  have INV : Hid (∃ met v, MetAt base w1 bt bm mb met v ∧ met.Nodup ∧ (∀ x ∈ met, Ok x) ∧ followF g whom (N + 1 - 0) 0 met = R) := ⟨_, v1, M1.out, meet_nodup List.nodup_nil, fun x hx => by
    rcases meet_mem.1 hx with h | ⟨h, h2⟩
    · cases h
    · exact LR.out x h h2, R0.out⟩
  have FB2 : Hid (∀ W, Frm (fun k => bm ≤ k) V W → Below w.heap.size w W) := fun W hW => BV.out.trans (hW.below BV.out.size (fun k hk => by have := EQ.out; omega))
  have F2 : Hid (Frm (fun k => bm ≤ k) V w1) := F1.out.mono (fun k hk => by have := EQ.out; omega)
  clear M1 F1 CALL
  go_wp2_with fail
  go_loopg [10] (N + 1) (fun gg s10 wr => ∃ i : Nat, i ≤ N ∧ N + 1 - i ≤ gg ∧ s10 = .int .i64 i ∧ Hid (∃ met v, MetAt base wr bt bm mb met v ∧ met.Nodup ∧ (∀ x ∈ met, Ok x) ∧ i ≤ met.length ∧ followF g whom (N + 1 - i) i met = R) ∧ Hid (Frm (fun k => bm ≤ k) V wr))
  case atStart =>
    obtain ⟨met, v, h1, h2, h3, h4⟩ := INV.out
    exact ⟨0, Nat.zero_le _, by omega, rfl, ⟨met, v, h1, h2, h3, Nat.zero_le _, h4⟩, F2⟩
  case round =>
    obtain ⟨i, hiN, hgg, rfl, MM, FF⟩ := hrel
    obtain ⟨met, v, hm, hnd, hok, hil, hfl⟩ := MM.out
    obtain ⟨mA, mc, rfl⟩ := slice_of_own hm.row
    have hlen := SH.out met hnd hok
    have MX := Lib.hid hm
    have ND := Lib.hid hnd
    have OM := Lib.hid hok
    have FL := Lib.hid hfl
    have xm := hm.cell
    have zm := World.block_lt_of_cell? wr _ xm
    simp only at zm
    clear hm hnd hok hfl MM
    have q := EQ.out
    have y0 : wr.cell? ⟨bg, 0, none⟩ = some (.slice A N c) := (FF.out.cell (p := ⟨bg, 0, none⟩) (by show bg < _; omega) (by show ¬ bm ≤ bg; omega)).trans x0
    have yw : wr.cell? ⟨bw, 0, none⟩ = some (.func (.func fg) #[] lb) := (FF.out.cell (p := ⟨bw, 0, none⟩) (by show bw < _; omega) (by show ¬ bm ≤ bw; omega)).trans xw
    clear q
    by_cases hlt : i < met.length
    · obtain ⟨x, hx⟩ : ∃ x, met[i]? = some x := ⟨_, List.getElem?_eq_getElem hlt⟩
      have hox := OM.out x (List.mem_of_getElem? hx)
      obtain ⟨h1x, h2x, h3x⟩ := OK.out x hox
      have HI : Hid (IntsAt wr mA met) := by
        obtain ⟨A', c', e, hi⟩ := ints_of_own MX.out.row
        injection e with e1 _ e2
        subst e1
        exact hi
      obtain ⟨ma, e, hal, hxi⟩ := HI.out i x hx
      subst e
      have hl2 : (ma.add i).block < wr.heap.size := by rw [Go.ChangeShapes.block_add]; exact hal
      have KP : Hid (∀ W, Below wr.heap.size wr W → W.cell? ⟨bg, 0, none⟩ = some (.slice A N c) ∧ W.cell? ⟨bm, 0, none⟩ = some (.slice (some ma) met.length mc) ∧ W.cell? (ma.add i) = some (.int .i64 x)) := fun W hW =>
        ⟨(hW.cell (p := ⟨bg, 0, none⟩) (by have := EQ.out; show bg < _; omega)).trans y0, (hW.cell (p := ⟨bm, 0, none⟩) zm).trans xm, (hW.cell (p := ma.add i) hl2).trans hxi⟩
      have k1 : ∀ o, (wr.alloc o).cell? ⟨bg, 0, none⟩ = some (.slice A N c) := fun o => (KP.out _ ((Below.refl _ _).alloc (Nat.le_refl _) o)).1
      have BW := Lib.hid (FB2.out wr FF.out)
      have FSX := Lib.hid (FS.out (N - i) i met x hx)
      have HX := Lib.hid hx
      have MO : Hid (∀ y ∈ meetL whom met (heldG g x), Ok y) := fun y hy => by
        rcases meet_mem.1 hy with h | ⟨h, h2⟩
        · exact OM.out y h
        · exact (h3x y h).2 h2
      have CM : Hid (∀ (W : World) (A2 : Option Addr) (c2 : Nat), Below wr.heap.size wr W → IntsAt W A2 (heldG g x) → (∀ a, A2 = some a → wr.heap.size ≤ a.block) → Calls Try.prog 112 #[.slice A2 (heldG g x).length c2, bV bt, bV bw, bV bm] W fun e w' => e = .returned (.tuple #[]) ∧ ∃ v', MetAt base w' bt bm mb (meetL whom met (heldG g x)) v' ∧ Frm (fun k => bm ≤ k) V w') := fun W A2 c2 hW hi ha => by
        obtain ⟨q1, q2, q3, q4, q5, q6, q7⟩ := EQ.out
        have qs := FF.out.size
        have own := MX.out.row.lt
        have := ME.out W base bt bm bw mb met _ A2 c2 (heldG g x) ((hW.cell (p := ⟨bw, 0, none⟩) (by show bw < _; omega)).trans yw) (BW.out.trans (hW.mono BW.out.size)) (by omega) (by omega) (by have := hW.size; omega) (MX.out.below hW) ND.out OM.out (Nat.le_trans (HL.out x) (by omega)) hi (fun _ a ha2 => by
          have h1 := ha a ha2
          refine ⟨by omega, by omega, fun e => ?_⟩
          have := (own _ e).2
          omega) (fun y hy => (h3x y hy).1) (fun y hy => (h3x y hy).2)
        refine this.mono ?_
        rintro e w' ⟨rfl, v', h1, h2⟩
        refine ⟨rfl, v', h1, FF.out.trans ((Frm.of_below _ hW).trans (h2.mono ?_))⟩
        rintro k (h | h | h)
        · omega
        · omega
        · have := (own _ h).1; omega
      clear hx h1x h2x
      go_upto_region 8 with fail
      go_region_law (first
        | (go_simp; go_at_call 60; (with_reducible refine (HBY.out _ (some ⟨wr.heap.size, 0, none⟩) x (by first | exact BW.out.alloc BW.out.size _ | exact (BW.out.alloc BW.out.size _).drew) hox (by first | exact lit_one x | exact lit_one_drew x)).mono ?_); rintro e w2 ⟨v2, rfl, ho2, hb2⟩; obtain ⟨A2, c2, rfl, hi2, hh2⟩ := ints_of_own2 ho2)
        | (go_simp; first | go_at_call 112 | skip
           have HB2 : Below wr.heap.size wr w2 := by first | exact ((Below.refl _ _).alloc (Nat.le_refl _) _).trans (hb2.mono (by simp)) | exact (((Below.refl _ _).alloc (Nat.le_refl _) _).drew).trans (hb2.mono (by simp))
           (with_reducible refine (CM.out w2 A2 c2 HB2 hi2 (by intro a ha; have := hh2 a ha; simp at this; omega)).mono ?_)
           rintro e w3 ⟨rfl, v3, hm3, hf3⟩))
      all_goals
        have M3 := Lib.hid hm3
        have F3 : Hid (Frm (fun k => bm ≤ k) V w3) := hf3
        clear hm3 hf3 hb2 ho2 hi2 hh2 HB2
        go_wp2_with fail
        go_roundg (N + 1 - (i + 1))
        case measure => omega
        case rel => exact ⟨i + 1, by omega, by omega, by go_num, ⟨_, _, M3.out, meet_nodup ND.out, MO.out, by have := (meet_prefix (whom := whom) (met := met) (l := heldG g x)).length_le; omega, by rw [← FL.out, show N + 1 - i = N - i + 1 by omega, FSX.out, show N + 1 - (i + 1) = N - i by omega]⟩, F3⟩
    · have hkn : i = met.length := by omega
      have E1 := Lib.hid ((FE.out (N + 1 - i) i met (by omega)).symm.trans FL.out)
      clear hkn
      go_wp2_with fail
      go_ret
      refine ⟨_, rfl, ?_, FB2.out _ FF.out⟩
      rw [← E1.out]
      exact own_less MX.out.row (by have := EQ.out; omega)
end Go.Proofs.Ytghnjmodnhnmfaa
