/- trial.follow's own function that meets a list: of all these only whom it is told to follow, each once. -/
import Derived.Test.YtghnjmodnhnmfaaTrHeld
import Derived.Test.YtghnjmodnhnmfaaRcRounds
import Derived.Test.YtghnjmodnhnmfaaRcHold
import Derived.Maps.AppendAt
namespace Go.Proofs.Ytghnjmodnhnmfaa
set_option maxRecDepth 20000
open Go.RowKit Go.Maps

/-- What follow has met: the row, its box, and how often in the map. -/
structure MetAt (base : Nat) (w : World) (bt bm mb : Nat) (met : List Int) (v : Value) : Prop where
  times : w.cell? ⟨bt, 0, none⟩ = some (.map (some mb))
  cell : w.cell? ⟨bm, 0, none⟩ = some v
  fz : w.frozen? ⟨bm, 0, none⟩ = false
  map : MapI w mb (cntF met)
  row : w.ownsRow base 3 1 v met.length (met.map (Value.int .i64))
  ne1 : bt ≠ mb
  ne2 : bt ≠ bm
  ne3 : mb ≠ bm
  lt1 : bt < base
  lt2 : bm < base
  lt3 : mb < base
theorem MetAt.below {base : Nat} {w w' : World} {bt bm mb : Nat} {met : List Int} {v : Value} (h : MetAt base w bt bm mb met v) (hb : Below w.heap.size w w') : MetAt base w' bt bm mb met v :=
  ⟨(hb.cell (p := ⟨bt, 0, none⟩) (World.block_lt_of_cell? w _ h.times)).trans h.times, (hb.cell (p := ⟨bm, 0, none⟩) (World.block_lt_of_cell? w _ h.cell)).trans h.cell, (hb.frozen (p := ⟨bm, 0, none⟩) (World.block_lt_of_cell? w _ h.cell)).trans h.fz,
    h.map.keep (hb.block _ h.map.lt), own_below h.row hb, h.ne1, h.ne2, h.ne3, h.lt1, h.lt2, h.lt3⟩
/-- One more is met. -/
theorem MetAt.push {base : Nat} {w w1 w2 w5 : World} {bt bm mb : Nat} {met : List Int} {v v' : Value} {x : Int} {o : Obj} (h : MetAt base w bt bm mb met v) (hb1 : Below w.heap.size w w1)
    (hm : MapI w2 mb (cntF (met ++ [x]))) (g2 : w1.grownBy w2 (some mb)) (hlb : base ≤ w.heap.size)
    (h5 : w5.ownsRow base 3 1 v' (met.length + 1) (met.map (Value.int .i64) ++ [.int .i64 x])) (g5 : (w2.alloc o).grownBy w5 v.ownBlock) (at5 : v'.ownBlock = v.ownBlock ∨ v'.ownBlock = some (w2.alloc o).heap.size) :
    MetAt base (w5.setCell ⟨bm, 0, none⟩ v') bt bm mb (met ++ [x]) v' ∧ Frm (fun k => k = mb ∨ k = bm ∨ v.ownBlock = some k) w (w5.setCell ⟨bm, 0, none⟩ v') ∧ (v'.ownBlock = v.ownBlock ∨ ∃ k, v'.ownBlock = some k ∧ w.heap.size ≤ k) := by
  have H := h.below hb1
  have sz : w.heap.size ≤ w1.heap.size := hb1.size
  have sz2 := g2.size
  have sz5 : w2.heap.size + 1 ≤ w5.heap.size := by have := g5.size; simpa using this
  have own : ∀ k, v.ownBlock = some k → base ≤ k := fun k hk => (h.row.lt k hk).1
  have own' : ∀ k, v'.ownBlock = some k → base ≤ k := fun k hk => (h5.lt k hk).1
  have lt1 := h.lt1
  have lt2 := h.lt2
  have lt3 := h.lt3
  have k2 : ∀ j, j < w1.heap.size → j ≠ mb → w2.heap[j]? = w1.heap[j]? := fun j hj hn => g2.block j hj (by intro e; injection e with e; exact hn e)
  have k5 : ∀ j, j < w2.heap.size → v.ownBlock ≠ some j → w5.heap[j]? = w2.heap[j]? := fun j hj hn => (g5.block j (by simp; omega) (fun e => hn e.symm)).trans (Below.heap_alloc _ _ _ hj)
  have l5 : ∀ j, j < base → v.ownBlock ≠ some j := fun j hj e => by have := own j e; omega
  have m5 : w5.heap[mb]? = w2.heap[mb]? := k5 mb (by omega) (l5 mb lt3)
  have b5 : w5.heap[bm]? = w1.heap[bm]? := (k5 bm (by omega) (l5 bm lt2)).trans (k2 bm (by omega) (Ne.symm h.ne3))
  have t5 : w5.heap[bt]? = w1.heap[bt]? := (k5 bt (by omega) (l5 bt lt1)).trans (k2 bt (by omega) h.ne1)
  refine ⟨⟨?_, World.cell?_setCell_same _ _ _ ((World.cell?_of_block (w := w1) (a := ⟨bm, 0, none⟩) b5).trans H.cell), by rw [World.frozen?_setCell]; exact (World.frozen?_of_block (w := w1) (a := ⟨bm, 0, none⟩) b5).trans H.fz, ?_, ?_, h.ne1, h.ne2, h.ne3, h.lt1, h.lt2, h.lt3⟩, ⟨?_, ?_, ?_, ?_, ?_⟩, ?_⟩
  · rw [World.cell?_setCell_far _ _ _ _ (show bm ≠ bt from Ne.symm h.ne2)]
    exact (World.cell?_of_block (w := w1) (a := ⟨bt, 0, none⟩) t5).trans H.times
  · exact hm.keep ((Below.heap_setCell _ _ _ _ (show mb ≠ bm from h.ne3)).trans m5)
  · have := h5.kept (w' := w5.setCell ⟨bm, 0, none⟩ v') (row := some bm) ⟨rfl, rfl, rfl, by simp [World.setCell], fun i _ hne => Below.heap_setCell _ _ _ _ (by rintro rfl; exact hne rfl)⟩ (Or.inr fun e => by have := own' bm e; omega)
    simpa using this
  · exact (g5.os.trans g2.os).trans hb1.os
  · exact (g5.tape.trans g2.tape).trans hb1.tape
  · exact (g5.output.trans g2.output).trans hb1.output
  · simp; omega
  · intro j hj hn
    have n1 : j ≠ mb := fun e => hn (.inl e)
    have n2 : j ≠ bm := fun e => hn (.inr (.inl e))
    have n3 : v.ownBlock ≠ some j := fun e => hn (.inr (.inr e))
    exact (Below.heap_setCell _ _ _ _ (show j ≠ bm from n2)).trans ((k5 j (by omega) n3).trans ((k2 j (by omega) n1).trans (hb1.block j hj)))
  · rcases at5 with e | e
    · exact .inl e
    · exact .inr ⟨_, e, by simp; omega⟩
theorem Frm.trans2 {S S' : Nat → Prop} {w w1 w2 : World} (h : Frm S w w1) (k : Frm S' w1 w2) (hs : ∀ j, j < w.heap.size → S' j → S j) : Frm S w w2 :=
  ⟨k.os.trans h.os, k.tape.trans h.tape, k.output.trans h.output, Nat.le_trans h.size k.size, fun i hi hn => (k.block i (Nat.lt_of_lt_of_le hi h.size) (fun e => hn (hs i hi e))).trans (h.block i hi hn)⟩
theorem cnt_met {l : List Int} (hd : l.Nodup) (x : Int) : cntF l x = if x ∈ l then 1 else 0 := by
  unfold cntF
  have h1 := List.nodup_iff_count.1 hd x
  by_cases e : x ∈ l
  · rw [if_pos e]
    have := List.count_pos_iff.2 e
    have : l.count x = 1 := by omega
    rw [this]; unfold wrap64; omega
  · rw [if_neg e, List.count_eq_zero.2 e]; unfold wrap64; omega
set_option maxHeartbeats 4000000 in
theorem meet_any {w0 w : World} {base bt bm bw mb : Nat} {f : Value} {whom : Int → Bool} (hf : YesAt w0 f wf64 whom) (hbw : w.cell? ⟨bw, 0, none⟩ = some f) (hw0 : Below w0.heap.size w0 w) (hlo : w0.heap.size ≤ bt ∧ w0.heap.size ≤ bm ∧ w0.heap.size ≤ mb)
    (hbwn : bw ≠ mb ∧ bw ≠ bm ∧ bw < base) (hbase : base ≤ w.heap.size) {met : List Int} {v : Value} (H0 : MetAt base w bt bm mb met v) {N : Nat} (hN : N ≤ 2147483647) (hmet : met.Nodup ∧ ∀ x ∈ met, 1 ≤ x ∧ x ≤ N)
    {B : Option Addr} {d : Nat} {l : List Int} (hl : l.length ≤ 1099511627776) (h : IntsAt w B l) (hB : l ≠ [] → ∀ a, B = some a → a.block ≠ mb ∧ a.block ≠ bm ∧ v.ownBlock ≠ some a.block) (hwf : ∀ x ∈ l, wf64 x) (hr : ∀ x ∈ l, whom x = true → 1 ≤ x ∧ x ≤ N) :
    Calls Try.prog 112 #[.slice B l.length d, bV bt, bV bw, bV bm] w fun e w' => e = .returned (.tuple #[]) ∧ ∃ v', MetAt base w' bt bm mb (meetL whom met l) v' ∧ Frm (fun k => k = mb ∨ k = bm ∨ v.ownBlock = some k) w w' := by
  obtain ⟨i0, hi, hz0, hz1, hz2⟩ := info_parts int_info
  obtain ⟨g, lb, rfl, eg, hf⟩ := hf
  have H := Lib.hid h
  have HF := Lib.hid hf
  have WF := Lib.hid hwf
  have WR := Lib.hid hr
  have HB := Lib.hid hB
  have W0 := Lib.hid hw0
  have GET : Hid (∀ i, i < l.length → ∃ p, l[i]? = some p) := fun i hi => ⟨_, List.getElem?_eq_getElem hi⟩
  have FULL : Hid (meetL whom met (l.take l.length) = meetL whom met l) := show _ = _ by rw [List.take_of_length_le (Nat.le_refl _)]
  have Z0 : Hid (meetL whom met (l.take 0) = met) := (rfl : meetL whom met (l.take 0) = met)
  have STP : Hid (∀ k x, l[k]? = some x → meetL whom met (l.take (k + 1)) = if x ∈ meetL whom met (l.take k) ∨ whom x = false then meetL whom met (l.take k) else meetL whom met (l.take k) ++ [x]) := fun k x => meet_take
  have ND : Hid (∀ k, (meetL whom met (l.take k)).Nodup ∧ (meetL whom met (l.take k)).length ≤ N) := fun k => by
    have hd : (meetL whom met (l.take k)).Nodup := meet_nodup hmet.1
    refine ⟨hd, nums_short hd fun x hx => ?_⟩
    rcases meet_mem.1 hx with h | ⟨h, h2⟩
    · exact hmet.2 x h
    · exact hr x (List.mem_of_mem_take h) h2
  rw [← FULL.out]
  have H1 : Hid (MetAt base w bt bm mb (meetL whom met (l.take 0)) v) := by rw [Z0.out]; exact H0
  clear h hf hwf hr hB hw0 H0 hmet FULL Z0
  generalize hM : (fun k => meetL whom met (l.take k)) = M
  have hMk : ∀ k, meetL whom met (l.take k) = M k := fun k => by rw [← hM]
  simp only [hMk] at STP ND H1 ⊢
  clear hMk hM
  generalize hn : l.length = n at *
  clear hn
  have LO := Lib.hid hlo
  have FB : Hid (∀ W, Frm (fun k => k = mb ∨ k = bm ∨ v.ownBlock = some k) w W → Below w0.heap.size w0 W) := fun W hW => by
    refine W0.out.trans (hW.below W0.out.size ?_)
    rintro k (rfl | rfl | h)
    · exact LO.out.2.2
    · exact LO.out.2.1
    · have := (H1.out.row.lt k h).1
      have := H1.out.lt2
      have := LO.out
      omega
  have NW : Hid (¬ (bw = mb ∨ bw = bm ∨ v.ownBlock = some bw)) := fun h => by
    rcases h with h | h | h
    · exact hbwn.1 h
    · exact hbwn.2.1 h
    · have := (H1.out.row.lt bw h).1; omega
  have hbwl := World.block_lt_of_cell? w _ hbw
  go_enter Try.func112, Try.ntmps112
  go_wp2_with fail
  go_loopg [9] n (fun gg s9 wr => ∃ k : Nat, k ≤ n ∧ n - k ≤ gg ∧ s9 = .int .i64 k ∧ Hid (∃ v', MetAt base wr bt bm mb (M k) v' ∧ (v'.ownBlock = v.ownBlock ∨ ∃ j, v'.ownBlock = some j ∧ w.heap.size ≤ j)) ∧ Hid (Frm (fun k => k = mb ∨ k = bm ∨ v.ownBlock = some k) w wr))
  case atStart => exact ⟨0, Nat.zero_le _, by omega, rfl, ⟨v, H1.out, .inl rfl⟩, Frm.refl _ _⟩
  case round =>
    obtain ⟨k, hk, hgg, rfl, MM, FF⟩ := hrel
    by_cases hlt : k < n
    · obtain ⟨v1, hm1, ho1⟩ := MM.out
      obtain ⟨x, hx⟩ := GET.out k hlt
      obtain ⟨a, e, hal, hc⟩ := (ints_frm FF.out H.out (fun a ha => fun h => by
        obtain ⟨h1, h2, h3⟩ := HB.out (List.ne_nil_of_mem (List.mem_of_getElem? hx)) a ha
        rcases h with h | h | h
        · exact h1 h
        · exact h2 h
        · exact h3 h)) k x hx
      subst e
      have hl2 : (a.add k).block < wr.heap.size := by rw [Go.ChangeShapes.block_add]; exact hal
      have hwx := WF.out x (List.mem_of_getElem? hx)
      have yt := hm1.times
      have hget := hm1.map.run_get hwx
      have yw : wr.cell? ⟨bw, 0, none⟩ = some (.func (.func g) #[] lb) := (FF.out.cell (p := ⟨bw, 0, none⟩) hbwl NW.out).trans hbw
      have hS := STP.out k x hx
      have LN := (ND.out k).2
      have hcm := cnt_met (ND.out k).1 x
      have HX := Lib.hid hx
      have M1 := Lib.hid hm1
      have O1 := Lib.hid ho1
      clear hx hm1 ho1
      by_cases hin : x ∈ M k
      · rw [if_pos hin] at hcm
        rw [if_pos (Or.inl hin)] at hS
        rw [hcm] at hget
        have E1 := Lib.hid hS
        clear hin hcm hS
        go_wp2_with fail
        go_roundg (n - (k + 1))
        case measure => omega
        case rel => exact ⟨k + 1, by omega, by omega, by go_num, ⟨v1, by rw [E1.out]; exact M1.out, O1.out⟩, FF⟩
      · rw [if_neg hin] at hcm
        rw [hcm] at hget
        have CALL := Lib.hid (HF.out wr x (FB.out wr FF.out) hwx)
        have HIN := Lib.hid hin
        have HCM := Lib.hid hcm
        clear hin hcm
        cases hq : whom x with
        | false =>
          rw [hq] at CALL
          rw [if_pos (Or.inr hq)] at hS
          have E1 := Lib.hid hS
          clear hq hS
          go_wp2_with (go_at_fn g; refine CALL.out.mono ?_; rintro e w1 ⟨rfl, hb1⟩; have B1 := Lib.hid hb1; clear hb1)
          go_roundg (n - (k + 1))
          case measure => omega
          case rel => exact ⟨k + 1, by omega, by omega, by go_num, ⟨v1, by rw [E1.out]; exact M1.out.below B1.out, O1.out⟩, FF.out.trans (Frm.of_below _ B1.out)⟩
        | true =>
          rw [hq] at CALL
          rw [if_neg (by rw [hq]; intro h; rcases h with h | h; exact HIN.out h; cases h)] at hS
          have E1 := Lib.hid hS
          have hrx := WR.out x (List.mem_of_getElem? HX.out) hq
          clear hq hS
          go_upto_region 4 with (go_at_fn g; refine CALL.out.mono ?_; rintro e w1 ⟨rfl, hb1⟩; have B1 := Lib.hid hb1; clear hb1)
          have M2 := Lib.hid (M1.out.below B1.out)
          have yt1 := M2.out.times
          have hget1 := M2.out.map.run_get hwx
          rw [HCM.out] at hget1
          obtain ⟨w2, hput, hM', hG'⟩ := M2.out.map.run_put (x := 1) hrx.1 (by omega) (by unfold wf64; omega)
          have HM2 : Hid (MapI w2 mb (cntF (M k ++ [x]))) := hM'.congr (fun v _ => by
            have := cntF_snoc (M k) x v
            rw [HCM.out, show wrap64 (0 + 1) = 1 by unfold wrap64; omega] at this
            exact this)
          have G2 := Lib.hid hG'
          clear hM' hG'
          have hbl := H1.out.lt2
          have hbb := Nat.lt_of_lt_of_le (Nat.lt_of_lt_of_le hbl hbase) FF.out.size
          have hbb1 := Nat.lt_of_lt_of_le hbb B1.out.size
          have hb2 : w2.heap[bm]? = w1.heap[bm]? := G2.out.block bm hbb1 (by intro e; injection e with e; exact H1.out.ne3 e.symm)
          have yb : w2.cell? ⟨bm, 0, none⟩ = some v1 := (World.cell?_of_block (w := w1) (a := ⟨bm, 0, none⟩) hb2).trans M2.out.cell
          have yf : w2.frozen? ⟨bm, 0, none⟩ = false := (World.frozen?_of_block (w := w1) (a := ⟨bm, 0, none⟩) hb2).trans M2.out.fz
          have hl2' : (a.add k).block < w1.heap.size := Nat.lt_of_lt_of_le hl2 B1.out.size
          have OW : Hid (w2.ownsRow base 3 1 v1 (M k).length ((M k).map (Value.int .i64))) := M2.out.row.kept (row := some mb) G2.out (Or.inr fun e => by have := (M2.out.row.lt mb e).1; have := M2.out.lt3; omega)
          have sz2 : w1.heap.size ≤ w2.heap.size := G2.out.size
          have szr := FF.out.size
          have szb := B1.out.size
          clear hb2
          go_wp2_with (at_builtin; refine wpList_append_own_at _ rfl (.tmp 26) (.tmp 28) _ rfl base 3 i0 _ 1 8 Try.underlying25 hi hz0 hz1 hz2 rfl (by decide) _ _ _ rfl (OW.out.alloc _) ⟨w2.heap.size, 0, none⟩ 1 1 [.int .i64 x] rfl rfl one_cell (by simp [Value.oneCell']) (by unfold maxLen; omega) (by omega) (by simp; omega) ?_; intro v' w5 hown5 hg5 _ hat; have hb5 : w5.heap[bm]? = w2.heap[bm]? := (hg5.block bm (by simp; omega) (fun e => by have := (OW.out.lt bm e.symm).1; omega)).trans (Below.heap_alloc _ _ _ (by omega)); have yb5 : w5.cell? ⟨bm, 0, none⟩ = some v1 := (World.cell?_of_block (w := w2) (a := ⟨bm, 0, none⟩) hb5).trans yb; have yf5 : w5.frozen? ⟨bm, 0, none⟩ = false := (World.frozen?_of_block (w := w2) (a := ⟨bm, 0, none⟩) hb5).trans yf; obtain ⟨vA, vc, rfl⟩ := slice_of_own hown5; have HO5 := Lib.hid hown5; have HG5 := Lib.hid hg5; have HA := Lib.hid hat; clear hown5 hg5 hat hb5)
          have PP := M1.out.push B1.out HM2.out G2.out (by have := FF.out.size; omega) HO5.out HG5.out HA.out
          have P1 := Lib.hid PP.1
          have P2 := Lib.hid PP.2.1
          have P3 := Lib.hid PP.2.2
          clear PP HO5 HG5 HA
          go_roundg (n - (k + 1))
          case measure => omega
          case rel =>
            refine ⟨k + 1, by omega, by omega, by go_num, ⟨_, by rw [E1.out]; exact P1.out, ?_⟩, ?_⟩
            · rcases P3.out with e | ⟨j, e, hj⟩
              · rw [e]; exact O1.out
              · exact .inr ⟨j, e, Nat.le_trans FF.out.size hj⟩
            · refine FF.out.trans2 P2.out fun j hj h => ?_
              rcases h with h | h | h
              · exact .inl h
              · exact .inr (.inl h)
              · rcases O1.out with e | ⟨i, e, hi⟩
                · rw [e] at h; exact .inr (.inr h)
                · rw [e] at h; injection h with h; omega
    · have hkn : k = n := by omega
      subst hkn
      go_wp2_with fail
      refine bodyPost_end (results_none rfl _ _ _) rfl ?_
      obtain ⟨v1, hm1, _⟩ := MM.out
      exact ⟨rfl, v1, hm1, FF.out⟩
end Go.Proofs.Ytghnjmodnhnmfaa
