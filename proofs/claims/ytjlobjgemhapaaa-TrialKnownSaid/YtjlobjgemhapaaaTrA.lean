/- TrHeld: trial.heldBy: what objects hold, slot by slot, but strings. | TrMeet: trial.follow's own function that meets a list: of all these only whom it is told to follow, each once. | TrFollow: trial.follow: the first ones, and then, one after the other, what each of those that it answers holds. | TrSeen: trial.Seen; slices.Sort and slices.Compact at ints, in place. | TrCompact: The library's slices.Compact at ints: its laying at this program; slices.Compact by contract. -/
import Derived.Test.YtjlobjgemhapaaaOldV
import Derived.Test.YtjlobjgemhapaaaTrSmall
import Derived.Test.YtjlobjgemhapaaaOldR
import Derived.Test.YtjlobjgemhapaaaOldR
import Derived.Test.YtjlobjgemhapaaaOldS
import Derived.Maps.AppendAt
import Derived.Deep.RegionLaw
import Derived.Deep.RegionHeld3
import Derived.BigQuiet
import Derived.Test.YtjlobjgemhapaaaOldR
import Derived.Shelf.Slices.CompactI
namespace Go.Proofs.Ytjlobjgemhapaaa
set_option maxRecDepth 20000
set_option maxRecDepth 20000
open Go.RowKit Go.Maps

def heldJ (g : List OB) (xs : List Int) (k : Nat) (sl : List (Int × Int)) (j : Nat) : List Int := (xs.take k).flatMap (heldG g) ++ heldS (sl.take j)
theorem heldJ_yes {g : List OB} {xs : List Int} {k j : Nat} {sl : List (Int × Int)} {p : Int × Int} (h : sl[j]? = some p) (h5 : 5 < p.1) : heldJ g xs k sl (j + 1) = heldJ g xs k sl j ++ [p.2] := by
  unfold heldJ; rw [heldS_take h, if_pos h5, List.append_assoc]
theorem heldJ_no {g : List OB} {xs : List Int} {k j : Nat} {sl : List (Int × Int)} {p : Int × Int} (h : sl[j]? = some p) (h5 : ¬ 5 < p.1) : heldJ g xs k sl (j + 1) = heldJ g xs k sl j := by
  unfold heldJ; rw [heldS_take h, if_neg h5, List.append_nil]
theorem heldJ_end {g : List OB} {xs : List Int} {k q : Nat} {o : OB} {x : Int} (h : xs[k]? = some x) (hx : x = (q : Int) + 1) (ho : g[q]? = some o) : heldJ g xs k o.slots o.slots.length = (xs.take (k + 1)).flatMap (heldG g) := by
  unfold heldJ
  rw [List.take_add_one, h, List.flatMap_append, List.take_of_length_le (Nat.le_refl _)]
  subst hx
  simp [heldG_at ho]
theorem held_total {g : List OB} (hs : ∀ o ∈ g, o.slots.length ≤ 1048576) : ∀ (xs : List Int), (xs.flatMap (heldG g)).length ≤ xs.length * 1048576
  | [] => Nat.le_refl _
  | x :: r => by
    rw [List.flatMap_cons, List.length_append, List.length_cons]
    have := held_total hs r
    have h1 : (heldG g x).length ≤ 1048576 := by
      unfold heldG
      cases ho : g[(x - 1).toNat]? with
      | none => exact Nat.zero_le _
      | some o => exact Nat.le_trans (heldS_len _) (hs o (List.mem_of_getElem? ho))
    omega
theorem heldJ_len {g : List OB} (hs : ∀ o ∈ g, o.slots.length ≤ 1048576) (xs : List Int) (k : Nat) (sl : List (Int × Int)) (j : Nat) : (heldJ g xs k sl j).length ≤ k * 1048576 + j := by
  unfold heldJ
  rw [List.length_append]
  have h1 := held_total hs (xs.take k)
  have h2 : (xs.take k).length ≤ k := by simp; omega
  have h3 := heldS_len (sl.take j)
  have h4 : (sl.take j).length ≤ j := by simp; omega
  have : (xs.take k).length * 1048576 ≤ k * 1048576 := Nat.mul_le_mul_right _ h2
  omega
theorem two_boxes {w : World} {o : Obj} (x : Value) (E : TypeId) : ∀ j u, [x][j]? = some u → ((w.alloc o).alloc (.cells #[x] E)).cell? ((⟨w.heap.size + 1, 0, none⟩ : Addr).add j) = some u := fun j u hu => by
  have := one_cell (w := w.alloc o) (E := E) j u hu
  simpa using this
set_option maxHeartbeats 4000000 in
theorem heldBy_any {w : World} {A : Option Addr} {c : Nat} {g : List OB} (hg : GAt w A g) (hn : g.length ≤ 900) (hs : ∀ o ∈ g, o.slots.length ≤ 1048576) {B : Option Addr} {d : Nat} {xs : List Int} (hl : xs.length ≤ 1048576) (h : IntsAt w B xs) (hx : ∀ x ∈ xs, 1 ≤ x ∧ x ≤ g.length) :
    Calls Try.prog 41 #[gV A g.length c, .slice B xs.length d] w (GivesInts (xs.flatMap (heldG g)) w) := by
  obtain ⟨i0, hi, hz0, hz1, hz2⟩ := info_parts int_info
  have G := Lib.hid hg
  have H := Lib.hid h
  have XR := Lib.hid hx
  have GET : Hid (∀ i, i < xs.length → ∃ p, xs[i]? = some p) := fun i hi => ⟨_, List.getElem?_eq_getElem hi⟩
  have GG : Hid (∀ x ∈ xs, ∃ (q : Nat) (o : OB), x = (q : Int) + 1 ∧ g[q]? = some o ∧ q < g.length ∧ o.slots.length ≤ 1048576) := fun x hm => by
    have := hx x hm
    have hq : (x - 1).toNat < g.length := by omega
    exact ⟨(x - 1).toNat, _, by omega, List.getElem?_eq_getElem hq, hq, hs _ (List.getElem_mem hq)⟩
  have JL : Hid (∀ k sl j, (heldJ g xs k sl j).length ≤ k * 1048576 + j) := heldJ_len hs xs
  have FULL : Hid (xs.flatMap (heldG g) = (xs.take xs.length).flatMap (heldG g)) := show _ = _ by rw [List.take_of_length_le (Nat.le_refl _)]
  have J0 : Hid (∀ k sl, heldJ g xs k sl 0 = (xs.take k).flatMap (heldG g)) := fun k sl => by unfold heldJ; simp [heldS]
  have Z0 : Hid ((xs.take 0).flatMap (heldG g) = []) := (rfl : (xs.take 0).flatMap (heldG g) = [])
  clear hg h hx hs
  rw [FULL.out]
  generalize hN : xs.length = n at *
  generalize hM : g.length = m at *
  clear hN hM FULL
  go_enter Try.func41, Try.ntmps41
  go_wp2_with fail
  refine at_world (fun V => Below w.heap.size w V ∧ V.cell? ⟨w.heap.size, 0, none⟩ = some (.slice A m c) ∧ w.heap.size < V.heap.size) ⟨(Below.refl _ _).alloc (Nat.le_refl _) _, by simp [go_sem], by simp⟩ (fun V HV => ?_)
  obtain ⟨hb, c0, zV⟩ := HV
  have BV := Lib.hid hb
  clear hb
  obtain ⟨bg, hbg⟩ : ∃ bg, bg = w.heap.size := ⟨_, rfl⟩
  have EBG := Lib.hid hbg
  rw [← hbg] at c0 zV ⊢
  clear hbg
  go_loopg [5, 12] n (fun gg v s12 wr => ∃ k : Nat, k ≤ n ∧ n - k ≤ gg ∧ s12 = .int .i64 k ∧ Hid (wr.ownsRow V.heap.size 3 1 v ((xs.take k).flatMap (heldG g)).length (((xs.take k).flatMap (heldG g)).map (Value.int .i64))) ∧ Hid (Below V.heap.size V wr))
  case atStart => exact ⟨0, Nat.zero_le _, by omega, rfl, (show World.ownsRow _ _ _ _ _ _ _ by rw [Z0.out]; exact World.ownsRow_nil _ _ _ _), Below.refl _ _⟩
  case round =>
    obtain ⟨k, hk, hgg, rfl, O, BB⟩ := hrel
    obtain ⟨G1, rfl⟩ : ∃ G1, G1 = gk := ⟨_, rfl⟩
    by_cases hlt : k < n
    · obtain ⟨x, hx⟩ := GET.out k hlt
      obtain ⟨a, e, hal, hc⟩ := (H.out.below (BV.out.trans (BB.out.mono BV.out.size))) k x hx
      subst e
      obtain ⟨q, o, rfl, ho, hqm, hsl⟩ := GG.out x (List.mem_of_getElem? hx)
      obtain ⟨ga, sA, sc, e, hal2, hcel, hss⟩ := G.out q o ho
      subst e
      have BW0 : Hid (Below w.heap.size w wr) := BV.out.trans (BB.out.mono BV.out.size)
      obtain ⟨o0, o1, o2, o3, o4⟩ := hcel.below (by rw [Go.ChangeShapes.block_add]; exact hal2) BW0.out
      replace hal2 := Nat.lt_of_lt_of_le hal2 BW0.out.size
      have x0 : wr.cell? ⟨bg, 0, none⟩ = some (.slice (some ga) m c) := (BB.out.cell (p := ⟨bg, 0, none⟩) zV).trans c0
      have z0 : bg < wr.heap.size := Nat.lt_of_lt_of_le zV BB.out.size
      have hl2 : (a.add k).block < wr.heap.size := by rw [Go.ChangeShapes.block_add]; exact hal
      have hl3 : (ga.add (q * 5)).block < wr.heap.size := by rw [Go.ChangeShapes.block_add]; exact hal2
      have JE := Lib.hid (heldJ_end hx rfl ho)
      have JY : Hid (∀ (j : Nat) p, o.slots[j]? = some p → 5 < p.1 → heldJ g xs k o.slots (j + 1) = heldJ g xs k o.slots j ++ [p.2]) := fun j p hp h5 => heldJ_yes hp h5
      have JN : Hid (∀ (j : Nat) p, o.slots[j]? = some p → ¬ 5 < p.1 → heldJ g xs k o.slots (j + 1) = heldJ g xs k o.slots j) := fun j p hp h5 => heldJ_no hp h5
      have SS := Lib.hid hss.1
      have GET2 : Hid (∀ i, i < o.slots.length → ∃ p, o.slots[i]? = some p) := fun i hi => ⟨_, List.getElem?_eq_getElem hi⟩
      have J1 := JL.out k o.slots
      have J1 := Lib.hid J1
      have JZ := Lib.hid (J0.out k o.slots)
      clear hx ho hss o0 o1 o3 o4 hcel
      generalize o.slots.length = ns at *
      generalize o.slots = sl at *
      go_wp2_with fail
      go_loopg [5, 24] ns (fun g2 v s24 w2 => ∃ j : Nat, j ≤ ns ∧ ns - j ≤ g2 ∧ s24 = .int .i64 j ∧ Hid (w2.ownsRow V.heap.size 3 1 v (heldJ g xs k sl j).length ((heldJ g xs k sl j).map (Value.int .i64))) ∧ Hid (Below V.heap.size V w2))
      case atStart => exact ⟨0, Nat.zero_le _, by omega, rfl, (show World.ownsRow _ _ _ _ _ _ _ by rw [JZ.out]; exact O.out), BB⟩
      case round =>
        obtain ⟨j, hj, hg2, rfl, OJ, BJ⟩ := hrel
        by_cases hlt2 : j < ns
        · obtain ⟨p, hp⟩ := GET2.out j hlt2
          have BW : Hid (Below w.heap.size w wr) := BV.out.trans (BJ.out.mono BV.out.size)
          have SAT : Hid (PairsAt wr sA sl) := pairs_below SS.out BW.out
          obtain ⟨sa, e, hsl3, p0, p1⟩ := SAT.out j p hp
          subst e
          have hl4 : (sa.add (j * 2)).block < wr.heap.size := by rw [Go.ChangeShapes.block_add]; exact hsl3
          have HP := Lib.hid hp
          have L1 := J1.out j
          clear hp
          rw [add_one] at p1
          cases h5 : decide (5 < p.1) with
          | true =>
            have E1 := Lib.hid (JY.out j p HP.out (of_decide_eq_true h5))
            have h5' : (5 : Int) < p.1 := of_decide_eq_true h5
            clear h5
            go_wp2_with (at_builtin; refine wpList_append_own _ rfl (.tmp 31) (.tmp 34) _ rfl V.heap.size 3 i0 _ 1 8 Try.underlying25 hi hz0 hz1 hz2 rfl (by decide) _ _ _ rfl ((own_below OJ.out ((Below.refl _ _).alloc (Nat.le_refl _) _)).alloc _) ⟨wr.heap.size + 1, 0, none⟩ 1 1 [.int .i64 p.2] rfl rfl (two_boxes _ _) (by simp [Value.oneCell']) (by unfold maxLen; omega) (by omega) (by have := BJ.out.size; simp; omega) ?_; intro v' w2 hown2 hg2 _)
            have R := refs_step (own_below OJ.out ((Below.refl _ _).alloc (Nat.le_refl _) _)) (BJ.out.alloc BJ.out.size _) hown2 hg2 E1.out
            have R1 := Lib.hid R.1
            have R2 := Lib.hid R.2
            clear hown2 hg2 R
            go_roundg (ns - (j + 1))
            case measure => omega
            case rel => exact ⟨j + 1, by omega, by omega, by go_num, R1, R2⟩
          | false =>
            have h5' : ¬ (5 : Int) < p.1 := of_decide_eq_false h5
            have E1 := Lib.hid (JN.out j p HP.out (Int.not_lt.1 h5'))
            clear h5
            go_wp2_with fail
            go_roundg (ns - (j + 1))
            case measure => omega
            case rel => exact ⟨j + 1, by omega, by omega, by go_num, (by rw [E1.out]; exact own_below OJ.out ((Below.refl _ _).alloc (Nat.le_refl _) _)), BJ.out.alloc BJ.out.size _⟩
        · have hjn : j = ns := by omega
          subst hjn
          go_wp2_with fail
          go_roundg (n - (k + 1))
          case measure => omega
          case rel => exact ⟨k + 1, by omega, by omega, by go_num, (by rw [← JE.out]; exact OJ.out), BJ⟩
    · have hkn : k = n := by omega
      subst hkn
      go_wp2_with fail
      go_ret
      exact ⟨_, rfl, own_less O.out (by have := BV.out.size; omega), BV.out.trans (BB.out.mono BV.out.size)⟩
end Go.Proofs.Ytjlobjgemhapaaa
namespace Go.Proofs.Ytjlobjgemhapaaa
set_option maxRecDepth 20000
set_option maxRecDepth 20000
open Go.RowKit Go.Maps

/-- What follow has met: the row, its box, and how often in the map. -/
structure MetAt (base : Nat) (w : World) (bt bm mb : Nat) (met : List Int) (v : Value) : Prop where
  times : w.cell? ⟨bt, 0, none⟩ = some (.map (some mb))
  cell : w.cell? ⟨bm, 0, none⟩ = some v
  fz : w.frozen? ⟨bm, 0, none⟩ = false
  map : MapI w mb (cntF met)
  row : w.ownsRow base 3 1 v met.length (met.map (Value.int .i64))
  ne1 : bt ≠ mb
  ne2 : bt ≠ bm
  ne3 : mb ≠ bm
  lt1 : bt < base
  lt2 : bm < base
  lt3 : mb < base
theorem MetAt.below {base : Nat} {w w' : World} {bt bm mb : Nat} {met : List Int} {v : Value} (h : MetAt base w bt bm mb met v) (hb : Below w.heap.size w w') : MetAt base w' bt bm mb met v :=
  ⟨(hb.cell (p := ⟨bt, 0, none⟩) (World.block_lt_of_cell? w _ h.times)).trans h.times, (hb.cell (p := ⟨bm, 0, none⟩) (World.block_lt_of_cell? w _ h.cell)).trans h.cell, (hb.frozen (p := ⟨bm, 0, none⟩) (World.block_lt_of_cell? w _ h.cell)).trans h.fz,
    h.map.keep (hb.block _ h.map.lt), own_below h.row hb, h.ne1, h.ne2, h.ne3, h.lt1, h.lt2, h.lt3⟩
/-- One more is met. -/
theorem MetAt.push {base : Nat} {w w1 w2 w5 : World} {bt bm mb : Nat} {met : List Int} {v v' : Value} {x : Int} {o : Obj} (h : MetAt base w bt bm mb met v) (hb1 : Below w.heap.size w w1)
    (hm : MapI w2 mb (cntF (met ++ [x]))) (g2 : w1.grownBy w2 (some mb)) (hlb : base ≤ w.heap.size)
    (h5 : w5.ownsRow base 3 1 v' (met.length + 1) (met.map (Value.int .i64) ++ [.int .i64 x])) (g5 : (w2.alloc o).grownBy w5 v.ownBlock) (at5 : v'.ownBlock = v.ownBlock ∨ v'.ownBlock = some (w2.alloc o).heap.size) :
    MetAt base (w5.setCell ⟨bm, 0, none⟩ v') bt bm mb (met ++ [x]) v' ∧ Frm (fun k => k = mb ∨ k = bm ∨ v.ownBlock = some k) w (w5.setCell ⟨bm, 0, none⟩ v') ∧ (v'.ownBlock = v.ownBlock ∨ ∃ k, v'.ownBlock = some k ∧ w.heap.size ≤ k) := by
  have H := h.below hb1
  have sz : w.heap.size ≤ w1.heap.size := hb1.size
  have sz2 := g2.size
  have sz5 : w2.heap.size + 1 ≤ w5.heap.size := by have := g5.size; simpa using this
  have own : ∀ k, v.ownBlock = some k → base ≤ k := fun k hk => (h.row.lt k hk).1
  have own' : ∀ k, v'.ownBlock = some k → base ≤ k := fun k hk => (h5.lt k hk).1
  have lt1 := h.lt1
  have lt2 := h.lt2
  have lt3 := h.lt3
  have k2 : ∀ j, j < w1.heap.size → j ≠ mb → w2.heap[j]? = w1.heap[j]? := fun j hj hn => g2.block j hj (by intro e; injection e with e; exact hn e)
  have k5 : ∀ j, j < w2.heap.size → v.ownBlock ≠ some j → w5.heap[j]? = w2.heap[j]? := fun j hj hn => (g5.block j (by simp; omega) (fun e => hn e.symm)).trans (Below.heap_alloc _ _ _ hj)
  have l5 : ∀ j, j < base → v.ownBlock ≠ some j := fun j hj e => by have := own j e; omega
  have m5 : w5.heap[mb]? = w2.heap[mb]? := k5 mb (by omega) (l5 mb lt3)
  have b5 : w5.heap[bm]? = w1.heap[bm]? := (k5 bm (by omega) (l5 bm lt2)).trans (k2 bm (by omega) (Ne.symm h.ne3))
  have t5 : w5.heap[bt]? = w1.heap[bt]? := (k5 bt (by omega) (l5 bt lt1)).trans (k2 bt (by omega) h.ne1)
  refine ⟨⟨?_, World.cell?_setCell_same _ _ _ ((World.cell?_of_block (w := w1) (a := ⟨bm, 0, none⟩) b5).trans H.cell), by rw [World.frozen?_setCell]; exact (World.frozen?_of_block (w := w1) (a := ⟨bm, 0, none⟩) b5).trans H.fz, ?_, ?_, h.ne1, h.ne2, h.ne3, h.lt1, h.lt2, h.lt3⟩, ⟨?_, ?_, ?_, ?_, ?_⟩, ?_⟩
  · rw [World.cell?_setCell_far _ _ _ _ (show bm ≠ bt from Ne.symm h.ne2)]
    exact (World.cell?_of_block (w := w1) (a := ⟨bt, 0, none⟩) t5).trans H.times
  · exact hm.keep ((Below.heap_setCell _ _ _ _ (show mb ≠ bm from h.ne3)).trans m5)
  · have := h5.kept (w' := w5.setCell ⟨bm, 0, none⟩ v') (row := some bm) ⟨rfl, rfl, rfl, by simp [World.setCell], fun i _ hne => Below.heap_setCell _ _ _ _ (by rintro rfl; exact hne rfl)⟩ (Or.inr fun e => by have := own' bm e; omega)
    simpa using this
  · exact (g5.os.trans g2.os).trans hb1.os
  · exact (g5.tape.trans g2.tape).trans hb1.tape
  · exact (g5.output.trans g2.output).trans hb1.output
  · simp; omega
  · intro j hj hn
    have n1 : j ≠ mb := fun e => hn (.inl e)
    have n2 : j ≠ bm := fun e => hn (.inr (.inl e))
    have n3 : v.ownBlock ≠ some j := fun e => hn (.inr (.inr e))
    exact (Below.heap_setCell _ _ _ _ (show j ≠ bm from n2)).trans ((k5 j (by omega) n3).trans ((k2 j (by omega) n1).trans (hb1.block j hj)))
  · rcases at5 with e | e
    · exact .inl e
    · exact .inr ⟨_, e, by simp; omega⟩
theorem Frm.trans2 {S S' : Nat → Prop} {w w1 w2 : World} (h : Frm S w w1) (k : Frm S' w1 w2) (hs : ∀ j, j < w.heap.size → S' j → S j) : Frm S w w2 :=
  ⟨k.os.trans h.os, k.tape.trans h.tape, k.output.trans h.output, Nat.le_trans h.size k.size, fun i hi hn => (k.block i (Nat.lt_of_lt_of_le hi h.size) (fun e => hn (hs i hi e))).trans (h.block i hi hn)⟩
theorem cnt_met {l : List Int} (hd : l.Nodup) (x : Int) : cntF l x = if x ∈ l then 1 else 0 := by
  unfold cntF
  have h1 := List.nodup_iff_count.1 hd x
  by_cases e : x ∈ l
  · rw [if_pos e]
    have := List.count_pos_iff.2 e
    have : l.count x = 1 := by omega
    rw [this]; unfold wrap64; omega
  · rw [if_neg e, List.count_eq_zero.2 e]; unfold wrap64; omega
set_option maxHeartbeats 4000000 in
theorem meet_any {w0 w : World} {base bt bm bw mb : Nat} {f : Value} {whom : Int → Bool} (hf : YesAt w0 f wf64 whom) (hbw : w.cell? ⟨bw, 0, none⟩ = some f) (hw0 : Below w0.heap.size w0 w) (hlo : w0.heap.size ≤ bt ∧ w0.heap.size ≤ bm ∧ w0.heap.size ≤ mb)
    (hbwn : bw ≠ mb ∧ bw ≠ bm ∧ bw < base) (hbase : base ≤ w.heap.size) {met : List Int} {v : Value} (H0 : MetAt base w bt bm mb met v) {N : Nat} (hN : N ≤ 2147483647) (hmet : met.Nodup ∧ ∀ x ∈ met, 1 ≤ x ∧ x ≤ N)
    {B : Option Addr} {d : Nat} {l : List Int} (hl : l.length ≤ 1099511627776) (h : IntsAt w B l) (hB : l ≠ [] → ∀ a, B = some a → a.block ≠ mb ∧ a.block ≠ bm ∧ v.ownBlock ≠ some a.block) (hwf : ∀ x ∈ l, wf64 x) (hr : ∀ x ∈ l, whom x = true → 1 ≤ x ∧ x ≤ N) :
    Calls Try.prog 86 #[.slice B l.length d, bV bt, bV bw, bV bm] w fun e w' => e = .returned (.tuple #[]) ∧ ∃ v', MetAt base w' bt bm mb (meetL whom met l) v' ∧ Frm (fun k => k = mb ∨ k = bm ∨ v.ownBlock = some k) w w' := by
  obtain ⟨i0, hi, hz0, hz1, hz2⟩ := info_parts int_info
  obtain ⟨g, lb, rfl, eg, hf⟩ := hf
  have H := Lib.hid h
  have HF := Lib.hid hf
  have WF := Lib.hid hwf
  have WR := Lib.hid hr
  have HB := Lib.hid hB
  have W0 := Lib.hid hw0
  have GET : Hid (∀ i, i < l.length → ∃ p, l[i]? = some p) := fun i hi => ⟨_, List.getElem?_eq_getElem hi⟩
  have FULL : Hid (meetL whom met (l.take l.length) = meetL whom met l) := show _ = _ by rw [List.take_of_length_le (Nat.le_refl _)]
  have Z0 : Hid (meetL whom met (l.take 0) = met) := (rfl : meetL whom met (l.take 0) = met)
  have STP : Hid (∀ k x, l[k]? = some x → meetL whom met (l.take (k + 1)) = if x ∈ meetL whom met (l.take k) ∨ whom x = false then meetL whom met (l.take k) else meetL whom met (l.take k) ++ [x]) := fun k x => meet_take
  have ND : Hid (∀ k, (meetL whom met (l.take k)).Nodup ∧ (meetL whom met (l.take k)).length ≤ N) := fun k => by
    have hd : (meetL whom met (l.take k)).Nodup := meet_nodup hmet.1
    refine ⟨hd, nums_short hd fun x hx => ?_⟩
    rcases meet_mem.1 hx with h | ⟨h, h2⟩
    · exact hmet.2 x h
    · exact hr x (List.mem_of_mem_take h) h2
  rw [← FULL.out]
  have H1 : Hid (MetAt base w bt bm mb (meetL whom met (l.take 0)) v) := by rw [Z0.out]; exact H0
  clear h hf hwf hr hB hw0 H0 hmet FULL Z0
  generalize hM : (fun k => meetL whom met (l.take k)) = M
  have hMk : ∀ k, meetL whom met (l.take k) = M k := fun k => by rw [← hM]
  simp only [hMk] at STP ND H1 ⊢
  clear hMk hM
  generalize hn : l.length = n at *
  clear hn
  have LO := Lib.hid hlo
  have FB : Hid (∀ W, Frm (fun k => k = mb ∨ k = bm ∨ v.ownBlock = some k) w W → Below w0.heap.size w0 W) := fun W hW => by
    refine W0.out.trans (hW.below W0.out.size ?_)
    rintro k (rfl | rfl | h)
    · exact LO.out.2.2
    · exact LO.out.2.1
    · have := (H1.out.row.lt k h).1
      have := H1.out.lt2
      have := LO.out
      omega
  have NW : Hid (¬ (bw = mb ∨ bw = bm ∨ v.ownBlock = some bw)) := fun h => by
    rcases h with h | h | h
    · exact hbwn.1 h
    · exact hbwn.2.1 h
    · have := (H1.out.row.lt bw h).1; omega
  have hbwl := World.block_lt_of_cell? w _ hbw
  go_enter Try.func86, Try.ntmps86
  go_wp2_with fail
  go_loopg [9] n (fun gg s9 wr => ∃ k : Nat, k ≤ n ∧ n - k ≤ gg ∧ s9 = .int .i64 k ∧ Hid (∃ v', MetAt base wr bt bm mb (M k) v' ∧ (v'.ownBlock = v.ownBlock ∨ ∃ j, v'.ownBlock = some j ∧ w.heap.size ≤ j)) ∧ Hid (Frm (fun k => k = mb ∨ k = bm ∨ v.ownBlock = some k) w wr))
  case atStart => exact ⟨0, Nat.zero_le _, by omega, rfl, ⟨v, H1.out, .inl rfl⟩, Frm.refl _ _⟩
  case round =>
    obtain ⟨k, hk, hgg, rfl, MM, FF⟩ := hrel
    by_cases hlt : k < n
    · obtain ⟨v1, hm1, ho1⟩ := MM.out
      obtain ⟨x, hx⟩ := GET.out k hlt
      obtain ⟨a, e, hal, hc⟩ := (ints_frm FF.out H.out (fun a ha => fun h => by
        obtain ⟨h1, h2, h3⟩ := HB.out (List.ne_nil_of_mem (List.mem_of_getElem? hx)) a ha
        rcases h with h | h | h
        · exact h1 h
        · exact h2 h
        · exact h3 h)) k x hx
      subst e
      have hl2 : (a.add k).block < wr.heap.size := by rw [Go.ChangeShapes.block_add]; exact hal
      have hwx := WF.out x (List.mem_of_getElem? hx)
      have yt := hm1.times
      have hget := hm1.map.run_get hwx
      have yw : wr.cell? ⟨bw, 0, none⟩ = some (.func (.func g) #[] lb) := (FF.out.cell (p := ⟨bw, 0, none⟩) hbwl NW.out).trans hbw
      have hS := STP.out k x hx
      have LN := (ND.out k).2
      have hcm := cnt_met (ND.out k).1 x
      have HX := Lib.hid hx
      have M1 := Lib.hid hm1
      have O1 := Lib.hid ho1
      clear hx hm1 ho1
      by_cases hin : x ∈ M k
      · rw [if_pos hin] at hcm
        rw [if_pos (Or.inl hin)] at hS
        rw [hcm] at hget
        have E1 := Lib.hid hS
        clear hin hcm hS
        go_wp2_with fail
        go_roundg (n - (k + 1))
        case measure => omega
        case rel => exact ⟨k + 1, by omega, by omega, by go_num, ⟨v1, by rw [E1.out]; exact M1.out, O1.out⟩, FF⟩
      · rw [if_neg hin] at hcm
        rw [hcm] at hget
        have CALL := Lib.hid (HF.out wr x (FB.out wr FF.out) hwx)
        have HIN := Lib.hid hin
        have HCM := Lib.hid hcm
        clear hin hcm
        cases hq : whom x with
        | false =>
          rw [hq] at CALL
          rw [if_pos (Or.inr hq)] at hS
          have E1 := Lib.hid hS
          clear hq hS
          go_wp2_with (go_at_fn g; refine CALL.out.mono ?_; rintro e w1 ⟨rfl, hb1⟩; have B1 := Lib.hid hb1; clear hb1)
          go_roundg (n - (k + 1))
          case measure => omega
          case rel => exact ⟨k + 1, by omega, by omega, by go_num, ⟨v1, by rw [E1.out]; exact M1.out.below B1.out, O1.out⟩, FF.out.trans (Frm.of_below _ B1.out)⟩
        | true =>
          rw [hq] at CALL
          rw [if_neg (by rw [hq]; intro h; rcases h with h | h; exact HIN.out h; cases h)] at hS
          have E1 := Lib.hid hS
          have hrx := WR.out x (List.mem_of_getElem? HX.out) hq
          clear hq hS
          go_upto_region 4 with (go_at_fn g; refine CALL.out.mono ?_; rintro e w1 ⟨rfl, hb1⟩; have B1 := Lib.hid hb1; clear hb1)
          have M2 := Lib.hid (M1.out.below B1.out)
          have yt1 := M2.out.times
          have hget1 := M2.out.map.run_get hwx
          rw [HCM.out] at hget1
          obtain ⟨w2, hput, hM', hG'⟩ := M2.out.map.run_put (x := 1) hrx.1 (by omega) (by unfold wf64; omega)
          have HM2 : Hid (MapI w2 mb (cntF (M k ++ [x]))) := hM'.congr (fun v _ => by
            have := cntF_snoc (M k) x v
            rw [HCM.out, show wrap64 (0 + 1) = 1 by unfold wrap64; omega] at this
            exact this)
          have G2 := Lib.hid hG'
          clear hM' hG'
          have hbl := H1.out.lt2
          have hbb := Nat.lt_of_lt_of_le (Nat.lt_of_lt_of_le hbl hbase) FF.out.size
          have hbb1 := Nat.lt_of_lt_of_le hbb B1.out.size
          have hb2 : w2.heap[bm]? = w1.heap[bm]? := G2.out.block bm hbb1 (by intro e; injection e with e; exact H1.out.ne3 e.symm)
          have yb : w2.cell? ⟨bm, 0, none⟩ = some v1 := (World.cell?_of_block (w := w1) (a := ⟨bm, 0, none⟩) hb2).trans M2.out.cell
          have yf : w2.frozen? ⟨bm, 0, none⟩ = false := (World.frozen?_of_block (w := w1) (a := ⟨bm, 0, none⟩) hb2).trans M2.out.fz
          have hl2' : (a.add k).block < w1.heap.size := Nat.lt_of_lt_of_le hl2 B1.out.size
          have OW : Hid (w2.ownsRow base 3 1 v1 (M k).length ((M k).map (Value.int .i64))) := M2.out.row.kept (row := some mb) G2.out (Or.inr fun e => by have := (M2.out.row.lt mb e).1; have := M2.out.lt3; omega)
          have sz2 : w1.heap.size ≤ w2.heap.size := G2.out.size
          have szr := FF.out.size
          have szb := B1.out.size
          clear hb2
          go_wp2_with (at_builtin; refine wpList_append_own_at _ rfl (.tmp 26) (.tmp 28) _ rfl base 3 i0 _ 1 8 Try.underlying25 hi hz0 hz1 hz2 rfl (by decide) _ _ _ rfl (OW.out.alloc _) ⟨w2.heap.size, 0, none⟩ 1 1 [.int .i64 x] rfl rfl one_cell (by simp [Value.oneCell']) (by unfold maxLen; omega) (by omega) (by simp; omega) ?_; intro v' w5 hown5 hg5 _ hat; have hb5 : w5.heap[bm]? = w2.heap[bm]? := (hg5.block bm (by simp; omega) (fun e => by have := (OW.out.lt bm e.symm).1; omega)).trans (Below.heap_alloc _ _ _ (by omega)); have yb5 : w5.cell? ⟨bm, 0, none⟩ = some v1 := (World.cell?_of_block (w := w2) (a := ⟨bm, 0, none⟩) hb5).trans yb; have yf5 : w5.frozen? ⟨bm, 0, none⟩ = false := (World.frozen?_of_block (w := w2) (a := ⟨bm, 0, none⟩) hb5).trans yf; obtain ⟨vA, vc, rfl⟩ := slice_of_own hown5; have HO5 := Lib.hid hown5; have HG5 := Lib.hid hg5; have HA := Lib.hid hat; clear hown5 hg5 hat hb5)
          have PP := M1.out.push B1.out HM2.out G2.out (by have := FF.out.size; omega) HO5.out HG5.out HA.out
          have P1 := Lib.hid PP.1
          have P2 := Lib.hid PP.2.1
          have P3 := Lib.hid PP.2.2
          clear PP HO5 HG5 HA
          go_roundg (n - (k + 1))
          case measure => omega
          case rel =>
            refine ⟨k + 1, by omega, by omega, by go_num, ⟨_, by rw [E1.out]; exact P1.out, ?_⟩, ?_⟩
            · rcases P3.out with e | ⟨j, e, hj⟩
              · rw [e]; exact O1.out
              · exact .inr ⟨j, e, Nat.le_trans FF.out.size hj⟩
            · refine FF.out.trans2 P2.out fun j hj h => ?_
              rcases h with h | h | h
              · exact .inl h
              · exact .inr (.inl h)
              · rcases O1.out with e | ⟨i, e, hi⟩
                · rw [e] at h; exact .inr (.inr h)
                · rw [e] at h; injection h with h; omega
    · have hkn : k = n := by omega
      subst hkn
      go_wp2_with fail
      refine bodyPost_end (results_none rfl _ _ _) rfl ?_
      obtain ⟨v1, hm1, _⟩ := MM.out
      exact ⟨rfl, v1, hm1, FF.out⟩
end Go.Proofs.Ytjlobjgemhapaaa
namespace Go.Proofs.Ytjlobjgemhapaaa
set_option maxRecDepth 20000
set_option maxRecDepth 20000
open Go.RowKit Go.Maps

theorem lit_one {w : World} {T : TypeId} (x : Int) : IntsAt (w.alloc (.cells #[.int .i64 x] T (0, 0))) (some ⟨w.heap.size, 0, none⟩) [x] := fun i y hy => by
  match i, hy with
  | 0, hy => injection hy with hy; subst hy; exact ⟨_, rfl, by simp, by simp [Addr.add, go_sem]⟩
  | _ + 1, hy => simp at hy
theorem lit_one_drew {w : World} {T : TypeId} (x : Int) : IntsAt (w.alloc (.cells #[.int .i64 x] T (0, 0))).drew (some ⟨w.heap.size, 0, none⟩) [x] := lit_one (w := w) (T := T) x
set_option maxHeartbeats 4000000 in
theorem follow_any {w : World} {A : Option Addr} {c : Nat} {g : List OB} (hg : GAt w A g) (hn : g.length ≤ 900) (hs : ∀ o ∈ g, o.slots.length ≤ 1048576) {f : Value} {whom : Int → Bool} (hf : YesAt w f wf64 whom)
    {B : Option Addr} {d : Nat} {l : List Int} (hl : l.length ≤ 1099511627776) (h : IntsAt w B l) (hwf : ∀ x ∈ l, wf64 x) (Ok : Int → Prop) (hok : ∀ n, Ok n → 1 ≤ n ∧ n ≤ g.length ∧ ∀ x ∈ heldG g n, wf64 x ∧ (whom x = true → Ok x)) (hr : ∀ x ∈ l, whom x = true → Ok x) :
    Calls Try.prog 34 #[gV A g.length c, .slice B l.length d, f] w (GivesInts (followL g whom l) w) := by
  have hfo : ∀ n, Fol g whom l n → Ok n := fun n h => by
    induction h with
    | root h h2 => exact hr _ h h2
    | step _ hx h2 ih => exact ((hok _ ih).2.2 _ hx).2 h2
  have hf0 := hf
  obtain ⟨fg, lb, rfl, eg, hf1⟩ := hf
  have HF := Lib.hid hf0
  have HBY : Hid (∀ W (B : Option Addr) (x : Int), Below w.heap.size w W → Ok x → IntsAt W B [x] → Calls Try.prog 41 #[gV A g.length c, .slice B 1 1] W (GivesInts (heldG g x) W)) := fun W B x hW hx hi => by
    have := heldBy_any (c := c) (d := 1) (hg.below hW) hn hs (xs := [x]) (by simp) hi (fun y hy => by simp at hy; subst hy; exact ⟨(hok _ hx).1, (hok _ hx).2.1⟩)
    simpa using this
  have HL : Hid (∀ x, (heldG g x).length ≤ 1048576) := fun x => by have := held_total hs [x]; simpa using this
  have OK := Lib.hid hok
  have ME : Hid (∀ (W : World) (base bt bm bw mb : Nat) (met : List Int) (v : Value) (B : Option Addr) (d : Nat) (l : List Int), W.cell? ⟨bw, 0, none⟩ = some (.func (.func fg) #[] lb) → Below w.heap.size w W → (w.heap.size ≤ bt ∧ w.heap.size ≤ bm ∧ w.heap.size ≤ mb) → (bw ≠ mb ∧ bw ≠ bm ∧ bw < base) → base ≤ W.heap.size → MetAt base W bt bm mb met v → met.Nodup → (∀ x ∈ met, Ok x) → l.length ≤ 1099511627776 → IntsAt W B l → (l ≠ [] → ∀ a, B = some a → a.block ≠ mb ∧ a.block ≠ bm ∧ v.ownBlock ≠ some a.block) → (∀ x ∈ l, wf64 x) → (∀ x ∈ l, whom x = true → Ok x) →
      Calls Try.prog 86 #[.slice B l.length d, bV bt, bV bw, bV bm] W fun e w' => e = .returned (.tuple #[]) ∧ ∃ v', MetAt base w' bt bm mb (meetL whom met l) v' ∧ Frm (fun k => k = mb ∨ k = bm ∨ v.ownBlock = some k) W w') := fun W base bt bm bw mb met v B d l h1 h2 h3 h4 h5 h6 h7 h8 h9 h10 h11 h12 h13 =>
    meet_any hf0 h1 h2 h3 h4 h5 h6 (N := g.length) (by omega) ⟨h7, fun x hx => ⟨(hok x (h8 x hx)).1, (hok x (h8 x hx)).2.1⟩⟩ h9 h10 h11 h12 (fun x hx hw => ⟨(hok x (h13 x hx hw)).1, (hok x (h13 x hx hw)).2.1⟩)
  have FB := Lib.hid h
  have WF := Lib.hid hwf
  have LR := Lib.hid hr
  have SH : Hid (∀ met : List Int, met.Nodup → (∀ x ∈ met, Ok x) → met.length ≤ g.length) := fun met hd hm => nums_short hd fun x hx => ⟨(hok x (hm x hx)).1, (hok x (hm x hx)).2.1⟩
  have FS : Hid (∀ (f i : Nat) (met : List Int) (n : Int), met[i]? = some n → followF g whom (f + 1) i met = followF g whom f (i + 1) (meetL whom met (heldG g n))) := fun f i met n h => followF_step h
  have FE : Hid (∀ (f i : Nat) (met : List Int), met.length ≤ i → followF g whom f i met = met) := fun f i met h => followF_end h
  have R0 : Hid (followF g whom (g.length + 1) 0 (meetL whom [] l) = followL g whom l) := (rfl : followF g whom (g.length + 1) 0 (meetL whom [] l) = followL g whom l)
  clear hg h hwf hr hf0 hf1 hok hs hfo
  generalize followL g whom l = R at *
  generalize g.length = N at *
  have hmf := hmf2
  have hmm := @run_makeMap Try.prog
  generalize hll : l.length = nl at *
  go_enter Try.func34, Try.ntmps34
  go_upto_region 4 with fail
  refine at_world (fun V => Below w.heap.size w V ∧ V.cell? ⟨w.heap.size, 0, none⟩ = some (.slice A N c) ∧ V.cell? ⟨w.heap.size + 1, 0, none⟩ = some (.func (.func fg) #[] lb) ∧ MetAt (w.heap.size + 1 + 1 + 1 + 1 + 1) V (w.heap.size + 1 + 1 + 1 + 1) (w.heap.size + 1 + 1) (w.heap.size + 1 + 1 + 1) [] (.slice none 0 0) ∧ V.heap.size = w.heap.size + 1 + 1 + 1 + 1 + 1) ?_ (fun V HV => ?_)
  · refine ⟨(((((Below.refl _ _).alloc (Nat.le_refl _) _).alloc (by simp) _).alloc (by simp; omega) _).alloc (by simp; omega) _).alloc (by simp; omega) _, by simp [go_sem], by simp [go_sem], ⟨by simp [go_sem], by simp [go_sem], by simp [go_sem], ?_, World.ownsRow_nil _ _ _ _, by omega, by omega, by omega, by omega, by omega, by omega⟩, by simp⟩
    have m1 := MapI.made (((w.alloc (Obj.cells #[Value.slice A N c] 24 (0, 0))).alloc (Obj.cells #[Value.func (Fn.func fg) #[] lb] 55 (0, 0))).alloc (Obj.cells #[Value.slice none 0 0] 25 (0, 0)))
    have m2 : MapI _ _ (cntF []) := m1.congr (fun _ _ => by simp [cntF, wrap64])
    have e : (((w.alloc (Obj.cells #[Value.slice A N c] 24 (0, 0))).alloc (Obj.cells #[Value.func (Fn.func fg) #[] lb] 55 (0, 0))).alloc (Obj.cells #[Value.slice none 0 0] 25 (0, 0))).heap.size = w.heap.size + 1 + 1 + 1 := by simp
    rw [e] at m2
    exact m2.keep (Below.heap_alloc _ _ _ (by simp))
  obtain ⟨hb, x0, xw, hM, hsz⟩ := HV
  have BV := Lib.hid hb
  have M0 := Lib.hid hM
  clear hb hM
  obtain ⟨bg, hbg⟩ : ∃ b, b = w.heap.size := ⟨_, rfl⟩
  obtain ⟨bw, hbw⟩ : ∃ b, b = w.heap.size + 1 := ⟨_, rfl⟩
  obtain ⟨bm, hbm⟩ : ∃ b, b = w.heap.size + 1 + 1 := ⟨_, rfl⟩
  obtain ⟨mb, hmb⟩ : ∃ b, b = w.heap.size + 1 + 1 + 1 := ⟨_, rfl⟩
  obtain ⟨bt, hbt⟩ : ∃ b, b = w.heap.size + 1 + 1 + 1 + 1 := ⟨_, rfl⟩
  obtain ⟨base, hba⟩ : ∃ b, b = w.heap.size + 1 + 1 + 1 + 1 + 1 := ⟨_, rfl⟩
  rw [← hba] at M0 hsz
  rw [← hbt] at M0 ⊢
  rw [← hmb] at M0
  rw [← hbm] at M0 ⊢
  rw [← hbw] at xw ⊢
  rw [← hbg] at x0 ⊢
  have EQ : Hid (bg = w.heap.size ∧ bw = w.heap.size + 1 ∧ bm = w.heap.size + 1 + 1 ∧ mb = w.heap.size + 1 + 1 + 1 ∧ bt = w.heap.size + 1 + 1 + 1 + 1 ∧ base = w.heap.size + 1 + 1 + 1 + 1 + 1 ∧ V.heap.size = base) := ⟨hbg, hbw, hbm, hmb, hbt, hba, hsz⟩
  clear hbg hbw hbm hmb hbt hba hsz
  have CALL : Hid (Calls Try.prog 86 #[.slice B nl d, bV bt, bV bw, bV bm] V fun e w' => e = .returned (.tuple #[]) ∧ ∃ v', MetAt base w' bt bm mb (meetL whom [] l) v' ∧ Frm (fun k => k = mb ∨ k = bm) V w') := by
    obtain ⟨q1, q2, q3, q4, q5, q6, q7⟩ := EQ.out
    have := ME.out V base bt bm bw mb [] (.slice none 0 0) B d l xw BV.out (by omega) (by omega) (by omega) M0.out List.nodup_nil (fun _ h => by cases h) (by rw [hll]; exact hl) (FB.out.below BV.out) (fun hne a ha => by
      obtain ⟨y, hy⟩ := List.exists_mem_of_ne_nil _ hne
      obtain ⟨i, hi⟩ := List.getElem?_of_mem hy
      obtain ⟨ad, e, hlt, _⟩ := FB.out i y hi
      rw [ha] at e
      injection e with e
      subst e
      exact ⟨by omega, by omega, by simp [Value.ownBlock]⟩) WF.out LR.out
    rw [hll] at this
    refine this.mono ?_
    rintro e w' ⟨rfl, v', h1, h2⟩
    refine ⟨rfl, v', h1, h2.mono ?_⟩
    rintro k (h | h | h)
    · exact .inl h
    · exact .inr h
    · cases h
  go_upto_region 5 with (go_at_call 86; refine CALL.out.mono ?_; rintro e w1 ⟨rfl, v1, hm1, hf1⟩; have M1 := Lib.hid hm1; have F1 := Lib.hid hf1; clear hm1 hf1)
  have INV : Hid (∃ met v, MetAt base w1 bt bm mb met v ∧ met.Nodup ∧ (∀ x ∈ met, Ok x) ∧ followF g whom (N + 1 - 0) 0 met = R) := ⟨_, v1, M1.out, meet_nodup List.nodup_nil, fun x hx => by
    rcases meet_mem.1 hx with h | ⟨h, h2⟩
    · cases h
    · exact LR.out x h h2, R0.out⟩
  have FB2 : Hid (∀ W, Frm (fun k => bm ≤ k) V W → Below w.heap.size w W) := fun W hW => BV.out.trans (hW.below BV.out.size (fun k hk => by have := EQ.out; omega))
  have F2 : Hid (Frm (fun k => bm ≤ k) V w1) := F1.out.mono (fun k hk => by have := EQ.out; omega)
  clear M1 F1 CALL
  go_wp2_with fail
  go_loopg [10] (N + 1) (fun gg s10 wr => ∃ i : Nat, i ≤ N ∧ N + 1 - i ≤ gg ∧ s10 = .int .i64 i ∧ Hid (∃ met v, MetAt base wr bt bm mb met v ∧ met.Nodup ∧ (∀ x ∈ met, Ok x) ∧ i ≤ met.length ∧ followF g whom (N + 1 - i) i met = R) ∧ Hid (Frm (fun k => bm ≤ k) V wr))
  case atStart =>
    obtain ⟨met, v, h1, h2, h3, h4⟩ := INV.out
    exact ⟨0, Nat.zero_le _, by omega, rfl, ⟨met, v, h1, h2, h3, Nat.zero_le _, h4⟩, F2⟩
  case round =>
    obtain ⟨i, hiN, hgg, rfl, MM, FF⟩ := hrel
    obtain ⟨met, v, hm, hnd, hok, hil, hfl⟩ := MM.out
    obtain ⟨mA, mc, rfl⟩ := slice_of_own hm.row
    have hlen := SH.out met hnd hok
    have MX := Lib.hid hm
    have ND := Lib.hid hnd
    have OM := Lib.hid hok
    have FL := Lib.hid hfl
    have xm := hm.cell
    have zm := World.block_lt_of_cell? wr _ xm
    simp only at zm
    clear hm hnd hok hfl MM
    have q := EQ.out
    have y0 : wr.cell? ⟨bg, 0, none⟩ = some (.slice A N c) := (FF.out.cell (p := ⟨bg, 0, none⟩) (by show bg < _; omega) (by show ¬ bm ≤ bg; omega)).trans x0
    have yw : wr.cell? ⟨bw, 0, none⟩ = some (.func (.func fg) #[] lb) := (FF.out.cell (p := ⟨bw, 0, none⟩) (by show bw < _; omega) (by show ¬ bm ≤ bw; omega)).trans xw
    clear q
    by_cases hlt : i < met.length
    · obtain ⟨x, hx⟩ : ∃ x, met[i]? = some x := ⟨_, List.getElem?_eq_getElem hlt⟩
      have hox := OM.out x (List.mem_of_getElem? hx)
      obtain ⟨h1x, h2x, h3x⟩ := OK.out x hox
      have HI : Hid (IntsAt wr mA met) := by
        obtain ⟨A', c', e, hi⟩ := ints_of_own MX.out.row
        injection e with e1 _ e2
        subst e1
        exact hi
      obtain ⟨ma, e, hal, hxi⟩ := HI.out i x hx
      subst e
      have hl2 : (ma.add i).block < wr.heap.size := by rw [Go.ChangeShapes.block_add]; exact hal
      have KP : Hid (∀ W, Below wr.heap.size wr W → W.cell? ⟨bg, 0, none⟩ = some (.slice A N c) ∧ W.cell? ⟨bm, 0, none⟩ = some (.slice (some ma) met.length mc) ∧ W.cell? (ma.add i) = some (.int .i64 x)) := fun W hW =>
        ⟨(hW.cell (p := ⟨bg, 0, none⟩) (by have := EQ.out; show bg < _; omega)).trans y0, (hW.cell (p := ⟨bm, 0, none⟩) zm).trans xm, (hW.cell (p := ma.add i) hl2).trans hxi⟩
      have k1 : ∀ o, (wr.alloc o).cell? ⟨bg, 0, none⟩ = some (.slice A N c) := fun o => (KP.out _ ((Below.refl _ _).alloc (Nat.le_refl _) o)).1
      have BW := Lib.hid (FB2.out wr FF.out)
      have FSX := Lib.hid (FS.out (N - i) i met x hx)
      have HX := Lib.hid hx
      have MO : Hid (∀ y ∈ meetL whom met (heldG g x), Ok y) := fun y hy => by
        rcases meet_mem.1 hy with h | ⟨h, h2⟩
        · exact OM.out y h
        · exact (h3x y h).2 h2
      have CM : Hid (∀ (W : World) (A2 : Option Addr) (c2 : Nat), Below wr.heap.size wr W → IntsAt W A2 (heldG g x) → (∀ a, A2 = some a → wr.heap.size ≤ a.block) → Calls Try.prog 86 #[.slice A2 (heldG g x).length c2, bV bt, bV bw, bV bm] W fun e w' => e = .returned (.tuple #[]) ∧ ∃ v', MetAt base w' bt bm mb (meetL whom met (heldG g x)) v' ∧ Frm (fun k => bm ≤ k) V w') := fun W A2 c2 hW hi ha => by
        obtain ⟨q1, q2, q3, q4, q5, q6, q7⟩ := EQ.out
        have qs := FF.out.size
        have own := MX.out.row.lt
        have := ME.out W base bt bm bw mb met _ A2 c2 (heldG g x) ((hW.cell (p := ⟨bw, 0, none⟩) (by show bw < _; omega)).trans yw) (BW.out.trans (hW.mono BW.out.size)) (by omega) (by omega) (by have := hW.size; omega) (MX.out.below hW) ND.out OM.out (Nat.le_trans (HL.out x) (by omega)) hi (fun _ a ha2 => by
          have h1 := ha a ha2
          refine ⟨by omega, by omega, fun e => ?_⟩
          have := (own _ e).2
          omega) (fun y hy => (h3x y hy).1) (fun y hy => (h3x y hy).2)
        refine this.mono ?_
        rintro e w' ⟨rfl, v', h1, h2⟩
        refine ⟨rfl, v', h1, FF.out.trans ((Frm.of_below _ hW).trans (h2.mono ?_))⟩
        rintro k (h | h | h)
        · omega
        · omega
        · have := (own _ h).1; omega
      clear hx h1x h2x
      go_upto_region 8 with fail
      go_region_law (first
        | (go_simp; go_at_call 41; (with_reducible refine (HBY.out _ (some ⟨wr.heap.size, 0, none⟩) x (by first | exact BW.out.alloc BW.out.size _ | exact (BW.out.alloc BW.out.size _).drew) hox (by first | exact lit_one x | exact lit_one_drew x)).mono ?_); rintro e w2 ⟨v2, rfl, ho2, hb2⟩; obtain ⟨A2, c2, rfl, hi2, hh2⟩ := ints_of_own2 ho2)
        | (go_simp; first | go_at_call 86 | skip
           have HB2 : Below wr.heap.size wr w2 := by first | exact ((Below.refl _ _).alloc (Nat.le_refl _) _).trans (hb2.mono (by simp)) | exact (((Below.refl _ _).alloc (Nat.le_refl _) _).drew).trans (hb2.mono (by simp))
           (with_reducible refine (CM.out w2 A2 c2 HB2 hi2 (by intro a ha; have := hh2 a ha; simp at this; omega)).mono ?_)
           rintro e w3 ⟨rfl, v3, hm3, hf3⟩))
      all_goals
        have M3 := Lib.hid hm3
        have F3 : Hid (Frm (fun k => bm ≤ k) V w3) := hf3
        clear hm3 hf3 hb2 ho2 hi2 hh2 HB2
        go_wp2_with fail
        go_roundg (N + 1 - (i + 1))
        case measure => omega
        case rel => exact ⟨i + 1, by omega, by omega, by go_num, ⟨_, _, M3.out, meet_nodup ND.out, MO.out, by have := (meet_prefix (whom := whom) (met := met) (l := heldG g x)).length_le; omega, by rw [← FL.out, show N + 1 - i = N - i + 1 by omega, FSX.out, show N + 1 - (i + 1) = N - i by omega]⟩, F3⟩
    · have hkn : i = met.length := by omega
      have E1 := Lib.hid ((FE.out (N + 1 - i) i met (by omega)).symm.trans FL.out)
      clear hkn
      go_wp2_with fail
      go_ret
      refine ⟨_, rfl, ?_, FB2.out _ FF.out⟩
      rw [← E1.out]
      exact own_less MX.out.row (by have := EQ.out; omega)
end Go.Proofs.Ytjlobjgemhapaaa
namespace Go.Proofs.Ytjlobjgemhapaaa
set_option maxRecDepth 20000
set_option maxRecDepth 20000
open Go.RowKit Go.Maps Go.Sort Go.Shelf

theorem ok_held {g : List OB} (hn : g.length ≤ 900) (n : Int) (h : OkP g n) : 1 ≤ n ∧ n ≤ g.length ∧ ∀ x ∈ heldG g n, wf64 x ∧ (looksB g x = true → OkP g x) := by
  obtain ⟨h1, h2⟩ := looks_range h.2
  refine ⟨h1, h2, fun x hx => ?_⟩
  have := heldG_ok h.1 hx
  obtain ⟨h3, h4⟩ := looks_range this.2
  exact ⟨⟨by omega, by omega⟩, fun _ => this⟩
set_option maxHeartbeats 2000000 in
theorem Seen_any {w : World} {A : Option Addr} {c : Nat} {g : List OB} (hg : GAt w A g) (hn : g.length ≤ 900) (hs : ∀ o ∈ g, o.slots.length ≤ 1048576) {B : Option Addr} {d : Nat} {l : List Int} (hl : l.length ≤ 1099511627776) (h : IntsAt w B l) (hwf : ∀ x ∈ l, wf64 x) :
    Calls Try.prog 12 #[gV A g.length c, .slice B l.length d] w (GivesInts (seenL g l) w) := by
  have CH : Hid (∀ W, Below w.heap.size w W → Calls Try.prog 18 #[gV A g.length c] W fun e w' => e = .returned (.bool (checkB g)) ∧ Below W.heap.size W w') := fun W hW => Check_any (hg.below hW) (by omega)
  cases hc : checkB g with
  | false =>
    rw [show seenL g l = [] by unfold seenL; rw [hc]; rfl]
    rw [hc] at CH
    clear hg hc h hl hs hwf
    generalize g.length = n at *
    generalize l.length = nl at *
    go_enter Try.func12, Try.ntmps12
    go_wp2_with (go_at_call 18; (with_reducible refine (CH.out _ ((Below.refl _ _).alloc (Nat.le_refl _) _)).mono ?_); rintro e w1 ⟨rfl, hb⟩; have B1 := Lib.hid (below_box hb); clear hb)
    go_ret
    exact ⟨_, rfl, World.ownsRow_nil _ _ _ _, B1.out⟩
  | true =>
    rw [show seenL g l = followL g (looksB g) l by unfold seenL; rw [hc]; rfl]
    rw [hc] at CH
    have LK : Hid (∀ W, Below w.heap.size w W → Calls Try.prog 35 #[gV A g.length c] W fun e w' => ∃ b, e = .returned (.func (.func 87) #[] #[bV b]) ∧ YesAt w' (.func (.func 87) #[] #[bV b]) (fun _ => True) (looksB g) ∧ Below W.heap.size W w') := fun W hW => looksAt_any (hg.below hW) (by omega)
    have FO : Hid (∀ W f, Below w.heap.size w W → YesAt W f (fun _ => True) (looksB g) → Calls Try.prog 34 #[gV A g.length c, .slice B l.length d, f] W (GivesInts (followL g (looksB g) l) W)) := fun W f hW hf =>
      follow_any (hg.below hW) hn hs (hf.imp fun _ _ => trivial) hl (h.below hW) hwf (OkP g) (ok_held hn) (fun x _ hx => ⟨hc, hx⟩)
    clear hg hc h hl hs hwf
    generalize followL g (looksB g) l = R at *
    generalize looksB g = lk at *
    generalize g.length = n at *
    generalize l.length = nl at *
    go_enter Try.func12, Try.ntmps12
    go_upto_region 3 with (go_at_call 18; (with_reducible refine (CH.out _ ((Below.refl _ _).alloc (Nat.le_refl _) _)).mono ?_); rintro e V ⟨rfl, hb⟩; have BV := Lib.hid (below_box hb); have c0 := boxed hb (j := 0) rfl; have zV : w.heap.size < V.heap.size := (by have := hb.size; simp at this; omega); clear hb)
    have c0' : V.cell? ⟨w.heap.size, 0, none⟩ = some (.slice A n c) := c0
    clear c0
    have CX : Hid (∀ W, Below V.heap.size V W → W.cell? ⟨w.heap.size, 0, none⟩ = some (.slice A n c)) := fun W hW => (hW.cell (p := ⟨w.heap.size, 0, none⟩) zV).trans c0'
    go_region_held3 (fun w' => w'.cell? ⟨w.heap.size, 0, none⟩ = some (.slice A n c) ∧ Below V.heap.size V w') (first | exact ⟨c0', (Below.refl _ _).drew⟩ | exact held_keep (fun W => CX.out W) (by assumption) (by assumption))
      (first
      | (go_at_call 35; (with_reducible refine (LK.out _ (by exact BV.out.trans ((by assumption : _ ∧ Below V.heap.size V _).2.mono BV.out.size))).mono ?_); rintro e w1 ⟨b1, rfl, hy1, hb1⟩)
      | (go_at_call 34; (with_reducible refine (FO.out _ _ (by exact BV.out.trans ((by assumption : _ ∧ Below V.heap.size V _).2.mono BV.out.size)) (by assumption)).mono ?_); rintro e w2 ⟨v2, rfl, ho2, hb2⟩))
    have HV : w2.cell? ⟨w.heap.size, 0, none⟩ = some (.slice A n c) ∧ Below V.heap.size V w2 := by assumption
    have B2 := Lib.hid (BV.out.trans (HV.2.mono BV.out.size))
    have O2 := Lib.hid ho2
    have S1 : V.heap.size ≤ w1.heap.size := hb1.size
    clear HV hy1 ho2 hb1 hb2
    go_wp2_with fail
    go_ret
    exact ⟨v2, rfl, own_less O2.out (by have := BV.out.size; omega), B2.out⟩

theorem add_zero_at2 (bk j : Nat) : (⟨bk, 0, none⟩ : Addr).add j = ⟨bk, 0 + j, none⟩ := by unfold Addr.add; split <;> simp_all
/-- A row of numbers that may be written. -/
def RowA (base : Nat) (w : World) (v : Value) (xs : List Int) : Prop :=
  (v = .slice none 0 0 ∧ xs = []) ∨ ∃ blk cap, v = .slice (some ⟨blk, 0, none⟩) xs.length cap ∧ xs.length ≤ cap ∧ base ≤ blk ∧ blk < w.heap.size ∧ Holds (Value.int .i64) w blk 0 xs.toArray
theorem RowA.of_own {w : World} {base : Nat} {v : Value} {xs : List Int} (h : w.ownsRow base 3 1 v xs.length (xs.map (Value.int .i64))) : RowA base w v xs := by
  have h0 := h
  obtain ⟨_, ⟨rfl, h1⟩ | ⟨g, cap, cur, rfl, hb, hc, h1, h2, h3, h4⟩⟩ := h
  · exact .inl ⟨rfl, List.length_eq_zero_iff.1 h1⟩
  · refine .inr ⟨g, cap, rfl, by omega, hb, (Array.getElem?_eq_some_iff.1 hc).1, fun j hj => ⟨?_, by simp [World.frozen?, hc]⟩⟩
    have hj2 : j < xs.length := by simpa using hj
    have := h0.cells rfl j (.int .i64 xs[j]) (by simp [hj2])
    rw [add_zero_at2] at this
    rw [this]
    simp [hj2]
theorem RowA.ints {w : World} {base : Nat} {v : Value} {xs : List Int} (h : RowA base w v xs) : ∃ A c, v = .slice A xs.length c ∧ IntsAt w A xs ∧ ∀ a, A = some a → base ≤ a.block := by
  rcases h with ⟨rfl, rfl⟩ | ⟨blk, cap, rfl, hc, hb, hl, hH⟩
  · exact ⟨none, 0, rfl, fun i x hx => by simp at hx, fun a ha => by cases ha⟩
  · refine ⟨some ⟨blk, 0, none⟩, cap, rfl, fun i x hx => ⟨_, rfl, hl, ?_⟩, fun a ha => by injection ha with ha; subst ha; exact hb⟩
    have hi := (List.getElem?_eq_some_iff.1 hx).1
    have := (hH i (by simpa using hi)).1
    rw [add_zero_at2, this]
    have e := (List.getElem?_eq_some_iff.1 hx).2
    simp [hi, e]
theorem RowA.below {w w' : World} {base : Nat} {v : Value} {xs : List Int} (h : RowA base w v xs) (hb : Below w.heap.size w w') : RowA base w' v xs := by
  rcases h with h | ⟨blk, cap, e, hc, hb1, hl, hH⟩
  · exact .inl h
  · exact .inr ⟨blk, cap, e, hc, hb1, Nat.lt_of_lt_of_le hl hb.size, fun j hj => ⟨(hb.cell (p := ⟨blk, 0 + j, none⟩) hl).trans (hH j hj).1, (hb.frozen (p := ⟨blk, 0 + j, none⟩) hl).trans (hH j hj).2⟩⟩
theorem RowA.frm {w w' : World} {base : Nat} {v : Value} {xs : List Int} {S : Nat → Prop} (h : RowA base w v xs) (hb : Frm S w w') (hs : ∀ k, v.ownBlock = some k → ¬ S k) : RowA base w' v xs := by
  rcases h with h | ⟨blk, cap, e, hc, hb1, hl, hH⟩
  · exact .inl h
  · have hn : ¬ S blk := hs blk (by rw [e]; rfl)
    exact .inr ⟨blk, cap, e, hc, hb1, Nat.lt_of_lt_of_le hl hb.size, fun j hj => ⟨(hb.cell (p := ⟨blk, 0 + j, none⟩) hl hn).trans (hH j hj).1, (World.frozen?_of_block (w := w) (a := ⟨blk, 0 + j, none⟩) (hb.block _ hl hn)).trans (hH j hj).2⟩⟩
theorem frm_put0 {w : World} {bk q : Nat} {dk : Array Int} : Frm (fun k => k = bk) w (putRow (Value.int .i64) (Sort.ahead w q) bk 0 dk) := by
  refine ⟨rfl, rfl, rfl, by simp, fun k _ hn => ?_⟩
  simp only [putRow, mapBlock, Array.getElem?_modify]
  rw [if_neg (fun e => hn e.symm)]
  rfl
theorem frm_put {w : World} {bk q : Nat} {dk : Array Int} {os : Array Obj} : Frm (fun k => k = bk) w (grow (putRow (Value.int .i64) (Sort.ahead w q) bk 0 dk) os) :=
  frm_put0.trans ⟨rfl, rfl, rfl, by simp [grow], fun _ hk _ => heap_grow_old _ os hk⟩
theorem Sort_any {w : World} {base : Nat} {v : Value} {xs : List Int} (h : RowA base w v xs) (hl : xs.length ≤ 1099511627776) :
    Calls Try.prog 45 #[v] w fun e w' => e = .returned (.tuple #[]) ∧ RowA base w' v (sortI xs) ∧ Frm (fun k => v.ownBlock = some k) w w' := by
  rcases h with ⟨rfl, rfl⟩ | ⟨blk, cap, rfl, hc, hb, hlt, hH⟩
  · have := AnyM.slices_Sort_int_none Try.laysSlM5 none 0 w
    change Calls Try.prog 45 _ _ _ at this
    refine this.mono ?_
    rintro e w' ⟨rfl, rfl⟩
    exact ⟨rfl, .inl ⟨rfl, by simp [sortI]⟩, Frm.refl _ _⟩
  · have := AnyM.slices_Sort_int Try.laysSlM5 blk 0 cap xs w hH hlt (by omega)
    change Calls Try.prog 45 _ _ _ at this
    refine this.mono ?_
    rintro e w' ⟨rfl, n, os, rfl⟩
    have hF : Frm (fun k => k = blk) w (grow (putRow (Value.int .i64) (Sort.ahead w n) blk 0 (xs.mergeSort fun x y => decide (x ≤ y)).toArray) os) := frm_put
    refine ⟨rfl, .inr ⟨blk, cap, by simp [sortI], by simpa [sortI] using hc, hb, Nat.lt_of_lt_of_le hlt hF.size, ?_⟩, hF.mono fun k hk => by rw [hk]; rfl⟩
    have h0 : Holds (Value.int .i64) (Sort.ahead w n) blk 0 xs.toArray := hH
    have h1 := holds_putRow (Value.int .i64) (Sort.ahead w n) blk 0 xs.toArray (sortI xs).toArray h0 (by simp [sortI])
    intro j hj
    have hg : (grow (putRow (Value.int .i64) (Sort.ahead w n) blk 0 (sortI xs).toArray) os).heap[blk]? = (putRow (Value.int .i64) (Sort.ahead w n) blk 0 (sortI xs).toArray).heap[blk]? := heap_grow_old _ os (by simpa using hlt)
    exact ⟨(World.cell?_of_block (w := putRow (Value.int .i64) (Sort.ahead w n) blk 0 (sortI xs).toArray) (a := ⟨blk, 0 + j, none⟩) hg).trans (h1 j hj).1, (World.frozen?_of_block (w := putRow (Value.int .i64) (Sort.ahead w n) blk 0 (sortI xs).toArray) (a := ⟨blk, 0 + j, none⟩) hg).trans (h1 j hj).2⟩
end Go.Proofs.Ytjlobjgemhapaaa
namespace Go.Proofs
set_option maxRecDepth 20000
set_option maxRecDepth 20000
open Go.RowKit Go.Maps Go.Sort Go.Shelf

def Try.laysNm220_ren : Go.Shelf.Ren := ⟨fun | 20 => 49 | n => n, fun | 0 => 0 | 3 => 3 | 4 => 4 | 22 => 25 | n => n, fun | n => n⟩
theorem Try.laysNm220 : Go.Proofs.Lays2.n20 Try.prog Try.laysNm220_ren := {
  mixed := by kernel_rfl
  f20 := Try.func49.trans (congrArg some (by kernel_rfl))
  t0 := Try.underlying0
  a0 := Try.isAgg0
  z0 := Try.sizeOf0
  v0 := Try.zeroValue0
  t3 := Try.underlying3
  a3 := Try.isAgg3
  z3 := Try.sizeOf3
  v3 := Try.zeroValue3
  t4 := Try.underlying4
  a4 := Try.isAgg4
  z4 := Try.sizeOf4
  v4 := Try.zeroValue4
  t22 := Try.underlying25
  a22 := Try.isAgg25
  z22 := Try.sizeOf25
  v22 := Try.zeroValue25
  i3 := by kernel_rfl }
namespace Ytjlobjgemhapaaa
theorem compact_short (xs : List Int) : (Lib.compact xs).length ≤ xs.length := by
  unfold Lib.compact Lib.compactUpTo
  rw [List.length_map]
  exact Nat.le_trans (List.length_filter_le _ _) (by simp)
theorem Compact_any {w : World} {base : Nat} {v : Value} {xs : List Int} (h : RowA base w v xs) (hl : xs.length ≤ 1099511627776) :
    Calls Try.prog 49 #[v] w fun e w' => ∃ v', e = .returned v' ∧ RowA base w' v' (Lib.compact xs) ∧ v'.ownBlock = v.ownBlock ∧ Frm (fun k => v.ownBlock = some k) w w' := by
  rcases h with ⟨rfl, rfl⟩ | ⟨blk, cap, rfl, hc, hb, hlt, hH⟩
  · have := Any.slices_Compact_int_empty Try.laysNm220 none 0 w
    change Calls Try.prog 49 _ _ _ at this
    refine this.mono ?_
    rintro e w' ⟨rfl, rfl⟩
    exact ⟨_, rfl, .inl ⟨rfl, by kernel_rfl⟩, rfl, Frm.refl _ _⟩
  · have := Any.slices_Compact_int Try.laysNm220 blk 0 cap xs w hH (by omega) hc
    change Calls Try.prog 49 _ _ _ at this
    refine this.mono ?_
    rintro e w' ⟨rfl, n, rfl⟩
    have hle := compact_short xs
    have h0 : Holds (Value.int .i64) (Sort.ahead w n) blk 0 xs.toArray := hH
    have hsz : (Lib.compact xs ++ List.replicate (xs.length - (Lib.compact xs).length) (0 : Int)).toArray.size = xs.toArray.size := by simp; omega
    have h1 := holds_putRow (Value.int .i64) (Sort.ahead w n) blk 0 xs.toArray _ h0 hsz
    have hF : Frm (fun k => k = blk) w (putRow (Value.int .i64) (Sort.ahead w n) blk 0 (Lib.compact xs ++ List.replicate (xs.length - (Lib.compact xs).length) (0 : Int)).toArray) := frm_put0
    refine ⟨_, rfl, .inr ⟨blk, cap, rfl, Nat.le_trans hle hc, hb, Nat.lt_of_lt_of_le hlt hF.size, fun j hj => ?_⟩, rfl, hF.mono fun k hk => by rw [hk]; rfl⟩
    have hj2 : j < (Lib.compact xs).length := by simpa using hj
    obtain ⟨c1, c2⟩ := h1 j (by simp; omega)
    refine ⟨c1.trans ?_, c2⟩
    rw [getElem!_pos _ j (by simp; omega), getElem!_pos _ j (by simpa using hj)]
    simp [List.getElem_append_left hj2]
/-- What is sorted and compacted: each once, rising. -/
theorem compact_spec {zs : List Int} (hs : zs.Pairwise (· ≤ ·)) : (Lib.compact zs).Pairwise (· < ·) ∧ ∀ x, x ∈ Lib.compact zs ↔ x ∈ zs := by
  have at_ : ∀ i (h : i < zs.length), zs.toArray[i]! = zs[i] := fun i h => by simp [h]
  have key : ∀ m, m ≤ zs.length → (Lib.compactUpTo zs.toArray m).Pairwise (· < ·) ∧ (∀ x, x ∈ Lib.compactUpTo zs.toArray m ↔ x ∈ zs.take m) ∧ (∀ x ∈ Lib.compactUpTo zs.toArray m, ∀ (h : m - 1 < zs.length), 0 < m → x ≤ zs[m - 1]) := by
    intro m
    induction m with
    | zero => intro _; exact ⟨List.Pairwise.nil, fun x => by simp [Lib.compactUpTo], fun x hx => by simp [Lib.compactUpTo] at hx⟩
    | succ m ih =>
      intro hm
      obtain ⟨i1, i2, i3⟩ := ih (by omega)
      have hm' : m < zs.length := by omega
      rw [Lib.compactUpTo_succ, List.take_add_one, List.getElem?_eq_getElem hm', at_ m hm']
      have le_m : ∀ (k : Nat) (hk : k < zs.length), k ≤ m → zs[k] ≤ zs[m] := fun k hk hkm => by
        rcases Nat.lt_or_ge k m with h | h
        · exact List.pairwise_iff_getElem.1 hs k m hk hm' h
        · have : k = m := by omega
          subst this; exact Int.le_refl _
      have le_old : ∀ x ∈ Lib.compactUpTo zs.toArray m, x ≤ zs[m] := fun x hx => by
        have := (i2 x).1 hx
        obtain ⟨k, hk, rfl⟩ := List.getElem_of_mem this
        rw [List.getElem_take]
        simp at hk
        exact le_m k (by omega) (by omega)
      by_cases hk : Lib.keeps zs.toArray m = true
      · rw [if_pos hk]
        refine ⟨?_, fun x => ?_, fun x hx h _ => ?_⟩
        · rw [List.pairwise_append]
          refine ⟨i1, by simp, fun a ha b hb => ?_⟩
          simp at hb
          subst hb
          have h1 := le_old a ha
          rcases Nat.eq_zero_or_pos m with h0 | h0
          · subst h0; simp [Lib.compactUpTo] at ha
          · have h2 := i3 a ha (by omega) h0
            have hne : zs[m] ≠ zs[m - 1] := by
              unfold Lib.keeps at hk
              rw [at_ m hm', at_ (m - 1) (by omega)] at hk
              simp at hk
              omega
            have h3 := le_m (m - 1) (by omega) (by omega)
            omega
        · simp only [List.mem_append, i2, Option.toList_some]
        · rcases List.mem_append.1 hx with h2 | h2
          · exact le_old x h2
          · simp at h2; subst h2; simp
      · rw [if_neg hk]
        have hk2 : 0 < m ∧ zs[m] = zs[m - 1]'(by omega) := by
          unfold Lib.keeps at hk
          rcases Nat.eq_zero_or_pos m with h0 | h0
          · subst h0; simp at hk
          · rw [at_ m hm', at_ (m - 1) (by omega)] at hk
            simp at hk
            exact ⟨h0, by omega⟩
        refine ⟨by simpa using i1, fun x => ?_, fun x hx h _ => ?_⟩
        · simp only [List.append_nil, i2, Option.toList_some, List.mem_append, List.mem_singleton]
          constructor
          · exact .inl
          · rintro (h | rfl)
            · exact h
            · rw [hk2.2]
              exact List.mem_take_iff_getElem.2 ⟨m - 1, by omega, rfl⟩
        · simp only [List.append_nil] at hx
          exact le_old x hx
  have := key zs.length (Nat.le_refl _)
  rw [List.take_of_length_le (Nat.le_refl _)] at this
  exact ⟨this.1, this.2.1⟩
theorem sortI_perm (l : List Int) : (sortI l).Perm l := List.mergeSort_perm _ _
theorem sortI_rise (l : List Int) : (sortI l).Pairwise (· ≤ ·) := by
  have := List.pairwise_mergeSort (le := fun (x y : Int) => decide (x ≤ y)) (fun a b c h1 h2 => by simp at *; omega) (fun a b => by simp; omega) l
  exact this.imp (fun h => by simpa using h)
end Ytjlobjgemhapaaa
end Go.Proofs
