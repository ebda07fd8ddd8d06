/- newFunction; during: what a block declares ends with it. -/
import Derived.Test.YtlbbbfmnghcdnaaScUse
import Derived.Test.YtlbbbfmnghcdnaaScPure
import Derived.Deep.LoopGhost
namespace Go.Proofs.Ytlbbbfmnghcdnaa
set_option maxRecDepth 20000
open Go.RowKit Go.Maps

theorem newFunction_any (ar : Option Addr) (w : World) : Calls Try.prog 40 #[.pointer ar] w fun e w' => e = .returned (pV (w.heap.size + 2)) ∧
    w' = ((w.alloc (.map #[] 0)).alloc (.map #[] 0)).alloc (.cells #[.slice none 0 0, .slice none 0 0, .map (some w.heap.size), .pointer ar, .int .i64 0, .slice none 0 0, .slice none 0 0, .map (some (w.heap.size + 1))] 99) := by
  have hmm := @run_makeMap Try.prog
  go_enter Try.func40, Try.ntmps40
  go_wp2
  go_ret
  exact ⟨rfl, rfl⟩
theorem step_putP {w : World} {ops : Array Oper} {o : Oper} {a : Act} {K : Act → World → Prop} {Q : Exit → Act → World → Prop} {E : Prop} (hg : o.guard = none) (m x v : Operand) (hop : o.op = Op.mapUpdate 93 m x v) {b n : Nat} {f : List UInt8 → Option Nat} {s : List UInt8} {q : Option Nat}
    (hm : a.eval m = .map (some b)) (hM : MapP w b n f) (hn : n < maxLen) (hx : a.eval x = sV s) (hs : s.length ≤ 1099511627776) (hv : a.eval v = ptrO q)
    (hK : ∀ w', MapP w' b (n + 1) (putN f s q) → w.grownBy w' (some b) → K (a.put o.dst undef) w') : if Region.wanted o (yielded ops a.tmps) = true then Oper.wp Try.prog o a w K Q else E := by
  have hw : Region.wanted o (yielded ops a.tmps) = true := by simp [Region.wanted, hg]
  rw [if_pos hw]
  obtain ⟨w', hrun, r1, r2⟩ := hM.run_put hn s hs q
  unfold Oper.wp
  simp [execOp, hop, hm, hx, hv, hrun, Result.andThen]
  exact hK w' r1 r2
/-- The loop's head behind a block: so many are left, st1 its state. -/
structure BackRel (N lo p n ahead : Nat) (T : Own) (G : Nat → Gh) (w : World) (st1 : StS) (f1 : FnS) (k : Nat) (wr : World) : Prop where
  le : k ≤ f1.full.length
  ge : ahead ≤ k ∨ k = f1.full.length
  st : ∃ T' G' vn, WAt wr T' lo p G' vn { st1 with fns := st1.fns.modify n fun f => f.back k } ∧ Turn (fun _ => True) T w T' wr ∧ Same N G G'
theorem back_full (f : FnS) : f.back f.full.length = f := by unfold FnS.back; rw [List.take_length]
theorem modify_id {α : Type} {l : List α} {n : Nat} {x : α} {φ : α → α} (h : l[n]? = some x) (e : φ x = x) : l.modify n φ = l := by
  rw [modify_set h, e]
  apply List.ext_getElem?
  intro i
  rw [List.getElem?_set]
  by_cases hi : n = i
  · subst hi; rw [if_pos rfl, if_pos (List.getElem?_eq_some_iff.1 h).1, h]
  · rw [if_neg hi]
set_option maxHeartbeats 4000000 in
theorem during_any {N : Nat} {w : World} {T : Own} {lo p n K : Nat} {caps : Array Value} {G : Nat → Gh} {vn : Value} {st : StS} {rest : List Nat} {f : FnS} {r : ResS} (h : WAt w T lo p G vn st) (hs : st.stack = n :: rest) (hf : st.fns[n]? = some f) (hn : n < N)
    (C : Calls Try.prog K caps w (EndsS N T lo p G r w)) (hK : ∀ w, (callFunc K caps).run Try.prog w = .ok (.enter K caps) w) (hr : ∀ st1, r = .ok st1 → PresS st st1) (hD : r ≠ .out) :
    Calls Try.prog 65 #[pV (G n).b, .func (.func K) #[] caps] w (EndsS N T lo p G (r.bind (backS f.full.length)) w) := by
  have F := h.fn n f hf
  obtain ⟨g, hG⟩ : ∃ g, G n = g := ⟨_, rfl⟩
  rw [hG] at F ⊢
  obtain ⟨Af, cf, hvf, hcf, hcm⟩ := slice_form F.rf
  have c1 := F.hd.c1
  rw [hvf] at c1
  have hbl := F.b_lt
  have HC := Lib.hid C
  cases r with
  | out => exact absurd rfl hD
  | bad c l =>
    clear h F C hr
    go_enter Try.func65, Try.ntmps65
    go_wp2_with (first
      | ((with_reducible refine HC.out.mono ?_); rintro e w2 hB; obtain ⟨b, T', rfl, hb1, hb2, hb3⟩ := hB))
    exact ⟨rfl, b, T', rfl, hb1, hb2, hb3⟩
  | ok st1 =>
    have P := hr st1 rfl
    have hs1 : st1.stack = n :: rest := P.stack.trans hs
    have hn1 : n < st1.fns.length := Nat.lt_of_lt_of_le (List.getElem?_eq_some_iff.1 hf).1 P.len
    obtain ⟨f1, hf1⟩ : ∃ f1, st1.fns[n]? = some f1 := ⟨_, List.getElem?_eq_getElem hn1⟩
    have hcur : st1.cur = n := by unfold StS.cur; rw [hs1]; rfl
    show Calls Try.prog 65 #[pV g.b, .func (.func K) #[] caps] w (EndsS N T lo p G (backS f.full.length st1) w)
    unfold backS
    rw [hcur]
    have HF1 := Lib.hid hf1
    have HN := Lib.hid hn
    clear h F C hr hs1 hn1 P hcur hs hf hf1 hn
    go_enter Try.func65, Try.ntmps65
    go_wp2_with (first
      | ((with_reducible refine HC.out.mono ?_); rintro e w2 ⟨v2, T2, G2, vn2, rfl, rfl, hW2, ht2, hS2⟩; have F2 := hW2.fn n f1 HF1.out; have hb2 := hS2 n HN.out; rw [hG] at hb2; have k1 := F2.hd.c1; obtain ⟨A2, c2, hv2, hc2, hm2⟩ := slice_form F2.rf; rw [hb2, hv2] at k1; have hfl2 := F2.len_f; have REL := Lib.hid (BackRel.mk (ahead := f.full.length) (Nat.le_refl _) (.inr rfl) ⟨T2, G2, vn2, by rw [modify_id HF1.out (back_full f1)]; exact hW2, ht2, hS2⟩ : BackRel N lo p n f.full.length T G w st1 f1 f1.full.length w2); clear hW2 ht2 hS2 F2))
    go_loopg [5] f1.full.length (fun m v wr => ∃ x : Int, v = iV x ∧ x + 1 = (m : Int) ∧ Hid (BackRel N lo p n f.full.length T G w st1 f1 m wr))
    case atStart => exact ⟨_, rfl, by omega, REL⟩
    case round =>
      obtain ⟨x, rfl, hx, hF⟩ := hrel
      clear REL k1 hb2 hv2 hc2 hm2
      obtain ⟨T3, G3, vn3, hW3, ht3, hS3⟩ := hF.out.st
      have hle := hF.out.le
      have hge := hF.out.ge
      have hf3 : (st1.fns.modify n fun f => f.back gk)[n]? = some (f1.back gk) := by rw [modify_set HF1.out, List.getElem?_set_self (List.getElem?_eq_some_iff.1 HF1.out).1]
      have F3 := hW3.fn n _ hf3
      have hb3 := hS3 n HN.out
      rw [hG] at hb3
      have hlen : (f1.back gk).full.length = gk := by show (f1.full.take gk).length = gk; rw [List.length_take]; omega
      by_cases hm : f.full.length < gk
      · obtain ⟨k, rfl⟩ : ∃ k, gk = k + 1 := ⟨gk - 1, by omega⟩
        obtain rfl : x = (k : Int) := by omega
        have hq : (f.full.length : Int) ≤ (k : Int) := by omega
        clear hx
        obtain ⟨i, hi⟩ : ∃ i, (f1.back (k + 1)).full[k]? = some i := ⟨_, List.getElem?_eq_getElem (by rw [hlen]; omega)⟩
        have hil := F3.ls.lt i (List.mem_of_getElem? hi)
        obtain ⟨r, c3, hvf3, hcc3, hcm3⟩ : ∃ r c3, (G3 n).vf = .slice (some ⟨r, 0, none⟩) (k + 1) c3 ∧ k + 1 ≤ c3 ∧ c3 ≤ maxLen := by
          rcases row_form F3.rf.row with ⟨_, h0⟩ | ⟨r, c3, h1, _, h2, h3⟩
          · rw [hlen] at h0; omega
          · rw [hlen] at h1 h2; exact ⟨r, c3, h1, h2, h3⟩
        have k1 := F3.hd.c1
        rw [hb3, hvf3] at k1
        have k2 := F3.hd.c2
        rw [hb3] at k2
        have hrow := F3.rf.row
        rw [hvf3, hlen] at hrow
        have kr : wr.cell? ⟨r, k, none⟩ = some (pV ((G3 n).L i)) := row_cell hrow (by rw [List.getElem?_map, hi]; rfl)
        obtain ⟨tL, xL, cL⟩ := F3.ls.loc i _ (List.getElem?_eq_getElem hil)
        have n2 := cL.c2
        have n3 := F3.ls.hides k i hi
        have hgl : (f1.back (k + 1)).locals.getD i default = (f1.back (k + 1)).locals[i] := getD_of (List.getElem?_eq_getElem hil)
        have hsh := F3.short _ (List.getElem_mem hil)
        obtain ⟨po, hpo⟩ := ptrO_form ((namedIn (f1.back (k + 1)).locals ((f1.back (k + 1)).locals.getD i default).name ((f1.back (k + 1)).full.take k)).map (G3 n).L)
        have n3' : wr.cell? ⟨(G3 n).L i, 3, none⟩ = some (.pointer po) := n3.trans (congrArg some hpo)
        rw [hgl] at hpo
        have hbr := F3.b_lt
        rw [hb3] at hbr
        have HW3 := Lib.hid hW3
        have Ht3 := Lib.hid ht3
        have HS3 := Lib.hid hS3
        have HF3 := Lib.hid F3
        have Hlen := Lib.hid hlen
        have Hhi := Lib.hid hi
        have Hgl := Lib.hid hgl
        have Hf3 := Lib.hid hf3
        have HM := Lib.hid (F3.map.keep (w' := wr.drew) rfl)
        have Hpo := Lib.hid hpo
        obtain ⟨nm, hnm⟩ : ∃ nm, (f1.back (k + 1)).locals[i].name = nm := ⟨_, rfl⟩
        rw [hnm] at n2 hsh Hpo
        have Hnm := Lib.hid hnm
        obtain ⟨Li, hLi⟩ : ∃ Li, (G3 n).L i = Li := ⟨_, rfl⟩
        rw [hLi] at kr n2 n3'
        have HLi := Lib.hid hLi
        clear hW3 ht3 hS3 F3 hlen hi hgl hf3 n3 hpo cL hnm hrow hLi tL
        go_wp2_with fail
        obtain ⟨w8, hrun, hm8, hg8⟩ := HM.out.run_put (by unfold maxLen; have := HF3.out.len_m; have := HF3.out.len_l; omega) nm hsh ((namedIn (f1.back (k + 1)).locals nm ((f1.back (k + 1)).full.take k)).map (G3 n).L)
        rw [Hpo.out] at hrun
        have hbm : some g.b ≠ some (G3 n).m := fun e => by injection e with e; have a := HF3.out.tm; rw [← e, ← hb3, HF3.out.hd.tb] at a; injection a with a; cases a
        have j1 := (hg8.cell_far ⟨g.b, 1, none⟩ hbr hbm).trans k1
        have j2 := (hg8.frozen_far ⟨g.b, 1, none⟩ hbr hbm).trans (hb3 ▸ HF3.out.hd.warm 1)
        have Hm8 := Lib.hid hm8
        have Hg8 := Lib.hid hg8
        clear hm8 hg8
        go_region
        go_wp2_with fail
        go_roundg k
        case measure => omega
        case rel =>
          refine ⟨_, rfl, by simp, ?_⟩
          obtain ⟨F9, t9, fr9, c9⟩ := HF3.out.drew.pop (fun k hk => HW3.out.fresh k hk) Hlen.out Hhi.out hvf3 Hg8.out (by rw [Hgl.out, Hnm.out]; exact Hm8.out)
          have hW9 := HW3.out.drew.turned Hf3.out t9 F9 rfl c9 fr9 (fns' := st1.fns.modify n fun f => f.back k) (by
            rw [modify_set HF1.out, modify_set HF1.out, List.set_set]
            congr 1
            show ({ f1 with full := f1.full.take k } : FnS) = { f1 with full := (f1.full.take (k + 1)).take k }
            rw [List.take_take, Nat.min_eq_left (by omega)])
          rw [hb3] at hW9 t9
          exact Lib.hid ⟨by omega, .inl (by omega), _, _, vn3, hW9, (Ht3.out.drew.trans (t9.mono fun _ _ => trivial)), fun q hq => (updG_b (by rw [hb3]) q).trans (HS3.out q hq)⟩
      · have hq : ¬ ((f.full.length : Int) ≤ x) := by omega
        have hgk : f1.back gk = f1.back f.full.length := by
          rcases Nat.lt_or_ge gk f.full.length with h | h
          · have : gk = f1.full.length := by omega
            show ({ f1 with full := f1.full.take gk } : FnS) = { f1 with full := f1.full.take f.full.length }
            rw [List.take_of_length_le (by omega), List.take_of_length_le (by omega)]
          · rw [show gk = f.full.length by omega]
        have hfn : st1.fns.modify n (fun f => f.back gk) = st1.fns.modify n fun f_1 => f_1.back f.full.length := by
          rw [modify_set HF1.out, modify_set HF1.out, hgk]
        rw [hfn] at hW3
        have HW3 := Lib.hid hW3
        have Ht3 := Lib.hid ht3
        have HS3 := Lib.hid hS3
        clear hx hW3 ht3 hS3 F3 hf3 hgk hfn hlen
        go_wp2_with fail
        refine bodyPost_end (results_none rfl _ _ _) rfl ?_
        exact ⟨_, T3, G3, vn3, rfl, rfl, HW3.out, Ht3.out, HS3.out⟩
end Go.Proofs.Ytlbbbfmnghcdnaa
