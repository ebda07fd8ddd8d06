/- stmts: a block's statements. -/
import Derived.Test.YtoggkigfijgbfaaGreatDoorZAbb
import Derived.Test.YtoggkigfijgbfaaGreatDoorZParItems
namespace Go.Proofs.YtoggkigfijgbfaaGreatDoor.P5
set_option maxRecDepth 20000
open Go.RowKit Go.Maps

theorem st_info : (Tryz.prog.info? 48).map (fun i => (i.zero, i.size, i.bytes)) = some (some (.pointer none), 1, 8) := by kernel_rfl
/-- The loop's head in stmts. -/
structure StmtsRel (n p d : Nat) (w : World) (R : Res) (m : Nat) (ts : List Tok) (acc : List Tree) (v : Value) (wr : World) : Prop where
  own : OwnTrees p w.heap.size 48 wr v acc
  pat : PAt wr p d ts
  past : Past [p] w wr
  le : m ≤ n
  eq : parseF m (.stmtsLoop acc) d ts = R
  len : acc.length + m ≤ n
theorem ret_kind {x : Tree} (h : isSt x = true) : (kindT x == 8) = isRet x := by
  cases x with
  | st => rfl
  | _ => cases h
theorem stmts_end {p d lo s0 g cap : Nat} {acc : List Tree} {w w4 w3 : World} {v : Value} {xs : List Value} {x : Tree} {ts2 : List Tok} {u2 : Nat}
    (ho3 : w3.ownsRow lo 48 1 v acc.length xs) (hd3 : ∀ k, v.ownBlock = some k → ∃ x, w3.cell? ⟨k, 0, none⟩ = some x ∧ x ≠ pV p)
    (ht3 : ∀ (j : Nat) (t : Tree) (x : Value), acc[j]? = some t → xs[j]? = some x → At w3 (fun k => Since lo w3 k ∧ v.ownBlock ≠ some k) t x) (hn : AtS s0 w3 x (pV u2)) (hpu : p < u2) (hs0 : lo ≤ s0) (hv : ∀ k, v.ownBlock = some k → k < s0)
    (hown4 : w4.ownsRow lo 48 1 (.slice (some ⟨g, 0, none⟩) (acc.length + 1) cap) (acc.length + 1) (xs ++ [pV u2])) (hgrow : w3.grownBy w4 v.ownBlock) (hat : v.ownBlock = some g ∨ g = w3.heap.size)
    (hP : PAt w3 p d ts2) (hwo : Past [p] w w3) (hlo : lo = w.heap.size) (hpl : p < lo) :
    OwnTrees p lo 48 w4 (.slice (some ⟨g, 0, none⟩) (acc.length + 1) cap) (acc ++ [x]) ∧ PAt w4 p d ts2 ∧ Past [p] w w4 := by
  have hxl : xs.length = acc.length := by have := ho3.1; omega
  refine ⟨own_more (p := p) ht3 hxl hn (by intro e; injection e with e; injection e with e; injection e with e; omega) hd3 ho3 hs0 hv hown4 hgrow hat, ?_, ?_⟩
  · exact hP.keep (fun k hk => hgrow.block k (by have := hP.lt; omega) (fun e => by have := (ho3.lt k e.symm).1; omega))
  · exact past_append hwo ho3 hgrow (fun k hk => .inr (by omega))
set_option maxHeartbeats 8000000 in
theorem stmts_step {n : Nat} (S : ∀ m, m ≤ n → Spec m) (hn : n ≤ 1099511627776) {w : World} {p d : Nat} {ts : List Tok} (h : PAt w p d ts) (hD : parseF (n + 1) .stmts d ts ≠ .out) :
    Calls Tryz.prog 26 #[pV p] w (Ends p d [p] (parseF (n + 1) .stmts d ts) (VL w.heap.size) w) := by
  have hpl := h.lt
  obtain ⟨i9, hii, hz0, hz1, hz2⟩ := info_parts st_info
  unfold parseF at hD ⊢
  simp only [] at hD ⊢
  have REL0 := Lib.hid (StmtsRel.mk (OwnTrees.nil _ _ _ _) h (Past.refl _ _) (Nat.le_refl n) rfl (by simp) : StmtsRel n p d w (parseF n (.stmtsLoop []) d ts) n ts [] (.slice none 0 0) w)
  generalize parseF n (.stmtsLoop []) d ts = R at hD REL0 ⊢
  have HD := Lib.hid hD
  clear hD h
  go_enter Tryz.func26, Tryz.ntmps26
  go_wp2_with fail
  go_loopg [3] n (fun m v wr => ∃ (ts : List Tok) (acc : List Tree), Hid (StmtsRel n p d w R m ts acc v wr))
  case atStart => exact ⟨ts, [], REL0⟩
  case round =>
    obtain ⟨ts1, acc, hF⟩ := hrel
    clear REL0
    cases gk with
    | zero => exact (no_fuel hF.out.eq HD.out).elim
    | succ k =>
      have hpr := hF.out.pat
      have hE := hF.out.eq
      have hle := hF.out.le
      have hlen := hF.out.len
      have hzr := hF.out.past.size
      unfold parseF at hE
      simp only [] at hE
      have HS := Lib.hid (S k (by omega))
      clear S
      by_cases k1 : endsT ts1 = true
      · rw [if_pos k1] at hE
        subst hE
        clear HD
        go_wp2_with (first
          | (go_at_call 47; (with_reducible refine (ends_any (d := d) (ts := ts1) ?_).mono ?_); (· exact ab1); rintro e wz ⟨rfl, hqz⟩; obtain rfl := hqz.symm))
        go_ret
        exact ⟨_, rfl, hF.out.own.sl, hpr, hF.out.past⟩
      · rw [if_neg k1] at hE
        have k1' : endsT ts1 = false := by simpa using k1
        clear k1
        have D1 : parseF k .stmt d ts1 ≠ .out := fun e => HD.out (by rw [← hE, e]; rfl)
        have C1 := Lib.hid (fun (w : World) (h : PAt w p d ts1) => HS.out.stmt h D1)
        generalize parseF k .stmt d ts1 = r1 at hE D1 C1
        cases r1 with
        | out => exact absurd rfl D1
        | bad c l =>
          have hE : Res.bad c l = R := hE
          subst hE
          clear D1 HD
          go_wp2_with (first
            | (go_at_call 48; (with_reducible refine (C1.out _ ?_).mono ?_); (· exact ab1); rintro e wb hB; obtain ⟨b', rfl, hb1, hb2, hb3, hb4⟩ := hB)
            | (go_at_call 47; (with_reducible refine (ends_any (d := d) (ts := ts1) ?_).mono ?_); (· exact ab1); rintro e wz ⟨rfl, hqz⟩; obtain rfl := hqz.symm))
          exact ⟨rfl, b', rfl, Nat.le_trans hzr hb1, hb2, hF.out.past.trans hb3, hb4⟩
        | ok x2 ts2 =>
          cases hr : isRet x2 with
          | true =>
            have hE : (if isRet x2 = true then Res.ok (treeL (acc ++ [x2])) ts2 else parseF k (.stmtsLoop (acc ++ [x2])) d ts2) = R := hE
            rw [if_pos hr] at hE
            subst hE
            clear D1 HD
            go_wp2_with (first
              | (go_at_call 48; (with_reducible refine (C1.out _ ?_).mono ?_); (· exact ab1); rintro e w2 ⟨v2, rfl, hv2, hp2, hw2⟩; obtain ⟨u2, rfl, t0, hu1, hu2⟩ := hv2.name; have e8 := (ret_kind hv2.2).trans hr; have hz2' := hw2.size; have P3 := Lib.hid ((hF.out.past.trans hw2).alloc (.cells #[pV u2] 48)); obtain ⟨xs, ho3, hd3, ht3⟩ := hF.out.own.past (hw2.alloc (.cells #[pV u2] 48)) (by simp; omega))
              | (at_builtin; refine wpList_append_lies _ rfl (.tmp 10) (.tmp 12) 24 rfl w.heap.size 48 i9 _ 1 8 Tryz.underlying24 hii hz0 hz1 hz2 rfl (by decide) u3 acc.length xs rfl ho3 ⟨w2.heap.size, 0, none⟩ 1 1 [pV u2] rfl rfl (one_new _ _ _) (by simp [Value.oneCell']) (by decide) (by unfold maxLen; omega) (by omega) (by simp; omega) _ rfl ?_; intro g cap w4 hown4 hgrow hat hlt; obtain ⟨m1, m2, m3⟩ := stmts_end ho3 hd3 ht3 (at_past hv2.1 ((Past.refl ([] : List Nat) w2).alloc _) (by simp) (Nat.le_refl _)) (by omega) hzr (fun k hk => by obtain ⟨xs0, ho0, _⟩ := hF.out.own; exact (ho0.lt k hk).2) hown4 hgrow hat (hp2.alloc _) P3.out rfl hpl; have t4 := (hgrow.cell_far ⟨u2, 0, none⟩ (by simp; omega) (fun e => by obtain ⟨xs0, ho0, _⟩ := hF.out.own; have := (ho0.lt u2 e.symm).2; omega)).trans ((World.cell?_alloc_lt _ _ ⟨u2, 0, none⟩ hu2).trans t0))
              | (go_at_call 47; (with_reducible refine (ends_any (d := d) (ts := ts1) ?_).mono ?_); (· exact ab1); rintro e wz ⟨rfl, hqz⟩; obtain rfl := hqz.symm))
            go_ret
            exact ⟨_, rfl, m1.sl, m2, m3⟩
          | false =>
            have hE : (if isRet x2 = true then Res.ok (treeL (acc ++ [x2])) ts2 else parseF k (.stmtsLoop (acc ++ [x2])) d ts2) = R := hE
            rw [if_neg (by rw [hr]; decide)] at hE
            replace hE := Lib.hid hE
            clear D1
            go_wp2_with (first
              | (go_at_call 48; (with_reducible refine (C1.out _ ?_).mono ?_); (· exact ab1); rintro e w2 ⟨v2, rfl, hv2, hp2, hw2⟩; obtain ⟨u2, rfl, t0, hu1, hu2⟩ := hv2.name; have e8 := (ret_kind hv2.2).trans hr; have hz2' := hw2.size; have P3 := Lib.hid ((hF.out.past.trans hw2).alloc (.cells #[pV u2] 48)); obtain ⟨xs, ho3, hd3, ht3⟩ := hF.out.own.past (hw2.alloc (.cells #[pV u2] 48)) (by simp; omega))
              | (at_builtin; refine wpList_append_lies _ rfl (.tmp 10) (.tmp 12) 24 rfl w.heap.size 48 i9 _ 1 8 Tryz.underlying24 hii hz0 hz1 hz2 rfl (by decide) u3 acc.length xs rfl ho3 ⟨w2.heap.size, 0, none⟩ 1 1 [pV u2] rfl rfl (one_new _ _ _) (by simp [Value.oneCell']) (by decide) (by unfold maxLen; omega) (by omega) (by simp; omega) _ rfl ?_; intro g cap w4 hown4 hgrow hat hlt; obtain ⟨m1, m2, m3⟩ := stmts_end ho3 hd3 ht3 (at_past hv2.1 ((Past.refl ([] : List Nat) w2).alloc _) (by simp) (Nat.le_refl _)) (by omega) hzr (fun k hk => by obtain ⟨xs0, ho0, _⟩ := hF.out.own; exact (ho0.lt k hk).2) hown4 hgrow hat (hp2.alloc _) P3.out rfl hpl; have t4 := (hgrow.cell_far ⟨u2, 0, none⟩ (by simp; omega) (fun e => by obtain ⟨xs0, ho0, _⟩ := hF.out.own; have := (ho0.lt u2 e.symm).2; omega)).trans ((World.cell?_alloc_lt _ _ ⟨u2, 0, none⟩ hu2).trans t0))
              | (go_at_call 47; (with_reducible refine (ends_any (d := d) (ts := ts1) ?_).mono ?_); (· exact ab1); rintro e wz ⟨rfl, hqz⟩; obtain rfl := hqz.symm))
            go_roundg k
            case measure => omega
            case rel => exact ⟨ts2, acc ++ [x2], Lib.hid (StmtsRel.mk m1 m2 m3 (by omega) hE.out (by simp; omega))⟩
end Go.Proofs.YtoggkigfijgbfaaGreatDoor.P5
