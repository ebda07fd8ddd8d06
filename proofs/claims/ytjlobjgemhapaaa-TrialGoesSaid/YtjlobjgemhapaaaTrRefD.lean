/- tallowref12.White: as the program's. -/
import Derived.Test.YtjlobjgemhapaaaTrRefC
import Derived.Test.YtjlobjgemhapaaaTrRightO
namespace Go.Proofs.Ytjlobjgemhapaaa
set_option maxRecDepth 20000
open Go.RowKit Go.Maps

theorem meet_none {p : Int → Bool} (h : ∀ x, p x = false) : ∀ {l met : List Int}, meetL p met l = met
  | [], _ => rfl
  | n :: l, met => by rw [meet_cons, if_pos (.inr (h n))]; exact meet_none h
theorem from_meet {g : List OB} {S : List Int} (hS : ∀ x ∈ S, OkP g x) {p : Int → Bool} (hp : ∀ x, p x = decide (x ∈ S)) (i : Nat) (o : OB) (m : List Int) (ho : g[i]? = some o) : meetL p m (refsL o.slots) = meetL p m (heldG g ((i : Int) + 1)) := by
  by_cases hne : S = []
  · subst hne
    have : ∀ x, p x = false := fun x => by rw [hp]; simp
    rw [meet_none this, meet_none this]
  · obtain ⟨y, hy⟩ := List.exists_mem_of_ne_nil _ hne
    have hg := (hS y hy).1
    rw [heldG_at ho, heldS_refs hg (List.mem_of_getElem? ho), meet_filter2]
    intro x hx
    rw [hp, decide_eq_true_iff] at hx
    exact (hS x hx).2
/-- What from answers, behind ones of the list. -/
theorem from_mem {g : List OB} {S L : List Int} {p : Int → Bool} (hp : ∀ x, p x = decide (x ∈ S)) (hcl : ∀ m ∈ S, ∀ x ∈ heldG g m, looksB g x = true → x ∈ S) (hS : ∀ m ∈ S, looksB g m = true) (hL : ∀ x ∈ L, x ∈ S) (hd : L.Nodup) :
    (followF g p (g.length + 1) 0 L).Nodup ∧ ∀ n, n ∈ followF g p (g.length + 1) 0 L ↔ Fol g (looksB g) L n := by
  have h := followF_spec (g := g) (whom := p) (first := L) (fun n h => by
    have := h.whom
    rw [hp, decide_eq_true_iff] at this
    exact looks_range (hS n this)) (g.length + 1) 0 L (by omega) (Nat.zero_le _) hd (fun n hn => .root hn (by rw [hp]; exact decide_eq_true (hL n hn))) (fun n hn _ => hn) (fun j n x hj => absurd hj (Nat.not_lt_zero _))
  exact ⟨h.1, fun n => (h.2 n).trans (fol_iff hp hcl hS hL)⟩
theorem white_but {g : List OB} (hn : g.length ≤ 900) (l : List Int) {p : Int → Bool} (hp : ∀ x, p x = decide (x ∈ seenL g l)) : butF (seenL g l) (followF g p (g.length + 1) 0 (outL g (seenL g l))) g.length = whiteL g l := by
  refine rise_same (butF_rise _ _ _) (white_rise g l) fun x => ?_
  rw [butF_mem, white_mem hn]
  constructor
  · rintro ⟨_, _, h3, h4⟩
    have hg := (seen_ok h3).1
    have h := (from_mem (L := outL g (seenL g l)) hp (seen_closed hg l) (fun m hm => (seen_ok hm).2) (fun x hx => (List.mem_filter.1 hx).1) (List.Nodup.sublist List.filter_sublist (seen_nodup g l))).2 x
    exact ⟨h3, fun h5 => h4 (h.2 h5)⟩
  · rintro ⟨h3, h4⟩
    have hg := (seen_ok h3).1
    have h := (from_mem (L := outL g (seenL g l)) hp (seen_closed hg l) (fun m hm => (seen_ok hm).2) (fun x hx => (List.mem_filter.1 hx).1) (List.Nodup.sublist List.filter_sublist (seen_nodup g l))).2 x
    have := looks_range (seen_ok h3).2
    exact ⟨by omega, by omega, h3, fun h5 => h4 (h.1 h5)⟩
theorem within_eq {g : List OB} (hg : checkB g = true) {S : List Int} (hS : ∀ m ∈ S, looksB g m = true) (hT : (S.flatMap (heldG g)).length ≤ 4194304) {n : Int} (hn : looksB g n = true) : cntF (S.flatMap (heldG g)) n = ((withN g S n S.length : Nat) : Int) := by
  rw [(cnt_small hT (by omega) n).1, seen_count hg hS hn]
  unfold withN
  rw [List.take_of_length_le (Nat.le_refl _)]
/-- Those of the first k that are held from outside. -/
def outP (g : List OB) (S : List Int) (n : Int) : Bool := decide (countG g n > cntF (S.flatMap (heldG g)) n)
theorem outP_full (g : List OB) (S : List Int) : filtP (outP g S) S S.length = outL g S := by unfold filtP outL; rw [List.take_of_length_le (Nat.le_refl _)]; rfl
set_option maxHeartbeats 8000000 in
theorem RWhite_any {w : World} {A : Option Addr} {c : Nat} {g : List OB} (hg : GAt w A g) (hn : g.length ≤ 900) (hs : ∀ o ∈ g, o.slots.length ≤ 2000) {B : Option Addr} {d : Nat} {l : List Int} (hl : l.length ≤ 1099511627776) (h : IntsAt w B l) (hwf : ∀ x ∈ l, wf64 x) :
    Calls Try.prog 15 #[gV A g.length c, .slice B l.length d] w (GivesInts (whiteL g l) w) := by
  obtain ⟨i0, hi, hz0, hz1, hz2⟩ := info_parts int_info
  have G := Lib.hid hg
  have SE : Hid (∀ W, Below w.heap.size w W → Calls Try.prog 13 #[gV A g.length c, .slice B l.length d] W (GivesInts (seenL g l) W)) := fun W hW => RSeen_any (hg.below hW) hn hl (h.below hW) hwf
  have OKS : Hid (∀ x ∈ seenL g l, OkP g x) := fun x hx => seen_ok hx
  have LS : (seenL g l).length ≤ g.length := seen_len g l
  have WT : Hid (∀ W (C : Option Addr) (k : Nat) (x : Int), Below w.heap.size w W → IntsAt W C (seenL g l) → Calls Try.prog 46 #[gV A g.length c, .slice C (seenL g l).length k, iV x] W fun e w' => e = .returned (iV (withN g (seenL g l) x (seenL g l).length : Nat)) ∧ Below W.heap.size W w') := fun W C k x hW hi => RWithin_any (hg.below hW) hn (fun o ho => Nat.le_trans (hs o ho) (by omega)) (by omega) hi (fun x hx => (seen_ok hx).2) x
  have WE : Hid (∀ x ∈ seenL g l, ∃ (k : Nat) (o : OB), x = (k : Int) + 1 ∧ k < g.length ∧ g[k]? = some o ∧ outP g (seenL g l) x = decide (((withN g (seenL g l) x (seenL g l).length : Nat) : Int) < o.count)) := fun x hx => by
    obtain ⟨hck, hlk⟩ := seen_ok hx
    obtain ⟨k, o, e, ho, _⟩ := looks_iff.1 hlk
    refine ⟨k, o, e, (List.getElem?_eq_some_iff.1 ho).1, ho, ?_⟩
    unfold outP
    rw [within_eq hck (fun m hm => (seen_ok hm).2) (seen_total hs hn l) hlk]
    have : countG g x = o.count := by unfold countG; rw [show (x - 1).toNat = k by omega, ho]
    rw [this]
  have FY : Hid (∀ (k : Nat) (x : Int), (seenL g l)[k]? = some x → outP g (seenL g l) x = true → filtP (outP g (seenL g l)) (seenL g l) (k + 1) = filtP (outP g (seenL g l)) (seenL g l) k ++ [x]) := fun k x => filtP_yes
  have FN : Hid (∀ (k : Nat) (x : Int), (seenL g l)[k]? = some x → outP g (seenL g l) x = false → filtP (outP g (seenL g l)) (seenL g l) (k + 1) = filtP (outP g (seenL g l)) (seenL g l) k) := fun k x => filtP_no
  have FL : Hid (∀ k, (filtP (outP g (seenL g l)) (seenL g l) k).length ≤ k) := filtP_len _ _
  have F0 : Hid (filtP (outP g (seenL g l)) (seenL g l) 0 = []) := (rfl : filtP (outP g (seenL g l)) (seenL g l) 0 = [])
  have FF : Hid (filtP (outP g (seenL g l)) (seenL g l) (seenL g l).length = outL g (seenL g l)) := outP_full g (seenL g l)
  obtain ⟨p, hp⟩ : ∃ p : Int → Bool, ∀ x, p x = decide (x ∈ seenL g l) := ⟨fun x => decide (x ∈ seenL g l), fun _ => rfl⟩
  have FR : Hid (∀ (W : World) (B : Option Addr) (d : Nat) (v : Value) (lo : Nat), Below w.heap.size w W → w.heap.size ≤ lo → lo ≤ W.heap.size → ApartI W B (seenL g l) v → W.ownsRow lo 3 1 v (outL g (seenL g l)).length ((outL g (seenL g l)).map (Value.int .i64)) →
      Calls Try.prog 48 #[gV A g.length c, .slice B (seenL g l).length d, v] W fun e w' => ∃ v', e = .returned v' ∧ w'.ownsRow lo 3 1 v' (followF g p (g.length + 1) 0 (outL g (seenL g l))).length ((followF g p (g.length + 1) 0 (outL g (seenL g l))).map (Value.int .i64)) ∧ Below lo W w' ∧ ApartI w' B (seenL g l) v') := fun W B d v lo hW h1 h2 h3 h4 =>
    RFrom_any hg hn (by omega) hp h1 hW h2 h3 h4 (List.Nodup.sublist List.filter_sublist (seen_nodup g l)) (fun x hx => by rw [hp]; exact decide_eq_true (List.mem_filter.1 hx).1) (fun x hx => (seen_ok hx).2) (fun i o m ho => from_meet (fun x hx => seen_ok hx) hp i o m ho)
  have RL : Hid ((followF g p (g.length + 1) 0 (outL g (seenL g l))).length ≤ 1099511627776) := by
    by_cases hck : checkB g = true
    · have h := from_mem (L := outL g (seenL g l)) hp (seen_closed hck l) (fun m hm => (seen_ok hm).2) (fun x hx => (List.mem_filter.1 hx).1) (List.Nodup.sublist List.filter_sublist (seen_nodup g l))
      have : (followF g p (g.length + 1) 0 (outL g (seenL g l))).length ≤ g.length := nums_short h.1 fun x hx => looks_range ((h.2 x).1 hx).whom
      show _ ≤ _
      omega
    · have e : outL g (seenL g l) = [] := by unfold outL seenL; rw [if_neg hck]; rfl
      show _ ≤ _
      rw [e, followF_end (Nat.le_refl 0)]
      simp
  have BU : Hid (∀ (W : World) (B C : Option Addr) (d e9 : Nat), IntsAt W B (seenL g l) → IntsAt W C (followF g p (g.length + 1) 0 (outL g (seenL g l))) → Calls Try.prog 47 #[gV A g.length c, .slice B (seenL g l).length d, .slice C (followF g p (g.length + 1) 0 (outL g (seenL g l))).length e9] W (GivesInts (whiteL g l) W)) := fun W B C d e9 hi hj => by
    have := RBut_any (A := A) (c := c) (g := g) (d := d) (e9 := e9) hn (by omega) RL.out hi hj
    rwa [white_but hn l hp] at this
  clear hg h hwf hl hs hp
  generalize whiteL g l = Wh at *
  generalize followF g p (g.length + 1) 0 (outL g (seenL g l)) = R at *
  generalize filtP (outP g (seenL g l)) (seenL g l) = fP at *
  generalize outP g (seenL g l) = oP at *
  generalize outL g (seenL g l) = Ou at *
  generalize withN g (seenL g l) = wN at *
  generalize seenL g l = S at *
  generalize g.length = n at *
  obtain ⟨ns, hns⟩ : ∃ ns, ns = S.length := ⟨_, rfl⟩
  have HNS := Lib.hid hns
  generalize l.length = nl at *
  go_enter Try.func15, Try.ntmps15
  go_upto_region 4 with (go_at_call 13; (with_reducible refine (SE.out _ (by first | exact (Below.refl _ _).alloc (Nat.le_refl _) _ | exact Below.refl _ _)).mono ?_); rintro e V ⟨v1, rfl, ho1, hb⟩; have BV := Lib.hid (below_box hb); have xV := boxed hb (j := 0) rfl; obtain ⟨A1, c1, e1, i1⟩ := ints_of_own ho1; subst e1; have I1 := Lib.hid i1; clear hb ho1 i1)
  have zV : w.heap.size < V.heap.size := World.block_lt_of_cell? V _ xV
  have CX : Hid (∀ W, Below V.heap.size V W → W.cell? ⟨w.heap.size, 0, none⟩ = some (.slice A n c)) := fun W hW => (hW.cell (p := ⟨w.heap.size, 0, none⟩) zV).trans xV
  rw [← hns]
  rw [← hns] at LS
  clear hns
  go_wp2_with fail
  go_loopg [6, 7] ns (fun gg s6 s7 wr => ∃ k : Nat, k ≤ ns ∧ ns - k ≤ gg ∧ s7 = .int .i64 k ∧ Hid (wr.ownsRow V.heap.size 3 1 s6 (fP k).length ((fP k).map (Value.int .i64))) ∧ Hid (Below V.heap.size V wr))
  case atStart => exact ⟨0, Nat.zero_le _, by omega, rfl, (show World.ownsRow _ _ _ _ _ _ _ by rw [F0.out]; exact World.ownsRow_nil _ _ _ _), Below.refl _ _⟩
  case round =>
    obtain ⟨k, hk, hgg, rfl, O, BR⟩ := hrel
    have BW : Hid (Below w.heap.size w wr) := BV.out.trans (BR.out.mono BV.out.size)
    have x0 := CX.out wr BR.out
    by_cases hlt : k < ns
    · obtain ⟨x, hx⟩ : ∃ x, S[k]? = some x := ⟨_, List.getElem?_eq_getElem (by have := HNS.out; omega)⟩
      obtain ⟨j, o, e, hj, ho, hout⟩ := WE.out x (List.mem_of_getElem? hx)
      have FYx := FY.out k x hx
      have FNx := FN.out k x hx
      rw [hout] at FYx FNx
      obtain ⟨ad, e2, hal, hcx⟩ := (I1.out.below BR.out) k x hx
      subst e2
      obtain ⟨a, sA, sc, e2, hal2, ⟨o0, o1, o2, o3, o4⟩, hs⟩ := G.out j o ho
      subst e2
      have hl2 : (ad.add k).block < wr.heap.size := by rw [Go.ChangeShapes.block_add]; exact hal
      have z2 : wr.cell? ⟨(a.add (j * 5)).block, (a.add (j * 5)).off + 1, none⟩ = some (iV o.count) := (BW.out.cell (p := ⟨(a.add (j * 5)).block, (a.add (j * 5)).off + 1, none⟩) (show (a.add (j * 5)).block < _ by rw [Go.ChangeShapes.block_add]; exact hal2)).trans o1
      have hl3 : (a.add (j * 5)).block < wr.heap.size := by rw [Go.ChangeShapes.block_add]; have := BW.out.size; omega
      have r0 := fun d os => cell_regrown x0 d os
      have r1 := fun d os => cell_regrown hcx d os
      have r2 := fun d os => cell_regrown z2 d os
      have ct := fun q os => Calls.regrown_of (WT.out (Go.Sort.grow (redrawn wr q) os) (some ad) c1 x (BW.out.trans ((below_regrown wr q os).mono BW.out.size)) ((I1.out.below BR.out).below (below_regrown wr q os)))
      rw [← HNS.out] at ct FYx FNx
      have L1 := FL.out k
      clear o0 o1 o2 o3 o4 hs hx ho hout
      generalize wN x ns = cn at *
      generalize o.count = oc at *
      subst e
      have e1 : IntKind.i64.wrap ((j : Int) + 1 - 1) = (j : Int) := (IntWalk.i64_in _ (by omega)).trans (by omega)
      have e5 : IntKind.i64.wrap (j : Int) = (j : Int) := IntWalk.i64_in _ (by omega)
      have e4 : (j : Int) < (n : Int) := by omega
      by_cases hgt : (cn : Int) < oc
      · have d1 := decide_eq_true hgt
        have E1 := Lib.hid (FYx d1)
        clear FYx FNx
        go_wp2_with fail
        refine wp_region_quiet_below (by kernel_rfl) (by kernel_rfl) ?_
        repeat (go_big_quiet_step (with_reducible exact ct _ _))
        refine wpQuiet_nil ?_
        intro w3 ⟨⟨dq, osq⟩, hw3⟩
        have B3 : Hid (Below wr.heap.size wr w3) := by rw [hw3]; exact below_regrown wr dq osq
        clear hw3 r0 r1 r2 ct
        have q1 := (B3.out.cell (p := ad.add k) hl2).trans hcx
        have O3 := Lib.hid (own_below O.out B3.out)
        have BR3 : Hid (Below V.heap.size V w3) := BR.out.trans (B3.out.mono BR.out.size)
        have hb3 := BR3.out.size
        go_wp2_with (at_builtin; refine wpList_append_own _ rfl (.tmp 35) (.tmp 40) _ rfl V.heap.size 3 i0 _ 1 8 Try.underlying25 hi hz0 hz1 hz2 rfl (by decide) _ _ _ rfl (O3.out.alloc _) ⟨w3.heap.size, 0, none⟩ 1 1 [.int .i64 ((j : Int) + 1)] rfl rfl one_cell (by simp [Value.oneCell']) (by unfold maxLen; omega) (by omega) (by simp; omega) ?_; intro v' w8 hown8 hg8 _)
        have O8 : Hid (w8.ownsRow V.heap.size 3 1 v' (fP (k + 1)).length ((fP (k + 1)).map (Value.int .i64))) := (show World.ownsRow _ _ _ _ _ _ _ by rw [E1.out, List.length_append, List.map_append]; exact hown8)
        have B8 : Hid (Below V.heap.size V w8) := (BR3.out.alloc BR3.out.size _).grown hg8 (by simp; omega) (fun b hb => (O3.out.lt b hb).1)
        clear hown8 hg8
        go_roundg (ns - (k + 1))
        case measure => omega
        case rel => exact ⟨k + 1, by omega, by omega, by go_num, O8.out, B8.out⟩
      · have d1 := decide_eq_false hgt
        have E1 := Lib.hid (FNx d1)
        clear FYx FNx
        go_wp2_with fail
        refine wp_region_quiet_below (by kernel_rfl) (by kernel_rfl) ?_
        repeat (go_big_quiet_step (with_reducible exact ct _ _))
        refine wpQuiet_nil ?_
        intro w3 ⟨⟨dq, osq⟩, hw3⟩
        have B3 : Hid (Below wr.heap.size wr w3) := by rw [hw3]; exact below_regrown wr dq osq
        clear hw3 r0 r1 r2 ct
        go_wp2_with fail
        go_roundg (ns - (k + 1))
        case measure => omega
        case rel => exact ⟨k + 1, by omega, by omega, by go_num, (show World.ownsRow _ _ _ _ _ _ _ by rw [E1.out]; exact own_below O.out B3.out), BR.out.trans (B3.out.mono BR.out.size)⟩
    · have hkn : k = ns := by omega
      have O2 := O.out
      rw [hkn, HNS.out, FF.out] at O2
      have I2 := I1.out.below BR.out
      have AP := Lib.hid I2
      have OW := Lib.hid O2
      have FRW : Hid (∀ (W : World) (v : Value), Below wr.heap.size wr W → wr.ownsRow V.heap.size 3 1 v Ou.length (Ou.map (Value.int .i64)) → Calls Try.prog 48 #[gV A n c, .slice A1 S.length c1, v] W fun e w' => ∃ v', e = .returned v' ∧ w'.ownsRow V.heap.size 3 1 v' R.length (R.map (Value.int .i64)) ∧ Below V.heap.size W w' ∧ ApartI w' A1 S v') := fun W v hW hO => by
        have hv := hO.lt
        refine FR.out W A1 c1 v V.heap.size (BW.out.trans (hW.mono BW.out.size)) BV.out.size (Nat.le_trans BR.out.size hW.size) (fun i x hx => ?_) (own_below hO hW)
        obtain ⟨ad, e, hl, hc⟩ := ((I1.out.below BR.out).below hW) i x hx
        obtain ⟨ad2, e2, hl2, _⟩ := I1.out i x hx
        rw [e] at e2
        injection e2 with e2
        subst e2
        exact ⟨ad, e, hl, fun e3 => by have := (hv _ e3).1; omega, hc⟩
      rw [← HNS.out] at FRW BU
      clear O I2 O2 hkn
      go_wp2_with fail
      go_region_law (first
        | (go_simp; go_at_call 48
           (refine Calls.mono (FRW.out _ _ ?_ OW.out) ?_)
           · first | exact Below.refl _ _ | exact (Below.refl _ _).drew
           rintro e w8 ⟨v8, rfl, ho8, hb8, ha8⟩
           obtain ⟨A8, c8, e8, i8⟩ := ints_of_own ho8
           subst e8
           have x8 : w8.cell? ⟨w.heap.size, 0, none⟩ = some (.slice A n c) := (hb8.cell (p := ⟨w.heap.size, 0, none⟩) zV).trans x0)
        | (go_simp; go_at_call 47
           (refine Calls.mono (BU.out _ _ _ _ _ ha8.ints i8) ?_)
           rintro e w9 ⟨v9, rfl, ho9, hb9⟩))
      all_goals
        have HB8 : Below V.heap.size wr w8 := ⟨hb8.os, hb8.tape, hb8.output, hb8.size, hb8.block⟩
        have F8 : Hid (Below w.heap.size w w8) := BV.out.trans ((BR.out.trans HB8).mono BV.out.size)
        have F9 : Hid (Below w.heap.size w w9) := F8.out.trans (hb9.mono F8.out.size)
        have O9 := Lib.hid ho9
        clear ho9 hb9 HB8 hb8 ha8 i8 ho8
        go_wp2_with fail
        go_ret
        exact ⟨_, rfl, own_less O9.out F8.out.size, F9.out⟩
end Go.Proofs.Ytjlobjgemhapaaa
