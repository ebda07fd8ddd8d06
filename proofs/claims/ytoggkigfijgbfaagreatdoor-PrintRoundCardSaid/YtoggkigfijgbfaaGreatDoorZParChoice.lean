/- choice: if, and what stands behind it. -/
import Derived.Test.YtoggkigfijgbfaaGreatDoorZAbb
import Derived.Test.YtoggkigfijgbfaaGreatDoorZParOp
namespace Go.Proofs.YtoggkigfijgbfaaGreatDoor.P5
set_option maxRecDepth 20000
open Go.RowKit Go.Maps

theorem bind_assoc (r : Res) (f g : Tree → List Tok → Res) : (r.bind f).bind g = r.bind fun x ts => (f x ts).bind g := by cases r <;> rfl
theorem bind_id (r : Res) : (r.bind fun x ts => .ok x ts) = r := by cases r <;> rfl
/-- What comes behind a condition. -/
def contF (k d : Nat) (x : Tree) (ts : List Tok) : Res :=
  if sgnT ts = [101, 108, 115, 101, 105, 102] then (parseF k (.choice [101, 108, 115, 101, 105, 102] (linT ts)) d ts).bind fun y ts3 => .ok (withB x (.cons y .nil)) ts3
  else if sgnT ts = [101, 108, 115, 101] then (parseF k (.block [101, 108, 115, 101]) d ts).bind fun e ts3 => (wantT [101, 110, 100] ts3).bind fun _ ts4 => .ok (withB x e) ts4
  else (wantT [101, 110, 100] ts).bind fun _ ts4 => .ok x ts4
theorem choice_cont (k d : Nat) (word : List UInt8) (line : Nat) (ts : List Tok) : parseF (k + 1) (.choice word line) d ts = (parseF k (.condition line word) d ts).bind fun s ts2 => contF k d s ts2 := rfl
/-- The loop's head in choice. -/
structure ChoiceRel (n p d b : Nat) (w : World) (R : Res) (m : Nat) (ts : List Tok) (c : Nat) (x : Tree) (W : Tree → Tree) (wr : World) : Prop where
  vc : VC c x wr (.tuple #[])
  pat : PAt wr p d ts
  past : Past [p, b] w wr
  le : m ≤ n
  eq : (contF m d x ts).bind (fun y ts => .ok (W y) ts) = R
  bc : b ≤ c
  cb : c = b ∨ w.heap.size ≤ c
  chain : ∀ (w' : World) (y : Tree), Past [p, c] wr w' → AtS c w' y (pV c) → isSt y = true → AtS b w' (W y) (pV b) ∧ isSt (W y) = true
theorem VC.at {c : Nat} {x : Tree} {w : World} {v : Value} (h : VC c x w v) : AtS c w x (pV c) ∧ isSt x = true := by
  obtain ⟨_, l, e, a, vb, vx, rfl, hs, he, ha⟩ := h
  exact ⟨at_st hs ⟨Nat.le_refl _, hs.lt⟩ rfl (he.past (Past.refl [] _) (by simp) (by omega)).1 rfl (ha.past (Past.refl [] _) (by simp) (by omega)) (sl_nil _ _), rfl⟩
/-- Behind a further branch the chain is longer by one. -/
theorem chain_more {p b c c' r : Nat} {W : Tree → Tree} {x : Tree} {wr w2 w3 : World} {v : Value} (hc : ∀ (w' : World) (y : Tree), Past [p, c] wr w' → AtS c w' y (pV c) → isSt y = true → AtS b w' (W y) (pV b) ∧ isSt (W y) = true)
    (hv : VC c x wr v) (hpc : p < c) (hcc : c < c') (hc' : wr.heap.size ≤ c') (h2 : Past [p, c'] wr w2) (hcw : c' < w2.heap.size) (hr : r = w2.heap.size) (T : TypeId) (h3 : w3 = (w2.setCell ⟨c, 7, none⟩ (.slice (some ⟨r, 0, none⟩) 1 1)).alloc (.cells #[pV c'] T)) :
    ∀ (w' : World) (y : Tree), Past [p, c'] w3 w' → AtS c' w' y (pV c') → isSt y = true → AtS b w' (W (withB x (.cons y .nil))) (pV b) ∧ isSt (W (withB x (.cons y .nil))) = true := by
  intro w' y hw hy hs
  obtain ⟨_, l, e, a, vb, vx, rfl, hS, he, ha⟩ := hv
  have hzr := h2.size
  have hz3 : w3.heap.size = w2.heap.size + 1 := by rw [h3]; simp
  have p23 : Past [p, c] w2 w3 := by rw [h3]; exact ((Past.refl [p, c] w2).setCell (.inl (by simp)) _).alloc _
  have P : Past [p, c] wr w' := by
    have a1 : Past [p, c] wr w2 := (Past.refl [p, c] wr).then h2 ab17
    exact (a1.trans p23).then hw ab17
  have hcl := hS.lt
  have S2 := hS.keep (h2.block c hcl (by simp; omega))
  have S3 : StC w3 c 6 l [] (.pointer none) vb (.pointer none) vx (.slice (some ⟨r, 0, none⟩) 1 1) := by
    rw [h3]; exact (S2.set7 _).keep (Below.heap_alloc _ _ _ (by have := S2.lt; simpa using this))
  have S' := S3.keep (hw.block c (by omega) (by simp; omega))
  have row : w'.cell? ⟨r, 0, none⟩ = some (pV c') := hw.cell_some (by rw [h3, hr]; simp [go_sem]) (by simp; omega)
  have hlt : r < w'.heap.size := World.block_lt_of_cell? w' _ row
  have hsz := P.size
  refine hc w' _ P (at_st S' ⟨Nat.le_refl _, S'.lt⟩ rfl (he.past P (by simp; omega) (by omega)).1 rfl (ha.past P (by simp; omega) (by omega)) ⟨some ⟨r, 0, none⟩, 1, rfl, r, pV c', rfl, ⟨by omega, hlt⟩, row, (at_keep (fun k hk => ⟨⟨by have := hk.1; omega, hk.2⟩, rfl⟩) y).1 _ hy, trivial⟩) rfl
set_option maxHeartbeats 8000000 in
theorem choice_step {n : Nat} (S : ∀ m, m ≤ n → Spec m) {w : World} {p d b l : Nat} {ts : List Tok} (h : PAt w p d ts) (hpb : p < b) (hN : NewSt w b l) (hD : parseF (n + 1) (.choice [105, 102] l) d ts ≠ .out) :
    Calls Tryz.prog 90 #[pV p, pV b] w (Ends p d [p, b] (parseF (n + 1) (.choice [105, 102] l) d ts) (VF b) w) := by
  have hpl := h.lt
  have hbl := hN.lt
  rw [choice_cont] at hD ⊢
  have D0 : parseF n (.condition l [105, 102]) d ts ≠ .out := bind_done hD
  have C0 := Lib.hid (fun (w : World) (h : PAt w p d ts) (hN : NewSt w b l) => (S n (Nat.le_refl _)).condition [105, 102] (by decide) h hpb hN D0)
  replace hN := Lib.hid hN
  generalize parseF n (.condition l [105, 102]) d ts = r0 at hD D0 C0 ⊢
  cases r0 with
  | out => exact absurd rfl D0
  | bad cc ll =>
    clear hD D0 S
    go_enter Tryz.func90, Tryz.ntmps90
    go_wp2_with (first
      | (go_at_call 144; (with_reducible refine (C0.out _ ?_ ?_).mono ?_); (· exact ab1); (· exact hN.out); rintro e wb hB; obtain ⟨b', rfl, hb1, hb2, hb3, hb4⟩ := hB))
    exact ⟨rfl, b', rfl, hb1, hb2, hb3, hb4⟩
  | ok x0 ts0 =>
    rw [ok_bind] at hD ⊢
    have hR0 := bind_id (contF n d x0 ts0)
    generalize hE0 : contF n d x0 ts0 = R at hD ⊢
    replace hR0 := hR0.trans hE0
    clear hE0
    replace hR0 := Lib.hid hR0
    have HD := Lib.hid hD
    clear hD D0
    go_enter Tryz.func90, Tryz.ntmps90
    go_wp2_with (first
      | (go_at_call 144; (with_reducible refine (C0.out _ ?_ ?_).mono ?_); (· exact ab1); (· exact hN.out); rintro e w0 ⟨v0, rfl, hv0, hp0, hw0⟩; obtain rfl := hv0.1))
    have REL0 := Lib.hid (ChoiceRel.mk (n := n) (W := fun y => y) hv0 hp0 hw0 (Nat.le_refl n) hR0.out (Nat.le_refl b) (.inl rfl) (fun w' y _ h1 h2 => ⟨h1, h2⟩) : ChoiceRel n p d b w R n ts0 b x0 (fun y => y) w0)
    clear hv0 hp0 hw0 hR0 C0
    go_loopg [1] n (fun m sv wr => ∃ (ts : List Tok) (c : Nat) (x : Tree) (W : Tree → Tree), sv = pV c ∧ Hid (ChoiceRel n p d b w R m ts c x W wr))
    case atStart => exact ⟨ts0, b, x0, _, rfl, REL0⟩
    case round =>
      obtain ⟨ts1, c, x1, W, rfl, hF⟩ := hrel
      clear REL0
      have hpr := hF.out.pat
      have hE := hF.out.eq
      have hle := hF.out.le
      have hbc := hF.out.bc
      have hcb := hF.out.cb
      have hzr := hF.out.past.size
      have hvc := hF.out.vc
      have hpc : p < c := by omega
      have hcl : c < wr.heap.size := by obtain ⟨_, _, _, _, _, _, _, hs, _⟩ := hvc; exact hs.lt
      replace hvc := Lib.hid hvc
      have HS : Hid (∀ m, m ≤ n → Spec m) := S
      clear S
      unfold contF at hE
      by_cases k1 : sgnT ts1 = [101, 108, 115, 101, 105, 102]
      · rw [if_pos k1, bind_assoc] at hE
        have q1 := beq_yes k1
        cases gk with
        | zero => exact (HD.out (by rw [← hE]; rfl)).elim
        | succ k =>
        rw [choice_cont, bind_assoc] at hE
        have D1 : parseF k (.condition (linT ts1) [101, 108, 115, 101, 105, 102]) d ts1 ≠ .out := fun e => HD.out (by rw [← hE, e]; rfl)
        have hX := stC_new wr 0 (linT ts1) [] (.pointer none) (.pointer none) (.pointer none) (.slice none 0 0) (.slice none 0 0) 51
        have hN : Hid (NewSt (wr.alloc (.cells #[iV 0, iV (linT ts1), sV [], .pointer none, .pointer none, .pointer none, .slice none 0 0, .slice none 0 0] 51)) wr.heap.size (linT ts1)) := hX
        have hplr : p < wr.heap.size := by omega
        have C1 := Lib.hid (fun (w' : World) (h : PAt w' p d ts1) (hN : NewSt w' wr.heap.size (linT ts1)) => (HS.out k (by omega)).condition [101, 108, 115, 101, 105, 102] (by decide) h hplr hN D1)
        generalize parseF k (.condition (linT ts1) [101, 108, 115, 101, 105, 102]) d ts1 = r1 at hE D1 C1
        clear k1 hX HS
        cases r1 with
        | out => exact absurd rfl D1
        | bad cc ll =>
          have hE : Res.bad cc ll = R := hE
          subst hE
          clear D1 HD
          go_wp2_with (first
            | (go_at_call 144; (with_reducible refine (C1.out _ ?_ ?_).mono ?_); (· exact ab1); (· exact hN.out); rintro e wb hB; obtain ⟨b', rfl, hb1, hb2, hb3, hb4⟩ := hB)
            | (go_at_call 84; (with_reducible refine (sign_any (d := d) (ts := ts1) ?_).mono ?_); (· exact ab1); rintro e wz ⟨rfl, hqz⟩; obtain rfl := hqz.symm)
            | (go_at_call 49; (with_reducible refine (line_any (d := d) (ts := ts1) ?_).mono ?_); (· exact ab1); rintro e wz ⟨rfl, hqz⟩; obtain rfl := hqz.symm))
          exact ⟨rfl, b', rfl, Nat.le_trans ab6 hb1, hb2, (hF.out.past.alloc _).then hb3 ab17, hb4⟩
        | ok x2 ts2 =>
          replace hE := Lib.hid hE
          clear D1
          go_wp2_with (first
            | (go_at_call 144; (with_reducible refine (C1.out _ ?_ ?_).mono ?_); (· exact ab1); (· exact hN.out); rintro e w0 ⟨v0, rfl, hv0, hp0, hw0⟩; obtain rfl := hv0.1; have hz2 := hw0.size; (try simp at hz2); obtain ⟨_, lx, ex, ax, vbx, vxx, hxx, hSx, hex, hax⟩ := hvc.out; have SC := hSx.keep ((((Past.refl [p, wr.heap.size] wr).alloc (.cells #[iV 0, iV (linT ts1), sV [], .pointer none, .pointer none, .pointer none, .slice none 0 0, .slice none 0 0] 51)).trans hw0).block c hcl (by simp; omega)); have x7 := SC.c7; have y7 := SC.warm 7; have hc0 := SC.lt)
            | (go_at_call 84; (with_reducible refine (sign_any (d := d) (ts := ts1) ?_).mono ?_); (· exact ab1); rintro e wz ⟨rfl, hqz⟩; obtain rfl := hqz.symm)
            | (go_at_call 49; (with_reducible refine (line_any (d := d) (ts := ts1) ?_).mono ?_); (· exact ab1); rintro e wz ⟨rfl, hqz⟩; obtain rfl := hqz.symm))
          have PW := ((hF.out.past.alloc _).then hw0 ab17 : Past [p, b] w w0)
          have PR := ((Past.refl [p, wr.heap.size] wr).alloc (.cells #[iV 0, iV (linT ts1), sV [], .pointer none, .pointer none, .pointer none, .slice none 0 0, .slice none 0 0] 51)).trans hw0
          have CH := chain_more hF.out.chain hvc.out hpc hcl (Nat.le_refl _) PR (by omega) rfl 48 rfl
          have hV3 : VC wr.heap.size x2 ((w0.setCell ⟨c, 7, none⟩ (.slice (some ⟨w0.heap.size, 0, none⟩) 1 1)).alloc (.cells #[pV wr.heap.size] 48)) (.tuple #[]) := by
            obtain ⟨_, l2, e2, a2, vb2, vx2, rfl, hS2, he2, ha2⟩ := hv0
            have P2 : Past [c] w0 ((w0.setCell ⟨c, 7, none⟩ (.slice (some ⟨w0.heap.size, 0, none⟩) 1 1)).alloc (.cells #[pV wr.heap.size] 48)) := ((Past.refl [c] w0).setCell (.inl (by simp)) _).alloc _
            exact ⟨rfl, l2, e2, a2, vb2, vx2, rfl, hS2.keep (P2.block _ hS2.lt (by simp; omega)), he2.past P2 (by simp; omega) (Nat.le_refl _), ha2.past P2 (by simp; omega) (Nat.le_refl _)⟩
          go_roundg k
          case measure => omega
          case rel => exact ⟨ts2, wr.heap.size, x2, _, rfl, Lib.hid (ChoiceRel.mk (W := fun y => W (withB x1 (.cons y .nil))) hV3 ((hp0.set (by omega) _).alloc _) ((PW.setCell (by simp; omega) _).alloc _) (by omega) (by have h := hE.out; rw [ok_bind] at h; exact h) (by omega) (.inr hzr) CH)⟩
      · rw [if_neg k1] at hE
        have q1 := beq_no k1
        clear k1
        by_cases k2 : sgnT ts1 = [101, 108, 115, 101]
        · rw [if_pos k2, bind_assoc] at hE
          have q2 := beq_yes k2
          clear k2
          have D1 : parseF gk (.block [101, 108, 115, 101]) d ts1 ≠ .out := fun e => HD.out (by rw [← hE, e]; rfl)
          have C1 := Lib.hid (fun (w' : World) (h : PAt w' p d ts1) => (HS.out gk hle).block [101, 108, 115, 101] (by decide) h D1)
          generalize parseF gk (.block [101, 108, 115, 101]) d ts1 = r1 at hE D1 C1
          clear HS
          cases r1 with
          | out => exact absurd rfl D1
          | bad cc ll =>
            have hE : Res.bad cc ll = R := hE
            subst hE
            clear D1 HD
            go_wp2_with (first
              | (go_at_call 86; (with_reducible refine (C1.out _ ?_).mono ?_); (· exact ab1); rintro e wb hB; obtain ⟨b', rfl, hb1, hb2, hb3, hb4⟩ := hB)
              | (go_at_call 84; (with_reducible refine (sign_any (d := d) (ts := ts1) ?_).mono ?_); (· exact ab1); rintro e wz ⟨rfl, hqz⟩; obtain rfl := hqz.symm))
            exact ⟨rfl, b', rfl, Nat.le_trans hzr hb1, hb2, hF.out.past.trans (hb3.mono (by simp)), hb4⟩
          | ok x2 ts2 =>
            rw [ok_bind, bind_assoc] at hE
            have D2 : wantT [101, 110, 100] ts2 ≠ .out := fun e => HD.out (by rw [← hE, e]; rfl)
            have C2 := Lib.hid (fun (w' : World) (h : PAt w' p d ts2) => want_any [101, 110, 100] (by decide) h)
            generalize wantT [101, 110, 100] ts2 = r2 at hE D2 C2
            clear D1
            cases r2 with
            | out => exact absurd rfl D2
            | bad cc ll =>
              have hE : Res.bad cc ll = R := hE
              subst hE
              clear D2 HD
              go_wp2_with (first
                | (go_at_call 86; (with_reducible refine (C1.out _ ?_).mono ?_); (· exact ab1); rintro e w2 ⟨v2, rfl, hv2, hp2, hw2⟩; have hz2 := hw2.size; (try simp at hz2); obtain ⟨A2, c2, rfl⟩ := hv2.sl; obtain ⟨_, lx, ex, ax, vbx, vxx, hxx, hSx, hex, hax⟩ := hvc.out; have SC := hSx.keep (hw2.block c hcl (by simp; omega)); have x7 := SC.c7; have y7 := SC.warm 7)
                | (go_at_call 87; (with_reducible refine (C2.out _ ?_).mono ?_); (· exact ab1); rintro e wb hB; obtain ⟨b', rfl, hb1, hb2, hb3, hb4⟩ := hB)
                | (go_at_call 84; (with_reducible refine (sign_any (d := d) (ts := ts1) ?_).mono ?_); (· exact ab1); rintro e wz ⟨rfl, hqz⟩; obtain rfl := hqz.symm))
              exact ⟨rfl, b', rfl, Nat.le_trans (by simp; omega) hb1, hb2, ((hF.out.past.trans (hw2.mono (by simp))).setCell (by simp; omega) _).trans (hb3.mono (by simp)), hb4⟩
            | ok x3 ts3 =>
              rw [ok_bind, ok_bind] at hE
              subst hE
              clear D2 HD
              go_wp2_with (first
                | (go_at_call 86; (with_reducible refine (C1.out _ ?_).mono ?_); (· exact ab1); rintro e w2 ⟨v2, rfl, hv2, hp2, hw2⟩; have hz2 := hw2.size; (try simp at hz2); obtain ⟨A2, c2, rfl⟩ := hv2.sl; obtain ⟨_, lx, ex, ax, vbx, vxx, hxx, hSx, hex, hax⟩ := hvc.out; have SC := hSx.keep (hw2.block c hcl (by simp; omega)); have x7 := SC.c7; have y7 := SC.warm 7)
                | (go_at_call 87; (with_reducible refine (C2.out _ ?_).mono ?_); (· exact ab1); rintro e w3 ⟨v3, rfl, rfl, hp3, hw3⟩; have hz3 := hw3.size; (try simp at hz3))
                | (go_at_call 84; (with_reducible refine (sign_any (d := d) (ts := ts1) ?_).mono ?_); (· exact ab1); rintro e wz ⟨rfl, hqz⟩; obtain rfl := hqz.symm))
              refine bodyPost_end (results_none rfl _ _ _) rfl ?_
              have Pc : Past [p, c] wr w3 := (((Past.refl [p, c] wr).trans (hw2.mono (by simp))).setCell (.inl (by simp)) _).trans (hw3.mono (by simp))
              have Pd : Past [p, c] w2 w3 := ((Past.refl [p, c] w2).setCell (p := ⟨c, 7, none⟩) (.inl (by simp)) (.slice A2 (lenT x2) c2)).trans (hw3.mono (by simp))
              have S3 := (SC.set7 (.slice A2 (lenT x2) c2)).keep (hw3.block c (by simpa using SC.lt) (by simp; omega))
              have N := at_st (a := .nil) (b := ex) (c := .nil) (x := ax) (y := x2) (S := Since c w3) S3 ⟨Nat.le_refl _, S3.lt⟩ rfl (hex.past Pc (by simp; omega) (by omega)).1 rfl (hax.past Pc (by simp; omega) (by omega)) (hv2.past Pd (by simp; omega) (by omega))
              have Z := hF.out.chain w3 _ Pc N rfl
              refine ⟨_, rfl, ⟨rfl, ?_⟩, hp3, ((hF.out.past.trans (hw2.mono (by simp))).setCell (by simp; omega) _).trans (hw3.mono (by simp))⟩
              rw [hxx]
              exact Z
        · rw [if_neg k2, bind_assoc] at hE
          have q2 := beq_no k2
          clear k2 HS
          have D2 : wantT [101, 110, 100] ts1 ≠ .out := fun e => HD.out (by rw [← hE, e]; rfl)
          have C2 := Lib.hid (fun (w' : World) (h : PAt w' p d ts1) => want_any [101, 110, 100] (by decide) h)
          generalize wantT [101, 110, 100] ts1 = r2 at hE D2 C2
          cases r2 with
          | out => exact absurd rfl D2
          | bad cc ll =>
            have hE : Res.bad cc ll = R := hE
            subst hE
            clear D2 HD
            go_wp2_with (first
              | (go_at_call 87; (with_reducible refine (C2.out _ ?_).mono ?_); (· exact ab1); rintro e wb hB; obtain ⟨b', rfl, hb1, hb2, hb3, hb4⟩ := hB)
              | (go_at_call 84; (with_reducible refine (sign_any (d := d) (ts := ts1) ?_).mono ?_); (· exact ab1); rintro e wz ⟨rfl, hqz⟩; obtain rfl := hqz.symm))
            exact ⟨rfl, b', rfl, Nat.le_trans hzr hb1, hb2, hF.out.past.trans (hb3.mono (by simp)), hb4⟩
          | ok x3 ts3 =>
            rw [ok_bind, ok_bind] at hE
            subst hE
            clear D2 HD
            go_wp2_with (first
              | (go_at_call 87; (with_reducible refine (C2.out _ ?_).mono ?_); (· exact ab1); rintro e w3 ⟨v3, rfl, rfl, hp3, hw3⟩; have hz3 := hw3.size; (try simp at hz3))
              | (go_at_call 84; (with_reducible refine (sign_any (d := d) (ts := ts1) ?_).mono ?_); (· exact ab1); rintro e wz ⟨rfl, hqz⟩; obtain rfl := hqz.symm))
            refine bodyPost_end (results_none rfl _ _ _) rfl ?_
            have A := VC.at hvc.out
            have Z := hF.out.chain w3 x1 (hw3.mono (by simp)) (at_past A.1 hw3 (by simp; omega) (Nat.le_refl _)) A.2
            exact ⟨_, rfl, ⟨rfl, Z⟩, hp3, hF.out.past.trans (hw3.mono (by simp))⟩
end Go.Proofs.YtoggkigfijgbfaaGreatDoor.P5
