/- trial.Gone, and the functions that it hands in. -/
import Derived.Test.YtjlobjgemhapaaaTrWhite
namespace Go.Proofs.Ytjlobjgemhapaaa
set_option maxRecDepth 20000
open Go.RowKit Go.Maps Go.Sort Go.Shelf

set_option maxHeartbeats 2000000 in
theorem gmark_any {w : World} {A : Option Addr} {c : Nat} {g : List OB} (hg : GAt w A g) (hn : g.length ≤ 900) {bg : Nat} (h0 : w.cell? ⟨bg, 0, none⟩ = some (.slice A g.length c)) (n : Int) (hn1 : 1 ≤ n) (hn2 : n ≤ g.length) :
    Calls Try.prog 50 #[iV n, bV bg] w fun e w' => e = .returned (.bool (decide (markG g n > 0))) ∧ Below w.heap.size w w' := by
  obtain ⟨k, o, rfl, ho, hk⟩ := nth_obj hn1 hn2
  obtain ⟨a, sA, sc, rfl, hal, ⟨c0, c1, c2, c3, c4⟩, hs⟩ := hg k o ho
  rw [markG_at ho]
  have hl2 : (a.add (k * 5)).block < w.heap.size := by rw [Go.ChangeShapes.block_add]; exact hal
  clear hg ho hs c0 c1 c2 c3 hn1 hn2
  generalize g.length = nn at *
  generalize o.mark = x at *
  have e : decide (x > 0) = decide (0 < x) := rfl
  rw [e]
  go_enter Try.func50, Try.ntmps50
  go_wp2_with fail
  go_ret
  exact ⟨by simp, Below.refl _ _⟩
theorem named_any {w : World} {bh mb : Nat} (h1 : w.cell? ⟨bh, 0, none⟩ = some (.map (some mb))) {f : Int → Int} (hm : MapI w mb f) (n : Int) (hn : wf64 n) :
    Calls Try.prog 51 #[iV n, bV bh] w fun e w' => e = .returned (.bool (decide (f n > 0))) ∧ Below w.heap.size w w' := by
  have hget := hm.run_get hn
  clear hm hn
  generalize f n = y at *
  have e : decide (y > 0) = decide (0 < y) := rfl
  rw [e]
  go_enter Try.func51, Try.ntmps51
  go_wp2_with fail
  go_ret
  exact ⟨by simp, Below.refl _ _⟩
theorem kept_any {w : World} {bh mb : Nat} (h1 : w.cell? ⟨bh, 0, none⟩ = some (.map (some mb))) {f : Int → Int} (hm : MapI w mb f) (n : Int) (hn : wf64 n) :
    Calls Try.prog 52 #[iV n, bV bh] w fun e w' => e = .returned (.bool (f n == 0)) ∧ Below w.heap.size w w' := by
  have hget := hm.run_get hn
  clear hm hn
  generalize f n = y at *
  go_enter Try.func52, Try.ntmps52
  go_wp2_with fail
  go_ret
  exact ⟨rfl, Below.refl _ _⟩
theorem mark_yes {w : World} {A : Option Addr} {c : Nat} {g : List OB} (hg : GAt w A g) (hn : g.length ≤ 900) {bg : Nat} (h0 : w.cell? ⟨bg, 0, none⟩ = some (.slice A g.length c)) :
    YesAt w (.func (.func 50) #[] #[bV bg]) (fun n => 1 ≤ n ∧ n ≤ g.length) (fun n => decide (markG g n > 0)) :=
  ⟨_, _, rfl, fun _ _ => rfl, fun _ n hW hD => gmark_any (hg.below hW) hn ((hW.cell (p := ⟨bg, 0, none⟩) (World.block_lt_of_cell? w _ h0)).trans h0) n hD.1 hD.2⟩
theorem named_yes {w : World} {bh mb : Nat} (h1 : w.cell? ⟨bh, 0, none⟩ = some (.map (some mb))) {f : Int → Int} (hm : MapI w mb f) :
    YesAt w (.func (.func 51) #[] #[bV bh]) wf64 (fun n => decide (f n > 0)) :=
  ⟨_, _, rfl, fun _ _ => rfl, fun _ n hW hD => named_any ((hW.cell (p := ⟨bh, 0, none⟩) (World.block_lt_of_cell? w _ h1)).trans h1) (hm.keep (hW.block _ hm.lt)) n hD⟩
theorem kept_yes {w : World} {bh mb : Nat} (h1 : w.cell? ⟨bh, 0, none⟩ = some (.map (some mb))) {f : Int → Int} (hm : MapI w mb f) :
    YesAt w (.func (.func 52) #[] #[bV bh]) wf64 (fun n => f n == 0) :=
  ⟨_, _, rfl, fun _ _ => rfl, fun _ n hW hD => kept_any ((hW.cell (p := ⟨bh, 0, none⟩) (World.block_lt_of_cell? w _ h1)).trans h1) (hm.keep (hW.block _ hm.lt)) n hD⟩
def whitesL (g : List OB) (white : List Int) : List Int := Lib.compact (sortI (white.filter (looksB g)))
def marksL (g : List OB) (white : List Int) : List Int := (whitesL g white).filter fun n => decide (markG g n > 0)
def keptL (g : List OB) (white : List Int) : List Int := followL g (fun n => decide (cntF (whitesL g white) n > 0)) (marksL g white)
def goneL (g : List OB) (white : List Int) : List Int := (whitesL g white).filter fun n => cntF (keptL g white) n == 0
theorem whites_spec (g : List OB) (white : List Int) : (whitesL g white).Pairwise (· < ·) ∧ ∀ x, x ∈ whitesL g white ↔ x ∈ white ∧ looksB g x = true := by
  obtain ⟨h1, h2⟩ := compact_spec (sortI_rise (white.filter (looksB g)))
  refine ⟨h1, fun x => (h2 x).trans ?_⟩
  rw [(sortI_perm _).mem_iff, List.mem_filter]
theorem rise_nodup {l : List Int} (h : l.Pairwise (· < ·)) : l.Nodup := h.imp fun h e => by omega
theorem whites_len (g : List OB) (white : List Int) : (whitesL g white).length ≤ g.length := nums_short (rise_nodup (whites_spec g white).1) fun x hx => looks_range (((whites_spec g white).2 x).1 hx).2
theorem named_iff {l : List Int} (hl : l.length ≤ 4194304) (n : Int) : decide (cntF l n > 0) = decide (n ∈ l) := cnt_pos hl n
theorem kept_fol (g : List OB) (hn : g.length ≤ 900) (white : List Int) : (keptL g white).Nodup ∧ ∀ n, n ∈ keptL g white ↔ Fol g (fun n => decide (cntF (whitesL g white) n > 0)) (marksL g white) n :=
  follow_spec fun n h => by
    have h1 := h.whom
    have hl := whites_len g white
    rw [named_iff (by omega), decide_eq_true_iff] at h1
    exact looks_range (((whites_spec g white).2 n).1 h1).2
theorem kept_white (g : List OB) (hn : g.length ≤ 900) (white : List Int) {n : Int} (h : n ∈ keptL g white) : n ∈ whitesL g white := by
  have h1 := (((kept_fol g hn white).2 n).1 h).whom
  have hl := whites_len g white
  rwa [named_iff (by omega), decide_eq_true_iff] at h1
def GivesTwo (a b : List Int) (w : World) (e : Ending) (w' : World) : Prop := ∃ A1 c1 A2 c2, e = .returned (.tuple #[.slice A1 a.length c1, .slice A2 b.length c2]) ∧ IntsAt w' A1 a ∧ IntsAt w' A2 b ∧ Below w.heap.size w w' ∧ (∀ a, A1 = some a → w.heap.size ≤ a.block) ∧ ∀ a, A2 = some a → w.heap.size ≤ a.block
/-- What the stable sort makes of these marked ones. -/
def Sorts (w : World) (A : Option Addr) (n c : Nat) (M Y : List Int) : Prop :=
  ∀ (W : World) (v : Value) (bg base : Nat), Below w.heap.size w W → w.heap.size ≤ base → bg < base → W.cell? ⟨bg, 0, none⟩ = some (.slice A n c) → RowA base W v M →
    Calls Try.prog 53 #[v, .func (.func 54) #[] #[bV bg]] W fun e w' => e = .returned (.tuple #[]) ∧ RowA base w' v Y ∧ Frm (fun k => v.ownBlock = some k) W w'
theorem RowA.len {w : World} {base : Nat} {v : Value} {xs : List Int} (h : RowA base w v xs) : ∀ k, v.ownBlock = some k → base ≤ k ∧ k < w.heap.size := by
  rcases h with ⟨rfl, _⟩ | ⟨blk, cap, rfl, _, hb, hl, _⟩
  · intro k hk; cases hk
  · intro k hk
    have hk : blk = k := by simpa [Value.ownBlock] using hk
    omega
theorem RowA.less {w : World} {b b' : Nat} {v : Value} {xs : List Int} (h : RowA b w v xs) (hb : b' ≤ b) : RowA b' w v xs := by
  rcases h with h | ⟨blk, cap, e, h1, h2, h3, h4⟩
  · exact .inl h
  · exact .inr ⟨blk, cap, e, h1, Nat.le_trans hb h2, h3, h4⟩
set_option maxHeartbeats 8000000 in
theorem Gone_any {w : World} {A : Option Addr} {c : Nat} {g : List OB} (hg : GAt w A g) (hn : g.length ≤ 900) (hs : ∀ o ∈ g, o.slots.length ≤ 1048576) (hck : checkB g = true) {B : Option Addr} {d : Nat} {l : List Int} (hl : l.length ≤ 1099511627776) (h : IntsAt w B l) {Y : List Int} (hY : Sorts w A g.length c (marksL g l) Y) :
    Calls Try.prog 16 #[gV A g.length c, .slice B l.length d] w (GivesTwo (goneL g l) Y w) := by
  have CH : Hid (∀ W, Below w.heap.size w W → Calls Try.prog 18 #[gV A g.length c] W fun e w' => e = .returned (.bool true) ∧ Below W.heap.size W w') := fun W hW => by
    have := Check_any (c := c) (hg.below hW) (by omega)
    rwa [hck] at this
  have LK : Hid (∀ W, Below w.heap.size w W → Calls Try.prog 35 #[gV A g.length c] W fun e w' => ∃ b, e = .returned (.func (.func 87) #[] #[bV b]) ∧ YesAt w' (.func (.func 87) #[] #[bV b]) (fun _ => True) (looksB g) ∧ Below W.heap.size W w') := fun W hW => looksAt_any (hg.below hW) (by omega)
  have P0 : Hid (∀ W f, Below w.heap.size w W → YesAt W f (fun _ => True) (looksB g) → Calls Try.prog 42 #[.slice B l.length d, f] W fun e w' => ∃ v, e = .returned v ∧ RowA W.heap.size w' v (l.filter (looksB g)) ∧ Below W.heap.size W w') := fun W f hW hf => (pick_any hl (h.below hW) hf (fun _ _ => trivial)).mono fun e w' ⟨v, e1, ho, hb⟩ => ⟨v, e1, RowA.of_own ho, hb⟩
  have SO : Hid (∀ W v base, RowA base W v (l.filter (looksB g)) → Calls Try.prog 45 #[v] W fun e w' => e = .returned (.tuple #[]) ∧ RowA base w' v (sortI (l.filter (looksB g))) ∧ Frm (fun k => v.ownBlock = some k) W w') := fun _ _ _ hr => Sort_any hr (Nat.le_trans (List.length_filter_le _ _) hl)
  have CP : Hid (∀ W v base, RowA base W v (sortI (l.filter (looksB g))) → Calls Try.prog 49 #[v] W fun e w' => ∃ v', e = .returned v' ∧ RowA base w' v' (whitesL g l) ∧ v'.ownBlock = v.ownBlock ∧ Frm (fun k => v.ownBlock = some k) W w') := fun _ _ _ hr => Compact_any hr (by rw [(sortI_perm _).length_eq]; exact Nat.le_trans (List.length_filter_le _ _) hl)
  have WS := (whites_spec g l).2
  have WR : ∀ x ∈ whitesL g l, 1 ≤ x ∧ x ≤ g.length := fun x hx => looks_range ((WS x).1 hx).2
  have WL := whites_len g l
  have CN : Hid (∀ W (C : Option Addr) (k : Nat), IntsAt W C (whitesL g l) → Calls Try.prog 40 #[.slice C (whitesL g l).length k] W fun e w' => ∃ mb, e = .returned (.map (some mb)) ∧ MapI w' mb (cntF (whitesL g l)) ∧ W.heap.size ≤ mb ∧ Below W.heap.size W w') := fun _ _ _ hi => tcount_any (by omega) hi (fun x hx => by have := WR x hx; omega)
  have PM : Hid (∀ W (C : Option Addr) (k bg : Nat), Below w.heap.size w W → IntsAt W C (whitesL g l) → W.cell? ⟨bg, 0, none⟩ = some (.slice A g.length c) → Calls Try.prog 42 #[.slice C (whitesL g l).length k, .func (.func 50) #[] #[bV bg]] W fun e w' => ∃ v, e = .returned v ∧ RowA W.heap.size w' v (marksL g l) ∧ Below W.heap.size W w') := fun W C k bg hW hi h0 =>
    (pick_any (by omega) hi (mark_yes (hg.below hW) hn h0) WR).mono fun e w' ⟨v, e1, ho, hb⟩ => ⟨v, e1, RowA.of_own ho, hb⟩
  have MR : ∀ x ∈ marksL g l, 1 ≤ x ∧ x ≤ g.length := fun x hx => WR x (List.mem_filter.1 hx).1
  have ML : (marksL g l).length ≤ 900 := Nat.le_trans (List.length_filter_le _ _) (by omega)
  have FO : Hid (∀ W (C : Option Addr) (k bh mb : Nat), Below w.heap.size w W → IntsAt W C (marksL g l) → W.cell? ⟨bh, 0, none⟩ = some (.map (some mb)) → MapI W mb (cntF (whitesL g l)) → Calls Try.prog 34 #[gV A g.length c, .slice C (marksL g l).length k, .func (.func 51) #[] #[bV bh]] W (GivesI (keptL g l) W)) := fun W C k bh mb hW hi h1 hm =>
    (follow_any (hg.below hW) hn hs (named_yes h1 hm) (by omega) hi (fun x hx => by have := MR x hx; exact ⟨by omega, by omega⟩) (fun n => n ∈ whitesL g l) (fun n hx => ⟨(WR n hx).1, (WR n hx).2, fun y hy => ⟨(by have := looks_range (heldG_ok hck hy).2; exact ⟨by omega, by omega⟩), fun hw => by rwa [named_iff (by omega), decide_eq_true_iff] at hw⟩⟩) (fun x hx _ => (List.mem_filter.1 hx).1)).mono fun e w' h => GivesI.of h
  have KW : ∀ x ∈ keptL g l, 1 ≤ x ∧ x ≤ g.length := fun x hx => WR x (kept_white g hn l hx)
  have KL : (keptL g l).length ≤ g.length := nums_short (kept_fol g hn l).1 KW
  have CK : Hid (∀ W (C : Option Addr) (k : Nat), IntsAt W C (keptL g l) → Calls Try.prog 40 #[.slice C (keptL g l).length k] W fun e w' => ∃ mb, e = .returned (.map (some mb)) ∧ MapI w' mb (cntF (keptL g l)) ∧ W.heap.size ≤ mb ∧ Below W.heap.size W w') := fun _ _ _ hi => tcount_any (by omega) hi (fun x hx => by have := KW x hx; omega)
  have PG : Hid (∀ W (C : Option Addr) (k bh mb : Nat), IntsAt W C (whitesL g l) → W.cell? ⟨bh, 0, none⟩ = some (.map (some mb)) → MapI W mb (cntF (keptL g l)) → Calls Try.prog 42 #[.slice C (whitesL g l).length k, .func (.func 52) #[] #[bV bh]] W fun e w' => ∃ v, e = .returned v ∧ RowA W.heap.size w' v (goneL g l) ∧ Below W.heap.size W w') := fun _ _ _ _ _ hi h1 hm =>
    (pick_any (by omega) hi (kept_yes h1 hm) (fun x hx => by have := WR x hx; exact ⟨by omega, by omega⟩)).mono fun e w' ⟨v, e1, ho, hb⟩ => ⟨v, e1, RowA.of_own ho, hb⟩
  have SY := Lib.hid hY
  clear hg hs hck hl h hY WS WR WL MR ML KW KL
  generalize goneL g l = Gn at *
  generalize keptL g l = Kp at *
  generalize marksL g l = Mk at *
  generalize whitesL g l = Ws at *
  generalize l.filter (looksB g) = L0 at *
  generalize looksB g = lk at *
  generalize g.length = n at *
  generalize l.length = nl at *
  have hmf := hmf2
  go_enter Try.func16, Try.ntmps16
  go_upto_region 1 with fail
  refine at_world (fun V => Below w.heap.size w V ∧ V.cell? ⟨w.heap.size, 0, none⟩ = some (.slice A n c) ∧ w.heap.size < V.heap.size) ⟨(Below.refl _ _).alloc (Nat.le_refl _) _, by simp [go_sem], by simp⟩ (fun V HV => ?_)
  obtain ⟨hb, c0, zV⟩ := HV
  have BV := Lib.hid hb
  clear hb
  obtain ⟨bg, hbg⟩ : ∃ bg, bg = w.heap.size := ⟨_, rfl⟩
  have EBG := Lib.hid hbg
  rw [← hbg] at c0 zV ⊢
  clear hbg
  go_upto_region 4 with (first
    | (go_at_call 18; (with_reducible refine (CH.out V BV.out).mono ?_); rintro e w1 ⟨rfl, hb1⟩; have B1 := Lib.hid (BV.out.trans (hb1.mono BV.out.size)); have x1 := (hb1.cell (p := ⟨bg, 0, none⟩) zV).trans c0; have z1 := Nat.lt_of_lt_of_le zV hb1.size; clear hb1)
    | (go_at_call 35; (with_reducible refine (LK.out w1 B1.out).mono ?_); rintro e w2 ⟨b2, rfl, hy2, hb2⟩; have B2 := Lib.hid (B1.out.trans (hb2.mono B1.out.size)); have x2 := (hb2.cell (p := ⟨bg, 0, none⟩) z1).trans x1; have z2 := Nat.lt_of_lt_of_le z1 hb2.size; have Y2 := Lib.hid hy2; clear hb2 hy2)
    | (go_at_call 42; (with_reducible refine (P0.out w2 _ B2.out Y2.out).mono ?_); rintro e w3 ⟨v3, rfl, hr3, hb3⟩; have B3 := Lib.hid (B2.out.trans (hb3.mono B2.out.size)); have x3 := (hb3.cell (p := ⟨bg, 0, none⟩) z2).trans x2; have R3 := Lib.hid (hr3.less (Nat.succ_le_of_lt z2)); have z3 := Nat.lt_of_lt_of_le z2 hb3.size; clear hb3 hr3))
  clear x1 z1 x2 z2 Y2 B1 B2 c0 CH LK P0
  have FRB : Hid (∀ (W W' : World) (v : Value) (xs : List Int), Below w.heap.size w W → W.cell? ⟨bg, 0, none⟩ = some (.slice A n c) → RowA (bg + 1) W v xs → Frm (fun k => v.ownBlock = some k) W W' → Below w.heap.size w W' ∧ W'.cell? ⟨bg, 0, none⟩ = some (.slice A n c) ∧ bg < W'.heap.size) := fun W W' v xs hW hc hr hf => by
    have hl := hr.len
    have he := EBG.out
    have hz := World.block_lt_of_cell? W _ hc
    exact ⟨hW.trans (hf.below hW.size fun k hk => by have := hl k hk; omega), (hf.cell (p := ⟨bg, 0, none⟩) hz (fun e => by have := (hl bg e).1; omega)).trans hc, Nat.lt_of_lt_of_le hz hf.size⟩
  go_upto_region 6 with (first
    | (go_at_call 45; (with_reducible refine (SO.out w3 v3 _ R3.out).mono ?_); rintro e w4 ⟨rfl, hr4, hf4⟩; obtain ⟨hb4, x4, z4⟩ := FRB.out w3 w4 v3 _ B3.out x3 R3.out hf4; have B4 := Lib.hid hb4; have R4 := Lib.hid hr4; clear hb4 hr4 hf4)
    | (go_at_call 49; (with_reducible refine (CP.out w4 v3 _ R4.out).mono ?_); rintro e w5 ⟨v5, rfl, hr5, -, hf5⟩; obtain ⟨hb5, x5, z5⟩ := FRB.out w4 w5 v3 _ B4.out x4 R4.out hf5; have B5 := Lib.hid hb5; obtain ⟨A5, c5, rfl, hi5, -⟩ := hr5.ints; have I5 := Lib.hid hi5; clear hb5 hr5 hf5 hi5))
  clear x3 z3 x4 z4 B3 B4 R3 R4 SO CP
  go_upto_region 7 with (go_at_call 40; (with_reducible refine (CN.out w5 A5 c5 I5.out).mono ?_); rintro e w6 ⟨mb, rfl, hm6, hmb6, hb6⟩; have B6 := Lib.hid (B5.out.trans (hb6.mono B5.out.size)); have x6 := (hb6.cell (p := ⟨bg, 0, none⟩) z5).trans x5; have z6 := Nat.lt_of_lt_of_le z5 hb6.size; have I6 := Lib.hid (I5.out.below hb6); have M6 := Lib.hid hm6; clear hb6 hm6 hmb6)
  refine at_world (fun W => Below w.heap.size w W ∧ W.cell? ⟨bg, 0, none⟩ = some (.slice A n c) ∧ W.cell? ⟨w6.heap.size, 0, none⟩ = some (.map (some mb)) ∧ MapI W mb (cntF Ws) ∧ IntsAt W A5 Ws ∧ bg < W.heap.size ∧ w6.heap.size < W.heap.size) ⟨B6.out.alloc B6.out.size _, by simp [go_sem, z6, x6], by simp [go_sem], M6.out.keep (Below.heap_alloc _ _ _ M6.out.lt), I6.out.below ((Below.refl _ _).alloc (Nat.le_refl _) _), by simp; omega, by simp⟩ (fun W7 HW => ?_)
  obtain ⟨hb7, x7, y7, hm7, hi7, z7, q7⟩ := HW
  have B7 := Lib.hid hb7
  have M7 := Lib.hid hm7
  have I7 := Lib.hid hi7
  obtain ⟨bn, hbn⟩ : ∃ b, b = w6.heap.size := ⟨_, rfl⟩
  rw [← hbn] at y7 q7 ⊢
  clear hbn hb7 hm7 hi7 x5 z5 x6 z6 B5 B6 I5 I6 M6 CN
  go_upto_region 8 with (go_at_call 42; (with_reducible refine (PM.out W7 A5 c5 bg B7.out I7.out x7).mono ?_); rintro e w8 ⟨v8, rfl, hr8, hb8⟩; have B8 := Lib.hid (B7.out.trans (hb8.mono B7.out.size)); have x8 := (hb8.cell (p := ⟨bg, 0, none⟩) z7).trans x7; have y8 := (hb8.cell (p := ⟨bn, 0, none⟩) q7).trans y7; have z8 := Nat.lt_of_lt_of_le z7 hb8.size; have M8 := Lib.hid (M7.out.keep (hb8.block _ M7.out.lt)); have I8 := Lib.hid (I7.out.below hb8); have R8 := Lib.hid (hr8.less (Nat.succ_le_of_lt z7)); obtain ⟨A8, c8, rfl, hi8, -⟩ := hr8.ints; have J8 := Lib.hid hi8; clear hb8 hr8 hi8)
  clear x7 y7 z7 q7 B7 M7 I7 PM
  go_upto_region 9 with (first
    | (go_at_call 34; (with_reducible refine (FO.out w8 A8 c8 bn mb B8.out J8.out y8 M8.out).mono ?_); rintro e w9 ⟨A9, c9, rfl, hi9, hb9⟩; have B9 := Lib.hid (B8.out.trans (hb9.mono B8.out.size)); have x9 := (hb9.cell (p := ⟨bg, 0, none⟩) z8).trans x8; have z9 := Nat.lt_of_lt_of_le z8 hb9.size; have I9 := Lib.hid hi9; have W9 := Lib.hid (I8.out.below hb9); have R9 := Lib.hid (R8.out.below hb9); clear hi9 hb9)
    | (go_at_call 40; (with_reducible refine (CK.out w9 A9 c9 I9.out).mono ?_); rintro e w10 ⟨mk, rfl, hm10, hmk, hb10⟩; have B10 := Lib.hid (B9.out.trans (hb10.mono B9.out.size)); have x10 := (hb10.cell (p := ⟨bg, 0, none⟩) z9).trans x9; have z10 := Nat.lt_of_lt_of_le z9 hb10.size; have W10 := Lib.hid (W9.out.below hb10); have R10 := Lib.hid (R9.out.below hb10); have M10 := Lib.hid hm10; clear hb10 hm10 hmk))
  refine at_world (fun W => Below w.heap.size w W ∧ W.cell? ⟨bg, 0, none⟩ = some (.slice A n c) ∧ W.cell? ⟨w10.heap.size, 0, none⟩ = some (.map (some mk)) ∧ MapI W mk (cntF Kp) ∧ IntsAt W A5 Ws ∧ RowA (bg + 1) W (.slice A8 Mk.length c8) Mk ∧ bg < W.heap.size ∧ w10.heap.size < W.heap.size) ⟨B10.out.alloc B10.out.size _, by simp [go_sem, z10, x10], by simp [go_sem], M10.out.keep (Below.heap_alloc _ _ _ M10.out.lt), W10.out.below ((Below.refl _ _).alloc (Nat.le_refl _) _), R10.out.below ((Below.refl _ _).alloc (Nat.le_refl _) _), by simp; omega, by simp⟩ (fun V1 HW => ?_)
  obtain ⟨hb11, x11, y11, hm11, hi11, hr11, z11, q11⟩ := HW
  have B11 := Lib.hid hb11
  have R11 := Lib.hid hr11
  obtain ⟨bk, hbk⟩ : ∃ b, b = w10.heap.size := ⟨_, rfl⟩
  rw [← hbk] at y11 q11 ⊢
  have P11 := Lib.hid (PG.out V1 A5 c5 bk mk hi11 y11 hm11)
  clear hbk hb11 hm11 hi11 hr11 x8 y8 z8 x9 z9 x10 z10 B8 B9 B10 I8 J8 M8 R8 I9 W9 R9 W10 R10 M10 FO CK PG
  go_upto_region 10 with (go_at_call 42; (with_reducible refine P11.out.mono ?_); rintro e w12 ⟨v12, rfl, hr12, hb12⟩; have B12 := Lib.hid (B11.out.trans (hb12.mono B11.out.size)); have x12 := (hb12.cell (p := ⟨bg, 0, none⟩) z11).trans x11; have R12 := Lib.hid (R11.out.below hb12); have L12 := Lib.hid R11.out.len; have G12 := Lib.hid hr12; obtain ⟨A12, c12, rfl, -, -⟩ := hr12.ints; have S12 := Lib.hid (SY.out w12 _ bg (bg + 1) B12.out (by have := EBG.out; omega) (Nat.lt_succ_self _) x12 R12.out); clear hb12 hr12)
  go_wp2_with (go_at_call 53; (with_reducible refine S12.out.mono ?_); rintro e w13 ⟨rfl, hr13, hf13⟩; have R13 := Lib.hid hr13; have F13 := Lib.hid hf13; clear hr13 hf13)
  go_ret2
  obtain ⟨A', c', e', hi', hlo'⟩ := R13.out.ints
  have e' := e'
  injection e' with e1 e2 e3
  subst e1; subst e3
  have G13 := G12.out.frm F13.out (fun k hk e => by
    have h1 := (L12.out k e).2
    have h2 := (G12.out.len k hk).1
    omega)
  obtain ⟨A'', c'', e'', hi'', hlo''⟩ := G13.ints
  injection e'' with f1 f2 f3
  subst f1; subst f3
  refine ⟨A12, c12, A8, c8, ?_, hi'', hi', (FRB.out w12 w13 _ _ B12.out x12 R12.out F13.out).1, fun a ha => by have := hlo'' a ha; have := B11.out.size; omega, fun a ha => by have := hlo' a ha; have := EBG.out; omega⟩
  rw [← e2]
  rfl
theorem Gone_no {w : World} {A : Option Addr} {c : Nat} {g : List OB} (hg : GAt w A g) (hn : g.length ≤ 900) (hck : checkB g = false) {v : Value} :
    Calls Try.prog 16 #[gV A g.length c, v] w (GivesTwo [] [] w) := by
  have CH : Hid (∀ W, Below w.heap.size w W → Calls Try.prog 18 #[gV A g.length c] W fun e w' => e = .returned (.bool false) ∧ Below W.heap.size W w') := fun W hW => by
    have := Check_any (c := c) (hg.below hW) (by omega)
    rwa [hck] at this
  clear hg hck
  generalize g.length = n at *
  go_enter Try.func16, Try.ntmps16
  go_wp2_with (go_at_call 18; (with_reducible refine (CH.out _ ((Below.refl _ _).alloc (Nat.le_refl _) _)).mono ?_); rintro e w1 ⟨rfl, hb⟩; have B1 := Lib.hid (below_box hb); clear hb)
  go_ret2
  exact ⟨none, 0, none, 0, rfl, fun i x hx => by simp at hx, fun i x hx => by simp at hx, B1.out, (fun a ha => by cases ha), (fun a ha => by cases ha)⟩
end Go.Proofs.Ytjlobjgemhapaaa
