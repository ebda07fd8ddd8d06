/- tallowlaw12.works: the chapter's rows come out. -/
import Derived.Test.YtjlobjgemhapaaaTrFour
import Derived.Test.YtjlobjgemhapaaaStC
namespace Go.Proofs.Ytjlobjgemhapaaa
set_option maxRecDepth 20000
open Go.RowKit Go.Maps Go.Sort Go.Shelf

def fourM : List OB := [tabT 1 [2] 0, tabT 1 [1, 3] 5, tabT 1 [] 0, tabT 1 [4] 0]
def fourC : List OB := [tabT 2 [2] 0, tabT 1 [1, 3] 5, tabT 1 [] 0, tabT 1 [4] 0]
theorem sortI_eq {l k : List Int} (hp : k.Perm l) (hs : k.Pairwise (· ≤ ·)) : sortI l = k :=
  List.Perm.eq_of_pairwise (le := fun x y => x ≤ y) (fun _ _ _ _ h1 h2 => by omega) (sortI_rise l) hs ((sortI_perm l).trans hp.symm)
theorem white_eq {g : List OB} {l k : List Int} {u : List Int} (hu : whiteU g l = u) (hp : k.Perm u) (hs : k.Pairwise (· ≤ ·)) : whiteL g l = k := by
  unfold whiteL; rw [hu]; exact sortI_eq hp hs
theorem markS_eq {g : List OB} {M Y : List Int} (hp : Y.Perm M) (hs : Y.Pairwise fun x y => leM g x y = true) : markS g M = Y := (markS_unique hp hs).symm
theorem whites_eq {g : List OB} {l u k : List Int} (hu : l.filter (looksB g) = u) (hp : k.Perm u) (hs : k.Pairwise (· ≤ ·)) : whitesL g l = Lib.compact k := by
  unfold whitesL; rw [hu, sortI_eq hp hs]
theorem four_whites : whitesL fourM [1, 2, 3, 4] = [1, 2, 3, 4] := (whites_eq (u := [1, 2, 3, 4]) (k := [1, 2, 3, 4]) (by kernel_rfl) (List.Perm.refl _) (by decide)).trans (by kernel_rfl)
theorem four_marks : marksL fourM [1, 2, 3, 4] = [2] := by unfold marksL; rw [four_whites]; kernel_rfl
theorem four_kept : keptL fourM [1, 2, 3, 4] = [2, 1, 3] := by unfold keptL; rw [four_marks, four_whites]; kernel_rfl
theorem four_gone : goneL fourM [1, 2, 3, 4] = [4] := by unfold goneL; rw [four_kept, four_whites]; kernel_rfl
theorem four_sort : markS fourM [2] = [2] := markS_eq (List.Perm.refl _) (by simp)
structure FourI (w W w0 : World) (bg b : Nat) (h : List OB) : Prop where
  box : W.cell? ⟨bg, 0, none⟩ = some (.slice (some ⟨b, 0, none⟩) 4 4)
  objs : HAt w0 W b h
  lo : Below w0.heap.size w0 W
  below : Below w.heap.size w W
  own : w.heap.size ≤ b
  lt : b < W.heap.size
  ne : bg ≠ b
theorem FourI.keep {w W W' w0 : World} {bg b : Nat} {h : List OB} (F : FourI w W w0 bg b h) (hb : Below W.heap.size W W') : FourI w W' w0 bg b h :=
  ⟨(hb.cell (p := ⟨bg, 0, none⟩) (World.block_lt_of_cell? W _ F.box)).trans F.box, F.objs.keep (hb.block _ F.lt), F.lo.trans (hb.mono F.lo.size), F.below.trans (hb.mono F.below.size), F.own, Nat.lt_of_lt_of_le F.lt hb.size, F.ne⟩
theorem FourI.graph {w W w0 : World} {bg b : Nat} {h : List OB} (F : FourI w W w0 bg b h) : GAt W (some ⟨b, 0, none⟩) h := F.objs.graph F.lo
theorem FourI.setAt {w W w0 : World} {bg b j : Nat} {h h' : List OB} {x : Value} (F : FourI w W w0 bg b h) (hh : HAt w0 (W.setCell ⟨b, j, none⟩ x) b h') : FourI w (W.setCell ⟨b, j, none⟩ x) w0 bg b h' := by
  have hb : w0.heap.size ≤ b := F.objs.1
  exact ⟨(World.cell?_setCell_far _ _ _ _ (show b ≠ bg from Ne.symm F.ne)).trans F.box, hh, F.lo.setCell (p := ⟨b, j, none⟩) hb _, F.below.setCell (p := ⟨b, j, none⟩) F.own _, F.own, by simpa using F.lt, F.ne⟩
theorem seen_at {h : List OB} {l R : List Int} (hn : h.length = 4) (hs : ∀ o ∈ h, o.slots.length ≤ 1048576) (hR : seenL h l = R) (hw : ∀ x ∈ l, wf64 x) (hl : l.length ≤ 100) (n d : Nat) (hd : n = l.length) {W : World} {b : Nat} {B : Option Addr} (hg : GAt W (some ⟨b, 0, none⟩) h) (hi : IntsAt W B l) :
    Calls Try.prog 12 #[gV (some ⟨b, 0, none⟩) 4 4, .slice B n d] W (GivesI R W) := by
  have := Seen_any (c := 4) (d := d) hg (by omega) hs (by omega) hi hw
  rw [hn, hR, ← hd] at this
  exact this.mono fun e w' h => GivesI.of h
theorem white_at {h : List OB} {l R : List Int} (hn : h.length = 4) (hs : ∀ o ∈ h, o.slots.length ≤ 1048576) (hR : whiteL h l = R) (hw : ∀ x ∈ l, wf64 x) (hl : l.length ≤ 100) (n d : Nat) (hd : n = l.length) {W : World} {b : Nat} {B : Option Addr} (hg : GAt W (some ⟨b, 0, none⟩) h) (hi : IntsAt W B l) :
    Calls Try.prog 14 #[gV (some ⟨b, 0, none⟩) 4 4, .slice B n d] W (GivesI R W) := by
  have := White_any (c := 4) (d := d) hg (by omega) hs (by omega) hi hw
  rw [hn, hR, ← hd] at this
  exact this
theorem marks_ok {g : List OB} (l : List Int) : (∀ x ∈ marksL g l, 1 ≤ x ∧ x ≤ g.length) ∧ (marksL g l).Pairwise (· < ·) :=
  ⟨fun x hx => looks_range (((whites_spec g l).2 x).1 (List.mem_filter.1 hx).1).2, (whites_spec g l).1.filter _⟩
/-- Gone, as it is called: all that it asks is given. -/
theorem Gone_whole {w : World} {A : Option Addr} {c : Nat} {g : List OB} (hg : GAt w A g) (hn : g.length ≤ 900) (hs : ∀ o ∈ g, o.slots.length ≤ 1048576) (hck : checkB g = true) {B : Option Addr} {d : Nat} {l : List Int} (hl : l.length ≤ 1099511627776) (h : IntsAt w B l) :
    Calls Try.prog 16 #[gV A g.length c, .slice B l.length d] w (GivesTwo (goneL g l) (markS g (marksL g l)) w) :=
  Gone_any hg hn hs hck hl h (sorts_marks hg hn (marks_ok l).1 (marks_ok l).2)
theorem gone_at {W : World} {b d : Nat} {B : Option Addr} (hg : GAt W (some ⟨b, 0, none⟩) fourM) (hi : IntsAt W B [1, 2, 3, 4]) :
    Calls Try.prog 16 #[gV (some ⟨b, 0, none⟩) 4 4, .slice B 4 d] W (GivesTwo [4] [2] W) := by
  have := Gone_whole (c := 4) (d := d) hg (by decide) (by decide) (by kernel_rfl) (by decide) hi
  rw [four_gone, four_marks, four_sort] at this
  exact this
theorem lints_at {A B : Option Addr} {c d n m : Nat} (xs : List Int) (hn : n = xs.length) (hm : m = xs.length) {w : World} (hl : xs.length ≤ 100) (ha : IntsAt w A xs) (hb : IntsAt w B xs) :
    Calls Try.prog 23 #[.slice A n c, .slice B m d] w fun e w' => e = .returned (.bool true) ∧ Below w.heap.size w w' := by
  subst hn; subst hm; exact lints_any A B c d xs w (by omega) ha hb
theorem ints_set {w : World} {A : Option Addr} {l : List Int} (h : IntsAt w A l) {p : Addr} (hp : ∀ a, A = some a → p.block ≠ a.block) (v : Value) : IntsAt (w.setCell p v) A l := fun i q hq => by
  obtain ⟨ad, e, hl, c0⟩ := h i q hq
  have hne := hp ad e
  exact ⟨ad, e, by simpa using hl, (World.cell?_setCell_far _ _ _ _ (by rw [Go.ChangeShapes.block_add]; exact hne)).trans c0⟩
set_option maxHeartbeats 8000000 in
theorem works_true (w : World) : Calls Try.prog 10 #[] w fun e w' => e = .returned (.bool true) ∧ Below w.heap.size w w' := by
  have hmf := hmf2
  go_enter Try.func10, Try.ntmps10
  go_upto_region 2 with (go_at_call 25; (with_reducible refine (four_any w).mono ?_); rintro e w1' ⟨b, rfl, hb0, ⟨w0, hl0, hl1, hh⟩, hb1⟩; have HB := Lib.hid hb1; have HL := Lib.hid hl1; have HH0 := Lib.hid hh; have hblt : b < w1'.heap.size := World.block_lt_of_cell? w1' ⟨b, 0 * 5, none⟩ (by obtain ⟨_, _, hc⟩ := hh; obtain ⟨sA, sc, hc, _⟩ := hc 0 _ rfl; exact hc.1); clear hb1 hl1 hh hl0)
  refine at_world (fun V => FourI w V w0 w1'.heap.size b fourT) ⟨by simp [go_sem], HH0.out.keep (Below.heap_alloc _ _ _ hblt), HL.out.alloc HL.out.size _, HB.out.alloc HB.out.size _, hb0, by simp; omega, by omega⟩ (fun w1 hF => ?_)
  obtain ⟨bg, hbg⟩ : ∃ x, x = w1'.heap.size := ⟨_, rfl⟩
  rw [← hbg] at hF ⊢
  have F1 := Lib.hid hF
  have x1 := hF.box
  clear hbg hF HB HL HH0 hblt
  go_upto_region 4 with (first
    | (go_at_call 23; have HH := lints_at (A := A12) (c := c12) (d := 1) [4] rfl rfl (by decide) (I12.out.below ((Below.refl _ _).alloc (Nat.le_refl _) (.cells (([4] : List Int).map (Value.int .i64)).toArray 3 (0, 0)))) (ints_lit [4] w12 3); (refine HH.mono ?_); clear HH; rintro e w13 ⟨rfl, hb⟩; have F13 := Lib.hid (F12.out.keep (below_box hb)); have x13 := F13.out.box; clear hb)
    | (go_at_call 14; have HH := white_at (h := fourT) (by decide) (by decide) (R := [4]) (white_eq (u := [4]) (by kernel_rfl) (by decide) (by decide)) (by intro x hx; simp at hx; unfold wf64; omega) (by decide) 1 1 rfl ((F11.out.keep ((Below.refl _ _).alloc (Nat.le_refl _) (.cells (([4] : List Int).map (Value.int .i64)).toArray 3 (0, 0)))).graph) (ints_lit [4] w11 3); (refine HH.mono ?_); clear HH; rintro e w12 ⟨A12, c12, rfl, hi, hb⟩; have I12 := Lib.hid hi; have F12 := Lib.hid (F11.out.keep (below_box hb)); have x12 := F12.out.box; clear hi hb)
    | (go_at_call 23; have HH := lints_none A10 none c10 0 w10; (refine HH.mono ?_); clear HH; rintro e w11 ⟨rfl, hb⟩; have F11 := Lib.hid (F10.out.keep hb); have x11 := F11.out.box; clear hb)
    | (go_at_call 14; have HH := white_at (h := fourT) (by decide) (by decide) (R := []) (white_eq (u := []) (by kernel_rfl) (by decide) (by decide)) (by intro x hx; simp at hx; unfold wf64; omega) (by decide) 1 1 rfl ((F9.out.keep ((Below.refl _ _).alloc (Nat.le_refl _) (.cells (([3] : List Int).map (Value.int .i64)).toArray 3 (0, 0)))).graph) (ints_lit [3] w9 3); (refine HH.mono ?_); clear HH; rintro e w10 ⟨A10, c10, rfl, hi, hb⟩; have I10 := Lib.hid hi; have F10 := Lib.hid (F9.out.keep (below_box hb)); have x10 := F10.out.box; clear hi hb)
    | (go_at_call 23; have HH := lints_at (A := A8) (c := c8) (d := 3) [1, 2, 3] rfl rfl (by decide) (I8.out.below ((Below.refl _ _).alloc (Nat.le_refl _) (.cells (([1, 2, 3] : List Int).map (Value.int .i64)).toArray 3 (0, 0)))) (ints_lit [1, 2, 3] w8 3); (refine HH.mono ?_); clear HH; rintro e w9 ⟨rfl, hb⟩; have F9 := Lib.hid (F8.out.keep (below_box hb)); have x9 := F9.out.box; clear hb)
    | (go_at_call 14; have HH := white_at (h := fourT) (by decide) (by decide) (R := [1, 2, 3]) (white_eq (u := [2, 1, 3]) (by kernel_rfl) (by decide) (by decide)) (by intro x hx; simp at hx; unfold wf64; omega) (by decide) 1 1 rfl ((F7.out.keep ((Below.refl _ _).alloc (Nat.le_refl _) (.cells (([2] : List Int).map (Value.int .i64)).toArray 3 (0, 0)))).graph) (ints_lit [2] w7 3); (refine HH.mono ?_); clear HH; rintro e w8 ⟨A8, c8, rfl, hi, hb⟩; have I8 := Lib.hid hi; have F8 := Lib.hid (F7.out.keep (below_box hb)); have x8 := F8.out.box; clear hi hb)
    | (go_at_call 23; have HH := lints_at (A := A6) (c := c6) (d := 1) [4] rfl rfl (by decide) (I6.out.below ((Below.refl _ _).alloc (Nat.le_refl _) (.cells (([4] : List Int).map (Value.int .i64)).toArray 3 (0, 0)))) (ints_lit [4] w6 3); (refine HH.mono ?_); clear HH; rintro e w7 ⟨rfl, hb⟩; have F7 := Lib.hid (F6.out.keep (below_box hb)); have x7 := F7.out.box; clear hb)
    | (go_at_call 12; have HH := seen_at (h := fourT) (by decide) (by decide) (R := [4]) (by kernel_rfl) (by intro x hx; simp at hx; unfold wf64; omega) (by decide) 4 4 rfl ((F5.out.keep ((Below.refl _ _).alloc (Nat.le_refl _) (.cells (([4, 4, 9, 0] : List Int).map (Value.int .i64)).toArray 3 (0, 0)))).graph) (ints_lit [4, 4, 9, 0] w5 3); (refine HH.mono ?_); clear HH; rintro e w6 ⟨A6, c6, rfl, hi, hb⟩; have I6 := Lib.hid hi; have F6 := Lib.hid (F5.out.keep (below_box hb)); have x6 := F6.out.box; clear hi hb)
    | (go_at_call 23; have HH := lints_at (A := A4) (c := c4) (d := 3) [3, 1, 2] rfl rfl (by decide) (I4.out.below ((Below.refl _ _).alloc (Nat.le_refl _) (.cells (([3, 1, 2] : List Int).map (Value.int .i64)).toArray 3 (0, 0)))) (ints_lit [3, 1, 2] w4 3); (refine HH.mono ?_); clear HH; rintro e w5 ⟨rfl, hb⟩; have F5 := Lib.hid (F4.out.keep (below_box hb)); have x5 := F5.out.box; clear hb)
    | (go_at_call 12; have HH := seen_at (h := fourT) (by decide) (by decide) (R := [3, 1, 2]) (by kernel_rfl) (by intro x hx; simp at hx; unfold wf64; omega) (by decide) 2 2 rfl ((F3.out.keep ((Below.refl _ _).alloc (Nat.le_refl _) (.cells (([3, 1] : List Int).map (Value.int .i64)).toArray 3 (0, 0)))).graph) (ints_lit [3, 1] w3 3); (refine HH.mono ?_); clear HH; rintro e w4 ⟨A4, c4, rfl, hi, hb⟩; have I4 := Lib.hid hi; have F4 := Lib.hid (F3.out.keep (below_box hb)); have x4 := F4.out.box; clear hi hb)
    | (go_at_call 23; have HH := lints_at (A := A2) (c := c2) (d := 3) [2, 1, 3] rfl rfl (by decide) (I2.out.below ((Below.refl _ _).alloc (Nat.le_refl _) (.cells (([2, 1, 3] : List Int).map (Value.int .i64)).toArray 3 (0, 0)))) (ints_lit [2, 1, 3] w2 3); (refine HH.mono ?_); clear HH; rintro e w3 ⟨rfl, hb⟩; have F3 := Lib.hid (F2.out.keep (below_box hb)); have x3 := F3.out.box; clear hb)
    | (go_at_call 12; have HH := seen_at (h := fourT) (by decide) (by decide) (R := [2, 1, 3]) (by kernel_rfl) (by intro x hx; simp at hx; unfold wf64; omega) (by decide) 1 1 rfl ((F1.out.keep ((Below.refl _ _).alloc (Nat.le_refl _) (.cells (([2] : List Int).map (Value.int .i64)).toArray 3 (0, 0)))).graph) (ints_lit [2] w1 3); (refine HH.mono ?_); clear HH; rintro e w2 ⟨A2, c2, rfl, hi, hb⟩; have I2 := Lib.hid hi; have F2 := Lib.hid (F1.out.keep (below_box hb)); have x2 := F2.out.box; clear hi hb))
  have S13 := Lib.hid (F13.out.objs.setMark (i := 1) rfl 5)
  have hz13 : w13.frozen? ⟨b, 9, none⟩ = false := F13.out.objs.2.1 9
  obtain ⟨sAq, scq, ⟨p0, p1, p2, p3, p4⟩, hsq⟩ := F13.out.objs.2.2 1 _ rfl
  simp only at p4
  have hlt13 := F13.out.lt
  clear p0 p1 p2 p3 hsq
  go_upto_region 5 with fail
  have F5 : Hid (FourI w (w13.setCell ⟨b, 9, none⟩ (iV 5)) w0 bg b fourM) := F13.out.setAt (h' := fourM) S13.out
  refine at_world (fun V => FourI w V w0 bg b fourM) F5.out (fun w14 hF => ?_)
  have F14 := Lib.hid hF
  have x14 := hF.box
  clear hF F5 S13 p4
  go_upto_region 6 with (go_at_call 16; have HH := gone_at (b := b) (d := 4) ((F14.out.keep ((Below.refl _ _).alloc (Nat.le_refl _) (.cells (([1, 2, 3, 4] : List Int).map (Value.int .i64)).toArray 3 (0, 0)))).graph) (ints_lit [1, 2, 3, 4] w14 3); (refine HH.mono ?_); clear HH; rintro e w15 ⟨Aa, ca, Ab, cb, rfl, hia, hib, hb, hla, hlb⟩; have La := Lib.hid hla; have Lb := Lib.hid hlb; clear hla hlb; have Ia := Lib.hid hia; have Ib := Lib.hid hib; have F15 := Lib.hid (F14.out.keep (below_box hb)); have x15 := F15.out.box; have Ha := Lib.hid hb; clear hia hib hb)
  have S15 := Lib.hid (F15.out.objs.set (i := 0) rfl 2)
  have hz15 : w15.frozen? ⟨b, 1, none⟩ = false := F15.out.objs.2.1 1
  obtain ⟨sAq, scq, ⟨p0, p1, p2, p3, p4⟩, hsq⟩ := F15.out.objs.2.2 0 _ rfl
  simp only [Nat.zero_mul, Nat.zero_add] at p1
  have hlt15 := F15.out.lt
  have hbW : Hid (b < w14.heap.size) := F14.out.lt
  clear p0 p2 p3 p4 hsq
  go_upto_region 7 with fail
  have F5 : Hid (FourI w (w15.setCell ⟨b, 1, none⟩ (iV 2)) w0 bg b fourC) := F15.out.setAt (h' := fourC) (by have := S15.out; simp only [Nat.zero_mul, Nat.zero_add] at this; exact this)
  have J1 : IntsAt (w15.setCell ⟨b, 1, none⟩ (iV 2)) Aa [4] := ints_set Ia.out (fun a ha => by have h1 := La.out a ha; have h2 := hbW.out; simp at h1; show b ≠ _; omega) _
  have J2 : IntsAt (w15.setCell ⟨b, 1, none⟩ (iV 2)) Ab [2] := ints_set Ib.out (fun a ha => by have h1 := Lb.out a ha; have h2 := hbW.out; simp at h1; show b ≠ _; omega) _
  refine at_world (fun V => FourI w V w0 bg b fourC ∧ IntsAt V Aa [4] ∧ IntsAt V Ab [2]) ⟨F5.out, J1, J2⟩ (fun w16 hF => ?_)
  obtain ⟨hF, hJ1, hJ2⟩ := hF
  have F16 := Lib.hid hF
  have x16 := hF.box
  have Ja := Lib.hid hJ1
  have Jb := Lib.hid hJ2
  clear hF F5 S15 p1 J1 J2 hJ1 hJ2
  go_wp2_with (first
    | (go_at_call 23; have HH := lints_none A19 none c19 0 w19; (refine HH.mono ?_); clear HH; rintro e w20 ⟨rfl, hb⟩; have F20 := Lib.hid (F19.out.keep hb); have x20 := F20.out.box; clear hb)
    | (go_at_call 14; have HH := white_at (h := fourC) (by decide) (by decide) (R := []) (white_eq (u := []) (by kernel_rfl) (by decide) (by decide)) (by intro x hx; simp at hx; unfold wf64; omega) (by decide) 1 1 rfl ((F18.out.keep ((Below.refl _ _).alloc (Nat.le_refl _) (.cells (([2] : List Int).map (Value.int .i64)).toArray 3 (0, 0)))).graph) (ints_lit [2] w18 3); (refine HH.mono ?_); clear HH; rintro e w19 ⟨A19, c19, rfl, hi, hb⟩; have I19 := Lib.hid hi; have F19 := Lib.hid (F18.out.keep (below_box hb)); have x19 := F19.out.box; clear hi hb)
    | (go_at_call 23; have HH := lints_at (A := Ab) (c := cb) (d := 1) [2] rfl rfl (by decide) (Jc.out.below ((Below.refl _ _).alloc (Nat.le_refl _) (.cells (([2] : List Int).map (Value.int .i64)).toArray 3 (0, 0)))) (ints_lit [2] w17 3); (refine HH.mono ?_); clear HH; rintro e w18 ⟨rfl, hb⟩; have F18 := Lib.hid (F17.out.keep (below_box hb)); have x18 := F18.out.box; clear hb)
    | (go_at_call 23; have HH := lints_at (A := Aa) (c := ca) (d := 1) [4] rfl rfl (by decide) (Ja.out.below ((Below.refl _ _).alloc (Nat.le_refl _) (.cells (([4] : List Int).map (Value.int .i64)).toArray 3 (0, 0)))) (ints_lit [4] w16 3); (refine HH.mono ?_); clear HH; rintro e w17 ⟨rfl, hb⟩; have F17 := Lib.hid (F16.out.keep (below_box hb)); have x17 := F17.out.box; have Jc := Lib.hid (Jb.out.below (below_box hb)); clear hb))
  go_ret
  exact ⟨rfl, F20.out.below⟩
end Go.Proofs.Ytjlobjgemhapaaa
