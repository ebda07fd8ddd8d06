/- New, Copy: contracts over a pool in memory; maps.Clone, slices.Clone. -/
import Derived.Test.YtlbbbfmnghcdnaaPoTake2
import Derived.Shelf.SlMaps.Clone
import Derived.Deep.RegionLaw
import Derived.Laws.EntriesVeiled
import Derived.RegionTactic
import Derived.Lib.SliceRun
import Derived.Deep.RegionHeld3
import Derived.Test.YtlbbbfmnghcdnaaPoInsert
namespace Go.Proofs.Ytlbbbfmnghcdnaa
set_option maxRecDepth 20000
open Go.RowKit Go.Maps

theorem newPool_any (w : World) (mb g off c k : Nat) (T : List Nat) (F : List (Nat × Nat)) (hm : MapT w mb T) (hrow : RowF w g off F.length c (flatF F)) (hnd : T.Nodup) (hs : T.length ≤ k) (ht : ∃ top, Rise F top ∧ top ≤ k + 1) (hi : ∀ m, m ∈ T ↔ 1 ≤ m ∧ m ≤ topM ∧ ¬ FreeIn F m) :
    Calls Try.prog 36 #[.map (some mb), .slice (some ⟨g, off, none⟩) F.length c] w fun e w' => ∃ ps bx, e = .returned (bV ps) ∧ w.heap.size ≤ ps ∧ w.heap.size ≤ bx ∧ Held w' ps bx mb g k T F off c ∧ Below w.heap.size w w' := by
  obtain ⟨len, hl⟩ : ∃ len, len = F.length := ⟨_, rfl⟩
  have HL := Lib.hid hl
  have ml : mb < w.heap.size := by obtain ⟨es, cl, h⟩ := hm.form; exact mem_block_lt h
  have gl : g < w.heap.size := by obtain ⟨cur, h, _⟩ := hrow; exact mem_block_lt h
  have H : Hid (MapT w mb T ∧ RowF w g off F.length c (flatF F) ∧ T.Nodup ∧ T.length ≤ k ∧ (∃ top, Rise F top ∧ top ≤ k + 1) ∧ (∀ m, m ∈ T ↔ 1 ≤ m ∧ m ≤ topM ∧ ¬ FreeIn F m)) := ⟨hm, hrow, hnd, hs, ht, hi⟩
  rw [← hl]
  clear hl hm hrow hnd hs ht hi
  go_enter Try.func36, Try.ntmps36
  go_wp2
  go_ret
  have hb : ∀ (o1 o2 : Obj), Below w.heap.size w ((w.alloc o1).alloc o2) := fun o1 o2 => ((Below.refl _ _).alloc (Nat.le_refl _) _).alloc (by simp) _
  refine ⟨_, _, rfl, Nat.le_refl _, Nat.le_succ _, ⟨?_, ?_, ?_, ?_, H.out.2.2.1, H.out.2.2.2.1, H.out.2.2.2.2.1, H.out.2.2.2.2.2⟩, hb _ _⟩
  · rw [Below.heap_alloc _ _ _ (by simp), (MapKept.heap_alloc w _).1, HL.out]
  · exact (by simpa using (MapKept.heap_alloc (w.alloc _) _).1)
  · exact H.out.1.keep ((hb _ _).block mb ml)
  · exact H.out.2.1.keep ((hb _ _).block g gl)
theorem rise_new : Rise [(1, topM)] 1 := ⟨⟨Nat.le_refl _, by decide, by simp [RiseS]⟩, rfl⟩
theorem New_any (w : World) : Calls Try.prog 11 #[] w fun e w' => ∃ ps bx mb g off c, e = .returned (bV ps) ∧ (w.heap.size ≤ ps ∧ w.heap.size ≤ bx ∧ w.heap.size ≤ mb ∧ w.heap.size ≤ g) ∧ Held w' ps bx mb g 0 [] [(1, topM)] off c ∧ Below w.heap.size w w' := by
  have hm := MapT.made w
  have C : Hid (∀ W : World, MapT W w.heap.size [] → RowF W (w.heap.size + 1) 0 1 1 [nV 1, nV topM] → Calls Try.prog 36 #[.map (some w.heap.size), .slice (some ⟨w.heap.size + 1, 0, none⟩) 1 1] W fun e w' => ∃ ps bx, e = .returned (bV ps) ∧ W.heap.size ≤ ps ∧ W.heap.size ≤ bx ∧ Held w' ps bx w.heap.size (w.heap.size + 1) 0 [] [(1, topM)] 0 1 ∧ Below W.heap.size W w') := fun W h1 h2 => newPool_any W w.heap.size (w.heap.size + 1) 0 1 0 [] [(1, topM)] h1 h2 List.nodup_nil (Nat.le_refl _) ⟨1, rise_new, Nat.le_refl _⟩ (fun m => by
    constructor
    · intro h; simp at h
    · rintro ⟨h1, h2, h3⟩
      exact absurd ⟨(1, topM), by simp, h1, h2⟩ h3)
  have HM := Lib.hid hm
  have HR : Hid (RowF ((w.alloc (.map #[] 0)).alloc (.cells #[nV 1, nV 9223372036854775807] 77)) (w.heap.size + 1) 0 1 1 [nV 1, nV topM]) := ⟨[nV 1, nV topM], by simpa using (MapKept.heap_alloc (w.alloc (.map #[] 0)) (.cells #[nV 1, nV 9223372036854775807] 77)).1, by decide, by decide, by decide, rfl, rfl⟩
  clear hm
  have hmm := @run_makeMap Try.prog
  go_enter Try.func11, Try.ntmps11
  go_wp2_with (go_at_call 36; go_loud ((with_reducible refine (C.out _ (HM.out.keep (Below.heap_alloc _ _ _ (by simp))) HR.out).mono ?_)); rintro e w1 ⟨ps, bx, rfl, h1, h2, h3, h4⟩; have H1 := Lib.hid h3; have H2 := Lib.hid h4; clear h3 h4)
  go_ret
  have hb : ∀ (o1 o2 : Obj), Below w.heap.size w ((w.alloc o1).alloc o2) := fun o1 o2 => ((Below.refl _ _).alloc (Nat.le_refl _) _).alloc (by simp) _
  simp at h1 h2
  exact ⟨ps, bx, w.heap.size, w.heap.size + 1, 0, 1, rfl, ⟨by omega, by omega, Nat.le_refl _, Nat.le_succ _⟩, H1.out, (hb _ _).trans (H2.out.mono (by simp; omega))⟩
theorem mapsClone_any (w : World) (mb : Nat) (T : List Nat) (hm : MapT w mb T) : Calls Try.prog 38 #[.map (some mb)] w fun e w' => e = .returned (.map (some w.heap.size)) ∧ MapT w' w.heap.size T ∧ Below w.heap.size w w' := by
  obtain ⟨D, ⟨es, clock, hb, r⟩, h2⟩ := hm
  have HF : Hid (MapT (w.alloc (.map es clock)) w.heap.size T) := ⟨D, ⟨es, clock, (MapKept.heap_alloc w _).1, r⟩, h2⟩
  have hq := fun w => run_eql_map_nil_sl (P := Try.prog) w 55 _ _ (some mb) Try.underlying55
  have e1 : (callFunc 47 #[.iface 55 (.map (some mb))]).run Try.prog w = .ok (.value (.iface 55 (.map (some w.heap.size)))) (w.alloc (.map es clock)) := by
    rw [run_callFunc_extern (P := Try.prog) Try.func47 (by kernel_rfl) (by kernel_rfl) (by kernel_rfl) (e := Extern.MapsClone.clone) (by kernel_rfl), run_maps_clone_sl w 55 hb]
    rfl
  have e2 : ∀ xT v W, (Instr.typeAssert (.iface 55 v) xT 55 false).run Try.prog W = .ok v W := fun xT v W => run_typeAssert_map_sl W 55 xT _ _ v Try.underlying55
  clear hb r h2
  go_enter Try.func38, Try.ntmps38
  go_wp2
  go_ret
  exact ⟨rfl, HF.out, (Below.refl _ _).alloc (Nat.le_refl _) _⟩
theorem spanClone_any (w : World) (g off n c : Nat) (es : List Value) (hrow : RowF w g off n c es) (h1 : ∀ v ∈ es, v.oneCell' = true) (hn : n ≤ 1099511627776) : Calls Try.prog 39 #[.slice (some ⟨g, off, none⟩) n c] w fun e w' =>
    ∃ g' c', e = .returned (.slice (some ⟨g', 0, none⟩) n c') ∧ RowF w' g' 0 n c' es ∧ w.heap.size ≤ g' ∧ Below w.heap.size w w' := by
  obtain ⟨i0, hi0, hz0, hz1, hz2⟩ := info_parts span_info
  have ROW := Lib.hid hrow
  have hle : es.length = n * 2 := by obtain ⟨cur, _, _, _, _, h5, _⟩ := hrow; omega
  have HL := Lib.hid hle
  have H1 := Lib.hid h1
  have q22 : ∀ (w : World) (a : Option Addr) (n c n' c' : Nat), (binOp .eql 56 (.slice a n c) (.slice none n' c')).run Try.prog w = .ok (.bool a.isNone) w := fun w a n c n' c' => Lib.run_eql_slice_nil w _ _ a n c n' c' Try.underlying56
  clear hrow hle h1
  go_enter Try.func39, Try.ntmps39
  go_wp2_with (at_builtin; refine wpList_append_own _ rfl _ _ 56 rfl w.heap.size 77 i0 _ 2 16 Try.underlying56 hi0 hz0 hz1 hz2 rfl (by omega) _ _ _ rfl (World.ownsRow_made w #[] 0 (Nat.le_refl _) (Nat.zero_le _) (by simp)) ⟨g, off, none⟩ n c es rfl HL.out (fun j u hj => by rw [Addr.add_lit]; exact Lib.cell?_alloc_some _ (ROW.out.cell hj)) H1.out (by rw [Nat.zero_add]; unfold maxLen; omega) (by rw [Nat.zero_add]; omega) (by simp) ?_; intro v' w1 hown hgrow hnil)
  go_wp2_with fail
  go_ret
  rw [Nat.zero_add, List.nil_append] at hown
  rcases hown.2 with ⟨h, _⟩ | ⟨g', cap, cur, rfl, h2, h3, h4, h5, h6, h7⟩
  · have := hnil.1 h
    simp [Act.eval] at this
  · refine ⟨g', cap, rfl, ⟨cur.toList, by simpa using h3, by simp; omega, h4, h5, by rw [HL.out]; omega, by rw [List.drop_zero, Nat.mul_comm]; exact h7⟩, h2, ?_⟩
    exact ((Below.refl _ w).alloc (Nat.le_refl _) _).grown hgrow (by simp) (by intro k hk; simp [Act.eval, Value.ownBlock] at hk; omega)
theorem Copy_any {w : World} {ps bx mb g k : Nat} {T : List Nat} {F : List (Nat × Nat)} {off c : Nat} (h : Held w ps bx mb g k T F off c) (hk : k ≤ 1073741824) :
    Calls Try.prog 15 #[bV ps] w fun e w' => ∃ ps' bx' mb' g' c', e = .returned (bV ps') ∧ (w.heap.size ≤ ps' ∧ w.heap.size ≤ bx' ∧ w.heap.size ≤ mb' ∧ w.heap.size ≤ g') ∧ Held w' ps' bx' mb' g' k T F 0 c' ∧ Below w.heap.size w w' := by
  obtain ⟨c0, c1, c2, c3, c4⟩ := h.cells
  obtain ⟨l1, l2, l3, l4⟩ := h.lts
  have hlen : F.length ≤ 1099511627776 := by obtain ⟨top, hr, ht⟩ := h.top; have := hr.length; omega
  have H := Lib.hid h
  have CL : Hid (∀ W : World, Below w.heap.size w W → W.cell? ⟨ps, 1, none⟩ = some (.map (some mb)) ∧ W.cell? ⟨ps, 2, none⟩ = some (.slice (some ⟨g, off, none⟩) F.length c)) := fun W hW => ⟨(hW.cell (p := ⟨ps, 1, none⟩) l1).trans c1, (hW.cell (p := ⟨ps, 2, none⟩) l1).trans c2⟩
  have NP : Hid (∀ (W : World) (mb' g' c' : Nat), MapT W mb' T → RowF W g' 0 F.length c' (flatF F) → Calls Try.prog 36 #[.map (some mb'), .slice (some ⟨g', 0, none⟩) F.length c'] W fun e w' => ∃ ps bx, e = .returned (bV ps) ∧ W.heap.size ≤ ps ∧ W.heap.size ≤ bx ∧ Held w' ps bx mb' g' k T F 0 c' ∧ Below W.heap.size W w') := fun W mb' g' c' a1 a2 => newPool_any W mb' g' 0 c' k T F a1 a2 H.out.nodup H.out.small H.out.top H.out.is
  have SC : Hid (∀ W : World, Below w.heap.size w W → Calls Try.prog 39 #[.slice (some ⟨g, off, none⟩) F.length c] W fun e w' => ∃ g' c', e = .returned (.slice (some ⟨g', 0, none⟩) F.length c') ∧ RowF w' g' 0 F.length c' (flatF F) ∧ W.heap.size ≤ g' ∧ Below W.heap.size W w') := fun W hW => spanClone_any W g off F.length c (flatF F) (H.out.row.keep (hW.block g l4)) (flat_one F) hlen
  obtain ⟨len, hl⟩ : ∃ len, len = F.length := ⟨_, rfl⟩
  rw [← hl] at c2 CL NP SC hlen
  have HL := Lib.hid hl
  clear h hl
  go_enter Try.func15, Try.ntmps15
  go_wp2_with (go_at_call 37; (with_reducible refine (made_any _ _ c0).mono ?_); rintro e w1 ⟨rfl, rfl⟩)
  refine wp_region_noPanic ?_
  go_region_law (first
    | (go_simp; go_at_call 38; go_loud (with_reducible refine (mapsClone_any _ mb T (by exact H.out.map.keep rfl)).mono ?_); rintro e w1 ⟨rfl, hm1, hb1⟩; have B1 : Hid (Below w.heap.size w w1) := (by exact ⟨hb1.os, hb1.tape, hb1.output, hb1.size, hb1.block⟩); have HM1 : Hid (MapT w1 w.heap.size T) := (by exact hm1); obtain ⟨x1, x2⟩ := CL.out w1 B1.out; clear hm1 hb1)
    | (go_simp; go_at_call 39; go_loud (with_reducible refine (SC.out _ (by exact B1.out)).mono ?_); rintro e w2 ⟨g', c', rfl, hr2, hg2, hb2⟩; have HR2 := Lib.hid hr2; have HB2 : Hid (Below w1.heap.size w1 w2) := (by exact ⟨hb2.os, hb2.tape, hb2.output, hb2.size, hb2.block⟩); have hg3 : w1.heap.size ≤ g' := (by exact hg2); clear hr2 hg2 hb2)
    | (go_simp; go_at_call 36; go_loud (with_reducible refine (NP.out _ _ g' c' (by exact HM1.out.keep (HB2.out.block _ (by obtain ⟨es, cl, hq⟩ := HM1.out.form; exact mem_block_lt hq))) (by exact HR2.out)).mono ?_); rintro e w3 ⟨ps', bx', rfl, hp3, hx3, hh3, hb3⟩; have HH3 := Lib.hid hh3; have HB3 : Hid (Below w2.heap.size w2 w3) := (by exact ⟨hb3.os, hb3.tape, hb3.output, hb3.size, hb3.block⟩); have hp4 : w2.heap.size ≤ ps' := (by exact hp3); have hx4 : w2.heap.size ≤ bx' := (by exact hx3); clear hh3 hb3 hp3 hx3))
  all_goals
    simp only [NoPanic, Exit.then]
    go_wp2_with fail
    go_ret
    have s1 := B1.out.size
    have s2 := HB2.out.size
    have HH := HH3.out
    exact ⟨ps', bx', w.heap.size, g', c', rfl, ⟨by omega, by omega, Nat.le_refl _, by omega⟩, HH, (B1.out.trans (HB2.out.mono s1)).trans (HB3.out.mono (by omega))⟩
end Go.Proofs.Ytlbbbfmnghcdnaa
