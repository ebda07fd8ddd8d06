/- ParseKnown, from its beginning to its tail: the first source, part by part. -/
import Derived.Test.YtebkdegcifkigaaGreatDoorParFrame
import Derived.Test.YtebkdegcifkigaaGreatDoorParKnownM
import Derived.Test.YtebkdegcifkigaaGreatDoorParKnownT
import Derived.BigQuiet
import Derived.Deep.CutRange
namespace Go.Proofs.YtebkdegcifkigaaGreatDoor.parseKnown
set_option maxRecDepth 20000
open Go.ChangeShapes Go.WideShapes Go.ChangeAt Go.RowKit Go.Proofs.YtebkdegcifkigaaGreatDoor.P5

theorem below_same {B : Nat} {w a b : World} (h : Below B w a) (h1 : b.os = a.os) (h2 : b.tape = a.tape) (h3 : b.output = a.output) (h4 : b.heap = a.heap) : Below B w b := ⟨h1.trans h.os, h2.trans h.tape, h3.trans h.output, by rw [h4]; exact h.size, fun k hk => by rw [h4]; exact h.block k hk⟩
theorem kinds_new (ks : List Int) (n : Nat) (hn : n = ks.length) (hs : n ≤ 1000000) {A : Option Addr} {c : Nat} {w0 w : World} (hA : KAt w0 A ks) (hb : Below w0.heap.size w0 w) (arr : Array Value) (harr : arr = (ks.map (Value.int .i64)).toArray) (T : TypeId) :
    Calls Tryz.prog 18 #[.slice A n c, .slice (some ⟨w.heap.size, 0, none⟩) n n] (w.alloc (.cells arr T)) fun e w' => e = .returned (.bool true) ∧ Below w.heap.size w w' := by
  subst harr
  refine (kinds_any ks n hn hs A c w.heap.size _ (hA.below (hb.alloc hb.size _)) (fun j k hk => ?_)).mono ?_
  · simp [go_sem, hk]
  · rintro e w' ⟨rfl, m, rfl⟩
    exact ⟨rfl, below_drewN ((Below.refl _ _).alloc (Nat.le_refl _) _) m⟩
set_option maxHeartbeats 16000000 in
theorem walk (w : World) (hE : Env4 w) :
    Calls Tryz.prog 6 #[] w fun e w' => e = .returned (.bool true) ∧ Below w.heap.size w w' := by
  have P1 : ∀ w, Env4 w → Calls Tryz.prog 8 #[.string knownB] w (GivesP (.ok knownT [⟨5, [], 0, 3⟩]) w) := fun w hE => by
    have := Parse_all 300 (by decide) knownB w hE (by rw [known_src]; intro h; cases h)
    rwa [known_src] at this
  unfold knownB at P1
  replace P1 := Lib.hid P1
  have E := Lib.hid hE
  clear hE
  go_enter Tryz.func6, Tryz.ntmps6
  go_wp2_with (first
    | (go_at_call 8; (with_reducible refine (P1.out _ E.out).mono ?_); rintro e w1 ⟨hb, v, rfl, hv⟩; obtain ⟨gb, cb, g0, g1, g2, g3, g6, g7, g8, g9, g10, e1, e2, e3, e6, h7, A2, A4, A5, A6, A7, A8, A9, Ap, c2, c4, c5, c6, c7, c8, c9, cp, a7, u9, t9, rfl, hk⟩ := known_cells hv; have HK := Lib.hid hk; have B0 := Lib.hid hb; have E1 := Lib.hid (E.out.below hb); have B := Lib.hid (Below.refl w1.heap.size w1); clear hb hv hk)
    | (go_at_call_of 18 cb; refine (kinds_new [1, 1, 11, 2, 4, 5, 7, 6, 10, 2, 8] 11 rfl (by decide) HK.out.f52 B.out _ rfl _).mono ?_; rintro e w2 ⟨rfl, hb2⟩; replace B := Lib.hid (B.out.trans (hb2.mono B.out.size)); clear hb2; have qa0 := (B.out.cell (p := ⟨gb, 2, none⟩) HK.out.f0).trans HK.out.f17; have qa1 := (B.out.cell (p := ⟨gb, 7, none⟩) HK.out.f0).trans HK.out.f20; have qa2 := (B.out.cell (p := ⟨gb, 8, none⟩) HK.out.f0).trans HK.out.f21; have qa3 := (B.out.cell (p := ⟨gb, 9, none⟩) HK.out.f0).trans HK.out.f22))
  go_quiet (fail)
  replace B := Lib.hid (below_drewN B.out nq)
  generalize World.drewN _ nq = w2 at B ⊢
  have qb0 := (B.out.cell (p := ⟨gb, 0, none⟩) HK.out.f0).trans HK.out.f15
  have qb1 := (B.out.cell (p := ⟨gb, 1, none⟩) HK.out.f0).trans HK.out.f16
  have qb2 := (B.out.cell (p := ⟨g0, 4, none⟩) HK.out.f1).trans HK.out.f24
  have qb3 := (B.out.cell (p := ⟨g1, 2, none⟩) HK.out.f2).trans HK.out.f25
  have qb4 := (B.out.cell (p := ⟨g1, 4, none⟩) HK.out.f2).trans HK.out.f26
  have qb5 := (B.out.cell (p := ⟨e1, 0, none⟩) HK.out.f10).trans HK.out.f27
  have qb6 := (B.out.cell (p := ⟨e1, 2, none⟩) HK.out.f10).trans HK.out.f28
  have qb7 := (B.out.cell (p := ⟨g2, 2, none⟩) HK.out.f3).trans HK.out.f29
  have qb8 := (B.out.cell (p := ⟨g2, 1, none⟩) HK.out.f3).trans HK.out.f30
  have qb9 := (B.out.cell (p := ⟨g2, 4, none⟩) HK.out.f3).trans HK.out.f31
  have qb10 := (B.out.cell (p := ⟨e2, 8, none⟩) HK.out.f11).trans HK.out.f32
  have qb11 := (B.out.cell (p := ⟨e2, 9, none⟩) HK.out.f11).trans HK.out.f33
  go_upto_region 9 with (first
    | (go_at_call_of 18 c2; refine (kinds_new [8] 1 rfl (by decide) HK.out.f53 B.out _ rfl _).mono ?_; rintro e w2 ⟨rfl, hb2⟩; replace B := Lib.hid (B.out.trans (hb2.mono B.out.size)); clear hb2; have qc0 := (B.out.cell (p := ⟨gb, 3, none⟩) HK.out.f0).trans HK.out.f18; have qc1 := (B.out.cell (p := ⟨g3, 3, none⟩) HK.out.f4).trans HK.out.f34; have qc2 := (B.out.cell (p := ⟨e3, 3, none⟩) HK.out.f12).trans HK.out.f35; have qc3 := (B.out.cell (p := ⟨gb, 6, none⟩) HK.out.f0).trans HK.out.f19; have qc4 := (B.out.cell (p := ⟨g6, 2, none⟩) HK.out.f5).trans HK.out.f36; have qc5 := (B.out.cell (p := ⟨g6, 5, none⟩) HK.out.f5).trans HK.out.f37; have qc6 := (B.out.cell (p := ⟨e6, 2, none⟩) HK.out.f13).trans HK.out.f38; have qc7 := (B.out.cell (p := ⟨gb, 10, none⟩) HK.out.f0).trans HK.out.f23; have qc8 := (B.out.cell (p := ⟨g10, 4, none⟩) HK.out.f9).trans HK.out.f39; have qc9 := (B.out.cell (p := ⟨g7, 7, none⟩) HK.out.f6).trans HK.out.f41)
    | (go_at_call_of 18 c4; refine (kinds_new [6] 1 rfl (by decide) HK.out.f54 B.out _ rfl _).mono ?_; rintro e w2 ⟨rfl, hb2⟩; replace B := Lib.hid (B.out.trans (hb2.mono B.out.size)); clear hb2; have qd0 := (B.out.cell (p := ⟨g7, 7, none⟩) HK.out.f6).trans HK.out.f41; have qd1 := (B.out.cell (p := ⟨a7, 0, none⟩) HK.out.f42).trans HK.out.f43; have qd2 := (B.out.cell (p := ⟨h7, 1, none⟩) HK.out.f14).trans HK.out.f44; have qd3 := (B.out.cell (p := ⟨h7, 6, none⟩) HK.out.f14).trans HK.out.f45)
    | (go_at_call_of 18 c5; refine (kinds_new [3] 1 rfl (by decide) HK.out.f55 B.out _ rfl _).mono ?_; rintro e w2 ⟨rfl, hb2⟩; replace B := Lib.hid (B.out.trans (hb2.mono B.out.size)); clear hb2; have qe0 := (B.out.cell (p := ⟨g7, 7, none⟩) HK.out.f6).trans HK.out.f41; have qe1 := (B.out.cell (p := ⟨a7, 0, none⟩) HK.out.f42).trans HK.out.f43; have qe2 := (B.out.cell (p := ⟨h7, 7, none⟩) HK.out.f14).trans HK.out.f46)
    | (go_at_call_of 18 c6; refine (kinds_new [3] 1 rfl (by decide) HK.out.f56 B.out _ rfl _).mono ?_; rintro e w2 ⟨rfl, hb2⟩; replace B := Lib.hid (B.out.trans (hb2.mono B.out.size)); clear hb2; have qf0 := (B.out.cell (p := ⟨g7, 6, none⟩) HK.out.f6).trans HK.out.f40; have qf1 := (B.out.cell (p := ⟨g8, 2, none⟩) HK.out.f7).trans HK.out.f47; have qf2 := (B.out.cell (p := ⟨g8, 6, none⟩) HK.out.f7).trans HK.out.f48)
    | (go_at_call_of 18 c7; refine (kinds_new [3] 1 rfl (by decide) HK.out.f57 B.out _ rfl _).mono ?_; rintro e w2 ⟨rfl, hb2⟩; replace B := Lib.hid (B.out.trans (hb2.mono B.out.size)); clear hb2; have qg0 := (B.out.cell (p := ⟨g8, 7, none⟩) HK.out.f7).trans HK.out.f49)
    | (go_at_call_of 18 c8; refine (kinds_new [3] 1 rfl (by decide) HK.out.f58 B.out _ rfl _).mono ?_; rintro e w2 ⟨rfl, hb2⟩; replace B := Lib.hid (B.out.trans (hb2.mono B.out.size)); clear hb2; have qh0 := (B.out.cell (p := ⟨g9, 3, none⟩) HK.out.f8).trans HK.out.f50; have qh1 := (B.out.cell (p := ⟨g9, 4, none⟩) HK.out.f8).trans HK.out.f51)
    | (go_at_call_of 16 u9; refine (HK.out.f59.says _ B.out).mono ?_; rintro e w3 ⟨rfl, m9, rfl⟩; replace B := Lib.hid (below_drewN B.out m9))
    | (go_at_call_of 16 t9; refine (HK.out.f60.says _ B.out).mono ?_; rintro e w3 ⟨rfl, m10, rfl⟩; replace B := Lib.hid (below_drewN B.out m10)))
  refine tail w _ ?_ ?_ _ _ ?_ ?_
  · exact E1.out.below (below_same B.out rfl rfl rfl rfl)
  · exact B0.out.trans (Below.mono (below_same B.out rfl rfl rfl rfl) B0.out.size)
  · assumption
  · assumption
end Go.Proofs.YtebkdegcifkigaaGreatDoor.parseKnown
