/- print.writer: what closures write; operand, index, item, body, at a fuel and one. -/
import Derived.Test.YtoggkigfijgbfaaGreatDoorZAbb
import Derived.Test.YtoggkigfijgbfaaGreatDoorZG
import Derived.StillTailTactics
import Derived.Deep.QuietTactic
import Derived.BigQuiet
namespace Go.Proofs.YtoggkigfijgbfaaGreatDoor.P6
set_option maxRecDepth 20000
open Go.RowKit

theorem puts_at {W : World} {p c n g : Nat} {s : List UInt8} {k : Nat} {ts : List (List UInt8)} {f : List UInt8 → Nat → WRes} {R : WRes} (h : WAt W p s k) (ht : Texts W g ts) (hg : g ≠ p) (hR : (putsT ts s k).bind f = R) (hn : n = ts.length) (hs : ∀ t, t ∈ ts → t.length ≤ 1099511627776) (hc : n ≤ 1000) :
    Calls Tryz.prog 116 #[pV p, .slice (some ⟨g, 0, none⟩) n c] W (Step p f R W) := (puts_any ts h hn ht hg hs hc).mono fun _ _ he => he.step hR
theorem put1_at {W : World} {p c g : Nat} {s t : List UInt8} {k : Nat} {f : List UInt8 → Nat → WRes} {R : WRes} (h : WAt W p s k) (ht : Texts W g [t]) (hg : g ≠ p) (hR : (putT t s k).bind f = R) (hs : t.length ≤ 1099511627776) :
    Calls Tryz.prog 116 #[pV p, .slice (some ⟨g, 0, none⟩) 1 c] W (Step p f R W) := puts_at h ht hg (by rw [puts_one]; exact hR) rfl (by simpa using hs) (by simp)
theorem put2_at {W : World} {p c g : Nat} {s t u : List UInt8} {k : Nat} {f : List UInt8 → Nat → WRes} {R : WRes} (h : WAt W p s k) (ht : Texts W g [t, u]) (hg : g ≠ p) (hR : (putsT [t, u] s k).bind f = R) (hs : t.length + u.length ≤ 1099511627776) :
    Calls Tryz.prog 116 #[pV p, .slice (some ⟨g, 0, none⟩) 2 c] W (Step p f R W) := puts_at h ht hg hR rfl (by intro x hx; simp at hx; rcases hx with rfl | rfl <;> omega) (by simp)
theorem Box.lt {w : World} {q : Nat} {v : Value} (h : Box w q v) : q < w.heap.size := by
  obtain ⟨T, fz, _, h⟩ := h
  exact lt_of_blk h
structure Box2 (w : World) (p q0 q1 : Nat) (v0 v1 : Value) : Prop where
  b0 : Box w q0 v0
  b1 : Box w q1 v1
  n0 : q0 ≠ p
  n1 : q1 ≠ p
theorem Box2.keep {w w' : World} {p q0 q1 : Nat} {v0 v1 : Value} (h : Box2 w p q0 q1 v0 v1) (hk : WK p w w') : Box2 w' p q0 q1 v0 v1 := ⟨h.b0.keep h.n0 hk, h.b1.keep h.n1 hk, h.n0, h.n1⟩
theorem Box2.below {w w' : World} {p q0 q1 : Nat} {v0 v1 : Value} (h : Box2 w p q0 q1 v0 v1) (hk : Below w.heap.size w w') : Box2 w' p q0 q1 v0 v1 := ⟨h.b0.below hk, h.b1.below hk, h.n0, h.n1⟩
theorem Box2.alloc {w : World} {p q0 q1 : Nat} {v0 v1 : Value} (h : Box2 w p q0 q1 v0 v1) (o : Obj) : Box2 (w.alloc o) p q0 q1 v0 v1 := ⟨h.b0.alloc o, h.b1.alloc o, h.n0, h.n1⟩
theorem Box2.drew {w : World} {p q0 q1 : Nat} {v0 v1 : Value} (h : Box2 w p q0 q1 v0 v1) : Box2 w.drew p q0 q1 v0 v1 := ⟨h.b0, h.b1, h.n0, h.n1⟩
theorem box2_new {w : World} {p : Nat} {v : Value} (hp : p < w.heap.size) : Box2 ((w.alloc (.cells #[pV p] 161)).alloc (.cells #[v] 49)) p w.heap.size (w.heap.size + 1) (pV p) v := by
  have s1 : (w.alloc (.cells #[pV p] 161)).heap.size = w.heap.size + 1 := by simp
  have a1 := box_new (w.alloc (.cells #[pV p] 161)) v 49 (by decide)
  rw [s1] at a1
  exact ⟨(box_new w (pV p) 161 (by decide)).alloc _, a1, by omega, by omega⟩
theorem TE.ptr {b : World} {t : Tree} {v : Value} (h : TE b t v) : ∃ o, v = .pointer o := by
  rcases h.cases with ⟨_, rfl⟩ | ⟨g, _, _, _, _, _, _, _, rfl, _⟩
  · exact ⟨_, rfl⟩
  · exact ⟨_, rfl⟩
theorem encl_step {w : World} {p K : Nat} {caps : Array Value} {s : List UInt8} {k : Nat} {first last : List UInt8} {f g : List UInt8 → Nat → WRes} {R : WRes} (h : WAt w p s k) (hf : first.length ≤ 1000) (hl : last.length ≤ 1000)
    (step : ∀ w1 s1 k1, WK p w w1 → WAt w1 p s1 k1 → f s1 k1 ≠ .out → Calls Tryz.prog K caps w1 (WEnds p (f s1 k1) w1))
    (hK : ∀ (args : Array Value) (w : World), (callFunc K args).run Tryz.prog w = .ok (.enter K args) w) (hR : (encT first last f s k).bind g = R) (hD : R ≠ .out) :
    Calls Tryz.prog 241 #[pV p, sV first, sV last, .func (.func K) #[] caps] w (Step p g R w) := (enclosed_any first last f h hf hl step hK (bind_ne hR hD)).mono fun _ _ he => he.step hR
theorem list_step {w : World} {p K n c1 c2 : Nat} {s : List UInt8} {k : Nat} {first last : List UInt8} {f : Nat → List UInt8 → Nat → WRes} {g : List UInt8 → Nat → WRes} {R : WRes} (h : WAt w p s k) (hf : first.length ≤ 1000) (hl : last.length ≤ 1000) (hn : n ≤ 1048576)
    (step : ∀ j w1 s1 k1, j < n → WK p w w1 → WAt w1 p s1 k1 → f j s1 k1 ≠ .out → Calls Tryz.prog K #[iV j, pV c1, pV c2] w1 (WEnds p (f j s1 k1) w1))
    (hK : ∀ (args : Array Value) (w : World), (callFunc K args).run Tryz.prog w = .ok (.enter K args) w) (hR : (encT first last (loopT f 0 n) s k).bind g = R) (hD : R ≠ .out) :
    Calls Tryz.prog 201 #[pV p, sV first, sV last, iV n, .func (.func K) #[] #[pV c1, pV c2]] w (Step p g R w) := (list_any first last f h hf hl (by omega) step hK (bind_ne hR hD)).mono fun _ _ he => he.step hR
theorem enter_operand (args : Array Value) (w : World) : (callFunc 245 args).run Tryz.prog w = .ok (.enter 245 args) w := enters_of Tryz.func245 (by kernel_rfl) rfl args w
set_option maxHeartbeats 2000000 in
theorem clo_operand {b w : World} {p n q0 q1 : Nat} (_C : Env6 b p) (S : Spec b p n) {e : Tree} {v : Value} {s : List UInt8} {k : Nat} (hB : Below b.heap.size b w) (h : WAt w p s k) (hX : Box2 w p q0 q1 (pV p) v) (ht : TE b e v) (hD : printF n (.expr e) s k ≠ .out) : Calls Tryz.prog 245 #[pV q0, pV q1] w (WEnds p (printF n (.expr e) s k) w) := by
  have E := Lib.hid ((S.expr hB h ht hD).mono fun _ _ he => he.step (bind_ok _))
  generalize printF n (.expr e) s k = R at E ⊢
  have x0 := hX.b0.cell
  have x1 := hX.b1.cell
  have KK := Lib.hid (WK.refl p w)
  clear hX hD h hB S
  go_enter Tryz.func245, Tryz.ntmps245
  go_wp2_with (go_at_call 159; (with_reducible refine E.out.mono ?_); rintro e w1 hE; rcases hE with ⟨c, hq, rfl, hk⟩ | ⟨s1, k1, hq, rfl, hh, hk⟩; (· exact ⟨rfl, ends_bad hq KK.out hk⟩))
  go_end0
  exact ends_ok hq hh hk
theorem enter_index (args : Array Value) (w : World) : (callFunc 242 args).run Tryz.prog w = .ok (.enter 242 args) w := enters_of Tryz.func242 (by kernel_rfl) rfl args w
set_option maxHeartbeats 2000000 in
theorem clo_index {b w : World} {p n q0 q1 : Nat} (_C : Env6 b p) (S : Spec b p n) {e : Tree} {v : Value} {s : List UInt8} {k : Nat} (hB : Below b.heap.size b w) (h : WAt w p s k) (hX : Box2 w p q0 q1 (pV p) v) (ht : TE b e v) (hD : printF n (.expr e) s k ≠ .out) : Calls Tryz.prog 242 #[pV q0, pV q1] w (WEnds p (printF n (.expr e) s k) w) := by
  have E := Lib.hid ((S.expr hB h ht hD).mono fun _ _ he => he.step (bind_ok _))
  generalize printF n (.expr e) s k = R at E ⊢
  have x0 := hX.b0.cell
  have x1 := hX.b1.cell
  have KK := Lib.hid (WK.refl p w)
  clear hX hD h hB S
  go_enter Tryz.func242, Tryz.ntmps242
  go_wp2_with (go_at_call 159; (with_reducible refine E.out.mono ?_); rintro e w1 hE; rcases hE with ⟨c, hq, rfl, hk⟩ | ⟨s1, k1, hq, rfl, hh, hk⟩; (· exact ⟨rfl, ends_bad hq KK.out hk⟩))
  go_end0
  exact ends_ok hq hh hk
theorem enter_item (args : Array Value) (w : World) : (callFunc 248 args).run Tryz.prog w = .ok (.enter 248 args) w := enters_of Tryz.func248 (by kernel_rfl) rfl args w
set_option maxHeartbeats 2000000 in
theorem clo_item {b w : World} {p n q0 q1 : Nat} (_C : Env6 b p) (S : Spec b p n) {e : Tree} {v : Value} {s : List UInt8} {k : Nat} (hB : Below b.heap.size b w) (h : WAt w p s k) (hX : Box2 w p q0 q1 (pV p) v) (ht : TE b e v) (hD : printF n (.expr e) s k ≠ .out) : Calls Tryz.prog 248 #[pV q0, pV q1] w (WEnds p (printF n (.expr e) s k) w) := by
  have E := Lib.hid ((S.expr hB h ht hD).mono fun _ _ he => he.step (bind_ok _))
  generalize printF n (.expr e) s k = R at E ⊢
  have x0 := hX.b0.cell
  have x1 := hX.b1.cell
  have KK := Lib.hid (WK.refl p w)
  clear hX hD h hB S
  go_enter Tryz.func248, Tryz.ntmps248
  go_wp2_with (go_at_call 159; (with_reducible refine E.out.mono ?_); rintro e w1 hE; rcases hE with ⟨c, hq, rfl, hk⟩ | ⟨s1, k1, hq, rfl, hh, hk⟩; (· exact ⟨rfl, ends_bad hq KK.out hk⟩))
  go_end0
  exact ends_ok hq hh hk
set_option maxHeartbeats 4000000 in
theorem operand_next {b w : World} {p n : Nat} (C : Env6 b p) (S : Spec b p n) {e : Tree} {v : Value} {needs : Bool} {s : List UInt8} {k : Nat} (hB : Below b.heap.size b w) (h : WAt w p s k) (q0 : TE b e v) (hD : printF (n + 1) (.operand e needs) s k ≠ .out) : Calls Tryz.prog 204 #[pV p, v, .bool needs] w (WEnds p (printF (n + 1) (.operand e needs) s k) w) := by
  obtain ⟨o, rfl⟩ := q0.ptr
  have hle := C.le
  have hp0 : p ≤ w.heap.size := Nat.le_of_lt h.lt
  obtain ⟨R, hR1⟩ : ∃ R, printF (n + 1) (.operand e needs) s k = R := ⟨_, rfl⟩
  rw [hR1] at hD ⊢
  have hR0 : (printF (n + 1) (.operand e needs) s k).bind .ok = R := by rw [bind_ok]; exact hR1
  clear hR1
  unfold printF at hR0
  have XB : Hid (Box2 ((w.alloc (.cells #[pV p] 161)).alloc (.cells #[.pointer o] 49)) p w.heap.size (w.heap.size + 1) (pV p) (.pointer o)) := Lib.hid (box2_new h.lt)
  have H : Hid (WAt ((w.alloc (.cells #[pV p] 161)).alloc (.cells #[.pointer o] 49)) p s k) := Lib.hid ((h.alloc _).alloc _)
  have HB : Hid (Below b.heap.size b ((w.alloc (.cells #[pV p] 161)).alloc (.cells #[.pointer o] 49))) := Lib.hid (below_al (below_al hB _) _)
  have KK : Hid (WK p w ((w.alloc (.cells #[pV p] 161)).alloc (.cells #[.pointer o] 49))) := Lib.hid (((WK.refl p w).more hp0 _).more hp0 _)
  have SS := Lib.hid S
  have HD := Lib.hid hD
  clear h hB hD S
  cases needs with
  | false =>
    simp only [Bool.false_eq_true, if_false] at hR0
    repeat (first | simp only at hR0 | simp only [bind_bind] at hR0 | simp only [ok_bind] at hR0 | simp only [bad_bind] at hR0)
    have hR := Lib.hid hR0; clear hR0
    go_enter Tryz.func204, Tryz.ntmps204
    go_wp2_with (first
      | (go_at_call 159; (with_reducible refine (SS.out.expr_step ?_ ?_ (by assumption) hR.out HD.out).mono ?_); (· exact ab4); (· exact ab9); rintro e w1 hE; rcases hE with ⟨c, hq, rfl, hk⟩ | ⟨s1, k1, hq, rfl, hh, hk⟩; (· exact ⟨rfl, ends_bad hq ab3 hk⟩); replace hR := Lib.hid hq; replace H := Lib.hid hh; (have KN : WK p w w1 := WK.trans ab3 hk); (have HN : Below b.heap.size b w1 := Below.trans ab4 (hk.below.mono hle)); (have XN : Box2 w1 p w.heap.size (w.heap.size + 1) (pV p) (.pointer o) := Box2.keep ab7 hk); replace KK := Lib.hid KN; replace HB := Lib.hid HN; replace XB := Lib.hid XN; have x0 := XB.out.b0.cell; have x1 := XB.out.b1.cell; have z0 := XB.out.b0.lt; have z1 := XB.out.b1.lt; clear XN; clear hq hh hk KN HN))
    go_end0
    exact ends_ok hR.out H.out KK.out
  | true =>
    simp only [if_true] at hR0
    repeat (first | simp only at hR0 | simp only [bind_bind] at hR0 | simp only [ok_bind] at hR0 | simp only [bad_bind] at hR0)
    have hR := Lib.hid hR0; clear hR0
    go_enter Tryz.func204, Tryz.ntmps204
    go_wp2_with (first
      | (go_at_call 241; (with_reducible refine (encl_step H.out ?_ ?_ (fun w1 s1 k1 a b' c => clo_operand C SS.out (HB.out.trans (a.below.mono hle)) b' (XB.out.keep a) (by assumption) c) enter_operand hR.out HD.out).mono ?_); (· simp); (· simp); rintro e w1 hE; rcases hE with ⟨c, hq, rfl, hk⟩ | ⟨s1, k1, hq, rfl, hh, hk⟩; (· exact ⟨rfl, ends_bad hq ab3 hk⟩); replace hR := Lib.hid hq; replace H := Lib.hid hh; (have KN : WK p w w1 := WK.trans ab3 hk); (have HN : Below b.heap.size b w1 := Below.trans ab4 (hk.below.mono hle)); (have XN : Box2 w1 p w.heap.size (w.heap.size + 1) (pV p) (.pointer o) := Box2.keep ab7 hk); replace KK := Lib.hid KN; replace HB := Lib.hid HN; replace XB := Lib.hid XN; have x0 := XB.out.b0.cell; have x1 := XB.out.b1.cell; have z0 := XB.out.b0.lt; have z1 := XB.out.b1.lt; clear XN; clear hq hh hk KN HN))
    go_end0
    exact ends_ok hR.out H.out KK.out
set_option maxHeartbeats 4000000 in
theorem index_next {b w : World} {p n : Nat} (C : Env6 b p) (S : Spec b p n) {e : Tree} {v : Value} {s : List UInt8} {k : Nat} (hB : Below b.heap.size b w) (h : WAt w p s k) (q0 : TE b e v) (hD : printF (n + 1) (.index e) s k ≠ .out) : Calls Tryz.prog 200 #[pV p, v] w (WEnds p (printF (n + 1) (.index e) s k) w) := by
  have hpl := h.lt
  obtain ⟨o, rfl⟩ := q0.ptr
  have hle := C.le
  have hp0 : p ≤ w.heap.size := Nat.le_of_lt h.lt
  obtain ⟨R, hR1⟩ : ∃ R, printF (n + 1) (.index e) s k = R := ⟨_, rfl⟩
  rw [hR1] at hD ⊢
  have hR0 : (printF (n + 1) (.index e) s k).bind .ok = R := by rw [bind_ok]; exact hR1
  clear hR1
  unfold printF at hR0
  have XB : Hid (Box2 ((w.alloc (.cells #[pV p] 161)).alloc (.cells #[.pointer o] 49)) p w.heap.size (w.heap.size + 1) (pV p) (.pointer o)) := Lib.hid (box2_new h.lt)
  have H : Hid (WAt ((w.alloc (.cells #[pV p] 161)).alloc (.cells #[.pointer o] 49)) p s k) := Lib.hid ((h.alloc _).alloc _)
  have HB : Hid (Below b.heap.size b ((w.alloc (.cells #[pV p] 161)).alloc (.cells #[.pointer o] 49))) := Lib.hid (below_al (below_al hB _) _)
  have KK : Hid (WK p w ((w.alloc (.cells #[pV p] 161)).alloc (.cells #[.pointer o] 49))) := Lib.hid (((WK.refl p w).more hp0 _).more hp0 _)
  have SS := Lib.hid S
  have HD := Lib.hid hD
  clear h hB hD S
  have NM := Lib.hid (isNamed_any HB.out C.env q0)
  by_cases hN : namedE e = true
  · rw [hN] at NM
    simp only [if_pos hN] at hR0
    obtain ⟨g, l, va, vb, vk, vs, vp, vy, ev, hx⟩ := q0.node (by unfold namedE isOf at hN; simp only [Bool.and_eq_true] at hN; exact hN.1.1)
    obtain rfl : o = some ⟨g, 0, none⟩ := by injection ev
    clear ev
    have XC := Lib.hid hx; have tl := hx.l; have tr := hx.r; have hsh := hx.short; have XI := Lib.hid hx.is
    repeat (first | simp only at hR0 | simp only [bind_bind] at hR0 | simp only [ok_bind] at hR0 | simp only [bad_bind] at hR0)
    have hR := Lib.hid hR0; clear hR0
    clear hx hN
    go_enter Tryz.func200, Tryz.ntmps200
    go_wp2_with (first
      | (go_at_call 240; (with_reducible refine (NM.out).mono ?_); rintro e w1 ⟨rfl, hb⟩; replace H := Lib.hid (H.out.below hb); replace KK := Lib.hid (KK.out.newer (Nat.le_of_lt (Nat.lt_of_lt_of_le hpl KK.out.below.size)) hb); replace HB := Lib.hid (HB.out.trans (hb.mono HB.out.size)); replace XB := Lib.hid (XB.out.below hb); have x0 := XB.out.b0.cell; have x1 := XB.out.b1.cell; have z0 := XB.out.b0.lt; have z1 := XB.out.b1.lt; clear hb)
      | (go_at_call 157; (with_reducible refine (begin_step ?_ hR.out).mono ?_); (· exact ab9); rintro e w1 hE; rcases hE with ⟨c, hq, rfl, hk⟩ | ⟨s1, k1, hq, rfl, hh, hk⟩; (· exact ⟨rfl, ends_bad hq ab3 hk⟩); replace hR := Lib.hid hq; replace H := Lib.hid hh; (have KN : WK p w w1 := WK.trans ab3 hk); (have HN : Below b.heap.size b w1 := Below.trans ab4 (hk.below.mono hle)); (have XN : Box2 w1 p w.heap.size (w.heap.size + 1) (pV p) (pV g) := Box2.keep ab7 hk); replace KK := Lib.hid KN; replace HB := Lib.hid HN; replace XB := Lib.hid XN; have x0 := XB.out.b0.cell; have x1 := XB.out.b1.cell; have z0 := XB.out.b0.lt; have z1 := XB.out.b1.lt; clear XN; have q3 := (HB.out.cell (p := ⟨g, 3, none⟩) XC.out.lt).trans XC.out.c.c3; clear hq hh hk KN HN))
    go_region_with (first
      | (go_at_call 116; (with_reducible refine (put2_at ?_ ?_ ?_ hR.out ?_).mono ?_); (· exact ab9); (· exact ⟨_, heap_alloc_new _ _⟩); (· have := H.out.lt; omega); (· first | (simp; done) | (simp; omega) | omega); rintro e w1 hE; rcases hE with ⟨c, hq, rfl, hk⟩ | ⟨s1, k1, hq, rfl, hh, hk⟩; (· exact ⟨rfl, ends_bad hq ab3 hk⟩); replace hR := Lib.hid hq; replace H := Lib.hid hh; (have KN : WK p w w1 := WK.trans ab3 hk); (have HN : Below b.heap.size b w1 := Below.trans ab4 (hk.below.mono hle)); (have XN : Box2 w1 p w.heap.size (w.heap.size + 1) (pV p) (pV g) := Box2.keep ab7 hk); replace KK := Lib.hid KN; replace HB := Lib.hid HN; replace XB := Lib.hid XN; have x0 := XB.out.b0.cell; have x1 := XB.out.b1.cell; have z0 := XB.out.b0.lt; have z1 := XB.out.b1.lt; clear XN; clear hq hh hk KN HN))
    all_goals
      go_wp2_with fail
      go_end0
      exact ends_ok hR.out H.out KK.out
  · have hN2 : namedE e = false := by simpa using hN
    rw [hN2] at NM
    simp only [if_neg hN] at hR0
    repeat (first | simp only at hR0 | simp only [bind_bind] at hR0 | simp only [ok_bind] at hR0 | simp only [bad_bind] at hR0)
    have hR := Lib.hid hR0; clear hR0
    clear hN hN2
    go_enter Tryz.func200, Tryz.ntmps200
    go_wp2_with (first
      | (go_at_call 240; (with_reducible refine (NM.out).mono ?_); rintro e w1 ⟨rfl, hb⟩; replace H := Lib.hid (H.out.below hb); replace KK := Lib.hid (KK.out.newer (Nat.le_of_lt (Nat.lt_of_lt_of_le hpl KK.out.below.size)) hb); replace HB := Lib.hid (HB.out.trans (hb.mono HB.out.size)); replace XB := Lib.hid (XB.out.below hb); have x0 := XB.out.b0.cell; have x1 := XB.out.b1.cell; have z0 := XB.out.b0.lt; have z1 := XB.out.b1.lt; clear hb)
      | (go_at_call 241; (with_reducible refine (encl_step H.out ?_ ?_ (fun w1 s1 k1 a b' c => clo_index C SS.out (HB.out.trans (a.below.mono hle)) b' (XB.out.keep a) (by assumption) c) enter_index hR.out HD.out).mono ?_); (· simp); (· simp); rintro e w1 hE; rcases hE with ⟨c, hq, rfl, hk⟩ | ⟨s1, k1, hq, rfl, hh, hk⟩; (· exact ⟨rfl, ends_bad hq ab3 hk⟩); replace hR := Lib.hid hq; replace H := Lib.hid hh; (have KN : WK p w w1 := WK.trans ab3 hk); (have HN : Below b.heap.size b w1 := Below.trans ab4 (hk.below.mono hle)); (have XN : Box2 w1 p w.heap.size (w.heap.size + 1) (pV p) (.pointer o) := Box2.keep ab7 hk); replace KK := Lib.hid KN; replace HB := Lib.hid HN; replace XB := Lib.hid XN; have x0 := XB.out.b0.cell; have x1 := XB.out.b1.cell; have z0 := XB.out.b0.lt; have z1 := XB.out.b1.lt; clear XN; clear hq hh hk KN HN))
    go_end0
    exact ends_ok hR.out H.out KK.out
set_option maxHeartbeats 4000000 in
theorem item_next {b w : World} {p n : Nat} (C : Env6 b p) (S : Spec b p n) {e key : Tree} {v kv : Value} {s : List UInt8} {k : Nat} (hB : Below b.heap.size b w) (h : WAt w p s k) (q0 : TE b key kv) (q1 : TE b e v) (hD : printF (n + 1) (.item key e) s k ≠ .out) : Calls Tryz.prog 208 #[pV p, kv, v] w (WEnds p (printF (n + 1) (.item key e) s k) w) := by
  have hpl := h.lt
  obtain ⟨ov, rfl⟩ := q1.ptr
  rcases q0.cases with ⟨rfl, rfl⟩ | ⟨g, l, va, vb, vk, vs, vp, vy, rfl, hx⟩
  · clear q0
    have hle := C.le
    have hp0 : p ≤ w.heap.size := Nat.le_of_lt h.lt
    obtain ⟨R, hR1⟩ : ∃ R, printF (n + 1) (.item .nil e) s k = R := ⟨_, rfl⟩
    rw [hR1] at hD ⊢
    have hR0 : (printF (n + 1) (.item .nil e) s k).bind .ok = R := by rw [bind_ok]; exact hR1
    clear hR1
    unfold printF at hR0
    have XB : Hid (Box2 ((w.alloc (.cells #[pV p] 161)).alloc (.cells #[.pointer none] 49)) p w.heap.size (w.heap.size + 1) (pV p) (.pointer none)) := Lib.hid (box2_new h.lt)
    have H : Hid (WAt ((w.alloc (.cells #[pV p] 161)).alloc (.cells #[.pointer none] 49)) p s k) := Lib.hid ((h.alloc _).alloc _)
    have HB : Hid (Below b.heap.size b ((w.alloc (.cells #[pV p] 161)).alloc (.cells #[.pointer none] 49))) := Lib.hid (below_al (below_al hB _) _)
    have KK : Hid (WK p w ((w.alloc (.cells #[pV p] 161)).alloc (.cells #[.pointer none] 49))) := Lib.hid (((WK.refl p w).more hp0 _).more hp0 _)
    have SS := Lib.hid S
    have HD := Lib.hid hD
    clear h hB hD S
    simp only [isX] at hR0
    repeat (first | simp only at hR0 | simp only [bind_bind] at hR0 | simp only [ok_bind] at hR0 | simp only [bad_bind] at hR0 | simp only [reduceIte] at hR0 | simp only [if_true] at hR0)
    have hR := Lib.hid hR0; clear hR0
    go_enter Tryz.func208, Tryz.ntmps208
    go_wp2_with (first
      | (go_at_call 159; (with_reducible refine (SS.out.expr_step ?_ ?_ (by assumption) hR.out HD.out).mono ?_); (· exact ab4); (· exact ab9); rintro e w1 hE; rcases hE with ⟨c, hq, rfl, hk⟩ | ⟨s1, k1, hq, rfl, hh, hk⟩; (· exact ⟨rfl, ends_bad hq ab3 hk⟩); replace hR := Lib.hid hq; replace H := Lib.hid hh; (have KN : WK p w w1 := WK.trans ab3 hk); (have HN : Below b.heap.size b w1 := Below.trans ab4 (hk.below.mono hle)); (have XN : Box2 w1 p w.heap.size (w.heap.size + 1) (pV p) (.pointer none) := Box2.keep ab7 hk); replace KK := Lib.hid KN; replace HB := Lib.hid HN; replace XB := Lib.hid XN; have x0 := XB.out.b0.cell; have x1 := XB.out.b1.cell; have z0 := XB.out.b0.lt; have z1 := XB.out.b1.lt; clear XN; clear hq hh hk KN HN))
    go_end0
    exact ends_ok hR.out H.out KK.out
  · have hle := C.le
    have hp0 : p ≤ w.heap.size := Nat.le_of_lt h.lt
    obtain ⟨R, hR1⟩ : ∃ R, printF (n + 1) (.item key e) s k = R := ⟨_, rfl⟩
    rw [hR1] at hD ⊢
    have hR0 : (printF (n + 1) (.item key e) s k).bind .ok = R := by rw [bind_ok]; exact hR1
    clear hR1
    unfold printF at hR0
    have XB : Hid (Box2 ((w.alloc (.cells #[pV p] 161)).alloc (.cells #[pV g] 49)) p w.heap.size (w.heap.size + 1) (pV p) (pV g)) := Lib.hid (box2_new h.lt)
    have H : Hid (WAt ((w.alloc (.cells #[pV p] 161)).alloc (.cells #[pV g] 49)) p s k) := Lib.hid ((h.alloc _).alloc _)
    have HB : Hid (Below b.heap.size b ((w.alloc (.cells #[pV p] 161)).alloc (.cells #[pV g] 49))) := Lib.hid (below_al (below_al hB _) _)
    have KK : Hid (WK p w ((w.alloc (.cells #[pV p] 161)).alloc (.cells #[pV g] 49))) := Lib.hid (((WK.refl p w).more hp0 _).more hp0 _)
    have SS := Lib.hid S
    have HD := Lib.hid hD
    clear h hB hD S
    have NM := Lib.hid (isNamed_any HB.out C.env q0)
    have XC := Lib.hid hx; have tl := hx.l; have tr := hx.r; have hsh := hx.short; have XI := Lib.hid hx.is
    simp only [if_neg (show ¬ isX key = false from by rw [hx.is]; simp)] at hR0
    by_cases hN : namedE key = true
    · rw [hN] at NM
      simp only [if_pos hN] at hR0
      repeat (first | simp only at hR0 | simp only [bind_bind] at hR0 | simp only [ok_bind] at hR0 | simp only [bad_bind] at hR0)
      have hR := Lib.hid hR0; clear hR0
      clear hx hN
      go_enter Tryz.func208, Tryz.ntmps208
      go_wp2_with (first
        | (go_at_call 240; (with_reducible refine (NM.out).mono ?_); rintro e w1 ⟨rfl, hb⟩; replace H := Lib.hid (H.out.below hb); replace KK := Lib.hid (KK.out.newer (Nat.le_of_lt (Nat.lt_of_lt_of_le hpl KK.out.below.size)) hb); replace HB := Lib.hid (HB.out.trans (hb.mono HB.out.size)); replace XB := Lib.hid (XB.out.below hb); have x0 := XB.out.b0.cell; have x1 := XB.out.b1.cell; have z0 := XB.out.b0.lt; have z1 := XB.out.b1.lt; clear hb)
        | (go_at_call 157; (with_reducible refine (begin_step ?_ hR.out).mono ?_); (· exact ab9); rintro e w1 hE; rcases hE with ⟨c, hq, rfl, hk⟩ | ⟨s1, k1, hq, rfl, hh, hk⟩; (· exact ⟨rfl, ends_bad hq ab3 hk⟩); replace hR := Lib.hid hq; replace H := Lib.hid hh; (have KN : WK p w w1 := WK.trans ab3 hk); (have HN : Below b.heap.size b w1 := Below.trans ab4 (hk.below.mono hle)); (have XN : Box2 w1 p w.heap.size (w.heap.size + 1) (pV p) (pV g) := Box2.keep ab7 hk); replace KK := Lib.hid KN; replace HB := Lib.hid HN; replace XB := Lib.hid XN; have x0 := XB.out.b0.cell; have x1 := XB.out.b1.cell; have z0 := XB.out.b0.lt; have z1 := XB.out.b1.lt; clear XN; have q3 := (HB.out.cell (p := ⟨g, 3, none⟩) XC.out.lt).trans XC.out.c.c3; clear hq hh hk KN HN))
      go_region_with (first
        | (go_at_call 116; (with_reducible refine (put2_at ?_ ?_ ?_ hR.out ?_).mono ?_); (· exact ab9); (· exact ⟨_, heap_alloc_new _ _⟩); (· have := H.out.lt; omega); (· first | (simp; done) | (simp; omega) | omega); rintro e w1 hE; rcases hE with ⟨c, hq, rfl, hk⟩ | ⟨s1, k1, hq, rfl, hh, hk⟩; (· exact ⟨rfl, ends_bad hq ab3 hk⟩); replace hR := Lib.hid hq; replace H := Lib.hid hh; (have KN : WK p w w1 := WK.trans ab3 hk); (have HN : Below b.heap.size b w1 := Below.trans ab4 (hk.below.mono hle)); (have XN : Box2 w1 p w.heap.size (w.heap.size + 1) (pV p) (pV g) := Box2.keep ab7 hk); replace KK := Lib.hid KN; replace HB := Lib.hid HN; replace XB := Lib.hid XN; have x0 := XB.out.b0.cell; have x1 := XB.out.b1.cell; have z0 := XB.out.b0.lt; have z1 := XB.out.b1.lt; clear XN; clear hq hh hk KN HN))
      all_goals
        go_wp2_with (first
          | (go_at_call 159; (with_reducible refine (SS.out.expr_step ?_ ?_ (by assumption) hR.out HD.out).mono ?_); (· exact ab4); (· exact ab9); rintro e w1 hE; rcases hE with ⟨c, hq, rfl, hk⟩ | ⟨s1, k1, hq, rfl, hh, hk⟩; (· exact ⟨rfl, ends_bad hq ab3 hk⟩); replace hR := Lib.hid hq; replace H := Lib.hid hh; (have KN : WK p w w1 := WK.trans ab3 hk); (have HN : Below b.heap.size b w1 := Below.trans ab4 (hk.below.mono hle)); (have XN : Box2 w1 p w.heap.size (w.heap.size + 1) (pV p) (pV g) := Box2.keep ab7 hk); replace KK := Lib.hid KN; replace HB := Lib.hid HN; replace XB := Lib.hid XN; have x0 := XB.out.b0.cell; have x1 := XB.out.b1.cell; have z0 := XB.out.b0.lt; have z1 := XB.out.b1.lt; clear XN; clear hq hh hk KN HN))
        go_end0
        exact ends_ok hR.out H.out KK.out
    · have hN2 : namedE key = false := by simpa using hN
      rw [hN2] at NM
      simp only [if_neg hN] at hR0
      repeat (first | simp only at hR0 | simp only [bind_bind] at hR0 | simp only [ok_bind] at hR0 | simp only [bad_bind] at hR0)
      have hR := Lib.hid hR0; clear hR0
      clear hx hN hN2
      go_enter Tryz.func208, Tryz.ntmps208
      go_wp2_with (first
        | (go_at_call 240; (with_reducible refine (NM.out).mono ?_); rintro e w1 ⟨rfl, hb⟩; replace H := Lib.hid (H.out.below hb); replace KK := Lib.hid (KK.out.newer (Nat.le_of_lt (Nat.lt_of_lt_of_le hpl KK.out.below.size)) hb); replace HB := Lib.hid (HB.out.trans (hb.mono HB.out.size)); replace XB := Lib.hid (XB.out.below hb); have x0 := XB.out.b0.cell; have x1 := XB.out.b1.cell; have z0 := XB.out.b0.lt; have z1 := XB.out.b1.lt; clear hb)
        | (go_at_call 241; (with_reducible refine (encl_step H.out ?_ ?_ (fun w1 s1 k1 a b' c => clo_item C SS.out (HB.out.trans (a.below.mono hle)) b' (XB.out.keep a) (by assumption) c) enter_item hR.out HD.out).mono ?_); (· simp); (· simp); rintro e w1 hE; rcases hE with ⟨c, hq, rfl, hk⟩ | ⟨s1, k1, hq, rfl, hh, hk⟩; (· exact ⟨rfl, ends_bad hq ab3 hk⟩); replace hR := Lib.hid hq; replace H := Lib.hid hh; (have KN : WK p w w1 := WK.trans ab3 hk); (have HN : Below b.heap.size b w1 := Below.trans ab4 (hk.below.mono hle)); (have XN : Box2 w1 p w.heap.size (w.heap.size + 1) (pV p) (pV g) := Box2.keep ab7 hk); replace KK := Lib.hid KN; replace HB := Lib.hid HN; replace XB := Lib.hid XN; have x0 := XB.out.b0.cell; have x1 := XB.out.b1.cell; have z0 := XB.out.b0.lt; have z1 := XB.out.b1.lt; clear XN; clear hq hh hk KN HN)
        | (go_at_call 116; (with_reducible refine (put_step ?_ ?_ hR.out ?_).mono ?_); (· exact ab9); (· rfl); (· first | (simp; done) | (simp; omega) | omega); rintro e w1 hE; rcases hE with ⟨c, hq, rfl, hk⟩ | ⟨s1, k1, hq, rfl, hh, hk⟩; (· exact ⟨rfl, ends_bad hq ab3 hk⟩); replace hR := Lib.hid hq; replace H := Lib.hid hh; (have KN : WK p w w1 := WK.trans ab3 hk); (have HN : Below b.heap.size b w1 := Below.trans ab4 (hk.below.mono hle)); (have XN : Box2 w1 p w.heap.size (w.heap.size + 1) (pV p) (pV g) := Box2.keep ab7 hk); replace KK := Lib.hid KN; replace HB := Lib.hid HN; replace XB := Lib.hid XN; have x0 := XB.out.b0.cell; have x1 := XB.out.b1.cell; have z0 := XB.out.b0.lt; have z1 := XB.out.b1.lt; clear XN; clear hq hh hk KN HN)
        | (go_at_call 159; (with_reducible refine (SS.out.expr_step ?_ ?_ (by assumption) hR.out HD.out).mono ?_); (· exact ab4); (· exact ab9); rintro e w1 hE; rcases hE with ⟨c, hq, rfl, hk⟩ | ⟨s1, k1, hq, rfl, hh, hk⟩; (· exact ⟨rfl, ends_bad hq ab3 hk⟩); replace hR := Lib.hid hq; replace H := Lib.hid hh; (have KN : WK p w w1 := WK.trans ab3 hk); (have HN : Below b.heap.size b w1 := Below.trans ab4 (hk.below.mono hle)); (have XN : Box2 w1 p w.heap.size (w.heap.size + 1) (pV p) (pV g) := Box2.keep ab7 hk); replace KK := Lib.hid KN; replace HB := Lib.hid HN; replace XB := Lib.hid XN; have x0 := XB.out.b0.cell; have x1 := XB.out.b1.cell; have z0 := XB.out.b0.lt; have z1 := XB.out.b1.lt; clear XN; clear hq hh hk KN HN))
      go_end0
      exact ends_ok hR.out H.out KK.out
theorem enter_body (args : Array Value) (w : World) : (callFunc 244 args).run Tryz.prog w = .ok (.enter 244 args) w := enters_of Tryz.func244 (by kernel_rfl) rfl args w
set_option maxHeartbeats 4000000 in
theorem clo_body {b w : World} {p n q0 q1 j : Nat} (C : Env6 b p) (_S : Spec b p n) {e : Tree} {g : Nat} {l : Int} {va vb vk vs vp vy : Value} {s : List UInt8} {k : Nat} (hB : Below b.heap.size b w) (h : WAt w p s k) (hX : Box2 w p q0 q1 (pV p) (pV g)) (hx : ExB b e g l va vb vk vs vp vy) (hj : j < lenT (parsT e)) (_hD : putT (nameT6 (getT (parsT e) j)) s k ≠ .out) : Calls Tryz.prog 244 #[iV j, pV q0, pV q1] w (WEnds p (putT (nameT6 (getT (parsT e) j)) s k) w) := by
  have hle := C.le
  have hp0 : p ≤ w.heap.size := Nat.le_of_lt h.lt
  obtain ⟨A, c, rfl⟩ := hx.pars.sl
  obtain ⟨gA, tx, rfl, hgA, hc, e1, hl⟩ := hx.pars.getP j hj
  have en : nameT6 (getT (parsT e) j) = tx := by rw [e1]; rfl
  rw [en]
  have x0 := hX.b0.cell
  have x1 := hX.b1.cell
  have z0 := hX.b0.lt
  have z1 := hX.b1.lt
  have q8 := (hB.cell (p := ⟨g, 8, none⟩) hx.lt).trans hx.c.c8
  have q9 := (hB.cell (p := ⟨gA, j, none⟩) hgA).trans hc
  have z2 : g < w.heap.size := Nat.lt_of_lt_of_le hx.lt hB.size
  have z3 : gA < w.heap.size := Nat.lt_of_lt_of_le hgA hB.size
  have k0 : (0 : Int) ≤ (j : Int) := by omega
  have k1 : (j : Int) < (lenT (parsT e) : Int) := by omega
  obtain ⟨R, hR1⟩ : ∃ R, putT tx s k = R := ⟨_, rfl⟩
  rw [hR1]
  have hR : Hid ((putT tx s k).bind .ok = R) := Lib.hid (by rw [bind_ok]; exact hR1)
  have H := Lib.hid h
  have HB := Lib.hid hB
  have KK := Lib.hid (WK.refl p w)
  clear hR1 h hB hX hx hj hc hgA en e1
  go_enter Tryz.func244, Tryz.ntmps244
  go_wp2
  go_region_with (first
    | (go_at_call 116; (with_reducible refine (put1_at ?_ ?_ ?_ hR.out ?_).mono ?_); (· exact ab9); (· exact ⟨_, heap_alloc_new _ _⟩); (· have := H.out.lt; omega); (· first | (simp; done) | (simp; omega) | omega); rintro e w1 hE; rcases hE with ⟨c, hq, rfl, hk⟩ | ⟨s1, k1, hq, rfl, hh, hk⟩; (· exact ⟨rfl, ends_bad hq ab3 hk⟩); replace hR := Lib.hid hq; replace H := Lib.hid hh; (have KN : WK p w w1 := WK.trans ab3 hk); (have HN : Below b.heap.size b w1 := Below.trans ab4 (hk.below.mono hle)); replace KK := Lib.hid KN; replace HB := Lib.hid HN; clear hq hh hk KN HN))
  all_goals
    go_wp2_with fail
    go_end0
    exact ends_ok hR.out H.out KK.out
set_option maxHeartbeats 4000000 in
theorem body_next {b w : World} {p n : Nat} (C : Env6 b p) (S : Spec b p n) {e : Tree} {v : Value} {s : List UInt8} {k : Nat} (hB : Below b.heap.size b w) (h : WAt w p s k) (q0 : TE b e v) (q1 : isX e = true) (hD : printF (n + 1) (.body e) s k ≠ .out) : Calls Tryz.prog 203 #[pV p, v] w (WEnds p (printF (n + 1) (.body e) s k) w) := by
  have hpl := h.lt
  obtain ⟨g, l, va, vb, vk, vs, vp, vy, rfl, hx⟩ := q0.node q1
  have hle := C.le
  have hp0 : p ≤ w.heap.size := Nat.le_of_lt h.lt
  obtain ⟨R, hR1⟩ : ∃ R, printF (n + 1) (.body e) s k = R := ⟨_, rfl⟩
  rw [hR1] at hD ⊢
  have hR0 : (printF (n + 1) (.body e) s k).bind .ok = R := by rw [bind_ok]; exact hR1
  clear hR1
  unfold printF at hR0
  have XB : Hid (Box2 ((w.alloc (.cells #[pV p] 161)).alloc (.cells #[pV g] 49)) p w.heap.size (w.heap.size + 1) (pV p) (pV g)) := Lib.hid (box2_new h.lt)
  have H : Hid (WAt ((w.alloc (.cells #[pV p] 161)).alloc (.cells #[pV g] 49)) p s k) := Lib.hid ((h.alloc _).alloc _)
  have HB : Hid (Below b.heap.size b ((w.alloc (.cells #[pV p] 161)).alloc (.cells #[pV g] 49))) := Lib.hid (below_al (below_al hB _) _)
  have KK : Hid (WK p w ((w.alloc (.cells #[pV p] 161)).alloc (.cells #[pV g] 49))) := Lib.hid (((WK.refl p w).more hp0 _).more hp0 _)
  have SS := Lib.hid S
  have HD := Lib.hid hD
  clear h hB hD S
  have XC := Lib.hid hx; have tl := hx.l; have tr := hx.r; have hsh := hx.short; have XI := Lib.hid hx.is
  obtain ⟨A, cA, rfl⟩ := hx.pars.sl
  have hfew := hx.pars.few
  have tb := hx.body
  repeat (first | simp only at hR0 | simp only [bind_bind] at hR0 | simp only [ok_bind] at hR0 | simp only [bad_bind] at hR0)
  have hR := Lib.hid hR0; clear hR0
  clear hx
  go_enter Tryz.func203, Tryz.ntmps203
  go_wp2_with fail
  generalize ((w.alloc (.cells #[pV p] 161)).alloc (.cells #[pV g] 49)) = w2 at H KK HB XB ⊢
  have x0 := XB.out.b0.cell
  have x1 := XB.out.b1.cell
  have z0 := XB.out.b0.lt
  have z1 := XB.out.b1.lt
  have q8 := (HB.out.cell (p := ⟨g, 8, none⟩) XC.out.lt).trans XC.out.c.c8
  go_still_tail 7, (by kernel_rfl)
  change wpList _ _ _ _ _ (World.drew _)
  replace H := Lib.hid H.out.drew
  replace KK := Lib.hid KK.out.drew
  replace HB := Lib.hid HB.out.drew
  replace XB := Lib.hid XB.out.drew
  generalize World.drew _ = w2 at H KK HB XB ⊢
  have x0 := XB.out.b0.cell
  have x1 := XB.out.b1.cell
  have z0 := XB.out.b0.lt
  have z1 := XB.out.b1.lt
  have q8 := (HB.out.cell (p := ⟨g, 8, none⟩) XC.out.lt).trans XC.out.c.c8
  go_wp2_with (first
    | (go_at_call 201; (with_reducible refine (list_step H.out ?_ ?_ hfew (fun j w1 s1 k1 hj a b' c => clo_body C SS.out (HB.out.trans (a.below.mono hle)) b' (XB.out.keep a) XC.out hj c) enter_body hR.out HD.out).mono ?_); (· simp); (· simp); rintro e w1 hE; rcases hE with ⟨c, hq, rfl, hk⟩ | ⟨s1, k1, hq, rfl, hh, hk⟩; (· exact ⟨rfl, ends_bad hq ab3 hk⟩); replace hR := Lib.hid hq; replace H := Lib.hid hh; (have KN : WK p w w1 := WK.trans ab3 hk); (have HN : Below b.heap.size b w1 := Below.trans ab4 (hk.below.mono hle)); (have XN : Box2 w1 p w.heap.size (w.heap.size + 1) (pV p) (pV g) := Box2.keep ab7 hk); replace KK := Lib.hid KN; replace HB := Lib.hid HN; replace XB := Lib.hid XN; have x0 := XB.out.b0.cell; have x1 := XB.out.b1.cell; have z0 := XB.out.b0.lt; have z1 := XB.out.b1.lt; clear XN; have q9 := (HB.out.cell (p := ⟨g, 9, none⟩) XC.out.lt).trans XC.out.c.c9; clear hq hh hk KN HN))
  go_still_tail 5, (by kernel_rfl)
  change wpList _ _ _ _ _ (World.drew _)
  replace H := Lib.hid H.out.drew
  replace KK := Lib.hid KK.out.drew
  replace HB := Lib.hid HB.out.drew
  replace XB := Lib.hid XB.out.drew
  generalize World.drew _ = w2 at H KK HB XB ⊢
  have x0 := XB.out.b0.cell
  have x1 := XB.out.b1.cell
  have z0 := XB.out.b0.lt
  have z1 := XB.out.b1.lt
  have q9 := (HB.out.cell (p := ⟨g, 9, none⟩) XC.out.lt).trans XC.out.c.c9
  go_wp2_with (first
    | (go_at_call 209; (with_reducible refine (SS.out.block_step ?_ ?_ (by assumption) hR.out HD.out).mono ?_); (· exact ab4); (· exact ab9); rintro e w1 hE; rcases hE with ⟨c, hq, rfl, hk⟩ | ⟨s1, k1, hq, rfl, hh, hk⟩; (· exact ⟨rfl, ends_bad hq ab3 hk⟩); replace hR := Lib.hid hq; replace H := Lib.hid hh; (have KN : WK p w w1 := WK.trans ab3 hk); (have HN : Below b.heap.size b w1 := Below.trans ab4 (hk.below.mono hle)); (have XN : Box2 w1 p w.heap.size (w.heap.size + 1) (pV p) (pV g) := Box2.keep ab7 hk); replace KK := Lib.hid KN; replace HB := Lib.hid HN; replace XB := Lib.hid XN; have x0 := XB.out.b0.cell; have x1 := XB.out.b1.cell; have z0 := XB.out.b0.lt; have z1 := XB.out.b1.lt; clear XN; clear hq hh hk KN HN)
    | (go_at_call 116; (with_reducible refine (put_step ?_ ?_ hR.out ?_).mono ?_); (· exact ab9); (· rfl); (· first | (simp; done) | (simp; omega) | omega); rintro e w1 hE; rcases hE with ⟨c, hq, rfl, hk⟩ | ⟨s1, k1, hq, rfl, hh, hk⟩; (· exact ⟨rfl, ends_bad hq ab3 hk⟩); replace hR := Lib.hid hq; replace H := Lib.hid hh; (have KN : WK p w w1 := WK.trans ab3 hk); (have HN : Below b.heap.size b w1 := Below.trans ab4 (hk.below.mono hle)); (have XN : Box2 w1 p w.heap.size (w.heap.size + 1) (pV p) (pV g) := Box2.keep ab7 hk); replace KK := Lib.hid KN; replace HB := Lib.hid HN; replace XB := Lib.hid XN; have x0 := XB.out.b0.cell; have x1 := XB.out.b1.cell; have z0 := XB.out.b0.lt; have z1 := XB.out.b1.lt; clear XN; clear hq hh hk KN HN))
  go_end0
  exact ends_ok hR.out H.out KK.out
end Go.Proofs.YtoggkigfijgbfaaGreatDoor.P6
