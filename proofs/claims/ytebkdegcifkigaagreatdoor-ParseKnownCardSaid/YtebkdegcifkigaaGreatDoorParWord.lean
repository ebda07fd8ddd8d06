/- A word as an expression; a name as one. -/
import Derived.Test.YtebkdegcifkigaaGreatDoorParSmall2
import Derived.RegionTactic
namespace Go.Proofs.YtebkdegcifkigaaGreatDoor.P5
set_option maxRecDepth 20000
open Go.RowKit Go.Maps
theorem ok_bind (x : Tree) (ts : List Tok) (f : Tree → List Tok → Res) : (Res.ok x ts).bind f = f x ts := rfl
theorem named_any {w : World} {p d : Nat} {ts : List Tok} (kind : Int) (h : PAt w p d ts) : Calls Tryz.prog 112 #[pV p, iV kind] w (Ends p d [p] (namedT kind ts) (VE w.heap.size) w) := by
  have hpl := h.lt
  have hD : namedT kind ts ≠ .out := by unfold namedT nameT; split <;> simp [Res.bind]
  unfold namedT at hD ⊢
  have D0 : nameT ts ≠ .out := bind_done hD
  have C0 := Lib.hid (fun (w : World) (h : PAt w p (d) ts) => name_any h)
  generalize nameT ts = r0 at hD D0 C0 ⊢
  cases r0 with
  | out => exact absurd rfl D0
  | bad c l =>
    clear hD D0
    go_enter Tryz.func112, Tryz.ntmps112
    go_wp2_with (first
      | (go_at_call 107; (with_reducible refine (C0.out _ ?_).mono ?_); (· (repeat' (first | assumption | refine PAt.alloc ?_ _ | refine PAt.set ?_ (by omega) _))); rintro e wb hB; obtain ⟨b', rfl, hb1, hb2, hb3, hb4⟩ := hB)
      | (go_at_call 40; (with_reducible refine (line_any (by (repeat' (first | assumption | refine PAt.alloc ?_ _ | refine PAt.set ?_ (by omega) _)))).mono ?_); rintro e wz ⟨rfl, hqz⟩; obtain rfl := hqz.symm))
    exact ⟨rfl, b', rfl, Nat.le_trans (by first | exact Nat.le_refl _ | omega | (simp; omega)) hb1, hb2, ((by repeat' (first | exact Past.refl _ _ | exact Past.mono (by assumption) (by simp) | refine Past.alloc ?_ _ | refine Past.setCell ?_ (.inl (by simp)) _ | refine Past.setCell ?_ (.inr (by omega)) _ | refine Past.trans ?_ (Past.mono (by assumption) (by simp)))) : Past [p] w _).then hb3 (by simp), hb4⟩
  | ok x0 ts0 =>
    rw [ok_bind] at hD ⊢
    clear hD
    go_enter Tryz.func112, Tryz.ntmps112
    go_wp2_with (first
      | (go_at_call 107; (with_reducible refine (C0.out _ ?_).mono ?_); (· (repeat' (first | assumption | refine PAt.alloc ?_ _ | refine PAt.set ?_ (by omega) _))); rintro e w0 ⟨v0, rfl, rfl, hp0, hw0⟩; have hz0 := hw0.size; (try simp at hz0))
      | (go_at_call 40; (with_reducible refine (line_any (by (repeat' (first | assumption | refine PAt.alloc ?_ _ | refine PAt.set ?_ (by omega) _)))).mono ?_); rintro e wz ⟨rfl, hqz⟩; obtain rfl := hqz.symm))
    go_ret
    exact ⟨_, rfl, ⟨at_ex (exC_new _ _ _ _ _ _ _ _ _ _ _ _) ⟨by omega, by simp⟩ rfl rfl (sl_nil _ _) (sl_nil _ _) (sl_nil _ _) (sl_nil _ _), rfl⟩, (by (repeat' (first | assumption | refine PAt.alloc ?_ _ | refine PAt.set ?_ (by omega) _))), (by repeat' (first | exact Past.refl _ _ | exact Past.mono (by assumption) (by simp) | refine Past.alloc ?_ _ | refine Past.setCell ?_ (.inl (by simp)) _ | refine Past.setCell ?_ (.inr (by omega)) _ | refine Past.trans ?_ (Past.mono (by assumption) (by simp))))⟩
theorem node_at {w w2 : World} {p : Nat} {cs : Array Value} {k l n : Int} {s : List UInt8} {T1 T2 : TypeId} (hp : p < w.heap.size) (hw : Past [p] ((w.alloc (.cells cs T1)).alloc (.cells #[iV k, iV l, iV n, sV s, .pointer none, .pointer none, .slice none 0 0, .slice none 0 0, .slice none 0 0, .slice none 0 0] T2)) w2) : ExC w2 (w.heap.size + 1) k l n s (.pointer none) (.pointer none) (.slice none 0 0) (.slice none 0 0) (.slice none 0 0) (.slice none 0 0) := by
  have h := exC_new (w.alloc (.cells cs T1)) k l n s (.pointer none) (.pointer none) (.slice none 0 0) (.slice none 0 0) (.slice none 0 0) (.slice none 0 0) T2
  have hz : (w.alloc (.cells cs T1)).heap.size = w.heap.size + 1 := by simp
  rw [hz] at h
  exact h.keep (hw.block _ h.lt (by simp; omega))
theorem node_ve {w2 : World} {lo b : Nat} {k l n : Int} {s : List UInt8} (h : ExC w2 b k l n s (.pointer none) (.pointer none) (.slice none 0 0) (.slice none 0 0) (.slice none 0 0) (.slice none 0 0)) (hb : lo ≤ b) : VE lo (.ex k l n s .nil .nil .nil .nil .nil .nil) w2 (pV b) :=
  ⟨at_ex h ⟨hb, h.lt⟩ rfl rfl (sl_nil _ _) (sl_nil _ _) (sl_nil _ _) (sl_nil _ _), rfl⟩
theorem past_drew {E : List Nat} {w w2 : World} (h : Past E w.drew w2) : Past E w w2 := ⟨h.os, h.tape, h.output, h.size, h.block⟩
set_option maxHeartbeats 2000000 in
theorem word_any {w : World} {p d : Nat} {ts : List Tok} (h : PAt w p d ts) : Calls Tryz.prog 162 #[pV p] w (Ends p d [p] (wordT ts) (VE w.heap.size) w) := by
  have hpl := h.lt
  have h' := h
  obtain ⟨g, o, c, m, h'⟩ := h'
  have hg : g < w.heap.size := by have := h'.gp; omega
  have c0 := h'.c0
  obtain ⟨hl, hh⟩ := h'.hd
  have h0 := hh.c0
  have h1 := hh.c1
  have h2 := hh.c2
  have h3 := hh.c3
  have hb : (0 : Int) < (ts.length : Int) := by omega
  have C := Lib.hid (fun (w : World) (h : PAt w p d ts) => constant_any h)
  unfold wordT linT
  by_cases k1 : (hdT ts).kind = 1
  · rw [if_pos k1]
    have q1 : (((hdT ts).kind : Int) == 1) = true := by rw [k1]; rfl
    have T := Lib.hid (fun (w : World) (h : PAt w p d ts) => take_any h (by omega))
    clear h' hh
    go_enter Tryz.func162, Tryz.ntmps162
    go_wp2_with fail
    go_region
    all_goals
      go_wp2_with (go_at_call 108; (with_reducible refine (T.out _ ?_).mono ?_); (· (repeat' (first | assumption | refine PAt.alloc ?_ _ | refine PAt.drew ?_ | refine PAt.set ?_ (by omega) _))); rintro e w2 ⟨rfl, hp2, hw2⟩)
      go_ret
      exact ⟨_, rfl, node_ve (node_at hpl (past_drew hw2)) (by omega), hp2, (((Past.refl _ _).alloc _).alloc _).trans (past_drew hw2)⟩
  · rw [if_neg k1]
    by_cases k2 : (hdT ts).kind = 2
    · rw [if_pos k2]
      have q1 : (((hdT ts).kind : Int) == 1) = false := by rw [k2]; rfl
      have q2 : (((hdT ts).kind : Int) == 2) = true := by rw [k2]; rfl
      have T := Lib.hid (fun (w : World) (h : PAt w p d ts) => take_any h (by omega))
      clear h' hh
      go_enter Tryz.func162, Tryz.ntmps162
      go_wp2_with fail
      go_region
      all_goals
        go_wp2_with (go_at_call 108; (with_reducible refine (T.out _ ?_).mono ?_); (· (repeat' (first | assumption | refine PAt.alloc ?_ _ | refine PAt.drew ?_ | refine PAt.set ?_ (by omega) _))); rintro e w2 ⟨rfl, hp2, hw2⟩)
        go_ret
        exact ⟨_, rfl, node_ve (node_at hpl (past_drew hw2)) (by omega), hp2, (((Past.refl _ _).alloc _).alloc _).trans (past_drew hw2)⟩
    · rw [if_neg k2]
      by_cases k3 : (hdT ts).kind = 3
      · rw [if_pos k3]
        have q1 : (((hdT ts).kind : Int) == 1) = false := by rw [k3]; rfl
        have q2 : (((hdT ts).kind : Int) == 2) = false := by rw [k3]; rfl
        have q3 : (((hdT ts).kind : Int) == 3) = true := by rw [k3]; rfl
        have T := Lib.hid (fun (w : World) (h : PAt w p d ts) => take_any h (by omega))
        clear h' hh
        go_enter Tryz.func162, Tryz.ntmps162
        go_wp2_with fail
        go_region
        all_goals
          go_wp2_with (go_at_call 108; (with_reducible refine (T.out _ ?_).mono ?_); (· (repeat' (first | assumption | refine PAt.alloc ?_ _ | refine PAt.drew ?_ | refine PAt.set ?_ (by omega) _))); rintro e w2 ⟨rfl, hp2, hw2⟩)
          go_ret
          exact ⟨_, rfl, node_ve (node_at hpl (past_drew hw2)) (by omega), hp2, (((Past.refl _ _).alloc _).alloc _).trans (past_drew hw2)⟩
      · rw [if_neg k3]
        have q1 : (((hdT ts).kind : Int) == 1) = false := beq_eq_false_iff_ne.2 (by omega)
        have q2 : (((hdT ts).kind : Int) == 2) = false := beq_eq_false_iff_ne.2 (by omega)
        have q3 : (((hdT ts).kind : Int) == 3) = false := beq_eq_false_iff_ne.2 (by omega)
        by_cases k4 : constT (sgnT ts) = 0
        · rw [if_pos k4]
          simp only [if_pos k4] at C
          clear h' hh k1 k2 k3
          go_enter Tryz.func162, Tryz.ntmps162
          go_wp2_with (go_at_call 173; (with_reducible refine (C.out _ ?_).mono ?_); (· (repeat' (first | assumption | refine PAt.alloc ?_ _ | refine PAt.drew ?_ | refine PAt.set ?_ (by omega) _))); rintro e wb hB; obtain ⟨b', rfl, hb1, hb2, hb3, hb4⟩ := hB)
          exact ⟨rfl, b', rfl, (by simp at hb1; omega), hb2, (((Past.refl _ _).alloc _).alloc _).trans hb3, hb4⟩
        · rw [if_neg k4]
          simp only [if_neg k4] at C
          have T := Lib.hid (fun (w : World) (h : PAt w p d ts) => take_any h (fun e => k4 (by unfold sgnT; rw [if_neg (by omega)]; rfl)))
          unfold exT
          clear h' hh k1 k2 k3
          go_enter Tryz.func162, Tryz.ntmps162
          go_wp2_with (first
            | (go_at_call 173; (with_reducible refine (C.out _ ?_).mono ?_); (· (repeat' (first | assumption | refine PAt.alloc ?_ _ | refine PAt.drew ?_ | refine PAt.set ?_ (by omega) _))); rintro e w1 ⟨v1, rfl, rfl, hp1, hw1⟩; have hN := node_at hpl hw1; have q0 := hN.c0; have f0 := hN.warm 0)
            | (go_at_call 108; (with_reducible refine (T.out _ ?_).mono ?_); (· (repeat' (first | assumption | refine PAt.alloc ?_ _ | refine PAt.drew ?_ | refine PAt.set ?_ (by omega) _))); rintro e w2 ⟨rfl, hp2, hw2⟩; have hN := (hN.set0 (constT (sgnT ts))).keep (hw2.block _ (by simp; exact hN.lt) (by simp; omega))))
          go_ret
          exact ⟨_, rfl, node_ve hN (by omega), hp2, (((((Past.refl _ _).alloc _).alloc _).trans hw1).setCell (.inr (by simp)) _).trans hw2⟩
end Go.Proofs.YtebkdegcifkigaaGreatDoor.P5
