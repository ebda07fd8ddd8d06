/- The marked ones, that of the greatest Mark first: what trial.Gone's stable sort makes of them. -/
import Derived.Test.YtghnjmodnhnmfaaStStable
import Derived.Test.YtghnjmodnhnmfaaTrGone
namespace Go.Proofs.Ytghnjmodnhnmfaa
set_option maxRecDepth 20000
open Go.RowKit Go.Maps Go.Sort Go.Shelf

def cmpJ (x y : Int) : Int := if x < y then -1 else if y < x then 1 else 0
theorem jNaN_any (x : Int) (w : World) : Calls Try.prog 120 #[iV x] w fun e w' => e = .returned (.bool false) ∧ w = w' := by
  go_enter Try.func120, Try.ntmps120
  go_wp2
  go_ret
  exact ⟨rfl, rfl⟩
theorem jCompare_any (x y : Int) (w : World) : Calls Try.prog 74 #[iV x, iV y] w fun e w' => e = .returned (iV (cmpJ x y)) ∧ w' = w := by
  by_cases h : x < y
  · have e : cmpJ x y = -1 := if_pos h
    rw [e]
    go_enter Try.func74, Try.ntmps74
    go_wp2_with (go_at_call 120; (with_reducible refine (jNaN_any _ _).mono ?_); rintro e w1 ⟨rfl, rfl⟩)
    go_ret
    exact ⟨rfl, rfl⟩
  · by_cases h2 : y < x
    · have e : cmpJ x y = 1 := by unfold cmpJ; rw [if_neg h, if_pos h2]
      rw [e]
      go_enter Try.func74, Try.ntmps74
      go_wp2_with (go_at_call 120; (with_reducible refine (jNaN_any _ _).mono ?_); rintro e w1 ⟨rfl, rfl⟩)
      go_ret
      exact ⟨rfl, rfl⟩
    · have e : cmpJ x y = 0 := by unfold cmpJ; rw [if_neg h, if_neg h2]
      rw [e]
      go_enter Try.func74, Try.ntmps74
      go_wp2_with (go_at_call 120; (with_reducible refine (jNaN_any _ _).mono ?_); rintro e w1 ⟨rfl, rfl⟩)
      go_ret
      exact ⟨rfl, rfl⟩
set_option maxHeartbeats 4000000 in
theorem cmp4_any {w : World} {A : Option Addr} {c : Nat} {g : List OB} (hg : GAt w A g) (hn : g.length ≤ 900) {bg : Nat} (h0 : w.cell? ⟨bg, 0, none⟩ = some (.slice A g.length c)) (x y : Int) (hx1 : 1 ≤ x) (hx2 : x ≤ g.length) (hy1 : 1 ≤ y) (hy2 : y ≤ g.length) :
    Calls Try.prog 73 #[iV x, iV y, bV bg] w fun e w' => e = .returned (iV (cmpJ (markG g y) (markG g x))) ∧ ∃ q, w' = w.drewN q := by
  obtain ⟨k, o, rfl, ho, hk⟩ := nth_obj hx1 hx2
  obtain ⟨j, p, rfl, hp, hj⟩ := nth_obj hy1 hy2
  obtain ⟨a, sA, sc, rfl, hal, ⟨c0, c1, c2, c3, c4⟩, hs⟩ := hg k o ho
  obtain ⟨a', sA', sc', e, hal', ⟨d0, d1, d2, d3, d4⟩, hs'⟩ := hg j p hp
  obtain rfl : a = a' := by injection e
  rw [markG_at ho, markG_at hp]
  have hl2 : (a.add (k * 5)).block < w.heap.size := by rw [Go.ChangeShapes.block_add]; exact hal
  have hl3 : (a.add (j * 5)).block < w.heap.size := by rw [Go.ChangeShapes.block_add]; exact hal
  clear hg ho hp hs hs' c0 c1 c2 c3 d0 d1 d2 d3 hx1 hx2 hy1 hy2 e
  generalize g.length = nn at *
  generalize o.mark = x at *
  generalize p.mark = y at *
  have CM : Hid (∀ W, Calls Try.prog 74 #[iV y, iV x] W fun e w' => e = .returned (iV (cmpJ y x)) ∧ w' = W) := fun W => jCompare_any y x W
  have hk900 : (k : Int) < 900 := by omega
  have hj900 : (j : Int) < 900 := by omega
  have e1 : IntKind.i64.wrap ((k : Int) + 1 - 1) = (k : Int) := (IntWalk.i64_in _ (by omega)).trans (by omega)
  have e5 : IntKind.i64.wrap (k : Int) = (k : Int) := IntWalk.i64_in _ (by omega)
  have e2 : (0 : Int) ≤ (k : Int) := by omega
  have e3 : ((k : Int)).toNat = k := by omega
  have e4 : (k : Int) < (nn : Int) := by omega
  have f1 : IntKind.i64.wrap ((j : Int) + 1 - 1) = (j : Int) := (IntWalk.i64_in _ (by omega)).trans (by omega)
  have f5 : IntKind.i64.wrap (j : Int) = (j : Int) := IntWalk.i64_in _ (by omega)
  have f2 : (0 : Int) ≤ (j : Int) := by omega
  have f3 : ((j : Int)).toNat = j := by omega
  have f4 : (j : Int) < (nn : Int) := by omega
  go_enter Try.func73, Try.ntmps73
  go_wp2_with fail
  go_quiet ((go_at_call 74; exact Calls.quiet_of_same (CM.out _)))
  go_wp2_with fail
  go_ret
  exact ⟨rfl, _, rfl⟩
def leM (g : List OB) (x y : Int) : Bool := decide (markG g y < markG g x ∨ (markG g x = markG g y ∧ x ≤ y))
def markS (g : List OB) (M : List Int) : List Int := M.mergeSort (leM g)
theorem leM_trans (g : List OB) (a b c : Int) (h1 : leM g a b = true) (h2 : leM g b c = true) : leM g a c = true := by
  unfold leM at *; simp only [decide_eq_true_eq] at *; omega
theorem leM_total (g : List OB) (a b : Int) : (leM g a b || leM g b a) = true := by
  unfold leM; simp only [Bool.or_eq_true, decide_eq_true_eq]; omega
theorem markS_unique {g : List OB} {M Y : List Int} (hp : Y.Perm M) (hs : Y.Pairwise fun x y => leM g x y = true) : Y = markS g M := by
  refine List.Perm.eq_of_pairwise (le := fun x y => leM g x y = true) ?_ hs (List.pairwise_mergeSort (leM_trans g) (leM_total g) M) (hp.trans (List.mergeSort_perm _ _).symm)
  intro a b _ _ h1 h2
  unfold leM at h1 h2
  simp only [decide_eq_true_eq] at h1 h2
  omega
abbrev Num (N : Nat) := {n : Int // 1 ≤ n ∧ n ≤ N}
theorem frm_sw {α : Type} [Inhabited α] {num : α → Int} {w : World} {bk q : Nat} {dk : Array α} {os : Array Obj} : Frm (fun k => k = bk) w (sortWorld (encN num) w bk 0 q dk os) := by
  unfold sortWorld
  refine Frm.trans (w1 := putRow (encN num) (Sort.ahead w q) bk 0 dk) ⟨rfl, rfl, rfl, by simp, fun k _ hn => ?_⟩ ⟨rfl, rfl, rfl, by simp [grow], fun _ hk _ => heap_grow_old _ os hk⟩
  simp only [putRow, mapBlock, Array.getElem?_modify]
  rw [if_neg (fun e => hn e.symm)]
  rfl
theorem cmpJ_lt {x y : Int} : cmpJ x y < 0 ↔ x < y := by
  unfold cmpJ
  by_cases h : x < y
  · rw [if_pos h]; simp [h]
  · rw [if_neg h]; split <;> simp [h]
def cfM (g : List OB) (N : Nat) (x y : Num N) : Int := cmpJ (markG g y.1) (markG g x.1)
theorem ltM {g : List OB} {N : Nat} {x y : Num N} : ltOf (cfM g N) x y = decide (markG g y.1 < markG g x.1) := by
  unfold ltOf cfM
  rw [decide_eq_decide]
  exact cmpJ_lt
theorem swoM (g : List OB) (N : Nat) : SWO (ltOf (cfM g N)) where
  irrefl x := by rw [ltM]; simp
  trans x y z h1 h2 := by rw [ltM] at *; simp only [decide_eq_true_eq] at *; omega
  ntrans x y z h1 h2 := by rw [ltM] at *; simp only [decide_eq_false_iff_not] at *; omega
theorem sorts_marks {w : World} {A : Option Addr} {c : Nat} {g : List OB} (hg : GAt w A g) (hn : g.length ≤ 900) {M : List Int} (hM : ∀ x ∈ M, 1 ≤ x ∧ x ≤ g.length) (hr : M.Pairwise (· < ·)) : Sorts w A g.length c M (markS g M) := by
  intro W v bg base hW hb hbg hc hR
  by_cases hne : M = []
  · subst hne
    obtain ⟨A', c', rfl, _, _⟩ := hR.ints
    refine (sortStable_none A' c' _ W).mono ?_
    rintro e w' ⟨rfl, rfl⟩
    refine ⟨rfl, ?_, Frm.refl _ _⟩
    have e : markS g [] = [] := by simp [markS]
    rw [e]
    exact hR
  · have hlen : M.length ≤ g.length := nums_short (rise_nodup hr) hM
    rcases hR with ⟨_, h⟩ | ⟨blk, cap, rfl, hcap, hblk, hlt, hH⟩
    · exact absurd h hne
    · obtain ⟨m0, hm0⟩ := List.exists_mem_of_ne_nil M hne
      letI : Inhabited (Num g.length) := ⟨⟨m0, hM m0 hm0⟩⟩
      obtain ⟨d0, hd0⟩ : ∃ d0 : Array (Num g.length), d0 = (M.attach.map fun x => (⟨x.1, hM x.1 x.2⟩ : Num g.length)).toArray := ⟨_, rfl⟩
      have hsz : d0.size = M.length := by rw [hd0]; simp
      have hat : ∀ (i : Nat) (h : i < M.length), (FA d0 i).1 = M[i] := fun i h => by
        unfold FA
        rw [getElem!_pos d0 i (by omega)]
        simp [hd0]
      have hold : Holds (encN (fun x : Num g.length => x.1)) W blk 0 d0 := fun j hj => by
        obtain ⟨q1, q2⟩ := hH j (by simpa [hsz] using hj)
        refine ⟨q1.trans ?_, q2⟩
        have hj2 : j < M.length := by omega
        have h3 : (d0[j]!).1 = M[j] := hat j hj2
        show some (Value.int .i64 M.toArray[j]!) = some (Value.int .i64 (d0[j]!).1)
        rw [h3]
        simp [hj2]
      have T : Told (fun x : Num g.length => x.1) (cfM g g.length) 73 #[bV bg] blk d0 W := by
        refine ⟨⟨encN_one _, hold, hlt⟩, fun m os dk hdk x y => ?_, fun _ _ => rfl, swoM g _⟩
        have hf := frm_sw (num := fun x : Num g.length => x.1) (w := W) (bk := blk) (q := m) (dk := dk) (os := os)
        have hB : Below w.heap.size w (sortWorld (encN (fun x : Num g.length => x.1)) W blk 0 m dk os) := hW.trans (hf.below hW.size fun k hk => by omega)
        have hcell := (hf.cell (p := ⟨bg, 0, none⟩) (World.block_lt_of_cell? W _ hc) (by show ¬ bg = blk; omega)).trans hc
        refine (cmp4_any (hg.below hB) hn hcell x.1 y.1 x.2.1 x.2.2 y.2.1 y.2.2).mono ?_
        rintro e w' ⟨rfl, q, rfl⟩
        exact ⟨rfl, q, #[], by rw [grow_empty]⟩
      have hNow : Now (fun x : Num g.length => x.1) blk d0.size W (FA d0) W := ⟨d0, rfl, rfl, SW.start hold⟩
      have := sortStable_any (cap := cap) (R := fun x y : Num g.length => x.1 < y.1) T (by omega) hNow
      rw [hsz] at this
      refine this.mono ?_
      rintro e w' ⟨rfl, F', hm, dk, hdk, rfl, n, os, rfl⟩
      have tie := hm.tie (fun i j hij hj _ _ => by
        show (FA d0 i).1 < (FA d0 j).1
        rw [hat i (by omega), hat j hj]
        exact List.pairwise_iff_getElem.1 hr i j (by omega) hj hij)
      have hY : ((toL (FA dk) M.length).map fun x => x.1) = markS g M := by
        refine markS_unique ?_ ?_
        · have h1 := (hm.mix.perm).map (fun x : Num g.length => x.1)
          refine h1.trans (List.Perm.of_eq ?_)
          refine List.ext_getElem (by simp [toL]) fun i h2 h3 => ?_
          simp only [toL, List.getElem_map, List.getElem_range]
          exact hat i h3
        · rw [List.pairwise_map, List.pairwise_iff_getElem]
          intro i j hi hj hij
          rw [toL_len] at hi hj
          simp only [toL, List.getElem_map, List.getElem_range]
          have o := hm.ord i j (Nat.zero_le _) hij hj
          rw [ltM, decide_eq_false_iff_not] at o
          unfold leM
          rw [decide_eq_true_eq]
          by_cases e : markG g (FA dk j).1 < markG g (FA dk i).1
          · exact .inl e
          · have t := tie i j hij hj (by rw [ltM, decide_eq_false_iff_not]; exact e) (by rw [ltM, decide_eq_false_iff_not]; exact o)
            exact .inr ⟨by omega, by have : (FA dk i).1 < (FA dk j).1 := t; omega⟩
      have hl2 : (markS g M).length = M.length := by rw [← hY]; simp [toL]
      have hF := frm_sw (num := fun x : Num g.length => x.1) (w := W) (bk := blk) (q := n) (dk := dk) (os := os)
      have hH2 : Holds (encN (fun x : Num g.length => x.1)) (sortWorld (encN (fun x : Num g.length => x.1)) W blk 0 n dk os) blk 0 dk := SW.holds ⟨n, os, rfl⟩ hlt hold (by omega)
      refine ⟨rfl, .inr ⟨blk, cap, by rw [hl2], by omega, hblk, Nat.lt_of_lt_of_le hlt hF.size, fun j hj => ?_⟩, hF.mono fun k hk => by rw [hk]; rfl⟩
      have hj2 : j < M.length := by simpa [hl2] using hj
      obtain ⟨q1, q2⟩ := hH2 j (by omega)
      refine ⟨q1.trans ?_, q2⟩
      have : (markS g M).toArray[j]! = (FA dk j).1 := by
        rw [getElem!_pos _ j hj]
        have := List.getElem_of_eq hY.symm (by rw [hl2]; exact hj2)
        simp only [List.getElem_toArray, this, toL, List.getElem_map, List.getElem_range]
      rw [this]
      rfl
end Go.Proofs.Ytghnjmodnhnmfaa
