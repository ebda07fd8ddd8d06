/- nested, the walk. -/
import Derived.Test.YtlemdgjcpjooiaaScNest
namespace Go.Proofs.Ytlemdgjcpjooiaa
set_option maxRecDepth 20000
open Go.RowKit Go.Maps

/-- The loop's head: so many pairs, so many registers. -/
structure NestRel (w : World) (f i : Nat) (vb vw : Value) (wr : World) : Prop where
  below : Below w.heap.size w wr
  x : ∃ xs, NestX w.heap.size wr vb vw (nestB i) (nestW f i) xs
theorem two_of {P : Tree → Value → Prop} {a b : Tree} {x y : Value} (h1 : P a x) (h2 : P b y) : ∀ (j : Nat) (t : Tree) (v : Value), [a, b][j]? = some t → [x, y][j]? = some v → P t v := by
  intro j t v ht hv
  rcases j with _ | _ | j <;> simp at ht hv
  · subst ht hv; exact h1
  · subst ht hv; exact h2
theorem one_of {P : Tree → Value → Prop} {a : Tree} {x : Value} (h1 : P a x) : ∀ (j : Nat) (t : Tree) (v : Value), [a][j]? = some t → [x][j]? = some v → P t v := by
  intro j t v ht hv
  rcases j with _ | j <;> simp at ht hv
  subst ht hv; exact h1
theorem lit_at (w : World) (vs : List Value) (T : TypeId) (n g : Nat) (hn : vs.length = n) (hg : g = w.heap.size) : ReadsW (w.alloc (.cells vs.toArray T)) (w.heap.size + 1) 1 (some ⟨g, 0, none⟩) n vs := by
  subst hg
  exact lit_reads w vs T n hn
theorem ints_one {ns : List Nat} : ∀ u ∈ ns.map (fun n : Nat => iV n), u.oneCell' = true := by
  intro u hu
  obtain ⟨n, _, rfl⟩ := List.mem_map.1 hu
  rfl
theorem NestX.sl {lo : Nat} {w : World} {vb vw : Value} {ts : List Tree} {ns : List Nat} {xs : List Value} (h : NestX lo w vb vw ts ns xs) : Sl w (Since lo w) (treeL ts) vb := by
  have hxl : xs.length = ts.length := by have := h.rb.1; omega
  have ht : ∀ (j : Nat) (t : Tree) (x : Value), ts[j]? = some t → xs[j]? = some x → At w (Since lo w) t x := fun j t x h1 h2 => (at_keep (fun g hg => ⟨⟨hg.1, hg.2.1⟩, rfl⟩) t).1 _ (h.ht j t x h1 h2)
  have hlt := h.rb.lt
  rcases row_form h.rb with ⟨rfl, h0⟩ | ⟨g, cap, rfl, _⟩
  · have : ts = [] := List.eq_nil_of_length_eq_zero h0
    subst this
    exact sl_nil _ _
  · have hb := hlt g rfl
    refine ⟨some ⟨g, 0, none⟩, cap, by rw [lenT_treeL], row_of (S := Since lo w) ⟨hb.1, hb.2⟩ ts 0 xs hxl (fun j u hu => ?_) ht⟩
    rw [Nat.zero_add]
    exact row_cell h.rb hu
theorem do_at {w0 w1 : World} {vin vmore : Value} {ts : List Tree} {ns : List Nat} {ys : List Value} {T : TypeId} (h : NestX w0.heap.size w1 vin vmore ts ns ys) (hs : w0.heap.size ≤ w1.heap.size) : AtS w0.heap.size (w1.alloc (.cells #[iV 4, iV 0, sV [], .pointer none, .pointer none, .pointer none, vin, .slice none 0 0] T)) (doT ts) (pV w1.heap.size) :=
  at_st (stC_new w1 4 0 [] (.pointer none) (.pointer none) (.pointer none) vin (.slice none 0 0) T) ⟨hs, by simp⟩ (at_nil _ _) (at_nil _ _) (at_nil _ _) (Sl.keep (fun g hg => ⟨⟨hg.1, by have := hg.2; simp; omega⟩, Below.heap_alloc _ _ _ hg.2⟩) h.sl) (sl_nil _ _)
theorem nested_nil (w : World) {A : Option Addr} {c : Nat} {z : Value} : Calls Try.prog 8 #[.slice A 0 c, z] w (NestS [] [] w) := by
  go_enter Try.func8, Try.ntmps8
  go_wp2_with fail
  go_ret2
  exact ⟨Below.refl _ _, _, _, _, rfl, NestX.nil _ _⟩
set_option maxHeartbeats 8000000 in
theorem nested_in (w : World) {a : Addr} {c k f : Nat} {r : List Nat} (hc : r.length + 1 ≤ c) (hm : c ≤ 9223372036854775807) (ha : a.block < w.heap.size) (h : ∀ (i x : Nat), (k :: r)[i]? = some x → w.cell? (a.add i) = some (.int .u8 x) ∧ x ≤ 255) (hl : r.length ≤ 100) (hf : f ≤ 1000) (h4 : ¬ 4 ≤ k % 8)
    (ts : List Tree) (ns : List Nat) (hns : ns.length ≤ 1000) (IH : ∀ (w : World) (v : Value), BySl w v r → Calls Try.prog 8 #[v, iV (f + k % 4 : Nat)] w (NestS ts ns w)) :
    Calls Try.prog 8 #[.slice (some a) (r.length + 1) c, iV f] w (NestS (nestB (k % 4) ++ [doT ts]) (nestW f (k % 4) ++ ns) w) := by
  obtain ⟨ip, hp, hp0, hp1, hp2⟩ := info_parts ptr_info
  obtain ⟨ii, hi, hi0, hi1, hi2⟩ := info_parts int_info
  have h0 : w.cell? a = some (.int .u8 k) := (h 0 k rfl).1
  have hk : k ≤ 255 := (h 0 k rfl).2
  have BT := Lib.hid (fun (w' : World) (hb : Below w.heap.size w w') => fun b hb1 n c' hn hc' => (by_tail hc hm ha h b hb1 n c' hn hc').below hb)
  clear h
  obtain ⟨n, hn⟩ : ∃ n, n = r.length := ⟨_, rfl⟩
  rw [← hn] at hc hl ⊢
  have q2 : (k : Int) % 8 < 4 := by omega
  have i3 : (k : Int) % 4 = ((k % 4 : Nat) : Int) := by omega
  have i31 : k % 4 < 4 := by omega
  have NA : ∀ w, Calls Try.prog 11 #[.string { data := #[97] }] w fun e w' => ∃ v, e = .returned (pV v) ∧ AtS w.heap.size w' (nmT [97]) (pV v) ∧ Below w.heap.size w w' := name_new [97]
  have LA : ∀ w, Calls Try.prog 12 #[.string { data := #[97] }, .pointer none] w fun e w' => ∃ v, e = .returned (pV v) ∧ AtS w.heap.size w' (locT [97]) (pV v) ∧ Below w.heap.size w w' := local_new [97]
  generalize hk4 : k % 4 = m at i3 i31 IH ⊢
  rw [Int.natCast_add] at IH
  clear hk4
  have IH := Lib.hid IH
  have NA := Lib.hid NA
  have LA := Lib.hid LA
  replace hn := Lib.hid hn
  go_enter Try.func8, Try.ntmps8
  go_wp2_with fail
  have hz : ((n : Int) + 1 == 0) = false := by assumption
  rw [hz, i3]
  have HX0 := Lib.hid (NestX.nil w.heap.size w)
  go_loopg [6, 7, 9] m (fun g vb vw i wr => ∃ j : Nat, i = iV j ∧ j + g = m ∧ Hid (NestRel w f j vb vw wr))
  case atStart => exact ⟨0, rfl, by simp, Lib.hid ⟨Below.refl _ _, _, HX0.out⟩⟩
  case round =>
    obtain ⟨j, rfl, hjm, hS⟩ := hrel
    clear HX0
    have hbw := hS.out.below
    have Hbw := Lib.hid hbw
    cases gk with
    | zero =>
      have hj : j = m := by omega
      subst hj
      obtain ⟨xs, hX⟩ := hS.out.x
      have HX := Lib.hid hX
      have hw0 := hbw.size
      have hF : ∀ (w' : World) (t : Tree) (x : Value), AtS wr.heap.size w' t x → At w' (Free w.heap.size w' u6 u7) t x := fun w' t x h => hX.free hw0 h
      have HF := Lib.hid hF
      have h0r : wr.cell? a = some (.int .u8 k) := (hbw.cell (p := a) ha).trans h0
      clear hX hS hbw hF
      by_cases hc1 : c = 1
      all_goals
        go_wp2_with (first
          | (go_at_call 8; go_loud (with_reducible refine (IH.out _ _ (BT.out _ Hbw.out _ (by first | exact fun _ => rfl | (intro hx; exact absurd (by assumption) hx)) _ _ hn.out (by omega))).mono ?_); rintro e w1 ⟨b1, vin, vmore, ys, rfl, hI⟩; obtain ⟨Am, cm, rfl⟩ := own_slice hI.rw_; obtain ⟨Ai, ci, rfl⟩ := own_slice hI.rb; have HI := Lib.hid hI; have B1 := Lib.hid b1; have h01 := (b1.cell (p := a) (Nat.lt_of_lt_of_le ha hw0)).trans h0r; clear hI b1)
          | (at_builtin; go_loud (refine wpList_append_any _ rfl (.tmp 65) (.tmp 69) 23 rfl w.heap.size 49 ip _ 1 8 Try.underlying23 hp hp0 hp1 hp2 rfl (by decide) _ _ xs rfl (own_below HX.out.rb (below_then B1.out (below_then (below_alloc _ _) (below_alloc _ _)))) _ _ _ _ [pV w1.heap.size] rfl (lit_at _ _ _ 1 _ rfl (by simp)) (by simp [Value.oneCell']) (by rw [nestB_len]; unfold maxLen; omega) (by rw [nestB_len]; omega) (by have := B1.out.size; simp; omega) ?_); intro v6 w6 hown hg hat; go_loud (have X6 := Lib.hid ((HX.out.below (below_then B1.out (below_then (below_alloc _ _) (below_alloc _ _)))).more (ts := [doT ts]) (one_of (HF.out _ _ _ ((do_at HI.out B1.out.size).below (below_alloc _ _)))) rfl hown hg hat)); go_loud (have M6 := Lib.hid (row_keep (own_below HI.out.rw_ (below_then (below_alloc _ _) (below_alloc _ _))) fun k hk => hg.block k (by have := (HI.out.rw_.lt k hk).2; simp; omega) (fun e => by have := (HX.out.rb.lt k e.symm).2; have := (HI.out.rw_.lt k hk).1; omega))); go_loud (have B6 := Lib.hid (Below.grown (Hbw.out.trans ((below_then B1.out (below_then (below_alloc _ _) (below_alloc _ _))).mono hw0)) hg (by have := B1.out.size; simp; omega) (fun k hk => (HX.out.rb.lt k hk).1))); clear hown hg hat)
          | (at_builtin; go_loud (refine wpList_append_any _ rfl (.tmp 71) (.tmp 72) 25 rfl w.heap.size 3 ii _ 1 8 Try.underlying25 hi hi0 hi1 hi2 rfl (by decide) _ _ _ rfl X6.out.rw_ _ _ _ _ _ rfl (ReadsW.of_own M6.out) ints_one (by rw [nestW_len]; unfold maxLen; omega) (by rw [nestW_len]; omega) B6.out.size ?_); intro v8 w8 hown hg hat; have X8 := Lib.hid (X6.out.moreW (ms := ns) rfl rfl hown hg hat); have B8 := Lib.hid (Below.grown B6.out hg B6.out.size (fun k hk => (X6.out.rw_.lt k hk).1)); clear hown hg hat))
      all_goals
        go_ret2
        exact ⟨B8.out, _, _, _, rfl, X8.out⟩
    | succ g =>
      have q3 : (j : Int) < (m : Int) := by omega
      obtain ⟨xs, hX⟩ := hS.out.x
      have HX := Lib.hid hX
      have hw0 := hbw.size
      have hF : ∀ (w' : World) (t : Tree) (x : Value), AtS wr.heap.size w' t x → At w' (Free w.heap.size w' u6 u7) t x := fun w' t x h => hX.free hw0 h
      have HF := Lib.hid hF
      clear hX hS hbw hF
      go_wp2_with (first
        | (go_at_call 12; (with_reducible refine (LA.out _).mono ?_); rintro e w1 ⟨v1, rfl, h1, b1⟩; have H1 := Lib.hid h1; have B1 := Lib.hid b1; clear h1 b1)
        | (go_at_call 11; (with_reducible refine (NA.out _).mono ?_); rintro e w2 ⟨v2, rfl, h2, b2⟩; have H2 := Lib.hid h2; have B2 := Lib.hid b2; clear h2 b2)
        | (at_builtin; go_loud (refine wpList_append_any _ rfl (.tmp 25) (.tmp 32) 23 rfl w.heap.size 49 ip _ 1 8 Try.underlying23 hp hp0 hp1 hp2 rfl (by decide) _ _ xs rfl (own_below HX.out.rb (below_then B1.out (below_then B2.out (below_then (below_alloc _ _) (below_then (below_alloc _ _) (below_alloc _ _)))))) _ _ _ _ [pV v1, pV (w2.heap.size + 1)] rfl (lit_at _ _ _ 2 _ rfl (by simp)) (by simp [Value.oneCell']) (by rw [nestB_len]; unfold maxLen; omega) (by rw [nestB_len]; omega) (by have := B1.out.size; have := B2.out.size; simp; omega) ?_); intro v3 w6 hown hg hat; have X6 := Lib.hid ((HX.out.below (below_then B1.out (below_then B2.out (below_then (below_alloc _ _) (below_then (below_alloc _ _) (below_alloc _ _)))))).more (ts := [locT [97], callT]) (two_of (HF.out _ _ _ (H1.out.below (below_then B2.out (below_then (below_alloc _ _) (below_then (below_alloc _ _) (below_alloc _ _)))))) (HF.out _ _ _ (((call_at H2.out B2.out.size).below (below_alloc _ _)).lower B1.out.size))) rfl hown hg hat); have B6 := Lib.hid (Below.grown (Hbw.out.trans ((below_then B1.out (below_then B2.out (below_then (below_alloc _ _) (below_then (below_alloc _ _) (below_alloc _ _))))).mono hw0)) hg (by have := B1.out.size; have := B2.out.size; simp; omega) (fun k hk => (HX.out.rb.lt k hk).1)); clear hown hg hat H1 H2 B1 B2 HX HF)
        | (at_builtin; refine wpList_append_any _ rfl (.tmp 34) (.tmp 38) 25 rfl w.heap.size 3 ii _ 1 8 Try.underlying25 hi hi0 hi1 hi2 rfl (by decide) _ _ _ rfl (own_below X6.out.rw_ (below_alloc _ _)) _ _ _ _ [.int .i64 ((f : Int) + (j : Int))] rfl (lit_at _ _ _ 1 _ rfl (by simp)) (by simp [Value.oneCell']) (by rw [nestW_len]; unfold maxLen; omega) (by rw [nestW_len]; omega) (by have := B6.out.size; simp; omega) ?_; intro v4 w8 hown hg hat; have X8 := Lib.hid ((X6.out.below (below_alloc _ _)).moreW (ms := [f + j]) rfl (by simp) hown hg hat); have B8 := Lib.hid (Below.grown (B6.out.trans ((below_alloc _ _).mono B6.out.size)) hg (by have := B6.out.size; simp; omega) (fun k hk => (X6.out.rw_.lt k hk).1)); clear hown hg hat))
      go_roundg g
      case measure => omega
      case rel => exact ⟨j + 1, by simp, by omega, Lib.hid ⟨B8.out, _, X8.out⟩⟩
end Go.Proofs.Ytlemdgjcpjooiaa
