/- nested where a block comes behind the other. -/
import Derived.Test.YtlemdgjcpjooiaaScNestA
namespace Go.Proofs.Ytlemdgjcpjooiaa
set_option maxRecDepth 20000
open Go.RowKit Go.Maps

/-- One statement made of the row. -/
theorem do_one {lo : Nat} {w : World} {vb vw : Value} {acc : List Tree} {ns : List Nat} {xs : List Value} (T : TypeId) (h : NestX lo w vb vw acc ns xs) (hlo : lo ≤ w.heap.size) :
    NestX lo ((w.alloc (.cells #[iV 4, iV 0, sV [], .pointer none, .pointer none, .pointer none, vb, .slice none 0 0] T)).alloc (.cells #[pV w.heap.size] 49)) (.slice (some ⟨w.heap.size + 1, 0, none⟩) 1 1) vw [doT acc] ns [pV w.heap.size] := by
  have hxl : xs.length = acc.length := by have := h.rb.1; omega
  have hsl : Sl w (fun k => lo ≤ k ∧ k < w.heap.size ∧ vw.ownBlock ≠ some k) (treeL acc) vb := by
    have ht : ∀ (j : Nat) (t : Tree) (x : Value), acc[j]? = some t → xs[j]? = some x → At w (fun k => lo ≤ k ∧ k < w.heap.size ∧ vw.ownBlock ≠ some k) t x := fun j t x h1 h2 => (at_keep (fun g hg => ⟨⟨hg.1, hg.2.1, hg.2.2.2⟩, rfl⟩) t).1 _ (h.ht j t x h1 h2)
    have hlt := h.rb.lt
    have hap := rows_apart h.rb h.rw_ (by decide)
    rcases row_form h.rb with ⟨rfl, h0⟩ | ⟨g, cap, rfl, _⟩
    · have : acc = [] := List.eq_nil_of_length_eq_zero h0
      subst this
      exact sl_nil _ _
    · have hb := hlt g rfl
      refine ⟨some ⟨g, 0, none⟩, cap, by rw [lenT_treeL], row_of (S := fun k => lo ≤ k ∧ k < w.heap.size ∧ vw.ownBlock ≠ some k) ⟨hb.1, hb.2, hap g rfl⟩ acc 0 xs hxl (fun j u hu => ?_) ht⟩
      rw [Nat.zero_add]
      exact row_cell h.rb hu
  have hvw : ∀ k, vw.ownBlock = some k → k < w.heap.size := fun k hk => (h.rw_.lt k hk).2
  have B2 : Below w.heap.size w ((w.alloc (.cells #[iV 4, iV 0, sV [], .pointer none, .pointer none, .pointer none, vb, .slice none 0 0] T)).alloc (.cells #[pV w.heap.size] 49)) := below_then (below_alloc _ _) (below_alloc _ _)
  have e1 : (w.alloc (.cells #[iV 4, iV 0, sV [], .pointer none, .pointer none, .pointer none, vb, .slice none 0 0] T)).heap.size = w.heap.size + 1 := by simp
  have hd : At (w.alloc (.cells #[iV 4, iV 0, sV [], .pointer none, .pointer none, .pointer none, vb, .slice none 0 0] T)) (fun k => lo ≤ k ∧ k < w.heap.size + 1 ∧ vw.ownBlock ≠ some k) (doT acc) (pV w.heap.size) :=
    at_st (stC_new w 4 0 [] (.pointer none) (.pointer none) (.pointer none) vb (.slice none 0 0) T) ⟨hlo, by omega, fun e => by have := hvw _ e; omega⟩ (at_nil _ _) (at_nil _ _) (at_nil _ _) (Sl.keep (fun g hg => ⟨⟨hg.1, by have := hg.2.1; omega, hg.2.2⟩, Below.heap_alloc _ _ _ hg.2.1⟩) hsl) (sl_nil _ _)
  refine ⟨⟨by simp, .inr ⟨w.heap.size + 1, 1, #[pV w.heap.size], rfl, by omega, ?_, Nat.le_refl _, by decide, by simp, by simp⟩⟩, fun j t x h1 h2 => ?_, own_below h.rw_ B2⟩
  · have := (MapKept.heap_alloc (w.alloc (.cells #[iV 4, iV 0, sV [], .pointer none, .pointer none, .pointer none, vb, .slice none 0 0] T)) (.cells #[pV w.heap.size] 49)).1
    rw [e1] at this
    exact this
  · rcases j with _ | j <;> simp at h1 h2
    subst h1 h2
    exact (at_keep (fun g hg => ⟨⟨hg.1, by have := hg.2.1; simp; omega, fun e => by simp [Value.ownBlock] at e; have := hg.2.1; omega, hg.2.2⟩, Below.heap_alloc _ _ _ (by rw [e1]; exact hg.2.1)⟩) _).1 _ hd
theorem do_at2 {w1 w2 W4 : World} {vin vmore : Value} {ts : List Tree} {ns : List Nat} {ys : List Value} {T P : TypeId} (h : NestX w1.heap.size w2 vin vmore ts ns ys) (hs : w1.heap.size ≤ w2.heap.size) (hb : Below w2.heap.size w2 W4) (hz : W4.heap.size = w2.heap.size + 2) :
    At ((W4.alloc (.cells #[iV 4, iV 0, sV [], .pointer none, .pointer none, .pointer none, vin, .slice none 0 0] T)).alloc (.cells #[pV (w2.heap.size + 2)] P)) (fun k => w1.heap.size ≤ k ∧ k < w2.heap.size + 3 ∧ k ≠ w2.heap.size + 1) (doT ts) (pV (w2.heap.size + 2)) := by
  have e1 : (W4.alloc (.cells #[iV 4, iV 0, sV [], .pointer none, .pointer none, .pointer none, vin, .slice none 0 0] T)).heap.size = w2.heap.size + 3 := by simp; omega
  have hd : At (W4.alloc (.cells #[iV 4, iV 0, sV [], .pointer none, .pointer none, .pointer none, vin, .slice none 0 0] T)) (fun k => w1.heap.size ≤ k ∧ k < w2.heap.size + 3 ∧ k ≠ w2.heap.size + 1) (doT ts) (pV W4.heap.size) :=
    at_st (stC_new W4 4 0 [] (.pointer none) (.pointer none) (.pointer none) vin (.slice none 0 0) T) ⟨by omega, by omega, by omega⟩ (at_nil _ _) (at_nil _ _) (at_nil _ _) (Sl.keep (fun g hg => ⟨⟨hg.1, by have := hg.2; omega, by have := hg.2; omega⟩, (Below.heap_alloc _ _ _ (Nat.lt_of_lt_of_le hg.2 hb.size)).trans (hb.block g hg.2)⟩) h.sl) (sl_nil _ _)
  rw [hz] at hd
  exact (at_keep (fun g hg => ⟨hg, Below.heap_alloc _ _ _ (by rw [e1]; exact hg.2.1)⟩) _).1 _ hd
theorem do_free {lo g0 n : Nat} {wr W w1 : World} {vb vw : Value} {acc : List Tree} {ns : List Nat} {xs : List Value} {t : Tree} {x : Value} (h : NestX lo wr vb vw acc ns xs) (hlo : lo ≤ wr.heap.size) (h1 : wr.heap.size ≤ w1.heap.size) (ha : At W (fun k => w1.heap.size ≤ k ∧ k < n ∧ k ≠ g0) t x) (hn : n ≤ W.heap.size := by simp) :
    At W (Free lo W (.slice (some ⟨g0, 0, none⟩) 1 1) vw) t x :=
  (at_keep (fun g hg => ⟨⟨by have := hg.1; omega, by have := hg.2.1; omega, fun e => by simp [Value.ownBlock] at e; exact hg.2.2 e.symm, fun e => by have := (h.rw_.lt g e).2; have := hg.1; omega⟩, rfl⟩) t).1 _ ha
set_option maxHeartbeats 8000000 in
theorem nested_by (w : World) {a : Addr} {c k f : Nat} {r : List Nat} (hc : r.length + 1 ≤ c) (hm : c ≤ 9223372036854775807) (ha : a.block < w.heap.size) (h : ∀ (i x : Nat), (k :: r)[i]? = some x → w.cell? (a.add i) = some (.int .u8 x) ∧ x ≤ 255) (hl : r.length ≤ 100) (hf : f ≤ 1000) (h4 : 4 ≤ k % 8)
    (ts1 : List Tree) (ns1 : List Nat) (IH1 : ∀ (w : World) (v : Value), BySl w v r → Calls Try.prog 8 #[v, iV (f + k % 4 : Nat)] w (NestS ts1 ns1 w))
    (ts : List Tree) (ns : List Nat) (hns : ns.length ≤ 1000) (IH : ∀ (w : World) (v : Value), BySl w v r → Calls Try.prog 8 #[v, iV (f : Nat)] w (NestS ts ns w)) :
    Calls Try.prog 8 #[.slice (some a) (r.length + 1) c, iV f] w (NestS ([doT (nestB (k % 4))] ++ [doT ts]) (nestW f (k % 4) ++ ns) w) := by
  obtain ⟨ip, hp, hp0, hp1, hp2⟩ := info_parts ptr_info
  obtain ⟨ii, hi, hi0, hi1, hi2⟩ := info_parts int_info
  have h0 : w.cell? a = some (.int .u8 k) := (h 0 k rfl).1
  have hk : k ≤ 255 := (h 0 k rfl).2
  have BT := Lib.hid (fun (w' : World) (hb : Below w.heap.size w w') => fun b hb1 n c' hn hc' => (by_tail hc hm ha h b hb1 n c' hn hc').below hb)
  clear h
  obtain ⟨n, hn⟩ : ∃ n, n = r.length := ⟨_, rfl⟩
  rw [← hn] at hc hl ⊢
  have q2 : ¬ (k : Int) % 8 < 4 := by omega
  have q2' : (4 : Int) ≤ (k : Int) % 8 := by omega
  have i3 : (k : Int) % 4 = ((k % 4 : Nat) : Int) := by omega
  have i31 : k % 4 < 4 := by omega
  have NA : ∀ w, Calls Try.prog 11 #[.string { data := #[97] }] w fun e w' => ∃ v, e = .returned (pV v) ∧ AtS w.heap.size w' (nmT [97]) (pV v) ∧ Below w.heap.size w w' := name_new [97]
  have LA : ∀ w, Calls Try.prog 12 #[.string { data := #[97] }, .pointer none] w fun e w' => ∃ v, e = .returned (pV v) ∧ AtS w.heap.size w' (locT [97]) (pV v) ∧ Below w.heap.size w w' := local_new [97]
  generalize hk4 : k % 4 = m at i3 i31 IH1 ⊢
  rw [Int.natCast_add] at IH1
  clear hk4
  have IH := Lib.hid IH
  have IH1 := Lib.hid IH1
  have NA := Lib.hid NA
  have LA := Lib.hid LA
  replace hn := Lib.hid hn
  go_enter Try.func8, Try.ntmps8
  go_wp2_with fail
  have hz : ((n : Int) + 1 == 0) = false := by assumption
  try rw [hz]
  try rw [i3]
  have HX0 := Lib.hid (NestX.nil w.heap.size w)
  go_loopg [6, 7, 9] m (fun g vb vw i wr => ∃ j : Nat, i = iV j ∧ j + g = m ∧ Hid (NestRel w f j vb vw wr))
  case atStart => exact ⟨0, rfl, by simp, Lib.hid ⟨Below.refl _ _, _, HX0.out⟩⟩
  case round =>
    obtain ⟨j, rfl, hjm, hS⟩ := hrel
    clear HX0
    have hbw := hS.out.below
    have Hbw := Lib.hid hbw
    cases gk with
    | zero =>
      have hj : j = m := by omega
      subst hj
      obtain ⟨xs, hX⟩ := hS.out.x
      have HX := Lib.hid hX
      have hw0 := hbw.size
      obtain ⟨Ab, cb, hvb⟩ := own_slice hX.rb
      have h0r : wr.cell? a = some (.int .u8 k) := (hbw.cell (p := a) ha).trans h0
      subst hvb
      clear hX hS hbw
      by_cases hc1 : c = 1
      all_goals
        go_wp2_with (first
          | (go_at_call 8; (with_reducible refine (IH1.out _ _ (BT.out _ Hbw.out _ (by first | exact fun _ => rfl | (intro hx; exact absurd (by assumption) hx)) _ _ hn.out (by omega))).mono ?_); rintro e w1 ⟨b1, vin1, vmore1, ys1, rfl, _⟩; have B1 := Lib.hid b1; have hw1 := b1.size; have Hb1 := Lib.hid (Hbw.out.trans (b1.mono hw0)); have h01 := (b1.cell (p := a) (Nat.lt_of_lt_of_le ha hw0)).trans h0r; clear b1)
          | (go_at_call 8; (with_reducible refine (IH.out _ _ (BT.out _ Hb1.out _ (by first | exact fun _ => rfl | (intro hx; exact absurd (by assumption) hx)) _ _ hn.out (by omega))).mono ?_); rintro e w2 ⟨b2, vin, vmore, ys, rfl, hI⟩; obtain ⟨Am, cm, rfl⟩ := own_slice hI.rw_; obtain ⟨Ai, ci, rfl⟩ := own_slice hI.rb; have HI := Lib.hid hI; have hw2 := b2.size; have Hb2 := Lib.hid (Hb1.out.trans (b2.mono (by omega))); have X5 := Lib.hid (do_one 67 (HX.out.below (below_then B1.out b2)) (by omega)); clear hI b2)
          | (at_builtin; go_loud (refine wpList_append_any _ rfl (.tmp 65) (.tmp 69) 23 rfl w.heap.size 49 ip _ 1 8 Try.underlying23 hp hp0 hp1 hp2 rfl (by decide) _ _ [pV w2.heap.size] rfl (own_below X5.out.rb (below_then (below_alloc _ _) (below_alloc _ _))) _ _ _ _ [pV (w2.heap.size + 2)] rfl (lit_at _ _ _ 1 _ rfl (by simp)) (by simp [Value.oneCell']) (by unfold maxLen; simp) (by simp) (by simp; omega) ?_); intro v6 w6 hown hg hat; go_loud (have X6 := Lib.hid ((X5.out.below (below_then (below_alloc _ _) (below_alloc _ _))).more (ts := [doT ts]) (one_of (do_free HX.out (by omega) (by omega) (do_at2 HI.out hw2 (below_then (below_alloc _ _) (below_alloc _ _)) (by simp)))) rfl hown hg hat)); go_loud (have M6 := Lib.hid (row_keep (own_below HI.out.rw_ (below_then (below_alloc _ _) (below_then (below_alloc _ _) (below_then (below_alloc _ _) (below_alloc _ _))))) fun k hk => hg.block k (by have := (HI.out.rw_.lt k hk).2; simp; omega) (fun e => by have := (HI.out.rw_.lt k hk).2; have e2 : k = w2.heap.size + 1 := Option.some.inj e; omega))); go_loud (have B6 := Lib.hid (Below.grown (Hb2.out.trans ((below_then (below_alloc _ _) (below_then (below_alloc _ _) (below_then (below_alloc _ _) (below_alloc _ _)))).mono (by omega))) hg (by simp; omega) (fun k hk => (X5.out.rb.lt k hk).1))); clear hown hg hat)
          | (at_builtin; go_loud (refine wpList_append_any _ rfl (.tmp 71) (.tmp 72) 25 rfl w.heap.size 3 ii _ 1 8 Try.underlying25 hi hi0 hi1 hi2 rfl (by decide) _ _ _ rfl X6.out.rw_ _ _ _ _ _ rfl (ReadsW.of_own M6.out) ints_one (by rw [nestW_len]; unfold maxLen; omega) (by rw [nestW_len]; omega) B6.out.size ?_); intro v8 w8 hown hg hat; have X8 := Lib.hid (X6.out.moreW (ms := ns) rfl rfl hown hg hat); have B8 := Lib.hid (Below.grown B6.out hg B6.out.size (fun k hk => (X6.out.rw_.lt k hk).1)); clear hown hg hat))
      all_goals
        go_ret2
        exact ⟨B8.out, _, _, _, rfl, X8.out⟩
    | succ g =>
      have q3 : (j : Int) < (m : Int) := by omega
      obtain ⟨xs, hX⟩ := hS.out.x
      have HX := Lib.hid hX
      have hw0 := hbw.size
      have hF : ∀ (w' : World) (t : Tree) (x : Value), AtS wr.heap.size w' t x → At w' (Free w.heap.size w' u6 u7) t x := fun w' t x h => hX.free hw0 h
      have HF := Lib.hid hF
      clear hX hS hbw hF
      go_wp2_with (first
        | (go_at_call 12; (with_reducible refine (LA.out _).mono ?_); rintro e w1 ⟨v1, rfl, h1, b1⟩; have H1 := Lib.hid h1; have B1 := Lib.hid b1; clear h1 b1)
        | (go_at_call 11; (with_reducible refine (NA.out _).mono ?_); rintro e w2 ⟨v2, rfl, h2, b2⟩; have H2 := Lib.hid h2; have B2 := Lib.hid b2; clear h2 b2)
        | (at_builtin; go_loud (refine wpList_append_any _ rfl (.tmp 25) (.tmp 32) 23 rfl w.heap.size 49 ip _ 1 8 Try.underlying23 hp hp0 hp1 hp2 rfl (by decide) _ _ xs rfl (own_below HX.out.rb (below_then B1.out (below_then B2.out (below_then (below_alloc _ _) (below_then (below_alloc _ _) (below_alloc _ _)))))) _ _ _ _ [pV v1, pV (w2.heap.size + 1)] rfl (lit_at _ _ _ 2 _ rfl (by simp)) (by simp [Value.oneCell']) (by rw [nestB_len]; unfold maxLen; omega) (by rw [nestB_len]; omega) (by have := B1.out.size; have := B2.out.size; simp; omega) ?_); intro v3 w6 hown hg hat; have X6 := Lib.hid ((HX.out.below (below_then B1.out (below_then B2.out (below_then (below_alloc _ _) (below_then (below_alloc _ _) (below_alloc _ _)))))).more (ts := [locT [97], callT]) (two_of (HF.out _ _ _ (H1.out.below (below_then B2.out (below_then (below_alloc _ _) (below_then (below_alloc _ _) (below_alloc _ _)))))) (HF.out _ _ _ (((call_at H2.out B2.out.size).below (below_alloc _ _)).lower B1.out.size))) rfl hown hg hat); have B6 := Lib.hid (Below.grown (Hbw.out.trans ((below_then B1.out (below_then B2.out (below_then (below_alloc _ _) (below_then (below_alloc _ _) (below_alloc _ _))))).mono hw0)) hg (by have := B1.out.size; have := B2.out.size; simp; omega) (fun k hk => (HX.out.rb.lt k hk).1)); clear hown hg hat H1 H2 B1 B2 HX HF)
        | (at_builtin; refine wpList_append_any _ rfl (.tmp 34) (.tmp 38) 25 rfl w.heap.size 3 ii _ 1 8 Try.underlying25 hi hi0 hi1 hi2 rfl (by decide) _ _ _ rfl (own_below X6.out.rw_ (below_alloc _ _)) _ _ _ _ [.int .i64 ((f : Int) + (j : Int))] rfl (lit_at _ _ _ 1 _ rfl (by simp)) (by simp [Value.oneCell']) (by rw [nestW_len]; unfold maxLen; omega) (by rw [nestW_len]; omega) (by have := B6.out.size; simp; omega) ?_; intro v4 w8 hown hg hat; have X8 := Lib.hid ((X6.out.below (below_alloc _ _)).moreW (ms := [f + j]) rfl (by simp) hown hg hat); have B8 := Lib.hid (Below.grown (B6.out.trans ((below_alloc _ _).mono B6.out.size)) hg (by have := B6.out.size; simp; omega) (fun k hk => (X6.out.rw_.lt k hk).1)); clear hown hg hat))
      go_roundg g
      case measure => omega
      case rel => exact ⟨j + 1, by simp, by omega, Lib.hid ⟨B8.out, _, X8.out⟩⟩
theorem nested_any : ∀ (l : List Nat) (f : Nat), l.length ≤ 100 → f + 3 * l.length ≤ 1000 → ∀ (w : World) (v : Value), BySl w v l → Calls Try.prog 8 #[v, iV f] w (NestS (nestT l f).1 (nestT l f).2 w)
  | [], f, _, _, w, v, h => by
    obtain ⟨A, c, rfl, _⟩ := h
    exact nested_nil w
  | k :: r, f, hl, hf, w, v, h => by
    obtain ⟨A, c, rfl, h1, h2, h3⟩ := h
    obtain ⟨a, rfl, ha, hx⟩ := h3 (by simp)
    rw [List.length_cons] at hl hf h1
    show Calls _ _ #[.slice (some a) (r.length + 1) c, iV f] _ _
    have m4 : k % 4 < 4 := Nat.mod_lt _ (by decide)
    by_cases h4 : 4 ≤ k % 8
    · rw [show nestT (k :: r) f = ([doT (nestB (k % 4))] ++ [doT (nestT r f).1], nestW f (k % 4) ++ (nestT r f).2) from by rw [nestT, if_pos h4]]
      exact nested_by w h1 h2 ha hx (by omega) (by omega) h4 _ _ (fun w v hv => nested_any r (f + k % 4) (by omega) (by omega) w v hv) _ _ (by have := nestT_len r f; omega) (fun w v hv => nested_any r f (by omega) (by omega) w v hv)
    · rw [show nestT (k :: r) f = (nestB (k % 4) ++ [doT (nestT r (f + k % 4)).1], nestW f (k % 4) ++ (nestT r (f + k % 4)).2) from by rw [nestT, if_neg h4]]
      exact nested_in w h1 h2 ha hx (by omega) (by omega) h4 _ _ (by have := nestT_len r (f + k % 4); omega) (fun w v hv => nested_any r (f + k % 4) (by omega) (by omega) w v hv)
end Go.Proofs.Ytlemdgjcpjooiaa
