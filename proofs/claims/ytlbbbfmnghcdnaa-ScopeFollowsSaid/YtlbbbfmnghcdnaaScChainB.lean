/- chain: the rows of names, owners and registers. -/
import Derived.Test.YtlbbbfmnghcdnaaScChainA
namespace Go.Proofs.Ytlbbbfmnghcdnaa
set_option maxRecDepth 20000
open Go.RowKit Go.Maps

theorem one_of {P : Tree → Value → Prop} {a : Tree} {x : Value} (h1 : P a x) : ∀ (j : Nat) (t : Tree) (v : Value), [a][j]? = some t → [x][j]? = some v → P t v := by
  intro j t v ht hv
  rcases j with _ | j <;> simp at ht hv
  subst ht hv; exact h1
theorem lit_at (w : World) (vs : List Value) (T : TypeId) (n g : Nat) (hn : vs.length = n) (hg : g = w.heap.size) : ReadsW (w.alloc (.cells vs.toArray T)) (w.heap.size + 1) 1 (some ⟨g, 0, none⟩) n vs := by
  subst hg
  exact lit_reads w vs T n hn
theorem str_info : (Try.prog.info? 9).map (fun i => (i.zero, i.size, i.bytes)) = some (some (.string ⟨#[]⟩), 1, 16) := by kernel_rfl
def cL (l : List Nat) (n : Nat) : Nat := l.getD n 0 % 5
theorem cL_le (l : List Nat) (n : Nat) : cL l n ≤ 4 := by unfold cL; omega
structure NamesR (w : World) (c : Nat → Nat) (d p : Nat) (vN vO vR : Value) (wr : World) : Prop where
  below : Below w.heap.size w wr
  x : NamesX w.heap.size wr vN vO vR c d p p p
theorem results_tmp4 {fn : Func} {t u v x : Tmp} (h : fn.results = #[.tmp t, .tmp u, .tmp v, .tmp x]) (tmps : Array Value) (P : Program) (w : World) :
    (results fn tmps).run P w = .ok (.tuple #[tmps.getD t undef, tmps.getD u undef, tmps.getD v undef, tmps.getD x undef]) w := by
  simp [results, h]
theorem uses_len (c : Nat → Nat) (d : Nat) : ∀ q, (usesC c d q).length = q
  | 0 => rfl
  | q + 1 => by rw [usesC, List.length_append, uses_len c d q]; rfl
theorem locs_len (n : Nat) : ∀ q, (locsC n q).length = q
  | 0 => rfl
  | q + 1 => by rw [locsC, List.length_append, locs_len n q]; rfl
theorem at_one {w : World} {S : Nat → Prop} {t : Tree} {x : Value} (h : At w S t x) : x.oneCell' = true := by
  cases t with
  | nil => rw [At] at h; subst h; rfl
  | tx s => rw [At] at h; subst h; rfl
  | cons a b => exact h.elim
  | ex k l n s a b ks xs ps bd => obtain ⟨g, _, _, _, _, _, _, _, _, _, _, rfl, _⟩ := h; rfl
  | st k l s a b c x y => obtain ⟨g, _, _, _, _, _, _, _, rfl, _⟩ := h; rfl
theorem TreesX.ones {lo : Nat} {w : World} {vb : Value} {acc : List Tree} {xs : List Value} (h : TreesX lo w vb acc xs) : ∀ u ∈ xs, u.oneCell' = true := by
  intro u hu
  have hxl : xs.length = acc.length := by have := h.rb.1; omega
  obtain ⟨j, hj, rfl⟩ := List.getElem_of_mem hu
  exact at_one (h.ht j acc[j] xs[j] (List.getElem?_eq_getElem (by omega)) (List.getElem?_eq_getElem hj))
theorem TreesX.over {lo : Nat} {wl w4 : World} {vi vb : Value} {ts acc : List Tree} {xs ys : List Value} (h : TreesX lo wl vi ts xs) (hb : TreesX wl.heap.size w4 vb acc ys) (hB : Below wl.heap.size wl w4) : ∀ (j : Nat) (t : Tree) (x : Value), ts[j]? = some t → xs[j]? = some x → At w4 (FreeT lo w4 vb) t x :=
  fun j t x h1 h2 => (at_keep (fun g hg => ⟨⟨hg.1, Nat.lt_of_lt_of_le hg.2.1 hB.size, fun e => by have := (hb.rb.lt g e).1; have := hg.2.1; omega⟩, hB.block g hg.2.1⟩) t).1 _ (h.ht j t x h1 h2)
def InnS (lo m k : Nat) (g : Nat) : Prop := (lo ≤ g ∧ g < m) ∨ k ≤ g
theorem TreesX.last {lo : Nat} {wl w4 w6 W : World} {vb : Value} {acc : List Tree} {ys : List Value} {t : Tree} {x : Value} (hb : TreesX wl.heap.size w4 vb acc ys) (ha : At w6 (fun g => InnS lo wl.heap.size w4.heap.size g ∧ g < w6.heap.size) t x) (hlo : lo ≤ w4.heap.size) (hB : Below w6.heap.size w6 W) : At W (FreeT lo W vb) t x :=
  (at_keep (fun g hg => ⟨⟨by rcases hg.1 with h | h <;> omega, Nat.lt_of_lt_of_le hg.2 hB.size, fun e => by have := hb.rb.lt g e; rcases hg.1 with h | h <;> omega⟩, hB.block g hg.2⟩) t).1 _ ha
theorem function_at {b : List Tree} {vb : Value} {S : Nat → Prop} (w : World) (hb : Sl w (fun g => S g ∧ g < w.heap.size) (treeL b) vb) (hS : S w.heap.size) : Calls Try.prog 30 #[.slice none 0 0, vb] w fun e w' => ∃ v, e = .returned (pV v) ∧ At w' (fun g => S g ∧ g < w'.heap.size) (funT [] b) (pV v) ∧ Below w.heap.size w w' := by
  have HB := Lib.hid hb
  obtain ⟨A2, c2, rfl, _⟩ := hb
  go_enter Try.func30, Try.ntmps30
  go_wp2
  go_ret
  exact ⟨_, rfl, at_ex (exC_new w 9 0 0 [] _ _ _ _ _ _ _) ⟨hS, by simp⟩ (at_nil _ _) (at_nil _ _) (sl_nil _ _) (sl_nil _ _) (sl_nil _ _) (Sl.keep (fun g hg => ⟨⟨hg.1, by have := hg.2; simp; omega⟩, Below.heap_alloc _ _ _ hg.2⟩) HB.out) (fun _ _ _ => Nat.zero_le _), below_alloc _ _⟩
theorem back_at {t : Tree} {g : Nat} {S : Nat → Prop} (w : World) (h : At w (fun g => S g ∧ g < w.heap.size) t (pV g)) (hS : S w.heap.size) : Calls Try.prog 27 #[pV g] w fun e w' => ∃ v, e = .returned (pV v) ∧ At w' (fun g => S g ∧ g < w'.heap.size) (backT t) (pV v) ∧ Below w.heap.size w w' := by
  have H := Lib.hid h
  clear h
  go_enter Try.func27, Try.ntmps27
  go_wp2
  go_ret
  exact ⟨_, rfl, at_st (stC_new w 8 0 [] _ _ _ _ _ _) ⟨hS, by simp⟩ (at_nil _ _) ((at_keep (fun g hg => ⟨⟨hg.1, by have := hg.2; simp; omega⟩, Below.heap_alloc _ _ _ hg.2⟩) t).1 _ H.out) (at_nil _ _) (sl_nil _ _) (sl_nil _ _), below_alloc _ _⟩
/-- How many of the first m names are function i's. -/
def locN (c : Nat → Nat) (i m : Nat) : Nat := min (m - posC c i) (c i)
theorem locN_own {c : Nat → Nat} {d i m : Nat} (hd : d ≤ 6) (hm : m < posC c d) (ho : (nameC c d m).1 = i) : locN c i (m + 1) = locN c i m + 1 ∧ letB (5 * i + locN c i m) = textC c d m := by
  obtain ⟨h1, h2, h3⟩ := name_at hd hm
  rw [ho] at h1 h2 h3
  have e : locN c i m = (nameC c d m).2 := by unfold locN; omega
  refine ⟨by rw [e]; unfold locN; omega, by rw [e, textC, ho]⟩
theorem locN_far {c : Nat → Nat} {d i m : Nat} (hd : d ≤ 6) (hm : m < posC c d) (ho : (nameC c d m).1 ≠ i) : locN c i (m + 1) = locN c i m := by
  obtain ⟨h1, h2, h3⟩ := name_at hd hm
  rcases Nat.lt_or_gt_of_ne ho with h | h
  · have := posC_le c (show (nameC c d m).1 + 1 ≤ i by omega)
    rw [posC] at this
    unfold locN; omega
  · have := posC_le c (show i + 1 ≤ (nameC c d m).1 by omega)
    rw [posC] at this
    unfold locN; omega
theorem locN_all {c : Nat → Nat} {d i : Nat} (hi : i < d) : locN c i (posC c d) = c i := by
  have := posC_le c (show i + 1 ≤ d by omega)
  rw [posC] at this
  unfold locN; omega
/-- What stands within when k levels are left. -/
def innC (c : Nat → Nat) (d k : Nat) : List Tree := if k = d then usesC c d (posC c d) else lvC c d (d - 1 - k)
theorem innC_last {c : Nat → Nat} {d g : Nat} (h : g + 1 = d) : innC c d g = locsC g (c g) ++ usesC c d (posC c d) := by
  subst h
  rw [innC, if_neg (by omega), show g + 1 - 1 - g = 0 by omega, lvC]; rfl
theorem innC_step {c : Nat → Nat} {d g : Nat} (h : g + 1 < d) : innC c d g = locsC g (c g) ++ [backT (funT [] (innC c d (g + 1)))] := by
  rw [innC, if_neg (by omega), innC, if_neg (by omega), show d - 1 - g = (d - 1 - (g + 1)) + 1 by omega, lvC, show d - 2 - (d - 1 - (g + 1)) = g by omega]
theorem innC_len {c : Nat → Nat} {d k : Nat} (hc : ∀ n, c n ≤ 4) (hd : d ≤ 6) (hk : k ≤ d) : (innC c d k).length ≤ 40 := by
  have hp := posC_small hc d
  by_cases h : k = d
  · rw [innC, if_pos h, uses_len]; omega
  · have := hc k
    by_cases h2 : k + 1 = d
    · rw [innC_last h2, List.length_append, locs_len, uses_len]; omega
    · rw [innC_step (by omega), List.length_append, locs_len]; simp; omega
def ChainS (c : Nat → Nat) (d : Nat) (w : World) (e : Ending) (w' : World) : Prop :=
  Below w.heap.size w w' ∧ ∃ vi vN vO vR xs, e = .returned (.tuple #[vi, vN, vO, vR]) ∧ NamesX w.heap.size w' vN vO vR c d (posC c d) (posC c d) (posC c d) ∧ TreesX w.heap.size w' vi (innC c d 0) xs
structure LevR (ts : List Tree) (vi : Value) (lo : Nat) (w3 wr : World) : Prop where
  below : Below w3.heap.size w3 wr
  x : ∃ xs, TreesX lo wr vi ts xs
/-- What the walk wants of the bytes. -/
def BytesC (w : World) (A : Option Addr) (d : Nat) (c : Nat → Nat) : Prop := ∀ n, n < d → ∃ (a : Addr) (x : Nat), A = some a ∧ a.block < w.heap.size ∧ w.cell? (a.add n) = some (.int .u8 x) ∧ x ≤ 255 ∧ x % 5 = c n
theorem bytes_of {w : World} {l : List Nat} {A : Option Addr} {cap d : Nat} (hb : BySl w (.slice A l.length cap) l) (hd : d ≤ l.length) : BytesC w A d (cL l) := by
  intro n hn
  obtain ⟨A', c', e, h1, h2, h3⟩ := hb
  injection e with e1 e2 e3
  subst e1
  obtain ⟨a, rfl, ha, hx⟩ := h3 (by intro e; subst e; simp at hd; omega)
  have hlt : n < l.length := by omega
  obtain ⟨x1, x2⟩ := hx n l[n] (List.getElem?_eq_getElem hlt)
  exact ⟨a, l[n], rfl, ha, x1, x2, by simp [cL, List.getD_eq_getElem?_getD, hlt]⟩
structure RowR (ts : List Tree) (vi : Value) (w3 wr : World) : Prop where
  below : Below w3.heap.size w3 wr
  x : ∃ xs, TreesX w3.heap.size wr vi ts xs
theorem names_cell {lo : Nat} {w : World} {vN vO vR : Value} {c : Nat → Nat} {d a b e q g cap : Nat} (h : NamesX lo w vN vO vR c d a b e) (hv : vN = .slice (some ⟨g, 0, none⟩) a cap) (hq : q < a) : w.cell? ⟨g, q, none⟩ = some (sV (textC c d q)) := by
  subst hv
  exact row_cell h.rn (by simp [namesV, hq])
theorem owners_cell {lo : Nat} {w : World} {vN vO vR : Value} {c : Nat → Nat} {d a b e q g cap : Nat} (h : NamesX lo w vN vO vR c d a b e) (hv : vO = .slice (some ⟨g, 0, none⟩) b cap) (hq : q < b) : w.cell? ⟨g, q, none⟩ = some (iV ((nameC c d q).1 : Nat)) := by
  subst hv
  exact row_cell h.ro (by simp [ownersV, hq])
set_option maxHeartbeats 8000000 in
theorem chain_by (w : World) (c : Nat → Nat) (n d : Nat) (A : Option Addr) (cap : Nat) (_hn : n ≤ maxLen) (hd : d = if 6 < n then 6 else n) (hc4 : ∀ n, c n ≤ 4) (hb : BytesC w A d c) :
    Calls Try.prog 8 #[.slice A n cap] w (ChainS c d w) := by
  obtain ⟨ip, hp, hp0, hp1, hp2⟩ := info_parts ptr_info
  obtain ⟨ii, hi, hi0, hi1, hi2⟩ := info_parts int_info
  obtain ⟨is, hs, hs0, hs1, hs2⟩ := info_parts str_info
  have hd6 : d ≤ 6 := by rw [hd]; split <;> omega
  have hdn : d ≤ n := by rw [hd]; split <;> omega
  have hmin : (if (6 : Int) < (n : Int) then (6 : Int) else (n : Int)) = (d : Int) := by rw [hd]; split <;> split <;> omega
  have HX0 := Lib.hid (NamesX.nil w.heap.size w c d)
  have HPS : Hid (∀ n, posC c n ≤ 4 * n) := posC_small hc4
  have HC4 := Lib.hid hc4
  have XE := Lib.hid hb
  clear hb hd hc4
  go_enter Try.func8, Try.ntmps8
  go_wp2_with fail
  try rw [hmin]
  go_loopg [7, 8, 9, 11, 12] d (fun g vN vO vR i k wr => ∃ j : Nat, i = iV j ∧ j + g = d ∧ Hid (NamesR w c d (posC c j) vN vO vR wr))
  case atStart => exact ⟨0, rfl, by simp, Lib.hid ⟨Below.refl _ _, HX0.out⟩⟩
  case round =>
    obtain ⟨j, rfl, hjd, hS⟩ := hrel
    clear HX0
    cases gk with
    | zero => 
      have hj : j = d := by omega
      subst hj
      obtain ⟨w3, rfl⟩ : ∃ x, x = wr := ⟨_, rfl⟩
      have HS := Lib.hid hS.out
      obtain ⟨AN, cN, rfl⟩ := own_slice hS.out.x.rn
      obtain ⟨AO, cO, rfl⟩ := own_slice hS.out.x.ro
      have hJ : posC c j ≤ 24 := by have := HPS.out j; omega
      have hsz := hS.out.below.size
      have HT0 := Lib.hid (TreesX.nil w3.heap.size w3)
      clear hS
      generalize hJp : posC c j = J at *
      go_wp2_with fail
      go_loopg [10, 13] J (fun g vi i w2 => ∃ q : Nat, i = iV q ∧ q + g = J ∧ Hid (RowR (usesC c j q) vi w3 w2))
      case atStart => exact ⟨0, rfl, by simp, Lib.hid ⟨Below.refl _ _, _, HT0.out⟩⟩
      case round =>
        obtain ⟨q, rfl, hqJ, hU⟩ := hrel
        cases gk with
        | zero =>
          have hq : q = J := by omega
          subst hq
          have HU := Lib.hid hU.out
          have hszr := hU.out.below.size
          clear HT0 hU
          go_wp2_with fail
          go_loopg [10, 14, 15, 16] j (fun gk vi i vb k w2 => i = .int .i64 ((gk : Int) - 1) ∧ gk ≤ j ∧ Hid (LevR (innC c j gk) vi w.heap.size w3 w2))
          case atStart =>
            obtain ⟨xs, hX⟩ := HU.out.x
            exact ⟨rfl, Nat.le_refl _, Lib.hid ⟨HU.out.below, xs, by rw [innC, if_pos rfl, hJp]; exact hX.mono hsz⟩⟩
          case round =>
            obtain ⟨rfl, hgj, hV⟩ := hrel
            have HV := Lib.hid hV.out
            have hszl := hV.out.below.size
            clear hV HU
            obtain ⟨wl, rfl⟩ : ∃ x, x = wr := ⟨_, rfl⟩
            cases gk with
            | zero =>
              obtain ⟨xi, hXi⟩ := HV.out.x
              have HXi := Lib.hid hXi
              clear hXi
              go_wp2_with fail
              (try simp only [Exit.inBlock, Exit.then])
              refine bodyPost_ret (results_tmp4 rfl _ _ _) rfl ?_
              exact ⟨below_then HS.out.below HV.out.below, _, _, _, _, _, rfl, by rw [hJp]; exact HS.out.x.below HV.out.below, HXi.out⟩
            | succ g =>
              have e14 : (((g + 1 : Nat) : Int) - 1) = (g : Int) := by omega
              rw [e14]
              obtain ⟨xi, hXi⟩ := HV.out.x
              obtain ⟨Ai, ci, rfl⟩ := own_slice hXi.rb
              have HXi := Lib.hid hXi
              have hil := innC_len (k := g + 1) HC4.out hd6 hgj
              have hlo : w.heap.size ≤ wl.heap.size := by omega
              have HT1 := Lib.hid (TreesX.nil wl.heap.size wl)
              clear hXi
              generalize hts : innC c j (g + 1) = ts at *
              replace hts := Lib.hid hts
              go_wp2_with fail
              go_loopg [15, 16] q (fun g2 vb k w2 => ∃ m : Nat, k = iV m ∧ m + g2 = q ∧ Hid (RowR (locsC g (locN c g m)) vb wl w2))
              case atStart => exact ⟨0, rfl, by simp, Lib.hid ⟨Below.refl _ _, _, by rw [show locN c g 0 = 0 by unfold locN; omega]; exact HT1.out⟩⟩
              case round =>
                obtain ⟨m, rfl, hmq, hU⟩ := hrel
                have hb2 := hU.out.below.size
                have HB2 := Lib.hid hU.out.below
                obtain ⟨xs, hX⟩ := hU.out.x
                have HX := Lib.hid hX
                clear hX hU HT1
                cases gk with
                | zero =>
                  have hm : m = q := by omega
                  subst hm
                  have hla : locN c g m = c g := by rw [← hJp]; exact locN_all (by omega)
                  rw [hla] at HX
                  have hll : (locsC g (c g)).length ≤ 4 := by rw [locs_len]; exact HC4.out g
                  have HBV := Lib.hid (below_then HV.out.below HB2.out)
                  have hw3r := HBV.out.size
                  generalize hls : locsC g (c g) = ls at *
                  replace hls := Lib.hid hls
                  by_cases hgl : g + 1 = j
                  · have qg : (g : Int) = (j : Int) - 1 := by omega
                    have hrel : innC c j g = ls ++ ts := by rw [innC_last hgl, hls.out, ← hts.out, innC, if_pos hgl]
                    replace hrel := Lib.hid hrel
                    go_wp2_with (first
                      | (at_builtin; go_loud (refine wpList_append_any _ rfl (.tmp 96) (.tmp 97) 23 rfl _ 61 ip _ 1 8 Try.underlying23 hp hp0 hp1 hp2 rfl (by decide) _ _ _ rfl (HX.out.mono hlo).rb _ _ _ _ xi rfl (ReadsW.of_own (own_below HXi.out.rb HB2.out)) HXi.out.ones (by unfold maxLen; omega) (by omega) (by omega) ?_); intro v5 w5 hown hg hat; go_loud (have X5 := Lib.hid ((HX.out.mono hlo).more (ts := ts) (HXi.out.over HX.out HB2.out) rfl hown hg hat)); go_loud (have B5 := Lib.hid (Below.grown HBV.out hg hw3r (fun k hk => Nat.le_trans hszl (HX.out.rb.lt k hk).1))); clear hown hg hat))
                    go_roundg g
                    case measure => omega
                    case rel => exact ⟨by rw [qg], by omega, Lib.hid ⟨B5.out, _, by rw [hrel.out]; exact X5.out⟩⟩
                  · have qg : ¬ (g : Int) = (j : Int) - 1 := by omega
                    have hrel : innC c j g = ls ++ [backT (funT [] ts)] := by rw [innC_step (by omega), hls.out, hts.out]
                    replace hrel := Lib.hid hrel
                    have HSl : Hid (Sl wr (fun g => InnS w.heap.size wl.heap.size wr.heap.size g ∧ g < wr.heap.size) (treeL ts) (.slice Ai ts.length ci)) := Sl.keep (fun k hk => ⟨⟨.inl hk, Nat.lt_of_lt_of_le hk.2 hb2⟩, HB2.out.block k hk.2⟩) HXi.out.sl
                    have hS1 : Hid (InnS w.heap.size wl.heap.size wr.heap.size wr.heap.size) := Or.inr (Nat.le_refl _)
                    go_wp2_with (first
                      | (go_at_call 30; (with_reducible refine (function_at (S := InnS w.heap.size wl.heap.size wr.heap.size) _ HSl.out hS1.out).mono ?_); rintro e w5 ⟨v5, rfl, h5, b5⟩; have H5 := Lib.hid h5; have B5 := Lib.hid b5; have hw5 := b5.size; have hS2 : Hid (InnS w.heap.size wl.heap.size wr.heap.size w5.heap.size) := Or.inr hw5; clear h5 b5)
                      | (go_at_call 27; (with_reducible refine (back_at (S := InnS w.heap.size wl.heap.size wr.heap.size) _ H5.out hS2.out).mono ?_); rintro e w6 ⟨v6, rfl, h6, b6⟩; have H6 := Lib.hid h6; have B6 := Lib.hid b6; have hw6 := b6.size; clear h6 b6)
                      | (at_builtin; go_loud (refine wpList_append_any _ rfl (.tmp 99) (.tmp 103) 23 rfl _ 61 ip _ 1 8 Try.underlying23 hp hp0 hp1 hp2 rfl (by decide) _ _ _ rfl (own_below (HX.out.mono hlo).rb (below_then B5.out (below_then B6.out (below_alloc _ _)))) _ _ _ _ [pV v6] rfl (lit_at _ _ _ 1 _ rfl (by simp)) (by simp [Value.oneCell']) (by unfold maxLen; omega) (by omega) (by simp; omega) ?_); intro v7 w7 hown hg hat; go_loud (have X7 := Lib.hid (((HX.out.mono hlo).below (below_then B5.out (below_then B6.out (below_alloc _ _)))).more (ts := [backT (funT [] ts)]) (one_of (HX.out.last H6.out (by omega) (below_alloc _ _))) rfl hown hg hat)); go_loud (have B7 := Lib.hid (Below.grown (HBV.out.trans ((below_then B5.out (below_then B6.out (below_alloc _ _))).mono hw3r)) hg (by simp; omega) (fun k hk => Nat.le_trans hszl (HX.out.rb.lt k hk).1))); clear hown hg hat))
                    go_roundg g
                    case measure => omega
                    case rel => exact ⟨rfl, by omega, Lib.hid ⟨B7.out, _, by rw [hrel.out]; exact X7.out⟩⟩
                | succ g2 =>
                  have q1 : m < q := by omega
                  have q2 : m < posC c j := by omega
                  obtain ⟨gN, capN, hvN, _⟩ := HS.out.x.rn.form (by omega)
                  injection hvN with hv1 hv2 hv3
                  subst hv1 hv3
                  clear hv2
                  obtain ⟨gO, capO, hvO, _⟩ := HS.out.x.ro.form (by omega)
                  injection hvO with hv1 hv2 hv3
                  subst hv1 hv3
                  clear hv2
                  have HNw := Lib.hid (HS.out.x.below (below_then HV.out.below HB2.out))
                  have hNc := names_cell HNw.out rfl q1
                  have hOc := owners_cell HNw.out rfl q1
                  have hll : (locsC g (locN c g m)).length ≤ 4 := by rw [locs_len]; have := HC4.out g; unfold locN; omega
                  by_cases ho : (nameC c j m).1 = g
                  · obtain ⟨hn1, hn2⟩ := locN_own hd6 q2 ho
                    have hrel : locsC g (locN c g (m + 1)) = locsC g (locN c g m) ++ [locT (textC c j m)] := by rw [hn1, locsC, hn2]
                    replace hrel := Lib.hid hrel
                    rw [ho] at hOc
                    clear hn1 hn2 ho q2
                    generalize locsC g (locN c g m) = ls at *
                    go_wp2_with (first
                      | (go_at_call 29; (with_reducible refine (local_new (textC c j m) _).mono ?_); rintro e w5 ⟨v5, rfl, h5, b5⟩; have H5 := Lib.hid h5; have B5 := Lib.hid b5; have hw5 := b5.size; clear h5 b5)
                      | (at_builtin; go_loud (refine wpList_append_any _ rfl (.tmp 84) (.tmp 90) 23 rfl _ 61 ip _ 1 8 Try.underlying23 hp hp0 hp1 hp2 rfl (by decide) _ _ _ rfl (own_below HX.out.rb (below_then B5.out (below_alloc _ _))) _ _ _ _ [pV v5] rfl (lit_at _ _ _ 1 _ rfl (by simp)) (by simp [Value.oneCell']) (by unfold maxLen; omega) (by omega) (by simp; omega) ?_); intro v6 w6 hown hg hat; go_loud (have X6 := Lib.hid ((HX.out.below (below_then B5.out (below_alloc _ _))).more (ts := [locT (textC c j m)]) (one_of (HX.out.free hb2 (AtS.below H5.out (below_alloc _ _)))) rfl hown hg hat)); go_loud (have B6 := Lib.hid (Below.grown (HB2.out.trans ((below_then B5.out (below_alloc _ _)).mono hb2)) hg (by simp; omega) (fun k hk => (HX.out.rb.lt k hk).1))); clear hown hg hat))
                    go_roundg g2
                    case measure => omega
                    case rel => exact ⟨m + 1, by simp, by omega, Lib.hid ⟨B6.out, _, by rw [hrel.out]; exact X6.out⟩⟩
                  · have hfar := Lib.hid (locN_far hd6 q2 ho)
                    have ho2 : ¬ ((nameC c j m).1 : Int) = (g : Int) := by omega
                    generalize (nameC c j m).1 = o at *
                    go_wp2_with fail
                    go_roundg g2
                    case measure => omega
                    case rel => exact ⟨m + 1, by simp, by omega, Lib.hid ⟨HB2.out, xs, by rw [hfar.out]; exact HX.out⟩⟩
        | succ g =>
          have q0 : q < J := by omega
          obtain ⟨gN, capN, hvN, _⟩ := HS.out.x.rn.form (by omega)
          injection hvN with hv1 hv2 hv3
          subst hv1 hv3
          clear hv2
          have hNc := names_cell (HS.out.x.below hU.out.below) rfl q0
          obtain ⟨xs, hX⟩ := hU.out.x
          have HX := Lib.hid hX
          have hb2 := hU.out.below.size
          have HB2 := Lib.hid hU.out.below
          clear hX hU
          have hul := uses_len c j q
          generalize hus : usesC c j q = us at *
          go_wp2_with (first
            | (go_at_call 28; (with_reducible refine (name_new (textC c j q) _).mono ?_); rintro e w3 ⟨v3, rfl, h3, b3⟩; have H3 := Lib.hid h3; have B3 := Lib.hid b3; have hw3 := b3.size; clear h3 b3)
            | (go_at_call 27; (with_reducible refine (back_new _ H3.out hw3).mono ?_); rintro e w4 ⟨v4, rfl, h4, b4⟩; have H4 := Lib.hid h4; have B4 := Lib.hid b4; have hw4 := b4.size; clear h4 b4)
            | (at_builtin; go_loud (refine wpList_append_any _ rfl (.tmp 57) (.tmp 64) 23 rfl _ 61 ip _ 1 8 Try.underlying23 hp hp0 hp1 hp2 rfl (by decide) _ _ _ rfl (own_below HX.out.rb (below_then B3.out (below_then B4.out (below_alloc _ _)))) _ _ _ _ [pV v4] rfl (lit_at _ _ _ 1 _ rfl (by simp)) (by simp [Value.oneCell']) (by rw [hul]; unfold maxLen; omega) (by rw [hul]; omega) (by simp; omega) ?_); intro v5 w5 hown hg hat; go_loud (have X5 := Lib.hid ((HX.out.below (below_then B3.out (below_then B4.out (below_alloc _ _)))).more (ts := [backT (nmT (textC c j q))]) (one_of (HX.out.free hb2 (AtS.below H4.out (below_alloc _ _)))) rfl hown hg hat)); go_loud (have B5 := Lib.hid (Below.grown (HB2.out.trans ((below_then B3.out (below_then B4.out (below_alloc _ _))).mono hb2)) hg (by simp; omega) (fun k hk => (HX.out.rb.lt k hk).1))); clear hown hg hat))
          go_roundg g
          case measure => omega
          case rel => exact ⟨q + 1, by simp, by omega, Lib.hid ⟨B5.out, _, by rw [usesC, hus]; exact X5.out⟩⟩
    | succ g =>
      obtain ⟨a, x, rfl, ha, hx, hx5, hxc⟩ := XE.out j (by omega)
      have HS := Lib.hid hS.out
      have q0 : j < d := by omega
      go_wp2_with fail
      go_loopg [7, 8, 9, 12] (c j) (fun g2 vN vO vR k wr => ∃ m : Nat, k = iV m ∧ m + g2 = c j ∧ Hid (NamesR w c d (posC c j + m) vN vO vR wr))
      case atStart => exact ⟨0, rfl, by simp, HS⟩
      case round =>
        obtain ⟨m, rfl, hmc, hT⟩ := hrel
        have hTb := hT.out.below
        have hxw := (hTb.cell (p := a.add j) (by rw [block_of_addW]; exact ha)).trans hx
        have HT := Lib.hid hT.out
        have HTb := Lib.hid hTb
        have hcj := HC4.out j
        have hsz := hTb.size
        clear hT hTb
        cases gk with
        | zero =>
          have hm : m = c j := by omega
          go_wp2_with fail
          go_roundg g
          case measure => omega
          case rel => exact ⟨j + 1, by simp, by omega, by rw [posC, ← hm]; exact HT⟩
        | succ g2 =>
          have hnm := (name_of hd6 (c := c) (i := j) (k := m) (by omega) (by omega)).1
          have htx := text_of hd6 (c := c) (i := j) (k := m) (by omega) (by omega)
          have LE : Hid (∀ W, Calls Try.prog 26 #[.int .i64 ((j : Int) * 5 + (m : Int))] W fun e w' => e = .returned (sV (textC c d (posC c j + m))) ∧ Below W.heap.size W w') := by
            refine Lib.hid fun W => ?_
            have := letter_any (j * 5 + m) (by omega) W
            rw [htx]
            simpa using this
          have hp24 : posC c j + m ≤ 30 := by have := HPS.out j; omega
          have hn1 : (nameC c d (posC c j + m)).1 = j := by rw [hnm]
          have hn2 : (nameC c d (posC c j + m)).2 = m := by rw [hnm]
          generalize hpp : posC c j + m = p at *
          clear hnm htx
          go_wp2_with (first
            | (go_at_call 26; (with_reducible refine (LE.out _).mono ?_); rintro e w1 ⟨rfl, b1⟩; have B1 := Lib.hid b1; have hw1 := b1.size; clear b1)
            | (at_builtin; go_loud (refine wpList_append_any _ rfl (.tmp 35) (.tmp 41) 24 rfl w.heap.size 9 is _ 1 16 Try.underlying24 hs hs0 hs1 hs2 rfl (by decide) _ _ _ rfl (own_below HT.out.x.rn (below_then B1.out (below_alloc _ _))) _ _ _ _ [sV (textC c d p)] rfl (lit_at _ _ _ 1 _ rfl (by simp)) (by simp [Value.oneCell']) (by unfold maxLen; omega) (by omega) (by simp; omega) ?_); intro v3 w3 hown hg hat; go_loud (have X3 := Lib.hid ((HT.out.x.below (below_then B1.out (below_alloc _ _))).moreN hown hg)); go_loud (have B3 := Lib.hid (Below.grown (HTb.out.trans ((below_then B1.out (below_alloc _ _)).mono hsz)) hg (by simp; omega) (fun k hk => (HT.out.x.rn.lt k hk).1))); have hw3 := B3.out.size; clear hown hg hat)
            | (at_builtin; go_loud (refine wpList_append_any _ rfl (.tmp 43) (.tmp 45) 25 rfl w.heap.size 3 ii _ 1 8 Try.underlying25 hi hi0 hi1 hi2 rfl (by decide) _ _ _ rfl (own_below X3.out.ro (below_alloc _ _)) _ _ _ _ [iV j] rfl (lit_at _ _ _ 1 _ rfl (by simp)) (by simp [Value.oneCell']) (by unfold maxLen; omega) (by omega) (by simp; omega) ?_); intro v4 w4 hown hg hat; go_loud (have X4 := Lib.hid ((X3.out.below (below_alloc _ _)).moreO (by rw [hn1]; exact hown) hg hat)); go_loud (have B4 := Lib.hid (Below.grown (B3.out.trans ((below_alloc _ _).mono hw3)) hg (by simp; omega) (fun k hk => (X3.out.ro.lt k hk).1))); have hw4 := B4.out.size; clear hown hg hat)
            | (at_builtin; go_loud (refine wpList_append_any _ rfl (.tmp 47) (.tmp 49) 25 rfl w.heap.size 3 ii _ 1 8 Try.underlying25 hi hi0 hi1 hi2 rfl (by decide) _ _ _ rfl (own_below X4.out.rr (below_alloc _ _)) _ _ _ _ [iV m] rfl (lit_at _ _ _ 1 _ rfl (by simp)) (by simp [Value.oneCell']) (by unfold maxLen; omega) (by omega) (by simp; omega) ?_); intro v5 w5 hown hg hat; go_loud (have X5 := Lib.hid ((X4.out.below (below_alloc _ _)).moreR (by rw [hn2]; exact hown) hg hat)); go_loud (have B5 := Lib.hid (Below.grown (B4.out.trans ((below_alloc _ _).mono hw4)) hg (by simp; omega) (fun k hk => (X4.out.rr.lt k hk).1))); have hw5 := B5.out.size; clear hown hg hat))
          go_roundg g2
          case measure => omega
          case rel => exact ⟨m + 1, by simp, by omega, Lib.hid ⟨B5.out, by rw [← Nat.add_assoc, hpp]; exact X5.out⟩⟩
end Go.Proofs.Ytlbbbfmnghcdnaa
