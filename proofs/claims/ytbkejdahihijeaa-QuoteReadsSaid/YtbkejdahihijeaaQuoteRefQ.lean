/- The document's own texts (tallowref03): the contracts of digit and Quote. -/
import Derived.Test.YtbkejdahihijeaaQuoteUnq
import Derived.OwnWalk
import Derived.Laws.OwnMore
namespace Go.Proofs.Ytbkejdahihijeaa
open Go.RowKit

theorem push_all : ∀ (l : List UInt8) (s : ByteArray), (l.map fun b => (b.toNat : Int)).foldl (fun r n => r.push (UInt8.ofNat n.toNat)) s = ⟨(s.data.toList ++ l).toArray⟩
  | [], s => by simp
  | c :: l, s => by
    rw [List.map_cons, List.foldl_cons, push_all l]
    simp
theorem str_of_own {w : World} {base : Nat} {v : Value} {l : List UInt8} (h : w.ownsRow base 5 1 v l.length (Lib.byteCells l)) : (convert 30 9 v).run Try.prog w = .ok (.string ⟨l.toArray⟩) w := by
  have h0 := h
  rcases h.2 with ⟨rfl, h1⟩ | ⟨g, cap, cur, rfl, _, hg, _⟩
  · have : l = [] := List.length_eq_zero_iff.1 h1
    subst this
    rw [run_convert_bytes_string _ 30 9 5 _ _ _ Try.underlying30 Try.underlying5 Try.underlying9]
    rfl
  · rw [run_convert_bytes_string _ 30 9 5 _ _ _ Try.underlying30 Try.underlying5 Try.underlying9]
    have e : Lib.byteCells l = (l.map fun b => (b.toNat : Int)).map (Value.int .u8) := by simp [Lib.byteCells]
    have hc := h0.cells rfl
    have hl := run_loadCells_list (P := Try.prog) w ⟨g, 0, none⟩ (Lib.byteCells l) (fun j u hu => by have := hc j u hu; simpa [Addr.add] using this)
    rw [Lib.byteCells_length] at hl
    rw [run_bytesToString w _ _ _ (l.map fun b => (b.toNat : Int)) (by rw [hl, e]), push_all]
    rfl
theorem Rdigit_any (n : Nat) (w : World) (h : n < 16) : Calls Try.prog 17 #[.int .u8 n] w fun e w' => e = .returned (.int .u8 (hexB n).toNat) ∧ w' = w := by
  unfold hexB
  by_cases g : n < 10
  · have e : ((UInt8.ofNat (48 + n)).toNat : Int) = 48 + n := by rw [UInt8.toNat_ofNat']; omega
    rw [if_pos g, e]
    go_enter Try.func17, Try.ntmps17
    go_wp2_with fail
    go_ret
    exact ⟨rfl, rfl⟩
  · have e : ((UInt8.ofNat (87 + n)).toNat : Int) = 87 + n := by rw [UInt8.toNat_ofNat']; omega
    rw [if_neg g, e]
    go_enter Try.func17, Try.ntmps17
    go_wp2_with fail
    go_ret
    exact ⟨ret_int (by omega), rfl⟩
def valI (c : UInt8) : Nat := match hexO c with | some n => n | none => 16
theorem Rvalue_any (c : UInt8) (w : World) : Calls Try.prog 30 #[.int .u8 c.toNat] w fun e w' => e = .returned (.int .u8 (valI c)) ∧ w' = w := by
  have hc := c.toNat_lt
  unfold valI hexO
  by_cases h : 48 ≤ c.toNat ∧ c.toNat ≤ 57
  · rw [if_pos h]
    obtain ⟨h1, h2⟩ := h
    go_enter Try.func30, Try.ntmps30
    go_wp2_with fail
    go_ret
    exact ⟨ret_int (by omega), rfl⟩
  · rw [if_neg h]
    by_cases g : 97 ≤ c.toNat ∧ c.toNat ≤ 102
    · rw [if_pos g]
      obtain ⟨h1, h2⟩ := g
      go_enter Try.func30, Try.ntmps30
      go_wp2_with fail
      go_ret
      exact ⟨ret_int (by omega), rfl⟩
    · rw [if_neg g]
      go_enter Try.func30, Try.ntmps30
      go_wp2_with fail
      all_goals first | (exfalso; omega) | (go_ret; exact ⟨rfl, rfl⟩)
theorem byte_info : (Try.prog.info? 5).map (fun i => (i.zero, i.size, i.bytes)) = some (some (.int .u8 0), 1, 1) := by kernel_rfl
theorem cells_new (w : World) (l : List Value) (E : TypeId) : ∀ j u, l[j]? = some u → (w.alloc (.cells l.toArray E)).cell? ((⟨w.heap.size, 0, none⟩ : Addr).add j) = some u := by
  intro j u hu
  have : (⟨w.heap.size, 0, none⟩ : Addr).add j = ⟨w.heap.size, j, none⟩ := by unfold Addr.add; split <;> simp_all
  rw [this]
  simp [go_sem, hu]
theorem bytes_one (l : List UInt8) : ∀ u ∈ Lib.byteCells l, u.oneCell' = true := by
  intro u hu
  unfold Lib.byteCells at hu
  simp at hu
  obtain ⟨b, _, rfl⟩ := hu
  rfl
theorem own_new (w : World) (l : List UInt8) (n : Nat) (hn : l.length = n) (hm : n ≤ maxLen) : (w.alloc (.cells (Lib.byteCells l).toArray 5)).ownsRow w.heap.size 5 1 (.slice (some ⟨w.heap.size, 0, none⟩) n n) n (Lib.byteCells l) := by
  refine ⟨by simp [Lib.byteCells_length, hn], .inr ⟨w.heap.size, n, (Lib.byteCells l).toArray, rfl, Nat.le_refl _, (MapKept.heap_alloc w _).1, Nat.le_refl _, hm, by simp [Lib.byteCells_length, hn], ?_⟩⟩
  rw [List.take_of_length_le (by simp [Lib.byteCells_length, hn])]
/-- A row of bytes of the call's own that a text is laid in. -/
structure Row (w : World) (v : Value) (l : List UInt8) (w' : World) : Prop where
  own : w'.ownsRow w.heap.size 5 1 v l.length (Lib.byteCells l)
  below : Below w.heap.size w w'
theorem Row.alloc {w w1 : World} {v : Value} {l : List UInt8} (h : Row w v l w1) (o : Obj) : Row w v l (w1.alloc o) := ⟨h.own.alloc o, h.below.alloc h.below.size o⟩
/-- Behind an append. -/
theorem Row.more {w w1 w2 : World} {v v2 : Value} {l m : List UInt8} {o : Obj} {k : Nat} (h : Row w v l w1) (hk : m.length = k) (ho : w2.ownsRow w.heap.size 5 1 v2 (l.length + k) (Lib.byteCells l ++ Lib.byteCells m)) (hg : (w1.alloc o).grownBy w2 v.ownBlock) : Row w v2 (l ++ m) w2 := by
  refine ⟨?_, (h.alloc o).below.grown hg (h.alloc o).below.size (fun k hk => (h.own.lt k hk).1)⟩
  rw [List.length_append, hk, Lib.byteCells_append]; exact ho
theorem esc_10 {c : UInt8} (h : c = 10) : escL c = [92, 110] := by subst h; decide
theorem esc_9 {c : UInt8} (h : c = 9) : escL c = [92, 116] := by subst h; decide
theorem esc_92 {c : UInt8} (h : c = 92) : escL c = [92, 92] := by subst h; decide
theorem esc_34 {c : UInt8} (h : c = 34) : escL c = [92, 34] := by subst h; decide
theorem hexed_hi (c : UInt8) (w : World) : Calls Try.prog 17 #[.int .u8 ((c.toNat : Int) / 16)] w fun e w' => e = .returned (.int .u8 (hexB (c.toNat / 16)).toNat) ∧ w' = w := Rdigit_any (c.toNat / 16) w (by have := c.toNat_lt; omega)
theorem hexed_lo (c : UInt8) (w : World) : Calls Try.prog 17 #[.int .u8 ((c.toNat : Int) % 16)] w fun e w' => e = .returned (.int .u8 (hexB (c.toNat % 16)).toNat) ∧ w' = w := Rdigit_any (c.toNat % 16) w (by omega)
theorem esc_self {c : UInt8} (h0 : 32 ≤ c.toNat) (h1 : c.toNat ≤ 126) (h2 : c ≠ 34) (h3 : c ≠ 92) : escL c = [c] := by
  have a2 : c.toNat ≠ 34 := fun e => h2 (UInt8.toNat_inj.1 e)
  have a3 : c.toNat ≠ 92 := fun e => h3 (UInt8.toNat_inj.1 e)
  unfold escL selfB
  rw [if_pos (by simp [h0, h1, a2, a3])]
theorem esc_hexed {c : UInt8} (h : c.toNat < 32 ∨ 126 < c.toNat) (h2 : c ≠ 10) (h3 : c ≠ 9) : escL c = [92, 120, hexB (c.toNat / 16), hexB (c.toNat % 16)] := by
  have hs : selfB c = false := by
    unfold selfB
    rcases h with h | h
    · rw [decide_eq_false (by omega : ¬ 32 ≤ c.toNat)]; rfl
    · rw [decide_eq_false (by omega : ¬ c.toNat ≤ 126)]; simp
  have h4 : c ≠ 92 := by rintro rfl; revert h; decide
  have h5 : c ≠ 34 := by rintro rfl; revert h; decide
  unfold escL
  rw [hs, if_neg (by simp)]
  unfold letterO
  rw [if_neg h2, if_neg h3, if_neg h4, if_neg h5]
theorem beq_byte {c d : UInt8} (h : c = d) : ((c.toNat : Int) == (d.toNat : Int)) = true := by rw [h]; simp
theorem bne_byte {c d : UInt8} (h : c ≠ d) : ((c.toNat : Int) == (d.toNat : Int)) = false := by
  rw [beq_eq_false_iff_ne]; intro e; exact h (UInt8.toNat_inj.1 (by omega))
set_option maxHeartbeats 4000000 in
/-- tallowref03.Quote. -/
theorem RQuote_any (s : ByteArray) (w : World) (hs : s.size ≤ 1048576) :
    Calls Try.prog 9 #[.string s] w fun e w' => e = .returned (.string ⟨(quoteL s.data.toList).toArray⟩) ∧ Below w.heap.size w w' := by
  obtain ⟨i0, hi, hz0, hz1, hz2⟩ := info_parts byte_info
  go_enter Try.func9, Try.ntmps9
  go_wp2_with fail
  go_loopw [3, 4] (fun v i wr => ∃ k : Nat, k ≤ s.size ∧ i = .int .i64 k ∧ Hid (Row w v (34 :: bodyL (s.data.toList.take k)) wr)) (fun _ i _ => s.size - (intOf i).toNat)
  case atStart => exact ⟨0, by omega, rfl, ⟨own_new w [34] 1 rfl (by decide), (Below.refl _ _).alloc (Nat.le_refl _) _⟩⟩
  case round =>
    obtain ⟨k, hk, rfl, hR⟩ := hrel
    by_cases hlt : k < s.size
    · have hl := body_take_length s k hs
      have ht := body_take hlt
      have hN : (34 :: bodyL (s.data.toList.take k)).length ≤ 4194305 := by rw [List.length_cons]; omega
      have hc := s[k].toNat_lt
      by_cases h10 : s[k] = 10
      · have q10 : ((s[k].toNat : Int) == 10) = true := beq_byte h10
        go_wp2_with (at_builtin; refine wpList_append_own _ rfl (.tmp 23) (.tmp 24) _ rfl w.heap.size 5 i0 _ 1 1 Try.underlying30 hi hz0 hz1 hz2 rfl (by decide) _ _ _ rfl (hR.out.alloc _).own _ _ _ [.int .u8 92, .int .u8 110] rfl rfl (cells_new _ _ _) (by simp [Value.oneCell']) (by unfold maxLen; omega) (by omega) (by have := hR.out.below.size; simp; omega) ?_; intro v2 w2 hown2 hg2 _)
        have R := Lib.hid (hR.out.more (m := [92, 110]) rfl hown2 hg2)
        clear hown2 hg2
        have E := esc_10 h10
        rw [List.cons_append, ← E, ← ht] at R
        go_wp2_with fail
        go_roundw
        case rel => exact ⟨k + 1, by omega, by go_num, R⟩
        case measure => simp [intOf]; omega
      · have q10 : ((s[k].toNat : Int) == 10) = false := bne_byte h10
        by_cases h9 : s[k] = 9
        · have q9 : ((s[k].toNat : Int) == 9) = true := beq_byte h9
          go_wp2_with (at_builtin; refine wpList_append_own _ rfl (.tmp 29) (.tmp 30) _ rfl w.heap.size 5 i0 _ 1 1 Try.underlying30 hi hz0 hz1 hz2 rfl (by decide) _ _ _ rfl (hR.out.alloc _).own _ _ _ [.int .u8 92, .int .u8 116] rfl rfl (cells_new _ _ _) (by simp [Value.oneCell']) (by unfold maxLen; omega) (by omega) (by have := hR.out.below.size; simp; omega) ?_; intro v2 w2 hown2 hg2 _)
          have R := Lib.hid (hR.out.more (m := [92, 116]) rfl hown2 hg2)
          clear hown2 hg2
          have E := esc_9 h9
          rw [List.cons_append, ← E, ← ht] at R
          go_wp2_with fail
          go_roundw
          case rel => exact ⟨k + 1, by omega, by go_num, R⟩
          case measure => simp [intOf]; omega
        · have q9 : ((s[k].toNat : Int) == 9) = false := bne_byte h9
          by_cases h92 : s[k] = 92
          · have q92 : ((s[k].toNat : Int) == 92) = true := beq_byte h92
            go_wp2_with (at_builtin; refine wpList_append_own _ rfl (.tmp 39) (.tmp 41) _ rfl w.heap.size 5 i0 _ 1 1 Try.underlying30 hi hz0 hz1 hz2 rfl (by decide) _ _ _ rfl (hR.out.alloc _).own _ _ _ [.int .u8 92, .int .u8 92] rfl rfl (cells_new _ _ _) (by simp [Value.oneCell']) (by unfold maxLen; omega) (by omega) (by have := hR.out.below.size; simp; omega) ?_; intro v2 w2 hown2 hg2 _)
            have R := Lib.hid (hR.out.more (m := [92, 92]) rfl hown2 hg2)
            clear hown2 hg2
            have E := esc_92 h92
            rw [List.cons_append, ← E, ← ht] at R
            go_wp2_with fail
            go_roundw
            case rel => exact ⟨k + 1, by omega, by go_num, R⟩
            case measure => simp [intOf]; omega
          · have q92 : ((s[k].toNat : Int) == 92) = false := bne_byte h92
            by_cases h34 : s[k] = 34
            · have q34 : ((s[k].toNat : Int) == 34) = true := beq_byte h34
              go_wp2_with (at_builtin; refine wpList_append_own _ rfl (.tmp 39) (.tmp 41) _ rfl w.heap.size 5 i0 _ 1 1 Try.underlying30 hi hz0 hz1 hz2 rfl (by decide) _ _ _ rfl (hR.out.alloc _).own _ _ _ [.int .u8 92, .int .u8 34] rfl rfl (cells_new _ _ _) (by simp [Value.oneCell']) (by unfold maxLen; omega) (by omega) (by have := hR.out.below.size; simp; omega) ?_; intro v2 w2 hown2 hg2 _)
              have R := Lib.hid (hR.out.more (m := [92, 34]) rfl hown2 hg2)
              clear hown2 hg2
              have E := esc_34 h34
              rw [List.cons_append, ← E, ← ht] at R
              go_wp2_with fail
              go_roundw
              case rel => exact ⟨k + 1, by omega, by go_num, R⟩
              case measure => simp [intOf]; omega
            · have q34 : ((s[k].toNat : Int) == 34) = false := bne_byte h34
              by_cases hl1 : s[k].toNat < 32
              · have D1 := Lib.hid (hexed_hi s[k])
                have D2 := Lib.hid (hexed_lo s[k])
                go_wp2_with (first
                  | (go_at_call 17; with_reducible refine (D1.out _).mono ?_; rintro e w1 ⟨rfl, rfl⟩)
                  | (go_at_call 17; with_reducible refine (D2.out _).mono ?_; rintro e w1 ⟨rfl, rfl⟩)
                  | (at_builtin; refine wpList_append_own _ rfl (.tmp 50) (.tmp 57) _ rfl w.heap.size 5 i0 _ 1 1 Try.underlying30 hi hz0 hz1 hz2 rfl (by decide) _ _ _ rfl (hR.out.alloc _).own _ _ _ [.int .u8 92, .int .u8 120, .int .u8 (hexB (s[k].toNat / 16)).toNat, .int .u8 (hexB (s[k].toNat % 16)).toNat] rfl rfl (cells_new _ _ _) (by simp [Value.oneCell']) (by unfold maxLen; omega) (by omega) (by have := hR.out.below.size; simp; omega) ?_; intro v2 w2 hown2 hg2 _))
                have R := Lib.hid (hR.out.more (m := [92, 120, hexB (s[k].toNat / 16), hexB (s[k].toNat % 16)]) rfl hown2 hg2)
                clear hown2 hg2
                have E := esc_hexed (.inl hl1) h10 h9
                rw [List.cons_append, ← E, ← ht] at R
                go_wp2_with fail
                go_roundw
                case rel => exact ⟨k + 1, by omega, by go_num, R⟩
                case measure => simp [intOf]; omega
              · by_cases hl2 : 126 < s[k].toNat
                · have D1 := Lib.hid (hexed_hi s[k])
                  have D2 := Lib.hid (hexed_lo s[k])
                  go_wp2_with (first
                    | (go_at_call 17; with_reducible refine (D1.out _).mono ?_; rintro e w1 ⟨rfl, rfl⟩)
                    | (go_at_call 17; with_reducible refine (D2.out _).mono ?_; rintro e w1 ⟨rfl, rfl⟩)
                    | (at_builtin; refine wpList_append_own _ rfl (.tmp 50) (.tmp 57) _ rfl w.heap.size 5 i0 _ 1 1 Try.underlying30 hi hz0 hz1 hz2 rfl (by decide) _ _ _ rfl (hR.out.alloc _).own _ _ _ [.int .u8 92, .int .u8 120, .int .u8 (hexB (s[k].toNat / 16)).toNat, .int .u8 (hexB (s[k].toNat % 16)).toNat] rfl rfl (cells_new _ _ _) (by simp [Value.oneCell']) (by unfold maxLen; omega) (by omega) (by have := hR.out.below.size; simp; omega) ?_; intro v2 w2 hown2 hg2 _))
                  have R := Lib.hid (hR.out.more (m := [92, 120, hexB (s[k].toNat / 16), hexB (s[k].toNat % 16)]) rfl hown2 hg2)
                  clear hown2 hg2
                  have E := esc_hexed (.inr hl2) h10 h9
                  rw [List.cons_append, ← E, ← ht] at R
                  go_wp2_with fail
                  go_roundw
                  case rel => exact ⟨k + 1, by omega, by go_num, R⟩
                  case measure => simp [intOf]; omega
                · have hl3 := hl2
                  go_wp2_with (at_builtin; refine wpList_append_own _ rfl (.tmp 16) (.tmp 18) _ rfl w.heap.size 5 i0 _ 1 1 Try.underlying30 hi hz0 hz1 hz2 rfl (by decide) _ _ _ rfl (hR.out.alloc _).own _ _ _ [.int .u8 s[k].toNat] rfl rfl (cells_new _ _ _) (by simp [Value.oneCell']) (by unfold maxLen; omega) (by omega) (by have := hR.out.below.size; simp; omega) ?_; intro v2 w2 hown2 hg2 _)
                  have R := Lib.hid (hR.out.more (m := [s[k]]) rfl hown2 hg2)
                  clear hown2 hg2
                  have E := esc_self (by omega) (by omega) h34 h92
                  rw [List.cons_append, ← E, ← ht] at R
                  go_wp2_with fail
                  go_roundw
                  case rel => exact ⟨k + 1, by omega, by go_num, R⟩
                  case measure => simp [intOf]; omega
    · have hl := body_take_length s k hs
      have hN : (34 :: bodyL (s.data.toList.take k)).length ≤ 4194305 := by rw [List.length_cons]; omega
      go_wp2_with (at_builtin; refine wpList_append_own _ rfl (.tmp 59) (.tmp 60) _ rfl w.heap.size 5 i0 _ 1 1 Try.underlying30 hi hz0 hz1 hz2 rfl (by decide) _ _ _ rfl (hR.out.alloc _).own _ _ _ [.int .u8 34] rfl rfl (cells_new _ _ _) (by simp [Value.oneCell']) (by unfold maxLen; omega) (by omega) (by have := hR.out.below.size; simp; omega) ?_; intro v2 w2 hown2 hg2 _)
      have R := hR.out.more (m := [34]) rfl hown2 hg2
      clear hown2 hg2
      rw [List.take_of_length_le (by rw [size_toList]; omega)] at R
      have C := str_of_own R.own
      go_wp2_with fail
      rw [C]
      go_wp2_with fail
      go_ret
      exact ⟨rfl, R.below⟩
end Go.Proofs.Ytbkejdahihijeaa
