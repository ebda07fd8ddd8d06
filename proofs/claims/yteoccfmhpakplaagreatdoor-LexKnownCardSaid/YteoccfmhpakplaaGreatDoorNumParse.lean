/- num.isText, num.Parse and num.Text by their contracts: what a text is read as, and how a number is written, for every text and every number. -/
import Derived.Test.YteoccfmhpakplaaGreatDoorBase
import Derived.Test.YteoccfmhpakplaaGreatDoorShelfNum
import Derived.Test.YteoccfmhpakplaaGreatDoorNumDo
import Derived.Test.YteoccfmhpakplaaGreatDoorNumIs
import Derived.Lib.AppendIntMem
import Derived.Lib.ParseIntBTie
import Derived.Lib.AtoiErrMem
import Derived.WalkSmall
namespace Go.Proofs.YteoccfmhpakplaaGreatDoor
set_option maxRecDepth 20000
open Go.RowKit
def digitB (c : UInt8) : Bool := decide (48 ≤ c.toNat ∧ c.toNat ≤ 57)
def isTextL (l : List UInt8) : Bool :=
  if Lib.trimPrefix l [45] = [] then false else
  if (Lib.trimPrefix l [45]).head? = some 48 then l == [48] else (Lib.trimPrefix l [45]).all digitB
theorem isText_any (s : ByteArray) (w : World) (hs : s.size ≤ 9223372036854775807) :
    Calls Tryz.prog 65 #[.string s] w fun e w' => e = .returned (.bool (isTextL s.data.toList)) ∧ w' = w := by
  obtain ⟨d, hd⟩ : ∃ d : ByteArray, (⟨(Lib.trimPrefix s.data.toList [45]).toArray⟩ : ByteArray) = d := ⟨_, rfl⟩
  have C := Tryz.strings_TrimPrefix s ⟨#[45]⟩ w
  rw [show (⟨(Lib.trimPrefix s.data.toList (ByteArray.mk #[45]).data.toList).toArray⟩ : ByteArray) = d from hd] at C
  have C := Lib.hid C
  have hl : Lib.trimPrefix s.data.toList [45] = d.data.toList := by rw [← hd]
  have hsz : d.size = d.data.toList.length := Lib.size_eq d
  have hds : d.size ≤ 9223372036854775807 := by
    have : d.data.toList.length ≤ s.data.toList.length := by rw [← hl]; unfold Lib.trimPrefix; split <;> simp
    rw [hsz]; rw [Lib.size_eq] at hs; omega
  have R : Hid (isTextL s.data.toList = if d.data.toList = [] then false else if d.data.toList.head? = some 48 then s.toList == [48] else d.data.toList.all digitB) := by
    unfold isTextL Hid; rw [hl, Lib.toList_data]
  have HD := Lib.hid hd
  have HL := Lib.hid hl
  have HSZ := Lib.hid hsz
  clear hd hl hsz
  by_cases he : d.data.toList = []
  · have he' : d.toList.isEmpty = true := by rw [Lib.toList_data, he]; rfl
    rw [if_pos he] at R
    have HE := Lib.hid he
    clear he
    go_enter Tryz.func65, Tryz.ntmps65
    go_wp2_with (go_at_call 82; refine C.out.mono ?_; rintro e w' ⟨rfl, rfl⟩)
    go_ret
    exact ⟨ret_bool R.out.symm, rfl⟩
  · have he' : d.toList.isEmpty = false := by rw [Lib.toList_data]; simpa using he
    have hpos : 0 < d.size := by rw [HSZ.out]; exact List.length_pos_iff.2 he
    have hhd : d.data.toList.head? = some d[0] := by
      rw [List.head?_eq_getElem?]; rw [List.getElem?_eq_getElem (by rw [← HSZ.out]; exact hpos)]; rfl
    rw [if_neg he, hhd] at R
    have HE := Lib.hid he
    have HH := Lib.hid hhd
    clear he hhd
    by_cases h0 : d[0].toNat = 48
    · have h0' : ((d[0].toNat : Int) == 48) = true := by simp [h0]
      have R2 : Hid (isTextL s.data.toList = (s.toList == [48])) := by
        rw [Hid, R.out, if_pos (congrArg some (UInt8.toNat_inj.1 (show d[0].toNat = (48 : UInt8).toNat from h0)))]
      have H0 := Lib.hid h0
      clear R h0
      go_enter Tryz.func65, Tryz.ntmps65
      go_wp2_with (go_at_call 82; refine C.out.mono ?_; rintro e w' ⟨rfl, rfl⟩)
      go_ret
      exact ⟨ret_bool R2.out.symm, rfl⟩
    · have h0' : ((d[0].toNat : Int) == 48) = false := by simp; omega
      have R2 : Hid (isTextL s.data.toList = d.data.toList.all digitB) := by
        rw [Hid, R.out, if_neg (fun e => h0 (by have := Option.some.inj e; rw [this]; rfl))]
      have H0 := Lib.hid h0
      clear R h0
      go_enter Tryz.func65, Tryz.ntmps65
      go_wp2_with (go_at_call 82; refine C.out.mono ?_; rintro e w' ⟨rfl, rfl⟩)
      go_loop [4, 16] (fun _ i => ∃ k : Nat, k ≤ d.size ∧ i = .int .i64 k ∧ (d.data.toList.take k).all digitB = true) (fun _ i => d.size - (intOf i).toNat)
      case atStart => exact ⟨0, Nat.zero_le _, rfl, rfl⟩
      case round =>
        obtain ⟨k, hk, rfl, hall⟩ := hrel
        have HA := Lib.hid hall
        clear hall
        by_cases hlt : k < d.size
        · have hget : d.data.toList[k]? = some d[k] := by
            rw [List.getElem?_eq_getElem (by rw [← HSZ.out]; exact hlt)]; rfl
          have G := Lib.hid hget
          clear hget
          by_cases c1 : d[k].toNat < 48
          · have F : Hid (d.data.toList.all digitB = false) := by
              rw [Hid, List.all_eq_false]
              exact ⟨d[k], List.mem_of_getElem? G.out, by simp [digitB]; omega⟩
            go_wp2
            go_ret
            exact ⟨ret_bool (R2.out.trans F.out).symm, rfl⟩
          · by_cases c2 : 57 < d[k].toNat
            · have F : Hid (d.data.toList.all digitB = false) := by
                rw [Hid, List.all_eq_false]
                exact ⟨d[k], List.mem_of_getElem? G.out, by simp [digitB]; omega⟩
              go_wp2
              go_ret
              exact ⟨ret_bool (R2.out.trans F.out).symm, rfl⟩
            · have F : Hid ((d.data.toList.take (k + 1)).all digitB = true) := by
                rw [Hid, List.take_add_one, List.all_append, HA.out, G.out]; simp [digitB]; omega
              go_wp2
              go_round
              case rel => exact ⟨k + 1, by omega, by go_num, F.out⟩
              case measure => simp [intOf]; omega
        · have F : Hid (d.data.toList.all digitB = true) := by
            have := HA.out; rw [List.take_of_length_le (by rw [← HSZ.out]; omega)] at this; exact this
          go_wp2
          go_ret
          exact ⟨ret_bool (R2.out.trans F.out).symm, rfl⟩

/-- How a text ends that is a number's text: read, or beyond 64 bits. -/
def parseV (l : List UInt8) : Int := if isTextL l = true then (match Lib.parseIntB 64 l with | .ok v => v | _ => 0) else 0
def parseE (l : List UInt8) : Int := if isTextL l = true then (match Lib.parseIntB 64 l with | .ok _ => 0 | _ => 15) else 4

/-- An end of the reading that is no fault of the form. -/
def wellB {α : Type} : Lib.NumEnd α → Bool
  | .ok _ => true
  | .range => true
  | _ => false
theorem digits_well (M : Nat) : ∀ (l : List UInt8) (acc : Nat), l.all digitB = true → wellB (Lib.parseUintM M acc l) = true
  | [], _, _ => by simp [Lib.parseUintM, wellB]
  | c :: r, acc, h => by
    simp only [List.all_cons, Bool.and_eq_true] at h
    have hc : 48 ≤ c.toNat ∧ c.toNat ≤ 57 := by simpa [digitB] using h.1
    unfold Lib.parseUintM
    rw [if_pos hc]
    split
    · simp [wellB]
    · split
      · simp [wellB]
      · exact digits_well M r _ h.2
theorem isText_digits {l : List UInt8} (h : isTextL l = true) : Lib.trimPrefix l [45] ≠ [] ∧ (Lib.trimPrefix l [45]).all digitB = true := by
  unfold isTextL at h
  split at h
  · cases h
  · rename_i hne
    refine ⟨hne, ?_⟩
    split at h
    · have e : l = [48] := by simpa using h
      subst e; decide
    · exact h
theorem trim_minus (r : List UInt8) : Lib.trimPrefix (45 :: r) [45] = r := by simp [Lib.trimPrefix, Lib.hasPrefix, List.isPrefixOf]
theorem trim_other {c : UInt8} (r : List UInt8) (h : c ≠ 45) : Lib.trimPrefix (c :: r) [45] = c :: r := by
  simp [Lib.trimPrefix, Lib.hasPrefix, List.isPrefixOf, Ne.symm h]
theorem parseUintB_well {l : List UInt8} (hne : l ≠ []) (h : l.all digitB = true) : wellB (Lib.parseUintB 64 l) = true := by
  unfold Lib.parseUintB; rw [if_neg hne]; exact digits_well _ l 0 h
theorem isText_well {l : List UInt8} (h : isTextL l = true) : wellB (Lib.parseIntB 64 l) = true := by
  obtain ⟨hne, hd⟩ := isText_digits h
  match l with
  | [] => exact absurd (by decide) hne
  | c :: r =>
    by_cases hc : c = 45
    · subst hc
      rw [trim_minus] at hne hd
      have hs := parseUintB_well hne hd
      simp only [Lib.parseIntB]
      rw [if_pos (Or.inr (by decide))]
      generalize Lib.parseUintB 64 r = u at hs ⊢
      cases u
      all_goals first | (simp [wellB] at hs; done) | (simp [wellB]; done) | (simp only []; split <;> (try split) <;> simp [wellB])
    · rw [trim_other r hc] at hne hd
      have hs := parseUintB_well hne hd
      have hdc : 48 ≤ c.toNat ∧ c.toNat ≤ 57 := by
        simp only [List.all_cons, Bool.and_eq_true] at hd
        simpa [digitB] using hd.1
      simp only [Lib.parseIntB]
      rw [if_neg (by omega)]
      generalize Lib.parseUintB 64 (c :: r) = u at hs ⊢
      cases u
      all_goals first | (simp [wellB] at hs; done) | (simp [wellB]; done) | (simp only []; split <;> (try split) <;> simp [wellB])
theorem well_cases {α : Type} {u : Lib.NumEnd α} (h : wellB u = true) : (∃ v, u = .ok v) ∨ u = .range := by
  cases u
  all_goals first | (simp [wellB] at h; done) | exact Or.inr rfl | exact Or.inl ⟨_, rfl⟩

/-- What a call of this layer asks of the world: the library's table of powers and its sentinel stand as they were laid. -/
def Env (w : World) : Prop := Lib.TabIs Tryz.prog w "internal/strconv.uint64pow10" .u64 Lib.pow10Tab ∧ ∃ a : Addr, w.var? Tryz.prog "strconv.ErrRange" = some #[.iface 145 (.pointer (some a))]
theorem gPow : Tryz.prog.globalNamed "internal/strconv.uint64pow10" = some 5 := by kernel_rfl
theorem gRange : Tryz.prog.globalNamed "strconv.ErrRange" = some 3 := by kernel_rfl
theorem Env.below {w w' : World} (h : Env w) (hb : Below w.heap.size w w') : Env w' := by
  obtain ⟨h1, a, h2⟩ := h
  exact ⟨var?_below hb gPow (lt_of_var gPow h1) h1, a, var?_below hb gRange (lt_of_var gRange h2) h2⟩

/-- num.Parse: a text that is none. -/
theorem Parse_form (s : ByteArray) (w : World) (hs : s.size ≤ 9223372036854775806) (h : isTextL s.data.toList = false) :
    Calls Tryz.prog 44 #[.string s] w fun e w' => e = .returned (.tuple #[.int .i64 0, .int .i64 4]) ∧ w' = w := by
  have C := isText_any s w (by omega)
  rw [h] at C
  have C := Lib.hid C
  clear h
  go_enter Tryz.func44, Tryz.ntmps44
  go_wp2_with (go_at_call 65; refine C.out.mono ?_; rintro e w' ⟨rfl, rfl⟩)
  go_ret2
  exact ⟨rfl, rfl⟩
/-- num.Parse: a number within 64 bits. -/
theorem Parse_ok (s : ByteArray) (v : Int) (w : World) (hs : s.size ≤ 9223372036854775806) (h : isTextL s.data.toList = true) (hv : Lib.parseIntB 64 s.data.toList = .ok v) (hE : Env w) :
    Calls Tryz.prog 44 #[.string s] w fun e w' => e = .returned (.tuple #[.int .i64 v, .int .i64 0]) ∧ Below w.heap.size w w' := by
  have C := isText_any s w (by omega)
  rw [h] at C
  have C := Lib.hid C
  have D := Lib.hid (fun w => Tryz.strconv_ParseInt_10_at64_ok s hs v hv w)
  have E := Lib.hid hE
  clear h hv hE
  go_enter Tryz.func44, Tryz.ntmps44
  go_wp2_with (go_at_call 65; refine C.out.mono ?_; rintro e w' ⟨rfl, hq⟩; obtain rfl := hq.symm)
  refine (D.out _).mono ?_
  rintro e w1 ⟨rfl, hW⟩
  have hb1 : Below w.heap.size w w1 := by
    rcases hW with rfl | ⟨t, rfl⟩
    · exact Below.refl _ _
    · exact Lib.bytesWorld_below _ _ _
  obtain ⟨_, a, hvar⟩ := E.out.below hb1
  have hcell : w1.cell? ⟨3, 0, none⟩ = some (.iface 145 (.pointer (some a))) := by
    have h0 := World.var?_cell gRange hvar 0; simpa using h0
  clear hW hvar
  have I := Lib.hid (fun w => is_nil a w)
  go_wp2_with (go_at_call 27; refine (I.out _).mono ?_; rintro e w' ⟨rfl, hq⟩; obtain rfl := hq.symm)
  go_ret2
  exact ⟨rfl, hb1⟩
/-- num.Parse: a number beyond 64 bits. -/
theorem Parse_over (s : ByteArray) (w : World) (hs : s.size ≤ 281474976710656) (h : isTextL s.data.toList = true) (hv : Lib.parseIntB 64 s.data.toList = .range) (hE : Env w) :
    Calls Tryz.prog 44 #[.string s] w fun e w' => e = .returned (.tuple #[.int .i64 0, .int .i64 15]) ∧ Below w.heap.size w w' := by
  have C := isText_any s w (by omega)
  rw [h] at C
  have C := Lib.hid C
  obtain ⟨a, hvar0⟩ := hE.2
  have D := Lib.hid (Tryz.strconv_ParseInt_10_at64_range_var s hs hv _ _ w hvar0)
  have E := Lib.hid hE
  have V0 := Lib.hid hvar0
  clear h hv hE hvar0
  generalize Lib.intSat 64 s.data.toList = sat at *
  go_enter Tryz.func44, Tryz.ntmps44
  go_wp2_with (go_at_call 65; refine C.out.mono ?_; rintro e w' ⟨rfl, hq⟩; obtain rfl := hq.symm)
  refine D.out.mono ?_
  rintro e w1 ⟨N, rfl, hN, hblk, hb1⟩
  have hvar := var?_below hb1 gRange (lt_of_var gRange V0.out) V0.out
  have hcell : w1.cell? ⟨3, 0, none⟩ = some (.iface 145 (.pointer (some a))) := by
    have h0 := World.var?_cell gRange hvar 0; simpa using h0
  have herr : w1.cell? ⟨N, 0 + 2, none⟩ = some (.iface 145 (.pointer (some a))) := by
    simp [World.cell?, hblk]
  have B := Lib.hid hb1
  have I := Lib.hid (is_num_same N 0 a w1 herr)
  clear hvar hblk herr hN hb1
  go_wp2_with (go_at_call 27; refine I.out.mono ?_; rintro e w' ⟨rfl, hq⟩; obtain rfl := hq.symm)
  go_ret2
  exact ⟨rfl, B.out⟩
theorem parseV_bounds {l : List UInt8} : -9223372036854775808 ≤ parseV l ∧ parseV l ≤ 9223372036854775807 := by
  unfold parseV
  split
  · rename_i ht
    rcases well_cases (isText_well ht) with ⟨v, h⟩ | h
    · have := Lib.parseIntB_bounds (B := 64) h; simp at this; simp only [h]; omega
    · simp [h]
  · simp
/-- num.Parse, at every text. -/
theorem Parse_any (s : ByteArray) (w : World) (hs : s.size ≤ 281474976710656) (hE : Env w) :
    Calls Tryz.prog 44 #[.string s] w fun e w' => e = .returned (.tuple #[.int .i64 (parseV s.data.toList), .int .i64 (parseE s.data.toList)]) ∧ Below w.heap.size w w' := by
  cases h : isTextL s.data.toList with
  | false => exact (Parse_form s w (by omega) h).mono fun e w' g => ⟨g.1.trans (ret_pair (by simp [parseV, h]) (by simp [parseE, h])), by rw [g.2]; exact Below.refl _ _⟩
  | true =>
    rcases well_cases (isText_well h) with ⟨v, hv⟩ | hv
    · exact (Parse_ok s v w (by omega) h hv hE).mono fun e w' g => ⟨g.1.trans (ret_pair (by simp [parseV, h, hv]) (by simp [parseE, h, hv])), g.2⟩
    · exact (Parse_over s w hs h hv hE).mono fun e w' g => ⟨g.1.trans (ret_pair (by simp [parseV, h, hv]) (by simp [parseE, h, hv])), g.2⟩
end Go.Proofs.YteoccfmhpakplaaGreatDoor
