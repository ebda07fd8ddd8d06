/- A graph that comes in; a list of values that comes in. -/
import Derived.Test.YtjlobjgemhapaaaOldG
import Derived.Test.YtjlobjgemhapaaaOldV
import Derived.Deep.SlicePairs
namespace Go.Proofs.Ytjlobjgemhapaaa
set_option maxRecDepth 20000
open Go.ChangeShapes Go.WideShapes Go.ChangeAt Go.RowKit

theorem valCells : Try.prog.cellsOf 41 = 2 := by kernel_rfl
theorem valBytes : Try.prog.bytesOf 41 = 16 := by kernel_rfl
theorem objCells : Try.prog.cellsOf 38 = 5 := by kernel_rfl
theorem objBytes : Try.prog.bytesOf 38 = 64 := by kernel_rfl
theorem graphCells : Try.prog.cellsOf 24 = 1 := by kernel_rfl
theorem reach_n : reachBytes = 140737488351232 := by decide
theorem size_of {H : Type} {P : Program} {ts : List TypeId} {ds : List (DataW H)} (h : (DataW.weightsEach P ts ds).all (· ≤ reachBytes) = true) {j : Nat} {t : TypeId} {d : DataW H} (ht : ts[j]? = some t) (hd : ds[j]? = some d) : ∀ n ∈ d.weights P t, n ≤ reachBytes :=
  fun n hn => of_decide_eq_true ((List.all_eq_true.1 h) n (DataW.weights_mem_each ht hd n hn))
instance : Inhabited OB := ⟨⟨0, 0, [], ⟨#[]⟩, 0⟩⟩
section
variable {H : Type} {enc : TypeId × Value → H} {w : World} {base : Nat} {spare : Nat → Bool} {held : Bool}
/-- A row of values, as it reads. -/
theorem vals_trod {fuel : Nat} {v : Value} {x : DataW H × List MemPlace} (h : DataW.trod enc Try.prog w base spare held fuel 33 [v] = some x) (hsz : ∀ n ∈ x.1.weights Try.prog 33, n ≤ reachBytes) :
    ∃ (A : Option Addr) (c : Nat) (l : List (Int × Int)), v = .slice A l.length c ∧ PairsAt w A l ∧ l.length * 16 ≤ 140737488351232 ∧ ∀ p ∈ l, wf64 p.1 ∧ wf64 p.2 := by
  rcases Go.Deep.open_slice Try.underlying33 h with ⟨e, _⟩ | ⟨a, len, cap, m, n, D, Pl, e, _, hl, hm, hmm, hx0, hx⟩
  · injection e with e
    subst e
    exact ⟨none, 0, [], rfl, fun i p hp => by simp at hp, by simp, by simp⟩
  · injection e with e
    subst e
    have hlm : len ≤ m := by rw [hmm]; split <;> omega
    have each : ∀ i, i < len → ∃ q : Int × Int, (wf64 q.1 ∧ wf64 q.2) ∧ w.cell? (a.add (i * 2)) = some (iV q.1) ∧ w.cell? ((a.add (i * 2)).add 1) = some (iV q.2) := by
      intro i hi
      obtain ⟨cs', h1, h2⟩ := hx i (by omega)
      rw [valCells] at h1
      obtain ⟨_, hlen, hcell⟩ := World.cells?_some h1
      obtain ⟨xs, k, _, _, _, hxl, hf⟩ := DataW.trod_struct Try.underlying41 h2
      match xs, hxl, cs', hlen with
      | [y0, y1], _, [v0, v1], _ =>
        have g0 := hf 0 _ rfl
        have g1 := hf 1 _ rfl
        have c0 : Try.prog.cellsOf 3 = 1 := by kernel_rfl
        have c1 : Try.prog.cellsOf 2 = 1 := by kernel_rfl
        simp [c0, c1] at g0 g1
        obtain ⟨p0, e0, _, w0⟩ := DataW.trod_int Try.underlying3 g0
        obtain ⟨p1, e1, _, w1⟩ := DataW.trod_int Try.underlying2 g1
        injection e0 with e0
        injection e1 with e1
        subst e0; subst e1
        have k0 := hcell 0 (by omega)
        have k1 := hcell 1 (by omega)
        exact ⟨(p0, p1), ⟨of_wf_i64 w0, of_wf_i64 w1⟩, by simpa [Addr.add] using k0, by simpa using k1⟩
    obtain ⟨q, hq⟩ := Go.Deep.choose_lt each
    refine ⟨some a, cap, (List.range len).map q, by simp, ?_, ?_, ?_⟩
    · intro i p hp
      simp only [List.getElem?_map, Option.map_eq_some_iff] at hp
      obtain ⟨j, hj, rfl⟩ := hp
      obtain ⟨hj1, hj2⟩ := List.getElem?_eq_some_iff.1 hj
      simp at hj2 hj1
      subst hj2
      obtain ⟨_, k0, k1⟩ := hq i hj1
      refine ⟨a, rfl, ?_, k0, k1⟩
      have := World.block_lt_of_cell? w _ k0
      rwa [Go.ChangeShapes.block_add] at this
    · subst hx0
      have := hsz ((((List.range len).map D).length + ((List.range (m - len)).map fun j => D (len + j)).length) * Try.prog.bytesOf 41) (by simp [DataW.weights, Try.underlying33])
      rw [valBytes, reach_n] at this
      simp only [List.length_map, List.length_range] at this ⊢
      omega
    · intro p hp
      obtain ⟨j, hj, rfl⟩ := List.mem_map.1 hp
      exact (hq j (by simpa using hj)).1
/-- An object, as it reads. -/
theorem obj_trod {fuel : Nat} {cs : List Value} {x : DataW H × List MemPlace} (hlen : cs.length = 5) (h : DataW.trod enc Try.prog w base spare held fuel 38 cs = some x) (hsz : ∀ n ∈ x.1.weights Try.prog 38, n ≤ reachBytes) :
    ∃ (o : OB) (sA : Option Addr) (sc : Nat), cs = [iV o.kind, iV o.count, .slice sA o.slots.length sc, .string o.text, iV o.mark] ∧ SlotsAt w o sA := by
  obtain ⟨xs, k, _, hx, _, hxl, hf⟩ := DataW.trod_struct Try.underlying38 h
  match xs, hxl, cs, hlen with
  | [y0, y1, y2, y3, y4], _, [v0, v1, v2, v3, v4], _ =>
    have g0 := hf 0 _ rfl
    have g1 := hf 1 _ rfl
    have g2 := hf 2 _ rfl
    have g3 := hf 3 _ rfl
    have g4 := hf 4 _ rfl
    have c0 : Try.prog.cellsOf 3 = 1 := by kernel_rfl
    have c1 : Try.prog.cellsOf 33 = 1 := by kernel_rfl
    have c2 : Try.prog.cellsOf 9 = 1 := by kernel_rfl
    simp [c0, c1, c2] at g0 g1 g2 g3 g4
    obtain ⟨n0, e0, _, w0⟩ := DataW.trod_int Try.underlying3 g0
    obtain ⟨n1, e1, _, w1⟩ := DataW.trod_int Try.underlying3 g1
    obtain ⟨s3, e3, _, _⟩ := DataW.trod_string Try.underlying9 g3
    obtain ⟨n4, e4, _, w4⟩ := DataW.trod_int Try.underlying3 g4
    have hw : ∀ n ∈ y2.1.weights Try.prog 33, n ≤ reachBytes := fun n hn => by
      refine hsz n ?_
      rw [hx]
      simp only [DataW.weights, Try.underlying38]
      exact DataW.weights_mem_each (j := 2) rfl rfl n hn
    obtain ⟨A, c, l, e2, hp, hl, _⟩ := vals_trod g2 hw
    injection e0 with e0
    injection e1 with e1
    injection e3 with e3
    injection e4 with e4
    subst e0; subst e1; subst e2; subst e3; subst e4
    exact ⟨⟨n0, n1, l, s3, n4⟩, A, c, rfl, hp, by show l.length * 16 ≤ _; omega⟩
theorem mem_weightsAll {P : Program} {e : TypeId} {n : Nat} : ∀ {l : List (DataW H)} {d : DataW H}, d ∈ l → n ∈ d.weights P e → n ∈ DataW.weightsAll P e l
  | x :: r, d, h, hn => by
    simp only [DataW.weightsAll, List.mem_append]
    rcases List.mem_cons.1 h with e | h
    · subst e; exact .inl hn
    · exact .inr (mem_weightsAll h hn)
/-- A row of objects, as it reads. -/
theorem objs_trod {fuel : Nat} {v : Value} {x : DataW H × List MemPlace} (h : DataW.trod enc Try.prog w base spare held fuel 22 [v] = some x) (hsz : ∀ n ∈ x.1.weights Try.prog 22, n ≤ reachBytes) :
    ∃ (A : Option Addr) (c : Nat) (g : List OB), v = .slice A g.length c ∧ GAt w A g ∧ g.length * 64 ≤ 140737488351232 := by
  rcases Go.Deep.open_slice Try.underlying22 h with ⟨e, _⟩ | ⟨a, len, cap, m, n, D, Pl, e, _, hl, hm, hmm, hx0, hx⟩
  · injection e with e
    subst e
    exact ⟨none, 0, [], rfl, fun i p hp => by simp at hp, by simp⟩
  · injection e with e
    subst e
    have hlm : len ≤ m := by rw [hmm]; split <;> omega
    subst hx0
    have each : ∀ i, i < len → ∃ q : OB × Option Addr × Nat, CellsAt w (a.add (i * 5)) q.1 q.2.1 q.2.2 ∧ SlotsAt w q.1 q.2.1 := by
      intro i hi
      obtain ⟨cs', h1, h2⟩ := hx i (by omega)
      rw [objCells] at h1
      obtain ⟨_, hlen, hcell⟩ := World.cells?_some h1
      obtain ⟨o, sA, sc, rfl, hs⟩ := obj_trod hlen h2 (fun n hn => hsz n (by
        simp only [DataW.weights, Try.underlying22, List.mem_cons, List.mem_append]
        exact .inr (.inl (mem_weightsAll (List.mem_map.2 ⟨i, by simpa using hi, rfl⟩) hn))))
      have k0 := hcell 0 (by omega)
      have k1 := hcell 1 (by omega)
      have k2 := hcell 2 (by omega)
      have k3 := hcell 3 (by omega)
      have k4 := hcell 4 (by omega)
      refine ⟨(o, sA, sc), ⟨?_, ?_, ?_, ?_, ?_⟩, hs⟩
      · simpa [Addr.add] using k0
      · simpa [Addr.add] using k1
      · simpa [Addr.add] using k2
      · simpa [Addr.add] using k3
      · simpa [Addr.add] using k4
    obtain ⟨q, hq⟩ := Go.Deep.choose_lt each
    refine ⟨some a, cap, (List.range len).map fun i => (q i).1, by simp, ?_, ?_⟩
    · intro i o ho
      simp only [List.getElem?_map, Option.map_eq_some_iff] at ho
      obtain ⟨j, hj, rfl⟩ := ho
      obtain ⟨hj1, hj2⟩ := List.getElem?_eq_some_iff.1 hj
      simp at hj2 hj1
      subst hj2
      obtain ⟨k0, k1⟩ := hq i hj1
      refine ⟨a, _, _, rfl, ?_, k0, k1⟩
      have := World.block_lt_of_cell? w _ k0.1
      rwa [Go.ChangeShapes.block_add] at this
    · have := hsz ((((List.range len).map D).length + ((List.range (m - len)).map fun j => D (len + j)).length) * Try.prog.bytesOf 38) (by simp [DataW.weights, Try.underlying22])
      rw [objBytes, reach_n] at this
      simp only [List.length_map, List.length_range] at this ⊢
      omega
/-- A graph that comes in. -/
theorem open_graph {r : Reach} {b0 : Nat} {v : Value} {d : DataW H} {p : List MemPlace} (hv : Value.okWide Try.prog w r b0 24 v) (h : DataW.Trod enc Try.prog w base spare held 24 v d p) (hsz : ∀ n ∈ d.weights Try.prog 24, n ≤ reachBytes) :
    ∃ (A : Option Addr) (c : Nat) (g : List OB), v = .agg #[.slice A g.length c] ∧ GAt w A g ∧ g.length * 64 ≤ 140737488351232 := by
  obtain ⟨cs, rfl, hs⟩ := okWide_struct Try.underlying24 hv
  obtain ⟨fuel, hf⟩ := h
  obtain ⟨xs, k, _, hx, hcl, hxl, hff⟩ := DataW.trod_struct Try.underlying24 hf
  have hcs : cs.size = 1 := hs.trans graphCells
  obtain ⟨l⟩ := cs
  match xs, hxl, l, hcs with
  | [y0], _, [v0], _ =>
    have g0 := hff 0 _ rfl
    have c1 : Try.prog.cellsOf 22 = 1 := by kernel_rfl
    simp [c1, Value.cells] at g0
    have e0 : d = .agg [y0.1] := congrArg Prod.fst hx
    obtain ⟨A, c, g, rfl, hg, hl⟩ := objs_trod g0 (fun n hn => hsz n (by
      rw [e0]
      simp only [DataW.weights, Try.underlying24]
      exact DataW.weights_mem_each (j := 0) rfl rfl n hn))
    exact ⟨A, c, g, rfl, hg, hl⟩
/-- A list of values that comes in. -/
theorem open_more {r : Reach} {b0 : Nat} {v : Value} {d : DataW H} {p : List MemPlace} (hv : Value.okWide Try.prog w r b0 33 v) (h : DataW.Trod enc Try.prog w base spare held 33 v d p) (hsz : ∀ n ∈ d.weights Try.prog 33, n ≤ reachBytes) :
    ∃ (A : Option Addr) (c : Nat) (l : List (Int × Int)), v = .slice A l.length c ∧ PairsAt w A l ∧ l.length * 16 ≤ 140737488351232 := by
  obtain ⟨a, len, cap, rfl⟩ := okWide_slice Try.underlying33 hv
  obtain ⟨fuel, hf⟩ := h
  obtain ⟨A, c, l, e, hp, hl, _⟩ := vals_trod (v := .slice a len cap) (by simpa [Value.cells] using hf) hsz
  exact ⟨A, c, l, e, hp, hl⟩
end
end Go.Proofs.Ytjlobjgemhapaaa
