/- shape: what it answers of an expression, a kind at a time (calls and tables stand elsewhere). -/
import Derived.Test.YtebkdegcifkigaaGreatDoorParShape
import Derived.Deep.QuietTactic
namespace Go.Proofs.YtebkdegcifkigaaGreatDoor.P5
set_option maxRecDepth 20000
open Go.RowKit Go.Maps

/-- What shape answers: a text; it only draws. -/
def Shapes (w : World) (s : List UInt8) (e : Ending) (w' : World) : Prop := e = .returned (sV s) ∧ ∃ m, w' = w.drewN m
theorem exC_drew {w : World} {g : Nat} {k l n : Int} {s : List UInt8} {va vb vk vs vp vy : Value} (h : ExC w g k l n s va vb vk vs vp vy) (m : Nat) : ExC (w.drewN m) g k l n s va vb vk vs vp vy := h.keep rfl
set_option maxHeartbeats 4000000 in
theorem shape_nil (w : World) : Calls Tryz.prog 16 #[.pointer none] w (Shapes w [63]) := by
  go_enter Tryz.func16, Tryz.ntmps16
  go_wp2_with fail
  go_ret
  exact ⟨rfl, 0, rfl⟩
set_option maxHeartbeats 8000000 in
theorem shape_name (w : World) {g : Nat} {l n : Int} {s : List UInt8} {va vb vk vs vp vy : Value} (h : ExC w g 6 l n s va vb vk vs vp vy) :
    Calls Tryz.prog 16 #[pV g] w (Shapes w (s)) := by
  have c0 := h.c0
  have c3 := h.c3
  go_enter Tryz.func16, Tryz.ntmps16
  go_wp2_with fail
  go_ret
  exact ⟨rfl, 0, rfl⟩
set_option maxHeartbeats 8000000 in
theorem shape_bin (w : World) {g : Nat} {l n : Int} {s : List UInt8} {va vb vk vs vp vy : Value} (h : ExC w g 11 l n s va vb vk vs vp vy) {sa : List UInt8} (ha : ∀ n, Calls Tryz.prog 16 #[va] (w.drewN n) (Shapes (w.drewN n) sa)) {sb : List UInt8} (hb : ∀ n, Calls Tryz.prog 16 #[vb] (w.drewN n) (Shapes (w.drewN n) sb)) (hl : ([40] ++ sa ++ [32] ++ s ++ [32] ++ sb ++ [41]).length ≤ 1099511627776) :
    Calls Tryz.prog 16 #[pV g] w (Shapes w ([40] ++ sa ++ [32] ++ s ++ [32] ++ sb ++ [41])) := by
  have c0 := h.c0
  have c3 := h.c3
  have c4 := h.c4
  replace ha := Lib.hid ha
  have c5 := h.c5
  replace hb := Lib.hid hb
  simp only [List.length_append, List.length_cons, List.length_nil] at hl
  have n2 : ¬ 9223372036854775807 < 1 + sa.length := by omega
  have n3 : ¬ 9223372036854775807 < 1 + sa.length + 1 := by omega
  have n4 : ¬ 9223372036854775807 < 1 + sa.length + 1 + s.length := by omega
  have n5 : ¬ 9223372036854775807 < 1 + sa.length + 1 + s.length + 1 := by omega
  have n6 : ¬ 9223372036854775807 < 1 + sa.length + 1 + s.length + 1 + sb.length := by omega
  have n7 : ¬ 9223372036854775807 < 1 + sa.length + 1 + s.length + 1 + sb.length + 1 := by omega
  clear hl
  go_enter Tryz.func16, Tryz.ntmps16
  go_wp2_with fail
  go_quiet (first | (go_at_call_of 16 va; exact Calls.quiet_of (ha.out _)) | (go_at_call_of 16 vb; exact Calls.quiet_of (hb.out _)))
  go_wp2_with fail
  go_ret
  exact ⟨congrArg Ending.returned (congrArg Value.string (ByteArray.ext (by simp))), nq, rfl⟩
set_option maxHeartbeats 8000000 in
theorem shape_un (w : World) {g : Nat} {l n : Int} {s : List UInt8} {va vb vk vs vp vy : Value} (h : ExC w g 10 l n s va vb vk vs vp vy) {sb : List UInt8} (hb : ∀ n, Calls Tryz.prog 16 #[vb] (w.drewN n) (Shapes (w.drewN n) sb)) (hl : ([40] ++ s ++ [32] ++ sb ++ [41]).length ≤ 1099511627776) :
    Calls Tryz.prog 16 #[pV g] w (Shapes w ([40] ++ s ++ [32] ++ sb ++ [41])) := by
  have c0 := h.c0
  have c3 := h.c3
  have c5 := h.c5
  replace hb := Lib.hid hb
  simp only [List.length_append, List.length_cons, List.length_nil] at hl
  have n2 : ¬ 9223372036854775807 < 1 + s.length := by omega
  have n3 : ¬ 9223372036854775807 < 1 + s.length + 1 := by omega
  have n4 : ¬ 9223372036854775807 < 1 + s.length + 1 + sb.length := by omega
  have n5 : ¬ 9223372036854775807 < 1 + s.length + 1 + sb.length + 1 := by omega
  clear hl
  go_enter Tryz.func16, Tryz.ntmps16
  go_wp2_with fail
  go_quiet (first | (go_at_call_of 16 vb; exact Calls.quiet_of (hb.out _)))
  go_wp2_with fail
  go_ret
  exact ⟨congrArg Ending.returned (congrArg Value.string (ByteArray.ext (by simp))), nq, rfl⟩
set_option maxHeartbeats 8000000 in
theorem shape_index (w : World) {g : Nat} {l n : Int} {s : List UInt8} {va vb vk vs vp vy : Value} (h : ExC w g 7 l n s va vb vk vs vp vy) {sa : List UInt8} (ha : ∀ n, Calls Tryz.prog 16 #[va] (w.drewN n) (Shapes (w.drewN n) sa)) {sb : List UInt8} (hb : ∀ n, Calls Tryz.prog 16 #[vb] (w.drewN n) (Shapes (w.drewN n) sb)) (hl : ([40] ++ sa ++ [91] ++ sb ++ [93, 41]).length ≤ 1099511627776) :
    Calls Tryz.prog 16 #[pV g] w (Shapes w ([40] ++ sa ++ [91] ++ sb ++ [93, 41])) := by
  have c0 := h.c0
  have c4 := h.c4
  replace ha := Lib.hid ha
  have c5 := h.c5
  replace hb := Lib.hid hb
  simp only [List.length_append, List.length_cons, List.length_nil] at hl
  have n2 : ¬ 9223372036854775807 < 1 + sa.length := by omega
  have n3 : ¬ 9223372036854775807 < 1 + sa.length + 1 := by omega
  have n4 : ¬ 9223372036854775807 < 1 + sa.length + 1 + sb.length := by omega
  have n5 : ¬ 9223372036854775807 < 1 + sa.length + 1 + sb.length + 2 := by omega
  clear hl
  go_enter Tryz.func16, Tryz.ntmps16
  go_wp2_with fail
  go_quiet (first | (go_at_call_of 16 va; exact Calls.quiet_of (ha.out _)) | (go_at_call_of 16 vb; exact Calls.quiet_of (hb.out _)))
  go_wp2_with fail
  go_ret
  exact ⟨congrArg Ending.returned (congrArg Value.string (ByteArray.ext (by simp))), nq, rfl⟩
set_option maxHeartbeats 8000000 in
theorem shape_str (w : World) {g : Nat} {l n : Int} {s : List UInt8} {va vb vk vs vp vy : Value} (h : ExC w g 5 l n s va vb vk vs vp vy) (hl : ([39] ++ s).length ≤ 1099511627776) :
    Calls Tryz.prog 16 #[pV g] w (Shapes w ([39] ++ s)) := by
  have c0 := h.c0
  have c3 := h.c3
  simp only [List.length_append, List.length_cons, List.length_nil] at hl
  have n2 : ¬ 9223372036854775807 < 1 + s.length := by omega
  clear hl
  go_enter Tryz.func16, Tryz.ntmps16
  go_wp2_with fail
  go_ret
  exact ⟨congrArg Ending.returned (congrArg Value.string (ByteArray.ext (by simp))), 0, rfl⟩
set_option maxHeartbeats 8000000 in
theorem shape_none (w : World) {g : Nat} {l n : Int} {s : List UInt8} {va vb vk vs vp vy : Value} (h : ExC w g 1 l n s va vb vk vs vp vy) :
    Calls Tryz.prog 16 #[pV g] w (Shapes w ([110, 105, 108])) := by
  have c0 := h.c0
  go_enter Tryz.func16, Tryz.ntmps16
  go_wp2_with fail
  go_ret
  exact ⟨rfl, 0, rfl⟩
set_option maxHeartbeats 8000000 in
theorem shape_int (w : World) {g : Nat} {l n : Int} {s : List UInt8} {va vb vk vs vp vy : Value} (h : ExC w g 3 l n s va vb vk vs vp vy) :
    Calls Tryz.prog 16 #[pV g] w (Shapes w ([63])) := by
  have c0 := h.c0
  go_enter Tryz.func16, Tryz.ntmps16
  go_wp2_with fail
  go_ret
  exact ⟨rfl, 0, rfl⟩
set_option maxHeartbeats 8000000 in
theorem shape_two (w : World) {g : Nat} {l n : Int} {s : List UInt8} {va vb vk vs vp vy : Value} (h : ExC w g 2 l n s va vb vk vs vp vy) :
    Calls Tryz.prog 16 #[pV g] w (Shapes w ([63])) := by
  have c0 := h.c0
  go_enter Tryz.func16, Tryz.ntmps16
  go_wp2_with fail
  go_ret
  exact ⟨rfl, 0, rfl⟩
set_option maxHeartbeats 8000000 in
theorem shape_four (w : World) {g : Nat} {l n : Int} {s : List UInt8} {va vb vk vs vp vy : Value} (h : ExC w g 4 l n s va vb vk vs vp vy) :
    Calls Tryz.prog 16 #[pV g] w (Shapes w ([63])) := by
  have c0 := h.c0
  go_enter Tryz.func16, Tryz.ntmps16
  go_wp2_with fail
  go_ret
  exact ⟨rfl, 0, rfl⟩
set_option maxHeartbeats 8000000 in
theorem shape_fun (w : World) {g : Nat} {l n : Int} {s : List UInt8} {va vb vk vs vp vy : Value} (h : ExC w g 9 l n s va vb vk vs vp vy) :
    Calls Tryz.prog 16 #[pV g] w (Shapes w ([63])) := by
  have c0 := h.c0
  go_enter Tryz.func16, Tryz.ntmps16
  go_wp2_with fail
  go_ret
  exact ⟨rfl, 0, rfl⟩
end Go.Proofs.YtebkdegcifkigaaGreatDoor.P5
