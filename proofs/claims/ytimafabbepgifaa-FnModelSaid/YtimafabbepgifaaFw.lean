/- Contracts of the writer's and the reader's ways in and out: writerFrom, readerFrom, the writer's face. -/
import Derived.Test.YtimafabbepgifaaPt
import Derived.Test.YtimafabbepgifaaXa
namespace Go.Proofs.Ytimafabbepgifaa
open Go.RowKit
set_option linter.unusedVariables false

set_option maxRecDepth 100000 in
set_option maxHeartbeats 1600000 in
theorem writer_from (lo hi : Int) (s : ByteArray) (w : World) :
    Calls Try.prog 39 #[cV lo hi s] w fun e w' => e = .returned (.agg #[.int .u32 lo, .int .u32 hi, .slice none 0 0]) ∧ Below w.heap.size w w' := by
  unfold cV
  go_enter Try.func39, Try.ntmps39
  go_wp2_with fail
  refine bodyPost_ret (v := .agg #[.int .u32 lo, .int .u32 hi, .slice none 0 0]) (by simp [results, Try.results39, go_sem]) rfl ?_
  exact ⟨rfl, ((Below.refl w.heap.size w).alloc (Nat.le_refl _) _).alloc (by simp) _⟩

set_option maxRecDepth 100000 in
set_option maxHeartbeats 1600000 in
theorem reader_from (lo hi co : Int) (s : ByteArray) (i : Int) (w : World) :
    Calls Try.prog 46 #[rV lo hi co s i] w fun e w' => e = .returned (.agg #[.int .u32 lo, .int .u32 hi, .int .u32 co, .string s, .int .i64 i]) ∧ Below w.heap.size w w' := by
  unfold rV
  go_enter Try.func46, Try.ntmps46
  go_wp2_with fail
  refine bodyPost_ret (v := .agg #[.int .u32 lo, .int .u32 hi, .int .u32 co, .string s, .int .i64 i]) (by simp [results, Try.results46, go_sem]) rfl ?_
  exact ⟨rfl, ((Below.refl w.heap.size w).alloc (Nat.le_refl _) _).alloc (by simp) _⟩

set_option maxRecDepth 100000 in
set_option maxHeartbeats 1600000 in
theorem face_w (r : List Value) (t : TypeId) (b : Nat) (lo hi : Int) (v : Value) (xs : List Int) (s : ByteArray) (w : World) (hs : s.size ≤ 100000) (hx : xs.length ≤ 1000000) (hW : Wst w b r t lo hi v xs) :
    Calls Try.prog 41 #[.pointer (some ⟨b, 0, none⟩), .string s] w fun e w' => e = .returned (cV lo hi (s ++ strOfNums xs)) ∧ Below w.heap.size w w' := by
  have q0 := hW.1.cell (i := 0) rfl
  have q1 := hW.1.cell (i := 1) rfl
  have q2 := hW.1.cell (i := 2) rfl
  obtain ⟨ao, cap, rfl⟩ := hW.2.shape
  have hc := hW.2.conv Try.underlying22 Try.underlying5 Try.underlying9
  have hsz : ¬ 9223372036854775807 < s.size + (strOfNums xs).size := by
    rw [strOf_size]
    omega
  have hc1 : Sem.run Try.prog (convert 22 9 (.slice ao xs.length cap)) ((w.alloc (.cells #[.int .u32 0, .int .u32 0, .string ⟨#[]⟩] 32)).drew) = .ok (.string (strOfNums xs)) ((w.alloc (.cells #[.int .u32 0, .int .u32 0, .string ⟨#[]⟩] 32)).drew) := ((hW.2.alloc _).drew1).conv Try.underlying22 Try.underlying5 Try.underlying9
  have hlt := hW.1.lt
  have hne : ¬ b = w.heap.size := Nat.ne_of_lt hW.1.lt
  have hne' : ¬ w.heap.size = b := fun e => hne e.symm
  have HW := hid hW
  clear hW hs hx
  unfold cV
  go_enter Try.func41, Try.ntmps41
  go_wp2_with fail
  go_region
  all_goals
    go_wp2_with fail
    refine bodyPost_ret (v := .agg #[.int .u32 lo, .int .u32 hi, .string (s ++ strOfNums xs)]) (by simp [results, Try.results41, go_sem]) rfl ?_
    exact ⟨rfl, belowN ((Below.refl w.heap.size w).alloc (Nat.le_refl _) _) 1⟩
end Go.Proofs.Ytimafabbepgifaa
