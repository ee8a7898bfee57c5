/- Contracts of the small functions over readers: their size, their copy, their comparison. -/
import Derived.Test.YtimafabbepgifaaRs
namespace Go.Proofs.Ytimafabbepgifaa
open Go.RowKit
set_option linter.unusedVariables false

theorem sz_reader (lo hi co : Int) (s : ByteArray) (i : Int) (w : World) (hs : s.size ≤ 1048576) :
    Calls Try.prog 25 #[rV lo hi co s i, .int .i64 1048576] w fun e w' => e = .returned (.int .i64 (1048576 - s.size)) ∧ Below w.heap.size w w' := by
  have h1 : (0 : Int) ≤ 1048576 - (s.size : Int) := by omega
  have h2 : (s.size : Int) ≤ 1048576 := by omega
  unfold rV
  have HB := hid ((Below.refl w.heap.size w).alloc (Nat.le_refl _) (.cells #[.int .u32 lo, .int .u32 hi, .int .u32 co, .string s, .int .i64 i] 54))
  go_enter Try.func25, Try.ntmps25
  go_wp2_with fail
  go_ret
  exact ⟨rfl, HB.out⟩
theorem sz_reader_big (lo hi co : Int) (s : ByteArray) (i : Int) (w : World) (hs : 1048576 < s.size) (hm : s.size ≤ 9223372036854775807) :
    Calls Try.prog 25 #[rV lo hi co s i, .int .i64 1048576] w fun e w' => e = .returned (.int .i64 (-1)) ∧ Below w.heap.size w w' := by
  have h1 : 1048576 - (s.size : Int) < 0 := by omega
  have h2 : (1048576 : Int) < (s.size : Int) := by omega
  unfold rV
  have HB := hid ((Below.refl w.heap.size w).alloc (Nat.le_refl _) (.cells #[.int .u32 lo, .int .u32 hi, .int .u32 co, .string s, .int .i64 i] 54))
  go_enter Try.func25, Try.ntmps25
  go_wp2_with fail
  go_ret
  exact ⟨rfl, HB.out⟩
theorem to_reader (lo hi co : Int) (s : ByteArray) (i : Int) (w : World) :
    Calls Try.prog 27 #[rV lo hi co s i] w fun e w' => e = .returned (rV lo hi co s i) ∧ Below w.heap.size w w' := by
  unfold rV
  go_enter Try.func27, Try.ntmps27
  go_wp2_with fail
  refine bodyPost_ret (v := .agg #[.int .u32 lo, .int .u32 hi, .int .u32 co, .string s, .int .i64 i]) (by simp [results, Try.results27, go_sem]) rfl ?_
  exact ⟨rfl, ((((Below.refl w.heap.size w).alloc (Nat.le_refl _) _).alloc (by simp) _).alloc (by simp; omega) _)⟩
theorem eq_reader (lo hi co : Int) (s : ByteArray) (i : Int) (w : World) :
    Calls Try.prog 28 #[rV lo hi co s i, rV lo hi co s i] w fun e w' => e = .returned (.bool true) ∧ Below w.heap.size w w' := by
  unfold rV
  go_enter Try.func28, Try.ntmps28
  go_wp2_with fail
  go_ret
  exact ⟨rfl, (((Below.refl w.heap.size w).alloc (Nat.le_refl _) _).alloc (by simp) _)⟩

end Go.Proofs.Ytimafabbepgifaa
