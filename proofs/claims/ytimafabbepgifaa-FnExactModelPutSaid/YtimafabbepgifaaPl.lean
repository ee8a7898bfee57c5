/- The law of CoderPut: both sides answer the same. -/
import Derived.Test.YtimafabbepgifaaXa
namespace Go.Proofs.Ytimafabbepgifaa
open Go.RowKit
set_option linter.unusedVariables false

theorem cRes_form (lo hi : Int) (s : ByteArray) (bit p : Int) : ∃ x y t, cRes lo hi s bit p = cV x y t := by
  unfold cRes
  split
  · exact ⟨_, _, _, rfl⟩
  · exact ⟨_, _, _, rfl⟩

theorem sz_coder (lo hi : Int) (s : ByteArray) (w : World) (hs : s.size ≤ 1048576) :
    Calls Try.prog 16 #[cV lo hi s, .int .i64 1048576] w fun e w' => e = .returned (.int .i64 (1048576 - s.size)) ∧ Below w.heap.size w w' := by
  have h1 : (0 : Int) ≤ 1048576 - (s.size : Int) := by omega
  have h2 : (s.size : Int) ≤ 1048576 := by omega
  unfold cV
  have HB := hid ((Below.refl w.heap.size w).alloc (Nat.le_refl _) (.cells #[.int .u32 lo, .int .u32 hi, .string s] 44))
  go_enter Try.func16, Try.ntmps16
  go_wp2_with fail
  go_ret
  exact ⟨rfl, HB.out⟩
theorem sz_coder_big (lo hi : Int) (s : ByteArray) (w : World) (hs : 1048576 < s.size) (hm : s.size ≤ 9223372036854775807) :
    Calls Try.prog 16 #[cV lo hi s, .int .i64 1048576] w fun e w' => e = .returned (.int .i64 (-1)) ∧ Below w.heap.size w w' := by
  have h1 : 1048576 - (s.size : Int) < 0 := by omega
  have h2 : (1048576 : Int) < (s.size : Int) := by omega
  unfold cV
  have HB := hid ((Below.refl w.heap.size w).alloc (Nat.le_refl _) (.cells #[.int .u32 lo, .int .u32 hi, .string s] 44))
  go_enter Try.func16, Try.ntmps16
  go_wp2_with fail
  go_ret
  exact ⟨rfl, HB.out⟩
theorem to_coder (lo hi : Int) (s : ByteArray) (w : World) :
    Calls Try.prog 19 #[cV lo hi s] w fun e w' => e = .returned (cV lo hi s) ∧ Below w.heap.size w w' := by
  unfold cV
  go_enter Try.func19, Try.ntmps19
  go_wp2_with fail
  refine bodyPost_ret (v := .agg #[.int .u32 lo, .int .u32 hi, .string s]) (by simp [results, Try.results19, go_sem]) rfl ?_
  exact ⟨rfl, ((((Below.refl w.heap.size w).alloc (Nat.le_refl _) _).alloc (by simp) _).alloc (by simp; omega) _)⟩
theorem eq_coder (lo hi : Int) (s : ByteArray) (w : World) :
    Calls Try.prog 21 #[cV lo hi s, cV lo hi s] w fun e w' => e = .returned (.bool true) ∧ Below w.heap.size w w' := by
  unfold cV
  go_enter Try.func21, Try.ntmps21
  go_wp2_with fail
  go_ret
  exact ⟨rfl, (((Below.refl w.heap.size w).alloc (Nat.le_refl _) _).alloc (by simp) _)⟩

end Go.Proofs.Ytimafabbepgifaa
