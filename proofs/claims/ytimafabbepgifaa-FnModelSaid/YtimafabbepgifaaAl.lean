/- Contracts of the tests of lists, of both sides; isFull; widestCoder; CoderEnd; PutWord. -/
import Derived.Test.YtimafabbepgifaaFa
import Derived.Test.YtimafabbepgifaaInts
import Derived.Test.YtimafabbepgifaaPt
namespace Go.Proofs.Ytimafabbepgifaa
open Go.RowKit
set_option linter.unusedVariables false

theorem impl_widest (w : World) :
    Calls Try.prog 34 #[] w fun e w' => e = .returned (.agg #[.int .u32 0, .int .u32 4294967295]) ∧ Below w.heap.size w w' := by
  go_enter Try.func34, Try.ntmps34
  go_wp2_with fail
  refine bodyPost_ret (v := .agg #[.int .u32 0, .int .u32 4294967295]) (by simp [results, Try.results34, go_sem]) rfl ?_
  exact ⟨rfl, (Below.refl w.heap.size w).alloc (Nat.le_refl _) _⟩
theorem conv4 (w : World) (a b c d : Int) : Sem.run Try.prog (convert 22 9 (.slice (some ⟨w.heap.size, 0, none⟩) 4 4)) (w.alloc (.cells #[.int .u8 a, .int .u8 b, .int .u8 c, .int .u8 d] 5)) =
    .ok (.string (strOfNums [a, b, c, d])) (w.alloc (.cells #[.int .u8 a, .int .u8 b, .int .u8 c, .int .u8 d] 5)) := by
  refine run_convert_bytes_arg _ 22 5 Try.underlying22 Try.underlying5 _ 0 4 4 [a, b, c, d] rfl ?_ 9 Try.underlying9
  intro i hi
  match i, hi with
  | 0, _ => simp
  | 1, _ => simp
  | 2, _ => simp
  | 3, _ => simp
set_option maxHeartbeats 400000 in
theorem impl_putWord (x : Int) (w : World) (h0 : 0 ≤ x) (h1 : x ≤ 4294967295) :
    Calls Try.prog 45 #[.int .u32 x] w fun e w' => e = .returned (.string (strOfNums (wordBytes x))) ∧ Below w.heap.size w w' := by
  have hc := conv4 w
  go_enter Try.func45, Try.ntmps45
  go_wp2
  go_ret
  exact ⟨rfl, (Below.refl _ _).alloc (Nat.le_refl _) _⟩

set_option maxRecDepth 100000 in
set_option maxHeartbeats 1600000 in
theorem impl_end (lo hi : Int) (s : ByteArray) (w : World) (hl : W32 lo) (hs : s.size ≤ 1048576) :
    Calls Try.prog 13 #[cV lo hi s] w fun e w' => e = .returned (.string (s ++ strOfNums (wordBytes lo))) ∧ Below w.heap.size w w' := by
  have HP := hid (fun q => impl_putWord lo q hl.1 (Int.le_of_lt_add_one hl.2))
  have HB0 := hid ((Below.refl w.heap.size w).alloc (Nat.le_refl _) (.cells #[.int .u32 lo, .int .u32 hi, .string s] 32))
  have HN := hid (Blk.new w [.int .u32 lo, .int .u32 hi, .string s] 32)
  have hsz : ¬ 9223372036854775807 < s.size + (strOfNums (wordBytes lo)).size := by
    rw [strOf_size]
    simp [wordBytes]
    omega
  generalize strOfNums (wordBytes lo) = T at *
  clear hl hs
  unfold cV
  have q0 := HN.out.cell (i := 0) rfl
  have q2 := HN.out.cell (i := 2) rfl
  go_enter Try.func13, Try.ntmps13
  go_wp2_with fail
  generalize w.alloc (.cells #[.int .u32 lo, .int .u32 hi, .string s] 32) = W0 at *
  go_region_with (first | (go_at_call 45; refine (HP.out _).mono ?_; rintro e w1 ⟨rfl, hb1⟩; have p2 := ((HN.out.below (below_drewN _ 1) HN.out.lt).below hb1 (HN.out.below (below_drewN _ 1) HN.out.lt).lt).cell (i := 2) rfl))
  all_goals
    have B1 := hid ((belowN HB0.out 1).trans (hb1.mono (HB0.out.size)))
    clear hb1
    go_wp2_with fail
    go_ret
    exact ⟨rfl, B1.out⟩
end Go.Proofs.Ytimafabbepgifaa
