/- The law of CoderEnd. -/
import Derived.Test.YtokmkijpfmopiaaSt
namespace Go.Proofs.Ytokmkijpfmopiaa
open Go.RowKit
set_option linter.unusedVariables false

theorem sz_coder (lo hi : Int) (s : ByteArray) (w : World) (hs : s.size ≤ 1048576) :
    Calls Try.prog 18 #[cV lo hi s, .int .i64 1048576] w fun e w' => e = .returned (.int .i64 (1048576 - s.size)) ∧ Below w.heap.size w w' := by
  have h1 : (0 : Int) ≤ 1048576 - (s.size : Int) := by omega
  have h2 : (s.size : Int) ≤ 1048576 := by omega
  unfold cV
  have HB := hid ((Below.refl w.heap.size w).alloc (Nat.le_refl _) (.cells #[.int .u32 lo, .int .u32 hi, .string s] 35))
  go_enter Try.func18, Try.ntmps18
  go_wp2_with fail
  go_ret
  exact ⟨rfl, HB.out⟩
theorem sz_coder_big (lo hi : Int) (s : ByteArray) (w : World) (hs : 1048576 < s.size) (hm : s.size ≤ 9223372036854775807) :
    Calls Try.prog 18 #[cV lo hi s, .int .i64 1048576] w fun e w' => e = .returned (.int .i64 (-1)) ∧ Below w.heap.size w w' := by
  have h1 : 1048576 - (s.size : Int) < 0 := by omega
  have h2 : (1048576 : Int) < (s.size : Int) := by omega
  unfold cV
  have HB := hid ((Below.refl w.heap.size w).alloc (Nat.le_refl _) (.cells #[.int .u32 lo, .int .u32 hi, .string s] 35))
  go_enter Try.func18, Try.ntmps18
  go_wp2_with fail
  go_ret
  exact ⟨rfl, HB.out⟩
theorem to_coder (lo hi : Int) (s : ByteArray) (w : World) :
    Calls Try.prog 20 #[cV lo hi s] w fun e w' => e = .returned (cV lo hi s) ∧ Below w.heap.size w w' := by
  unfold cV
  go_enter Try.func20, Try.ntmps20
  go_wp2_with fail
  refine bodyPost_ret (v := .agg #[.int .u32 lo, .int .u32 hi, .string s]) (by simp [results, Try.results20, go_sem]) rfl ?_
  exact ⟨rfl, ((((Below.refl w.heap.size w).alloc (Nat.le_refl _) _).alloc (by simp) _).alloc (by simp; omega) _)⟩

set_option maxRecDepth 100000 in
set_option maxHeartbeats 1600000 in
theorem law_end (lo hi : Int) (s : ByteArray) (w : World) (hl : W32 lo) (hm : s.size ≤ 9223372036854775807) :
    Calls Try.prog 6 #[cV lo hi s] w fun e w' => e = .returned (.bool true) ∧ Below w.heap.size w w' := by
  have HB0 := hid ((Below.refl w.heap.size w).alloc (Nat.le_refl _) (.cells #[.int .u32 lo, .int .u32 hi, .string s] 35))
  have HN := hid (Blk.new w [.int .u32 lo, .int .u32 hi, .string s] 35)
  by_cases hs : s.size ≤ 1048576
  · have HZ := hid (fun q => sz_coder lo hi s q hs)
    have HT := hid (fun q => to_coder lo hi s q)
    have HS := hid (fun q => spec_end lo hi s q hl hs)
    have HI := hid (fun q => impl_end lo hi s q hl hs)
    have h1 : ¬ (1048576 : Int) - (s.size : Int) < 0 := by omega
    generalize s ++ strOfNums (wordBytes lo) = T at *
    clear hm hs hl
    unfold cV at *
    go_enter Try.func6, Try.ntmps6
    go_wp2_with fail
    refine (HZ.out _).mono ?_
    generalize w.alloc (.cells #[.int .u32 lo, .int .u32 hi, .string s] 35) = W0 at *
    rintro e w1 ⟨rfl, hb1⟩
    have N1 := hid (HN.out.below hb1 HN.out.lt)
    have B1 := hid (HB0.out.trans (hb1.mono HB0.out.size))
    have q0 := N1.out.cell (i := 0) rfl
    have q1 := N1.out.cell (i := 1) rfl
    have q2 := N1.out.cell (i := 2) rfl
    clear hb1 HN HB0
    go_wp2_with fail
    refine (HT.out _).mono ?_
    rintro e w2 ⟨rfl, hb2⟩
    have N2 := hid (N1.out.below hb2 N1.out.lt)
    have B2 := hid (B1.out.trans (hb2.mono B1.out.size))
    clear hb2 N1 B1 q0 q1 q2
    go_wp2_with fail
    refine (HS.out _).mono ?_
    rintro e w3 ⟨rfl, hb3⟩
    have N3 := hid (N2.out.below hb3 N2.out.lt)
    have B3 := hid (B2.out.trans (hb3.mono B2.out.size))
    have q0 := N3.out.cell (i := 0) rfl
    have q1 := N3.out.cell (i := 1) rfl
    have q2 := N3.out.cell (i := 2) rfl
    clear hb3 N2 B2
    go_wp2_with fail
    refine (HT.out _).mono ?_
    rintro e w4 ⟨rfl, hb4⟩
    have B4 := hid (B3.out.trans (hb4.mono B3.out.size))
    clear hb4 N3 B3 q0 q1 q2
    go_wp2_with fail
    refine (HI.out _).mono ?_
    rintro e w5 ⟨rfl, hb5⟩
    have B5 := hid (B4.out.trans (hb5.mono B4.out.size))
    clear hb5 B4
    go_wp2_with fail
    go_ret
    exact ⟨rfl, B5.out⟩
  · have HZ := hid (fun q => sz_coder_big lo hi s q (by omega) hm)
    clear hm hs hl
    unfold cV at *
    go_enter Try.func6, Try.ntmps6
    go_wp2_with fail
    refine (HZ.out _).mono ?_
    generalize w.alloc (.cells #[.int .u32 lo, .int .u32 hi, .string s] 35) = W0 at *
    rintro e w1 ⟨rfl, hb1⟩
    have B1 := hid (HB0.out.trans (hb1.mono HB0.out.size))
    go_wp2_with fail
    go_ret
    exact ⟨rfl, B1.out⟩
end Go.Proofs.Ytokmkijpfmopiaa
