/- The law of CoderPut: both sides answer the same. -/
import Derived.Test.YtahknoeloclofaaIp
namespace Go.Proofs.Ytahknoeloclofaa
open Go.RowKit
set_option linter.unusedVariables false

theorem cRes_form (lo hi : Int) (s : ByteArray) (bit p : Int) : ∃ x y t, cRes lo hi s bit p = cV x y t := by
  unfold cRes
  split
  · exact ⟨_, _, _, rfl⟩
  · exact ⟨_, _, _, rfl⟩

theorem sz_coder (lo hi : Int) (s : ByteArray) (w : World) (hs : s.size ≤ 1048576) :
    Calls Try.prog 21 #[cV lo hi s, .int .i64 1048576] w fun e w' => e = .returned (.int .i64 (1048576 - s.size)) ∧ Below w.heap.size w w' := by
  have h1 : (0 : Int) ≤ 1048576 - (s.size : Int) := by omega
  have h2 : (s.size : Int) ≤ 1048576 := by omega
  unfold cV
  have HB := hid ((Below.refl w.heap.size w).alloc (Nat.le_refl _) (.cells #[.int .u32 lo, .int .u32 hi, .string s] 40))
  go_enter Try.func21, Try.ntmps21
  go_wp2_with fail
  go_ret
  exact ⟨rfl, HB.out⟩
theorem sz_coder_big (lo hi : Int) (s : ByteArray) (w : World) (hs : 1048576 < s.size) (hm : s.size ≤ 9223372036854775807) :
    Calls Try.prog 21 #[cV lo hi s, .int .i64 1048576] w fun e w' => e = .returned (.int .i64 (-1)) ∧ Below w.heap.size w w' := by
  have h1 : 1048576 - (s.size : Int) < 0 := by omega
  have h2 : (1048576 : Int) < (s.size : Int) := by omega
  unfold cV
  have HB := hid ((Below.refl w.heap.size w).alloc (Nat.le_refl _) (.cells #[.int .u32 lo, .int .u32 hi, .string s] 40))
  go_enter Try.func21, Try.ntmps21
  go_wp2_with fail
  go_ret
  exact ⟨rfl, HB.out⟩
theorem to_coder (lo hi : Int) (s : ByteArray) (w : World) :
    Calls Try.prog 22 #[cV lo hi s] w fun e w' => e = .returned (cV lo hi s) ∧ Below w.heap.size w w' := by
  unfold cV
  go_enter Try.func22, Try.ntmps22
  go_wp2_with fail
  refine bodyPost_ret (v := .agg #[.int .u32 lo, .int .u32 hi, .string s]) (by simp [results, Try.results22, go_sem]) rfl ?_
  exact ⟨rfl, ((((Below.refl w.heap.size w).alloc (Nat.le_refl _) _).alloc (by simp) _).alloc (by simp; omega) _)⟩
theorem eq_coder (lo hi : Int) (s : ByteArray) (w : World) :
    Calls Try.prog 23 #[cV lo hi s, cV lo hi s] w fun e w' => e = .returned (.bool true) ∧ Below w.heap.size w w' := by
  unfold cV
  go_enter Try.func23, Try.ntmps23
  go_wp2_with fail
  go_ret
  exact ⟨rfl, (((Below.refl w.heap.size w).alloc (Nat.le_refl _) _).alloc (by simp) _)⟩

set_option maxRecDepth 100000 in
set_option maxHeartbeats 1600000 in
theorem law_put (lo hi : Int) (s : ByteArray) (bit p : Int) (w : World) (hl : W32 lo) (hh : W32 hi) (hm : s.size ≤ 9223372036854775807) :
    Calls Try.prog 5 #[cV lo hi s, .int .i64 bit, .int .i64 p] w fun e w' => e = .returned (.bool true) ∧ Below w.heap.size w w' := by
  have HB0 := hid ((Below.refl w.heap.size w).alloc (Nat.le_refl _) (.cells #[.int .u32 lo, .int .u32 hi, .string s] 40))
  have HN := hid (Blk.new w [.int .u32 lo, .int .u32 hi, .string s] 40)
  by_cases hs : s.size ≤ 1048576
  · have HZ := hid (fun q => sz_coder lo hi s q hs)
    have HT := hid (fun q => to_coder lo hi s q)
    have HS := hid (fun q => spec_put lo hi s bit p q hl hh hs)
    have HI := hid (fun q => impl_put lo hi s bit p q hl hh hs)
    have h1 : ¬ (1048576 : Int) - (s.size : Int) < 0 := by omega
    obtain ⟨x, y, t, hc⟩ := cRes_form lo hi s bit p
    rw [hc] at HS HI
    have HQ := hid (fun q => eq_coder x y t q)
    clear hm hs hc hl hh
    unfold cV at *
    go_enter Try.func5, Try.ntmps5
    go_wp2_with fail
    refine (HZ.out _).mono ?_
    generalize w.alloc (.cells #[.int .u32 lo, .int .u32 hi, .string s] 40) = W0 at *
    rintro e w1 ⟨rfl, hb1⟩
    have N1 := hid (HN.out.below hb1 HN.out.lt)
    have B1 := hid (HB0.out.trans (hb1.mono HB0.out.size))
    have q0 := N1.out.cell (i := 0) rfl
    have q1 := N1.out.cell (i := 1) rfl
    have q2 := N1.out.cell (i := 2) rfl
    clear hb1 HN HB0
    go_wp2_with fail
    refine (HT.out _).mono ?_
    rintro e w2 ⟨rfl, hb2⟩
    have N2 := hid (N1.out.below hb2 N1.out.lt)
    have B2 := hid (B1.out.trans (hb2.mono B1.out.size))
    clear hb2 N1 B1 q0 q1 q2
    go_wp2_with fail
    refine (HS.out _).mono ?_
    rintro e w3 ⟨rfl, hb3⟩
    have hz3 := hid ((Below.refl w3.heap.size w3).alloc (Nat.le_refl _) (.cells #[.int .u32 x, .int .u32 y, .string t] 35))
    have N3 := hid ((N2.out.below hb3 N2.out.lt).below hz3.out (N2.out.below hb3 N2.out.lt).lt)
    have C3 := hid (Blk.new w3 [.int .u32 x, .int .u32 y, .string t] 35)
    have B3 := hid ((B2.out.trans (hb3.mono B2.out.size)).trans (hz3.out.mono (Nat.le_trans B2.out.size hb3.size)))
    have q0 := N3.out.cell (i := 0) rfl
    have q1 := N3.out.cell (i := 1) rfl
    have q2 := N3.out.cell (i := 2) rfl
    clear hb3 N2 B2 hz3
    go_wp2_with fail
    refine (HT.out _).mono ?_
    generalize w3.alloc (.cells #[.int .u32 x, .int .u32 y, .string t] 35) = W3 at *
    generalize w3.heap.size = G3 at *
    rintro e w4 ⟨rfl, hb4⟩
    have C4 := hid (C3.out.below hb4 C3.out.lt)
    have B4 := hid (B3.out.trans (hb4.mono B3.out.size))
    clear hb4 N3 B3 C3 q0 q1 q2
    go_wp2_with fail
    refine (HI.out _).mono ?_
    rintro e w5 ⟨rfl, hb5⟩
    have hz5 := hid ((Below.refl w5.heap.size w5).alloc (Nat.le_refl _) (.cells #[.int .u32 x, .int .u32 y, .string t] 35))
    have C5 := hid ((C4.out.below hb5 C4.out.lt).below hz5.out (C4.out.below hb5 C4.out.lt).lt)
    have D5 := hid (Blk.new w5 [.int .u32 x, .int .u32 y, .string t] 35)
    have B5 := hid ((B4.out.trans (hb5.mono B4.out.size)).trans (hz5.out.mono (Nat.le_trans B4.out.size hb5.size)))
    have q0 := C5.out.cell (i := 0) rfl
    have q1 := C5.out.cell (i := 1) rfl
    have q2 := C5.out.cell (i := 2) rfl
    clear hb5 C4 B4 hz5
    go_wp2_with fail
    refine (HQ.out _).mono ?_
    generalize w5.alloc (.cells #[.int .u32 x, .int .u32 y, .string t] 35) = W5 at *
    rintro e w6 ⟨rfl, hb6⟩
    have B6 := hid (B5.out.trans (hb6.mono B5.out.size))
    clear hb6
    go_wp2_with fail
    go_ret
    exact ⟨rfl, B6.out⟩
  · have HZ := hid (fun q => sz_coder_big lo hi s q (by omega) hm)
    clear hm hs hl hh
    unfold cV at *
    go_enter Try.func5, Try.ntmps5
    go_wp2_with fail
    refine (HZ.out _).mono ?_
    generalize w.alloc (.cells #[.int .u32 lo, .int .u32 hi, .string s] 40) = W0 at *
    rintro e w1 ⟨rfl, hb1⟩
    have B1 := hid (HB0.out.trans (hb1.mono HB0.out.size))
    go_wp2_with fail
    go_ret
    exact ⟨rfl, B1.out⟩
end Go.Proofs.Ytahknoeloclofaa
