/- ReaderStart of both sides. -/
import Derived.Test.YtimafabbepgifaaFw
import Derived.Test.YtimafabbepgifaaAl
namespace Go.Proofs.Ytimafabbepgifaa
open Go.RowKit
set_option linter.unusedVariables false

theorem rC4 (s : ByteArray) : rC 0 s 0 4 = code0 s := by
  have h0 := byteAt_lt s 0
  have h1 := byteAt_lt s 1
  have h2 := byteAt_lt s 2
  have h3 := byteAt_lt s 3
  simp only [rC]
  rw [show ((0 : Int) + 1 + 1 + 1) = 3 from rfl, show ((0 : Int) + 1 + 1) = 2 from rfl, show ((0 : Int) + 1) = 1 from rfl]
  unfold code0
  omega
set_option maxRecDepth 100000 in
set_option maxHeartbeats 1600000 in
theorem impl_rstart (s : ByteArray) (w : World) (hs : s.size ≤ 1048576) :
    Calls Try.prog 12 #[.string s] w fun e w' => e = .returned (rV 0 4294967295 (code0 s) s 4) ∧ Below w.heap.size w w' := by
  have HW := hid (fun q => impl_widest q)
  have HB0 := hid ((Below.refl w.heap.size w).alloc (Nat.le_refl _) (.cells #[.int .u32 0, .int .u32 0, .int .u32 0, .string ⟨#[]⟩, .int .i64 0] 38))
  have HN := hid (Blk.new w [.int .u32 0, .int .u32 0, .int .u32 0, .string ⟨#[]⟩, .int .i64 0] 38)
  have HC4 := hid (rC4 s)
  have HCW := hid (code0_word s)
  generalize code0 s = C0 at *
  unfold rV
  go_enter Try.func12, Try.ntmps12
  go_wp2_with fail
  refine (HW.out _).mono ?_
  generalize w.alloc (.cells #[.int .u32 0, .int .u32 0, .int .u32 0, .string ⟨#[]⟩, .int .i64 0] 38) = W0 at *
  rintro e w1 ⟨rfl, hb1⟩
  have hz := hid ((Below.refl w1.heap.size w1).alloc (Nat.le_refl _) (.cells #[.int .u32 0, .int .u32 4294967295, .int .u32 0, .string s, .int .i64 0] 81))
  have N1 := hid ((HN.out.below hb1 HN.out.lt).below hz.out (HN.out.below hb1 HN.out.lt).lt)
  have B1 := hid ((HB0.out.trans (hb1.mono HB0.out.size)).trans (hz.out.mono (Nat.le_trans HB0.out.size hb1.size)))
  have R1 := hid (Blk.new w1 [.int .u32 0, .int .u32 4294967295, .int .u32 0, .string s, .int .i64 0] 81)
  have hlt : Hid (w.heap.size < w1.heap.size) := Nat.lt_of_lt_of_le HN.out.lt hb1.size
  clear hb1 HN HB0 hz
  go_wp2_with fail
  generalize w1.alloc (.cells #[.int .u32 0, .int .u32 4294967295, .int .u32 0, .string s, .int .i64 0] 81) = W1 at *
  generalize w1.heap.size = G at *
  go_loopw [7] (fun i wr => ∃ k : Nat, k ≤ 4 ∧ i = .int .i64 k ∧ Hid (W32 (rC 0 s 0 k)) ∧ Blk wr G (rCs 0 4294967295 (rC 0 s 0 k) s k []) 81 ∧ Blk wr w.heap.size [.int .u32 0, .int .u32 0, .int .u32 0, .string ⟨#[]⟩, .int .i64 0] 38 ∧ Below w.heap.size w wr) (fun i _ => 4 - (intOf i).toNat)
  case atStart => exact ⟨0, by omega, rfl, (show W32 0 from ⟨by decide, by decide⟩), R1.out, N1.out, B1.out⟩
  case round =>
    obtain ⟨k, hk, rfl, hw, hR, hN, hB⟩ := hrel
    clear R1 N1 B1 HW
    have HR := hid hR
    have HN := hid hN
    have HB := hid hB
    clear hR hN hB
    by_cases hlt4 : k < 4
    · have h4 : (k : Int) < 4 := by omega
      have HF := hid (fill_any [] 81 G 0 4294967295 (rC 0 s 0 k) s k wr hw.out (by omega) HR.out)
      have e1 : rC 0 s 0 k % 16777216 * 256 + byteAt s k = rC 0 s 0 (k + 1) := by
        rw [rC_step]
        congr 2
        omega
      rw [e1] at HF
      have HW2 : Hid (W32 (rC 0 s 0 (k + 1))) := rC_word _ _ _ ⟨by decide, by decide⟩
      clear e1 hw
      go_wp2_with fail
      refine HF.out.mono ?_
      rintro e w2 ⟨rfl, hR2, hE2⟩
      have HR2 := hid hR2
      have HN2 := hid (HN.out.ef hE2 (Nat.ne_of_lt hlt.out))
      have HB2 := hid (HB.out.trans (hE2.below (Nat.le_of_lt hlt.out) HB.out.size))
      clear hR2 hE2
      go_wp2_with fail
      go_roundw
      case rel => exact ⟨k + 1, by omega, by go_num, HW2.out, HR2.out, HN2.out, HB2.out⟩
      case measure => simp [intOf]; omega
    · obtain rfl : k = 4 := by omega
      have HF := hid (face_any [] 81 G 0 4294967295 (rC 0 s 0 4) s 4 wr HR.out)
      rw [HC4.out] at HF
      clear hlt4 hk
      go_wp2_with fail
      refine HF.out.mono ?_
      rintro e w2 ⟨rfl, hb2⟩
      have HN2 := hid (HN.out.below hb2 HN.out.lt)
      have HB2 := hid (HB.out.trans (hb2.mono HB.out.size))
      have r0 := HN2.out.cell (i := 0) rfl
      have r1 := HN2.out.cell (i := 1) rfl
      have r2 := HN2.out.cell (i := 2) rfl
      have r3 := HN2.out.cell (i := 3) rfl
      have r4 := HN2.out.cell (i := 4) rfl
      have y0 := HN2.out.free 0
      have y1 := HN2.out.free 1
      have y2 := HN2.out.free 2
      have y3 := HN2.out.free 3
      have y4 := HN2.out.free 4
      clear hb2
      unfold rV
      go_wp2_with fail
      refine bodyPost_ret (v := .agg #[.int .u32 0, .int .u32 4294967295, .int .u32 C0, .string s, .int .i64 4]) (by simp [results, Try.results12, go_sem, r0, r1, r2, r3, r4]) rfl ?_
      exact ⟨rfl, ((((HB2.out.setCell (p := ⟨w.heap.size, 0, none⟩) (Nat.le_refl _) _).setCell (p := ⟨w.heap.size, 1, none⟩) (Nat.le_refl _) _).setCell (p := ⟨w.heap.size, 2, none⟩) (Nat.le_refl _) _).setCell (p := ⟨w.heap.size, 3, none⟩) (Nat.le_refl _) _).setCell (p := ⟨w.heap.size, 4, none⟩) (Nat.le_refl _) _⟩

end Go.Proofs.Ytimafabbepgifaa
