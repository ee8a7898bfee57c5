/- The contract of FromSteps of the specification. -/
import Derived.Test.YtcikmgdfelejpaaJGd
import Derived.Test.YtcikmgdfelejpaaJStpW
namespace Go.Proofs.Ytcikmgdfelejpaa
open Go.RowKit
set_option linter.unusedVariables false

theorem stepsR_len (d : Int) (xs : List Int) : (stepsR d xs).length ≤ 64 := by
  have := stepTo_len xs 63
  unfold stepsR stepsOf
  split
  · split
    · simp only [List.length_append, List.length_singleton]; omega
    · omega
  · simp
theorem acOf_len (L : List (Int × Int × List Int)) : (acOf L).length ≤ 65 := by
  have := acTo_len L L.length
  unfold acOf
  simp only [List.length_append, List.length_replicate]
  omega
theorem specR_bad {dc : Int} {L : List (Int × Int × List Int)} (h : blkOk dc (acOf L) = false) : fromR dc L = none := by
  rw [← specR_eq]; unfold specR; rw [if_neg (fun e => by rw [h] at e; exact absurd e.1 (by decide))]
theorem specR_ne {dc : Int} {L : List (Int × Int × List Int)} (h : ¬ stepsR dc (acOf L) = L) : fromR dc L = none := by
  rw [← specR_eq]; unfold specR; rw [if_neg (fun e => h e.2)]
theorem specR_ok {dc : Int} {L : List (Int × Int × List Int)} (h : blkOk dc (acOf L) = true) (h2 : stepsR dc (acOf L) = L) : fromR dc L = some (acOf L) := by
  rw [← specR_eq]; unfold specR; rw [if_pos ⟨h, h2⟩]

set_option maxRecDepth 100000 in
set_option maxHeartbeats 3200000 in
theorem spec_fromSteps (dc : Int) (ao : Option Addr) (cap : Nat) (L : List (Int × Int × List Int)) (w : World) (hn : L.length ≤ 1048576) (hs : ∀ j, j < L.length → (nthS L j).2.2.length ≤ 1048576) (hv : SRow w ao L) :
    Calls Try.prog 80 #[.int .i64 dc, .slice ao L.length cap] w (FrP (fromR dc L) dc w) := by
  have HT := hid (Two.new w (.int .i64 0) (.slice none 0 0) 71)
  have HB := hid ((Below.refl w.heap.size w).alloc (Nat.le_refl _) (.cells #[.int .i64 0, .slice none 0 0] 71))
  have HV := hid hv
  have HS := hid hs
  have HAC := hid (spec_ac ao cap L _ hn hs (hv.below HB.out))
  have hal := acOf_len L
  have HBAD := hid (fun h => specR_bad (dc := dc) (L := L) h)
  have HNE := hid (fun h => specR_ne (dc := dc) (L := L) h)
  have HOK := hid (fun h h2 => specR_ok (dc := dc) (L := L) h h2)
  have hSL := stepsR_len dc (acOf L)
  have HBO := hid (fun v q hq => spec_blockOk v dc (acOf L) q (by omega) hq)
  have HST := hid (fun v q hq => spec_steps v dc (acOf L) q (by omega) hq)
  clear hv hs
  generalize acOf L = xs at *
  go_enter Try.func80, Try.ntmps80
  go_wp2_with fail
  refine HAC.out.mono ?_
  generalize w.alloc (.cells #[.int .i64 0, .slice none 0 0] 71) = wa at *
  rintro e w1 ⟨v1, rfl, ho1, hb1⟩
  obtain ⟨vo, vc, rfl⟩ := ho1.shape
  have HB2 := hid (hb1.trans (((Below.refl w1.heap.size w1).alloc (Nat.le_refl _) (.cells #[.int .i64 dc, .slice vo xs.length vc] 71)).mono hb1.size))
  have X2 := hid (Two.new w1 (.int .i64 dc) (.slice vo xs.length vc) 71)
  have O2 := hid (ho1.alloc (.cells #[.int .i64 dc, .slice vo xs.length vc] 71))
  have B2 := hid (HB.out.trans (HB2.out.mono HB.out.size))
  have T2 := hid (HT.out.below HB2.out HT.out.lt)
  have hwa : w.heap.size ≤ wa.heap.size := HB.out.size
  clear ho1 hb1
  go_wp2_with fail
  generalize w1.alloc (.cells #[.int .i64 dc, .slice vo xs.length vc] 71) = w2 at *
  obtain ⟨x1, x2, x3, x4⟩ := X2.out.cells
  have HBV := hid (show BV w2 (.agg #[.int .i64 dc, .slice vo xs.length vc]) dc xs from BOwn.bv ⟨_, rfl, O2.out⟩)
  by_cases hok : blkOk dc xs = true
  · rw [hok] at HBO
    refine (HBO.out _ _ HBV.out).mono ?_
    rintro e w3 ⟨rfl, hb3⟩
    have B3 := hid (B2.out.trans (hb3.mono B2.out.size))
    have T3 := hid (T2.out.below hb3 T2.out.lt)
    have X3 := hid (X2.out.below hb3 X2.out.lt)
    have O3 := hid (O2.out.below hb3)
    have HBV3 := hid (HBV.out.below hb3)
    have HOK2 := hid (fun h2 => HOK.out hok h2)
    clear hb3 x1 x2 x3 x4 hok HBV O2 X2 T2
    obtain ⟨x1, x2, x3, x4⟩ := X3.out.cells
    go_wp2_with fail
    refine (HST.out _ _ HBV3.out).mono ?_
    rintro e w4 ⟨g0, rfl, ⟨us, hg0⟩, hb4⟩
    obtain ⟨go, gc, rfl⟩ := hg0.shape
    have HSR := hid hg0.srow
    have B4 := hid (B3.out.trans (hb4.mono B3.out.size))
    have T4 := hid (T3.out.below hb4 T3.out.lt)
    have X4 := hid (X3.out.below hb4 X3.out.lt)
    have O4 := hid (O3.out.below hb4)
    have HSAME := hid (same_any go ao gc cap (stepsR dc xs) L w4 (by omega) hn HS.out HSR.out (HV.out.below B4.out))
    clear hb4 hg0 x1 x2 x3 x4
    by_cases he : stepsR dc xs = L
    · have hd : decide (stepsR dc xs = L) = true := by simpa using he
      rw [hd] at HSAME
      have HR0 := hid (HOK2.out he)
      clear hd he
      generalize (stepsR dc xs).length = N at *
      go_wp2_with fail
      refine HSAME.out.mono ?_
      rintro e w5 ⟨rfl, m5, h5⟩
      have B5 := hid (show Below w.heap.size w w5 by rw [h5]; exact belowN B4.out m5)
      have T5 := hid (show Two w5 w.heap.size (.int .i64 0) (.slice none 0 0) 71 by rw [h5]; exact T4.out)
      have X5 := hid (show Two w5 w1.heap.size (.int .i64 dc) (.slice vo xs.length vc) 71 by rw [h5]; exact X4.out)
      have O5 := hid (show Own w5 wa.heap.size 3 .i64 (.slice vo xs.length vc) xs by rw [h5]; exact O4.out)
      clear h5
      obtain ⟨x1, x2, x3, x4⟩ := X5.out.cells
      obtain ⟨q1, q2, q3, q4⟩ := T5.out.cells
      have HO6 := hid ((O5.out.setTwo (i := 0) T5.out (by decide) (.int .i64 dc)).setTwo (i := 1) (T5.out.set0 (.int .i64 dc)) (by decide) (.slice vo xs.length vc))
      go_wp2_with fail
      refine bodyPost_ret (v := .tuple #[.agg #[.int .i64 dc, .slice vo xs.length vc], .bool true]) (by simp [results, Try.results80, go_sem, q1, q2]) rfl ?_
      rw [HR0.out]
      exact ⟨(B5.out.setCell (p := ⟨w.heap.size, 0, none⟩) (Nat.le_refl _) _).setCell (p := ⟨w.heap.size, 1, none⟩) (Nat.le_refl _) _, _, rfl, HO6.out.mono (by omega)⟩
    · have hd : decide (stepsR dc xs = L) = false := by simpa using he
      rw [hd] at HSAME
      have HR0 := hid (HNE.out he)
      clear hd he
      generalize (stepsR dc xs).length = N at *
      go_wp2_with fail
      refine HSAME.out.mono ?_
      rintro e w5 ⟨rfl, m5, h5⟩
      have B5 := hid (show Below w.heap.size w w5 by rw [h5]; exact belowN B4.out m5)
      have T5 := hid (show Two w5 w.heap.size (.int .i64 0) (.slice none 0 0) 71 by rw [h5]; exact T4.out)
      clear h5
      obtain ⟨q1, q2, q3, q4⟩ := T5.out.cells
      have HC0 := hid ((T5.out.set0 (.int .i64 0)).set1 (.slice none 0 0))
      go_wp2_with fail
      refine bodyPost_ret (v := .tuple #[.agg #[.int .i64 0, .slice none 0 0], .bool false]) (by simp [results, Try.results80, go_sem, q1, q2]) rfl ?_
      rw [HR0.out]
      exact FrP.no HC0.out ((B5.out.setCell (p := ⟨w.heap.size, 0, none⟩) (Nat.le_refl _) _).setCell (p := ⟨w.heap.size, 1, none⟩) (Nat.le_refl _) _)
  · have hok' : blkOk dc xs = false := by simpa using hok
    rw [hok'] at HBO
    have HR0 := hid (HBAD.out hok')
    clear hok hok'
    refine (HBO.out _ _ HBV.out).mono ?_
    rintro e w3 ⟨rfl, hb3⟩
    have B3 := hid (B2.out.trans (hb3.mono B2.out.size))
    have T3 := hid (T2.out.below hb3 T2.out.lt)
    clear hb3 x1 x2 x3 x4
    obtain ⟨q1, q2, q3, q4⟩ := T3.out.cells
    have HC0 := hid ((T3.out.set0 (.int .i64 0)).set1 (.slice none 0 0))
    go_wp2_with fail
    refine bodyPost_ret (v := .tuple #[.agg #[.int .i64 0, .slice none 0 0], .bool false]) (by simp [results, Try.results80, go_sem, q1, q2]) rfl ?_
    rw [HR0.out]
    exact FrP.no HC0.out ((B3.out.setCell (p := ⟨w.heap.size, 0, none⟩) (Nat.le_refl _) _).setCell (p := ⟨w.heap.size, 1, none⟩) (Nat.le_refl _) _)
end Go.Proofs.Ytcikmgdfelejpaa
