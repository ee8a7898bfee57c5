/- The square of a block, of the specification. -/
import Derived.Test.YtcodmkampihphaaDoorSa
namespace Go.Proofs.YtcodmkampihphaaDoor
open Go.RowKit
set_option linter.unusedVariables false

theorem build30 : ∀ q, (Instr.build 30 #[]).run Tryd.prog q = .ok (.agg (ivs z64).toArray) q := fun q => by kernel_rfl
theorem zz_all : ∀ K : Fin 64, (0 ≤ zr K.val ∧ zr K.val ≤ 7) ∧ (0 ≤ zc K.val ∧ zc K.val ≤ 7) ∧ 8 * zr K.val + zc K.val = zt.getD K.val 0 := by decide +kernel

set_option maxRecDepth 20000 in
set_option maxHeartbeats 800000 in
theorem spec_square (d : Int) (xs : List Int) (a : Option Addr) (c : Nat) (w : World) (h63 : xs.length = 63) (hv : View .i64 w a 63 xs) :
    Calls Tryd.prog 37 #[.agg #[.int .i64 d, .slice a 63 c]] w fun e w' => e = .returned (.agg (ivs (sq d xs)).toArray) ∧ Below w.heap.size w w' := by
  have HV := hid hv
  clear hv
  go_enter Tryd.func37, Tryd.ntmps37
  go_wp2_with (first | (with_reducible refine at_alloc 30 ?_; refine wpList_newZ _ rfl 30 rfl (ivs z64) zero30 ?_) | (with_reducible refine at_build 30 ?_; refine wpList_build0 _ rfl 30 rfl (ivs z64) build30 ?_) | (with_reducible refine at_store 30 ?_; refine wpList_storeR _ rfl 30 _ _ rfl (w.heap.size + 1 + 1) (ivs z64) (ivs z64) (Blk.newG (by simp only [World.size_alloc]) _ _) (by go_simp) rfl rfl (size30L z64_len) (ivs_one _) ?_))
  intro w1 hb1 he1
  have hS : (((w.alloc (.cells #[.int .i64 d, .slice a 63 c] 28)).alloc (.cells (ivs z64).toArray 30)).alloc (.cells (ivs z64).toArray 30)).heap.size = w.heap.size + 1 + 1 + 1 := by simp
  have HP := hid (((((Blk.new w [.int .i64 d, .slice a 63 c] 28)).alloc (.cells (ivs z64).toArray 30)).alloc (.cells (ivs z64).toArray 30)).ef he1 (by omega))
  have HR := hid (((Blk.newG (w := w.alloc (.cells #[.int .i64 d, .slice a 63 c] 28)) (g := w.heap.size + 1) (by simp) (ivs z64) 30).alloc (.cells (ivs z64).toArray 30)).ef he1 (by omega))
  have HB := hid (Below.trans ((((Below.refl w.heap.size w).alloc (Nat.le_refl _) (.cells #[.int .i64 d, .slice a 63 c] 28)).alloc (by simp) (.cells (ivs z64).toArray 30)).alloc (by simp; omega) (.cells (ivs z64).toArray 30)) (he1.below (B := w.heap.size) (by omega) (by rw [hS]; omega)))
  have HD := hid (hb1.set 0 (.int .i64 d))
  have q3 : w1.cell? ⟨w.heap.size + 1 + 1, 0, none⟩ = some (.int .i64 0) := hb1.cell rfl
  have q4 := hb1.free 0
  have HE1 := hid (Ef.set (C := w.heap.size + 1 + 1) w1 0 (.int .i64 d))
  clear hb1 he1 hS
  have q1 : w1.cell? ⟨w.heap.size, 0, none⟩ = some (.int .i64 d) := HP.out.cell rfl
  have q2 : w1.cell? ⟨w.heap.size, 1, none⟩ = some (.slice a 63 c) := HP.out.cell rfl
  have hz0 : Hid ((ivs z64).set 0 (.int .i64 d) = ivs (sqTo d xs 0)) := rfl
  rw [hz0.out] at HD
  go_wp2_with fail
  go_loopw [4] (fun i wr => ∃ k : Nat, k ≤ 63 ∧ i = .int .i64 ((k : Int) + 1) ∧ Hid (Blk wr (w.heap.size + 1 + 1) (ivs (sqTo d xs k)) 30) ∧ Hid (Ef (w.heap.size + 1 + 1) w1 wr)) (fun i _ => 64 - (intOf i).toNat)
  case atStart => exact ⟨0, by omega, rfl, HD.out, HE1.out⟩
  case round =>
    obtain ⟨k, hk, rfl, hD, hE⟩ := hrel
    by_cases hlt : k < 63
    · have hlt' : (k : Int) + 1 < 64 := by omega
      have HZ := hid (spec_zigzag ((k : Int) + 1) wr)
      obtain ⟨⟨r0, r1⟩, ⟨c0, c1⟩, he⟩ := zz_all ⟨k + 1, by omega⟩
      have e1 : ((k + 1 : Nat) : Int) = (k : Int) + 1 := rfl
      simp only [e1] at r0 r1 c0 c1 he
      clear e1
      obtain ⟨b, off, hab, hc⟩ := HV.out.2 k hlt
      subst hab
      have hcr := ((hE.out.below (B := w.heap.size) (by omega) (by have := HR.out.lt; omega)).cell (p := ⟨b, off + k, none⟩) (World.block_lt_of_cell? w _ hc)).trans ((HB.out.cell (p := ⟨b, off + k, none⟩) (World.block_lt_of_cell? w _ hc)).trans hc)
      have hP := HP.out.ef hE.out (by omega)
      have p2 : wr.cell? ⟨w.heap.size, 1, none⟩ = some (.slice (some ⟨b, off, none⟩) 63 c) := hP.cell rfl
      have HN := hid (sqTo_ivs d xs k _ he.symm _ rfl)
      have hl := ivs_get (sqTo d xs k) (8 * zr ((k : Int) + 1) + zc ((k : Int) + 1)).toNat (by rw [sqTo_len]; omega)
      have hcl := hD.out.cell hl
      have hfr := hD.out.free (8 * zr ((k : Int) + 1) + zc ((k : Int) + 1)).toNat
      clear hl he hP
      generalize zr ((k : Int) + 1) = R at *
      generalize zc ((k : Int) + 1) = C at *
      generalize xs.getD k 0 = x at *
      have hE2 := hid (hE.out.trans (Ef.set wr (8 * R + C).toNat (.int .i64 x)))
      go_wp2_with fail
      refine HZ.out.mono ?_
      rintro e w2 ⟨rfl, rfl⟩
      go_wp2_with fail
      go_roundw
      case rel => exact ⟨k + 1, by omega, by go_num, by rw [← HN.out]; exact hD.out.set _ _, hE2.out⟩
      case measure => simp [intOf]; omega
    · obtain rfl : k = 63 := by omega
      have hL := hid (sq_len d xs)
      have hD2 : Hid (Blk wr (w.heap.size + 1 + 1) (ivs (sq d xs)) 30) := hD
      have hR2 := hid (HR.out.ef hE.out (by omega))
      have hB2 := hid (HB.out.trans (hE.out.below (by omega) HB.out.size))
      clear hD hE hlt hk
      obtain ⟨S, hS⟩ : ∃ S, S = sq d xs := ⟨_, rfl⟩
      rw [← hS] at hL hD2
      have HS := hid hS
      clear hS
      go_wp2_with (first | (with_reducible refine at_load 30 ?_; refine wpList_loadR _ rfl 30 _ rfl (w.heap.size + 1 + 1) (ivs S) hD2.out (by go_simp) 64 3 Tryd.underlying30 (size30L hL.out) ?_) | (with_reducible refine at_store 30 ?_; refine wpList_storeR _ rfl 30 _ _ rfl (w.heap.size + 1) (ivs z64) (ivs S) hR2.out (by go_simp) rfl (ivs_len2 z64_len hL.out) (size30L hL.out) (ivs_one _) ?_))
      intro w3 hb3 he3
      go_wp2_with fail
      refine bodyPost_ret (v := .agg (ivs S).toArray) ?_ rfl ⟨by rw [HS.out], hB2.out.trans (he3.below (by omega) hB2.out.size)⟩
      have hld := run_loadVar_row (P := Tryd.prog) w3 (w.heap.size + 1) 30 30 (ivs S).toArray (0, 0) _ hb3 Tryd.underlying30 rfl (by simpa using size30L hL.out)
      exact results_one_cell rfl _ _ _ _ _ rfl hld
end Go.Proofs.YtcodmkampihphaaDoor
