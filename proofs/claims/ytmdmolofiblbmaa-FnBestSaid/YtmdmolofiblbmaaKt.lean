/- Plain: the best codes are right codes. -/
import Derived.Test.YtmdmolofiblbmaaKs
import Derived.Test.YtmdmolofiblbmaaBs
namespace Go.Proofs.Ytmdmolofiblbmaa
open Go.RowKit
set_option linter.unusedVariables false

theorem tl_mono (L : List Int) (k : Nat) : ∀ d i, tlT L k i ≤ tlT L k (i + d)
  | 0, i => Int.le_refl _
  | d + 1, i => by
    have := tl_mono L k d i
    rw [← Nat.add_assoc, tlT]
    omega
theorem okTo_of (cs : List Int) : ∀ n, (∀ k, k < n → 0 ≤ cs.getD k 0 ∧ cs.getD k 0 ≤ 255) → okTo cs n = true
  | 0, _ => rfl
  | n + 1, h => by
    rw [okTo, okTo_of cs n (fun k hk => h k (by omega)), (inB_iff _).2 (h n (by omega))]
    rfl
theorem best_room (fs : List Int) (hl : (lensP fs).length = 257) (hn : np fs ≤ 255) : rmT (bestL (lensP fs)) 256 16 ≤ 65535 := by
  have hk := best_kraft fs
  unfold bestL
  by_cases h : 16 < maxTo (lensP fs) 255
  · rw [if_pos h, rm_even _ hl (fun s hs => hk.2 s hs) 256 (by omega), posTo_np fs 256 (by omega)]
    have : (initP fs 256).length ≤ 255 := hn
    omega
  · rw [if_neg h]
    have hr := kraft_room fs (fun s hs => by
      have : ¬ 16 < (lensP fs).getD s 0 := fun e => h ((maxTo_gt (lensP fs) 16 255).2 ⟨s, by omega, e⟩)
      omega) 256 (by omega)
    have hp := kw_pos (lensP fs) 256
    have h1 := hk.1
    refine Classical.byContradiction fun hc => ?_
    have h2 : (65536 : Int) ≤ rmT (lensP fs) 256 16 := by omega
    have h3 : (2 : Int) ^ 240 * 65536 ≤ 2 ^ 240 * rmT (lensP fs) 256 16 := Int.mul_le_mul_of_nonneg_left h2 (by decide)
    rw [← hr] at h3
    have h4 : (2 : Int) ^ 240 * 65536 = ((2 ^ 256 : Nat) : Int) := by decide
    rw [h4] at h3
    have h5 : 2 ^ 256 ≤ kS (kw (lensP fs)) (posS fs 256) := Int.ofNat_le.1 h3
    generalize 2 ^ 256 = z at *
    omega
/-- The best codes are right. -/
theorem best_right (fs : List Int) (hb : bB fs = true) : rightC (bC fs) (bS fs) = true := by
  have hb2 := hb
  unfold bB at hb2
  rw [Bool.and_eq_true, decide_eq_true_eq] at hb2
  obtain ⟨hf, hn1, hn2⟩ := hb2
  have hl : (lensP fs).length = 257 := lensP_len fs
  have hle := bestL_le fs hl
  have htl := tl_pos (bestL (lensP fs)) (fun s hs => (hle s hs).2.1) 256 (by omega)
  have hpc := posTo_congr (fun s hs => (hle s hs).2.2) 256 (by omega)
  have hpn := posTo_np fs 256 (by omega)
  rw [hpc, hpn] at htl
  have htl : tlT (bestL (lensP fs)) 256 16 = (np fs : Int) := htl
  have hsy := syms_tl (bestL (lensP fs)) 16
  rw [htl] at hsy
  have hm := symsTo_mem (bestL (lensP fs)) 16
  unfold bC bS
  rw [if_pos hb, if_pos hb, right_iff]
  refine ⟨⟨cntsTo_len _ _, okTo_of _ 16 fun k hk => ?_, ?_, ?_⟩, ?_, apart_of hm.1 (fun s hs => ⟨(hm.2 s hs).1, (hm.2 s hs).2.1⟩) _ (Nat.le_refl _)⟩
  · rw [cntsTo_get _ 16 k hk]
    have h1 := tl_mono (bestL (lensP fs)) 256 (16 - (k + 1)) (k + 1)
    have h2 := tl_mono (bestL (lensP fs)) 256 k 0
    rw [show k + 1 + (16 - (k + 1)) = 16 by omega, htl, tlT] at h1
    rw [Nat.zero_add] at h2
    have h3 : tlT (bestL (lensP fs)) 256 0 = 0 := rfl
    omega
  · rw [told_cnts _ 16 (Nat.le_refl _), htl]
    omega
  · rw [room_cnts _ 16 (Nat.le_refl _)]
    exact best_room fs hl hn2
  · rw [told_cnts _ 16 (Nat.le_refl _), htl, hsy]
end Go.Proofs.Ytmdmolofiblbmaa
