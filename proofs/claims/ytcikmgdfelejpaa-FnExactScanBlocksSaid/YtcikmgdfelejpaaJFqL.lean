/- The walk of the law FnExactScanFreqs. -/
import Derived.Test.YtcikmgdfelejpaaJFqS
import Derived.Test.YtcikmgdfelejpaaJMk
namespace Go.Proofs.Ytcikmgdfelejpaa
open Go.RowKit
set_option linter.unusedVariables false

/-- The marks s, s + 1, ... -/
def marksF (s : Int) (n : Nat) : List Int := (List.range n).map fun (i : Nat) => s + (i : Int)
theorem marksF_length (s : Int) (n : Nat) : (marksF s n).length = n := by simp [marksF]
theorem marksF_get (s : Int) (n j : Nat) (h : j < n) : (marksF s n).getD j 0 = s + (j : Int) := by simp [marksF, List.getD, h]
/-- Only the slice's own block has turned. -/
def Lone (v : Value) (w w' : World) : Prop := w'.heap.size = w.heap.size ∧ ∀ b, v.ownBlock ≠ some b → w'.heap[b]? = w.heap[b]?
theorem Own.lone {w w' : World} {base : Nat} {v y : Value} {xs : List Int} (h : Own w base 3 .i64 y xs) (hl : Lone v w w') (hne : ∀ g, v.ownBlock = some g → y.ownBlock ≠ some g) : Own w' base 3 .i64 y xs := by
  refine ⟨by rw [hl.1]; exact h.1, h.2.1, ?_⟩
  rcases h.2.2 with h0 | ⟨g, cap, cur, hv, hg, hh, r⟩
  · exact .inl h0
  · refine .inr ⟨g, cap, cur, hv, hg, (hl.2 g (fun e => hne g e (by rw [hv]; rfl))).trans hh, r⟩

set_option maxHeartbeats 800000 in
/-- The marks are written into the slice, and nowhere else. -/
theorem markF (s : Int) (hs0 : 0 ≤ s) (hs1 : s ≤ 1000000000) (base : Nat) (v : Value) (ys : List Int) (w : World) (hn : ys.length ≤ 1000000000) (ho : Own w base 3 .i64 v ys) :
    Calls Try.prog 20 #[v, .int .i64 s] w fun e w' => e = .returned (.int .i64 (s + (ys.length : Int))) ∧ Own w' base 3 .i64 v (marksF s ys.length) ∧ Lone v w w' ∧ Below base w w' := by
  rcases ho.2.2 with ⟨rfl, h0⟩ | ⟨g, cap, cur, rfl, _⟩
  · have e : ys = [] := List.length_eq_zero_iff.1 h0
    subst e
    have HO := hid ho
    clear ho
    go_enter Try.func20, Try.ntmps20
    go_wp2
    go_loop [1, 5] (fun m i => m = .int .i64 s ∧ i = .int .i64 0) (fun _ _ => 0)
    case atStart => exact ⟨rfl, rfl⟩
    case round =>
      obtain ⟨rfl, rfl⟩ := hrel
      go_wp2
      go_ret
      exact ⟨ret_int (by simp), HO.out, ⟨rfl, fun _ _ => rfl⟩, Below.refl _ _⟩
  · have HO := hid ho
    have hge := ho.ge.1
    generalize hN : ys.length = n at *
    have HN := hid hN
    clear ho hN
    go_enter Try.func20, Try.ntmps20
    go_wp2
    go_loopw [1, 5] (fun m i wr => ∃ (k : Nat) (zs : List Int), k ≤ n ∧ i = .int .i64 k ∧ m = .int .i64 (s + (k : Int)) ∧ Own wr base 3 .i64 (.slice (some ⟨g, 0, none⟩) n cap) zs ∧ Hid (zs.length = n ∧ ∀ j, j < k → zs.getD j 0 = s + (j : Int)) ∧ Hid (Lone (.slice (some ⟨g, 0, none⟩) n cap) w wr) ∧ Below base w wr) (fun _ i _ => n - (intOf i).toNat)
    case atStart => exact ⟨0, ys, by omega, rfl, by simp, HO.out, ⟨HN.out, fun j hj => by omega⟩, ⟨rfl, fun _ _ => rfl⟩, Below.refl _ _⟩
    case round =>
      obtain ⟨k, zs, hk, rfl, rfl, hown, hzs, hln, hb⟩ := hrel
      by_cases hlt : k < n
      · have hold := hown.at k (by have := hzs.out.1; omega)
        have hfree := hown.free k
        have HNEW := hid (hown.store k (s + (k : Int)))
        have HLN := hid (show Lone (.slice (some ⟨g, 0, none⟩) n cap) w (wr.setCell ⟨g, k, none⟩ (.int .i64 (s + (k : Int)))) from ⟨by simpa using hln.out.1, fun b hbb => (heap_setCell_other _ ⟨g, k, none⟩ b _ (fun e => hbb (by simp only [Value.ownBlock]; rw [e]))).trans (hln.out.2 b hbb)⟩)
        generalize zs.getD k 0 = Y at *
        go_wp2
        go_roundw
        case rel =>
          refine ⟨k + 1, _, by omega, by go_num, by go_num, HNEW.out, ⟨by simp; exact hzs.out.1, fun j hj => ?_⟩, HLN.out, hb.setCell (p := ⟨g, k, none⟩) hge _⟩
          by_cases e : j = k
          · subst e
            simp [List.getD, hzs.out.1, hlt]
          · rw [← hzs.out.2 j (by omega)]
            simp [List.getD, show k ≠ j from fun h => e h.symm]
        case measure => simp [intOf]; omega
      · obtain rfl : k = n := by omega
        have hxy : zs = marksF s k := list_eq_of_getD (by rw [hzs.out.1, marksF_length]) (fun i hi => by rw [hzs.out.2 i (by rw [← hzs.out.1]; exact hi), marksF_get s k i (by rw [← hzs.out.1]; exact hi)])
        subst hxy
        go_wp2
        go_ret
        exact ⟨rfl, hown, hln.out, hb⟩
set_option maxHeartbeats 800000 in
theorem heldF (s : Int) (hs0 : 0 ≤ s) (hs1 : s ≤ 1000000000) (v : Value) (n : Nat) (w : World) (hn : n ≤ 1000000000) (h : Vw w v (marksF s n)) :
    Calls Try.prog 21 #[v, .int .i64 s] w fun e w' => e = .returned (.int .i64 (s + (n : Int))) ∧ w = w' := by
  obtain ⟨ao, cap, rfl, hv⟩ := h
  rw [marksF_length] at hv ⊢
  have HV := hid hv
  clear hv
  go_enter Try.func21, Try.ntmps21
  go_wp2
  go_loop [1, 5] (fun m i => ∃ k : Nat, k ≤ n ∧ i = .int .i64 k ∧ m = .int .i64 (s + (k : Int))) (fun _ i => n - (intOf i).toNat)
  case atStart => exact ⟨0, by omega, rfl, by simp⟩
  case round =>
    obtain ⟨k, hk, rfl, rfl⟩ := hrel
    by_cases hlt : k < n
    · obtain ⟨b, off, rfl, hc⟩ := HV.out.2 k hlt
      rw [marksF_get s n k hlt] at hc
      go_wp2
      go_round
      case rel => exact ⟨k + 1, by omega, by go_num, by go_num⟩
      case measure => simp [intOf]; omega
    · obtain rfl : k = n := by omega
      go_wp2
      go_ret
      exact ⟨rfl, rfl⟩

set_option maxRecDepth 100000 in
set_option maxHeartbeats 3200000 in
theorem law_freqs (ao : Option Addr) (cap : Nat) (L : List (Int × List Int)) (w : World) (hn : L.length ≤ 9223372036854775807) (hs : ∀ j, j < L.length → (nth L j).2.length ≤ 9223372036854775807) (hv : BRow w ao L) :
    Calls Try.prog 5 #[.slice ao L.length cap] w fun e w' => e = .returned (.bool true) ∧ Below w.heap.size w w' := by
  have HV := hid hv
  have HSZ := hid (szBlockS ao cap L w hn hs hv)
  clear hv hs
  go_enter Try.func5, Try.ntmps5
  go_wp2_with fail
  refine HSZ.out.mono ?_
  rintro e w1 ⟨r, rfl, hr, hb1⟩
  have B1 := hid hb1
  clear hb1 HSZ
  by_cases hneg : r < 0
  · clear hr
    go_wp2_with fail
    go_ret
    exact ⟨rfl, B1.out⟩
  · obtain ⟨hl, hall⟩ := hr.resolve_left hneg
    have HALL := hid hall
    have HTO := hid (fun q (hq : Below w.heap.size w q) => toBlockS ao cap L q hl hall (HV.out.below hq))
    have hR0 := freqR_len 0 L
    have hR1 := freqR_len 1 L
    have HSP := hid (fun ao cap q hv => spec_freqs ao cap L q hl hall hv)
    have HIM := hid (fun ao cap q hv => impl_freqs ao cap L q hl hall hv)
    unfold FqP at HSP HIM
    generalize freqR 0 L = R0 at *
    generalize freqR 1 L = R1 at *
    generalize freqB L = F at *
    have hFF : (F != F) = false := by simp
    clear hr hall
    go_wp2_with fail
    refine (HTO.out _ B1.out).mono ?_
    rintro e w2 ⟨rfl, hbs2, hb2⟩
    have B2 := hid (B1.out.trans (hb2.mono B1.out.size))
    have HR2 := hid hbs2.brow
    clear hb2 hbs2
    go_wp2_with fail
    refine (HSP.out _ _ _ HR2.out).mono ?_
    rintro e w3 ⟨y0, y1, rfl, ⟨hy0, hy1, _⟩, hb3⟩
    have B3 := hid (B2.out.trans (hb3.mono B2.out.size))
    have HY0 : Hid (Vw w3 y0 R0) := hid hy0.view
    have HY1 : Hid (Vw w3 y1 R1) := hid hy1.view
    clear hb3 hy0 hy1 HR2 HSP
    go_wp2_with fail
    refine (HTO.out _ B3.out).mono ?_
    rintro e w4 ⟨rfl, hbs4, hb4⟩
    have Y4 := hid hb4
    have HR4 := hid hbs4.brow
    obtain ⟨ys, hM4⟩ := hbs4.rowM
    have HM4 := hid hM4
    have hg4 : w3.heap.size < w4.heap.size := by obtain ⟨arr, h1, _⟩ := hbs4; exact h1.lt
    clear hb4 hbs4 hM4
    go_wp2_with fail
    refine (HIM.out _ _ _ HR4.out).mono ?_
    rintro e w5 ⟨g0, g1, rfl, ⟨hg0, hg1, hap⟩, hb5⟩
    have HAP := hid hap
    have Y5 := hid (Y4.out.trans (hb5.mono Y4.out.size))
    have HR5 := hid (HR4.out.below hb5)
    have HM5 := hid (HM4.out.below hb5)
    have HG5 := hid hg0
    have HH5 := hid hg1
    clear hb5 hg0 hg1 HR4 HM4 hap
    go_wp2_with fail
    refine (eq_vw w5 g0 y0 R0 (by omega) HG5.out.view (HY0.out.below Y5.out)).mono ?_
    rintro e u5 ⟨rfl, hbu⟩
    have YU := hid (Y5.out.trans (hbu.mono Y5.out.size))
    have HGU := hid (HG5.out.below hbu)
    have HHU := hid (HH5.out.below hbu)
    have HRU := hid (HR5.out.below hbu)
    have HMU := hid (HM5.out.below hbu)
    clear hbu HG5 HH5 HR5 HM5 Y5
    go_wp2_with fail
    refine (eq_vw u5 g1 y1 R1 (by omega) HHU.out.view (HY1.out.below YU.out)).mono ?_
    rintro e w6 ⟨rfl, hb6⟩
    have Y6 := hid (YU.out.trans (hb6.mono YU.out.size))
    have B6 := hid (B3.out.trans (Y6.out.mono B3.out.size))
    have HR6 := hid (HRU.out.below hb6)
    have HM6 := hid (HMU.out.below hb6)
    have HG6 := hid (HGU.out.below hb6)
    have HH6 := hid (HHU.out.below hb6)
    clear hb6 HRU HMU HGU HHU YU
    go_wp2_with fail
    refine (HTO.out _ B6.out).mono ?_
    rintro e w7 ⟨rfl, hbs7, hb7⟩
    have Y7 := hid (Y6.out.trans (hb7.mono Y6.out.size))
    have HR7 := hid (HR6.out.below hb7)
    have HX7 := hid hbs7.brow
    have HM7 := hid (HM6.out.below hb7)
    have HG7 := hid (HG6.out.below hb7)
    have HH7 := hid (HH6.out.below hb7)
    clear hb7 hbs7 HR6 HM6 HG6 HH6
    go_wp2_with fail
    refine (eqBlockS_same _ _ _ _ L w7 hl HALL.out HR7.out HX7.out).mono ?_
    rintro e w8 ⟨rfl, hb8⟩
    have Y8 := hid (Y7.out.trans (hb8.mono Y7.out.size))
    have HM8 := hid (HM7.out.below hb8)
    have HG8 := hid (HG7.out.below hb8)
    have HH8 := hid (HH7.out.below hb8)
    have h48 : w4.heap.size ≤ w8.heap.size := HG8.out.1
    clear hb8 HR7 HX7 HM7 HG7 HH7
    go_wp2_with fail
    refine (markBlockS w3.heap.size w4.heap.size w3.heap.size L.length ys _ w8 hl HALL.out (Nat.le_refl _) hg4 HM8.out).mono ?_
    rintro e w9 ⟨⟨r9, rfl, hr9⟩, hsp⟩
    have Y9 := hid (Y8.out.trans (hsp.below (by omega)))
    have HG9 := hid (hsp.own HG8.out (Nat.le_refl _))
    have HH9 := hid (hsp.own HH8.out (Nat.le_refl _))
    have hd9 : decide (r9 < 0) = false := by simp; omega
    clear hsp HM8 HG8 HH8
    go_wp2_with fail
    refine (eq_vw w9 g0 y0 R0 (by omega) HG9.out.view (HY0.out.below Y9.out)).mono ?_
    rintro e u9 ⟨rfl, hbu⟩
    have YU := hid (Y9.out.trans (hbu.mono Y9.out.size))
    have HGU := hid (HG9.out.below hbu)
    have HHU := hid (HH9.out.below hbu)
    clear hbu HG9 HH9
    go_wp2_with fail
    refine (eq_vw u9 g1 y1 R1 (by omega) HHU.out.view (HY1.out.below YU.out)).mono ?_
    rintro e w10 ⟨rfl, hb10⟩
    have Y10 := hid (YU.out.trans (hb10.mono YU.out.size))
    have HG10 := hid (HGU.out.below hb10)
    have HH10 := hid (HHU.out.below hb10)
    clear hb10 HGU HHU YU
    go_wp2_with fail
    refine (markF 1 (by decide) (by decide) w4.heap.size g0 R0 w10 (by omega) HG10.out).mono ?_
    rintro e w11 ⟨rfl, hg11, hln, hb11⟩
    have Y11 := hid (Y10.out.trans (hb11.mono (by omega)))
    have HG11 := hid hg11
    have HH11 := hid (HH10.out.lone hln HAP.out)
    clear hb11 hg11 HG10 HH10 hln
    go_wp2_with fail
    refine (markF (1 + (R0.length : Int)) (by omega) (by omega) w4.heap.size g1 R1 w11 (by omega) HH11.out).mono ?_
    rintro e w12 ⟨rfl, hh12, hln, hb12⟩
    have Y12 := hid (Y11.out.trans (hb12.mono (by omega)))
    have HH12 := hid hh12
    have HG12 := hid (HG11.out.lone hln (fun g h h' => HAP.out g h' h))
    clear hb12 hh12 HG11 HH11 hln
    go_wp2_with fail
    refine (heldF 1 (by decide) (by decide) g0 R0.length w12 (by omega) HG12.out.view).mono ?_
    rintro e w13 ⟨rfl, rfl⟩
    have hp0 : ¬ ((1 : Int) + (R0.length : Int) < 0) := by omega
    have hp1 : ¬ ((1 : Int) + (R0.length : Int) + (R1.length : Int) < 0) := by omega
    go_wp2_with fail
    refine (heldF (1 + (R0.length : Int)) (by omega) (by omega) g1 R1.length w12 (by omega) HH12.out.view).mono ?_
    rintro e w13 ⟨rfl, rfl⟩
    have B12 := hid (B3.out.trans (Y12.out.mono B3.out.size))
    go_wp2_with fail
    refine (HTO.out _ B12.out).mono ?_
    rintro e w14 ⟨rfl, hbs14, hb14⟩
    have Y14 := hid (Y12.out.trans (hb14.mono Y12.out.size))
    have HG14 := hid (HG12.out.below hb14)
    have HH14 := hid (HH12.out.below hb14)
    have HR14 := hid hbs14.brow
    clear hb14 hbs14 HG12 HH12
    go_wp2_with fail
    refine (HIM.out _ _ _ HR14.out).mono ?_
    rintro e w15 ⟨k0, k1, rfl, ⟨hk0, hk1, _⟩, hb15⟩
    have Y15 := hid (Y14.out.trans (hb15.mono Y14.out.size))
    have HG15 := hid (HG14.out.below hb15)
    have HH15 := hid (HH14.out.below hb15)
    have HK0 := hid hk0
    have HK1 := hid hk1
    clear hb15 hk0 hk1 HG14 HH14
    go_wp2_with fail
    refine (eq_vw w15 k0 y0 R0 (by omega) HK0.out.view (HY0.out.below Y15.out)).mono ?_
    rintro e u15 ⟨rfl, hbu⟩
    have YU := hid (Y15.out.trans (hbu.mono Y15.out.size))
    have HGU := hid (HG15.out.below hbu)
    have HHU := hid (HH15.out.below hbu)
    have HKU := hid (HK1.out.below hbu)
    clear hbu HG15 HH15 HK0 HK1
    go_wp2_with fail
    refine (eq_vw u15 k1 y1 R1 (by omega) HKU.out.view (HY1.out.below YU.out)).mono ?_
    rintro e w16 ⟨rfl, hb16⟩
    have Y16 := hid (YU.out.trans (hb16.mono YU.out.size))
    have HG16 := hid (HGU.out.below hb16)
    have HH16 := hid (HHU.out.below hb16)
    clear hb16 HGU HHU HKU YU
    go_wp2_with fail
    refine (heldF 1 (by decide) (by decide) g0 R0.length w16 (by omega) HG16.out.view).mono ?_
    rintro e w17 ⟨rfl, rfl⟩
    go_wp2_with fail
    refine (heldF (1 + (R0.length : Int)) (by omega) (by omega) g1 R1.length w16 (by omega) HH16.out.view).mono ?_
    rintro e w17 ⟨rfl, rfl⟩
    have B16 := hid (B3.out.trans (Y16.out.mono B3.out.size))
    go_wp2_with fail
    go_ret
    exact ⟨rfl, B16.out⟩
end Go.Proofs.Ytcikmgdfelejpaa
