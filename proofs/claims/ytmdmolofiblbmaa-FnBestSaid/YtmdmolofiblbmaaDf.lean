/- Drawn weights. -/
import Derived.Test.YtmdmolofiblbmaaDraw
import Derived.Test.YtmdmolofiblbmaaBq
namespace Go.Proofs.Ytmdmolofiblbmaa
open Go.RowKit
set_option linter.unusedVariables false

/-- Weights as they are drawn: 256 of them, those of the first 40 symbols 0 .. 1600 and one at least above 0, the others 0. -/
def DrF (fs : List Int) : Prop := fs.length = 256 ∧ (∀ j, 0 ≤ fs.getD j 0 ∧ fs.getD j 0 ≤ 1600) ∧ ∀ j, 40 ≤ j → fs.getD j 0 = 0
theorem DrF.zero : DrF (List.replicate 256 0) := by
  have h : ∀ j, (List.replicate 256 (0 : Int)).getD j 0 = 0 := fun j => by
    simp only [List.getD, List.getElem?_replicate]
    split <;> rfl
  exact ⟨List.length_replicate, fun j => by rw [h]; decide, fun j _ => h j⟩
theorem getD_set_at (l : List Int) (m j : Nat) (x : Int) : (l.set m x).getD j 0 = if m = j ∧ j < l.length then x else l.getD j 0 := by
  by_cases e : m = j
  · subst e
    by_cases h : m < l.length
    · simp [List.getD, h]
    · rw [if_neg (fun e => h e.2), List.set_eq_of_length_le (by omega)]
  · rw [if_neg (fun h => e h.1), getD_set_off _ _ _ _ e]
theorem DrF.set {fs : List Int} (h : DrF fs) (m : Nat) (x : Int) (hm : m < 40) (h0 : 0 ≤ x) (h1 : x ≤ 1600) : DrF (fs.set m x) := by
  refine ⟨by rw [List.length_set]; exact h.1, fun j => ?_, fun j hj => ?_⟩
  · rw [getD_set_at]
    split
    · exact ⟨h0, h1⟩
    · exact h.2.1 j
  · rw [getD_set_at, if_neg (by omega)]
    exact h.2.2 j hj
theorem DrF.freqs {fs : List Int} (h : DrF fs) : freqs fs = true := by
  have hk : ∀ k, freqTo fs k = true := fun k => by
    induction k with
    | zero => rfl
    | succ k ih =>
      rw [freqTo, ih, (inF_iff _).2 ⟨(h.2.1 k).1, by have := (h.2.1 k).2; omega⟩]
      rfl
  unfold Ytmdmolofiblbmaa.freqs
  rw [hk, h.1]
  rfl
theorem initP_40 {fs : List Int} (h : DrF fs) : ∀ k, (initP fs (40 + k)).length ≤ 40
  | 0 => initP_len fs 40
  | k + 1 => by
    show (initP fs (40 + k + 1)).length ≤ 40
    rw [initP, if_neg (by rw [h.2.2 (40 + k) (by omega)]; omega)]
    exact initP_40 h k
theorem DrF.good {fs : List Int} (h : DrF fs) {s : Nat} (hs : 0 < fs.getD s 0) : bB fs = true := by
  have h40 : s < 40 := by
    by_cases e : s < 40
    · exact e
    · have := h.2.2 s (by omega); omega
  have h1 := List.length_pos_of_mem (initP_mem fs s hs 256 (by omega))
  have h2 : (initP fs 256).length ≤ 40 := initP_40 h 216
  unfold bB
  rw [h.freqs]
  exact decide_eq_true (show 1 ≤ (initP fs 256).length ∧ (initP fs 256).length ≤ 255 by omega)

set_option maxRecDepth 20000 in
set_option maxHeartbeats 1600000 in
theorem draw_freqs (w0 : World) (ao : Option Addr) (n cap C : Nat) (zs : List Int) (w : World) (hcode : Code w0 ao n zs) (hcur : Cur w0 ao n cap C w) :
    Calls Try.prog 32 #[.pointer (some ⟨C, 0, none⟩)] w fun e w' => ∃ v fs s, e = .returned v ∧ Own w' w.heap.size 3 .i64 v fs ∧ DrF fs ∧ 0 < fs.getD s 0 ∧ Cur w0 ao n cap C w' ∧ Eff C w w' := by
  have HCo := hid hcode
  have HCu := hid hcur
  have hCw := hcur.lt
  have HO0 := hid (Own.empty w 3 .i64 w.heap.size (Nat.le_refl _))
  have HB0 := hid ((Below.refl w.heap.size w).alloc (Nat.le_refl _) (.cells #[] 3))
  clear hcode hcur
  go_enter Try.func32, Try.ntmps32
  go_wp2_with fail
  go_loopw [3, 4] (fun v i wr => ∃ k : Nat, k ≤ 256 ∧ i = .int .i64 k ∧ Hid (Own wr w.heap.size 3 .i64 v (List.replicate k 0) ∧ Below w.heap.size w wr)) (fun _ i _ => 256 - (intOf i).toNat)
  case atStart => exact ⟨0, by decide, rfl, hid ⟨HO0.out, HB0.out⟩⟩
  case round =>
    obtain ⟨k, hk, rfl, hL⟩ := hrel
    obtain ⟨aS, cS, hv⟩ := hL.out.1.shape
    by_cases hlt : k < 256
    · have hlt' : (k : Int) < 256 := by omega
      subst hv
      have HL := hid (show (List.replicate k (0 : Int)).length < 1000 from by rw [List.length_replicate]; omega)
      go_wp2_with (first | (refine wpList_pushG wr rfl (.tmp 13) (.tmp 14) 24 rfl w.heap.size 3 .i64 0 8 Try.underlying24 Try.info3 _ (List.replicate k 0) (by rfl) hL.out.1 0 (by go_simp) (by have := HL.out; omega) (by decide) ?_; rintro v' w' ho hb hkk; have HX := hid (show Own w' w.heap.size 3 .i64 v' (List.replicate (k + 1) 0) ∧ Below w.heap.size w w' from ⟨by rw [List.replicate_succ']; exact ho, hL.out.2.trans hb⟩); clear ho hb hkk) | fail)
      go_roundw
      case rel => exact ⟨k + 1, by omega, by go_num, HX⟩
      case measure => simp [intOf]; omega
    · obtain rfl : k = 256 := by omega
      rw [List.length_replicate] at hv
      subst hv
      obtain ⟨g, rfl⟩ := hL.out.1.some_of (fun e => by have := congrArg List.length e; rw [List.length_replicate] at this; cases this)
      have HO1 := hid hL.out.1
      have HCu1 := hid (HCu.out.below hL.out.2)
      have HE1 := hid (show Eff C w wr from ⟨hL.out.2.os, hL.out.2.tape, hL.out.2.output, hL.out.2.size, fun j hj _ => hL.out.2.block j hj⟩)
      have HN1 := hid (below_any w0 ao n cap C zs 12 wr HCo.out HCu1.out)
      clear hL hk hlt HO0 HB0
      go_wp2_with (first | (go_at_call 47; refine HN1.out.mono ?_; rintro e w2 ⟨x, rfl, hx, hc2, he2⟩) | fail)
      have HO2 := hid (Eff.own HO1.out he2 hCw)
      have HCu2 := hid hc2
      have HE2 := hid (HE1.out.trans he2)
      obtain ⟨N, hN, hN1, hN2⟩ : ∃ N : Nat, (N : Int) = 1 + x ∧ 1 ≤ N ∧ N ≤ 12 := ⟨(1 + x).toNat, by omega, by omega, by omega⟩
      rw [← hN]
      have hN3 : (N : Int) ≤ 12 := by omega
      have HN := hid hN1
      clear hx hc2 he2 HO1 HCu1 HE1 HN1 hN hN1 hN2
      go_wp2_with fail
      go_loopw [6] (fun i wz => ∃ k : Nat, k ≤ N ∧ i = .int .i64 k ∧ Hid (∃ fs, Own wz w.heap.size 3 .i64 (.slice (some ⟨g, 0, none⟩) 256 cS) fs ∧ DrF fs ∧ (0 < k → ∃ s, 0 < fs.getD s 0) ∧ Cur w0 ao n cap C wz ∧ Eff C w wz)) (fun i _ => N - (intOf i).toNat)
      case atStart => exact ⟨0, Nat.zero_le _, rfl, hid ⟨_, HO2.out, DrF.zero, fun h => absurd h (by decide), HCu2.out, HE2.out⟩⟩
      case round =>
        obtain ⟨k, hk, rfl, hL⟩ := hrel
        obtain ⟨fs, l1, l2, l3, l4, l5⟩ := hL.out
        by_cases hlt : k < N
        · have hlt' : (k : Int) < (N : Int) := by omega
          have HD1 := hid (below_any w0 ao n cap C zs 40 wr HCo.out l4)
          have HL1 := hid l1
          have HL2 := hid l2
          have HL5 := hid l5
          have HK := hid hlt
          clear l1 l2 l3 l4 l5 hL HO2 HCu2 HE2 hk hlt
          go_wp2_with (first | (go_at_call 47; refine HD1.out.mono ?_; rintro e w3 ⟨x1, rfl, hx1, hc3, he3⟩) | fail)
          have hx10 := hx1.1
          have hx11 : x1 < 40 := by have := hx1.2; omega
          have HC3 := hid hc3
          have HO3 := hid (Eff.own HL1.out he3 hCw)
          have HE3 := hid (HL5.out.trans he3)
          have HD3 := hid (once_any w0 ao n cap C zs 3 w3 HCo.out hc3)
          clear hx1 hc3 he3 HD1 HL1 HL5
          refine HD3.out.mono ?_
          rintro e w4 ⟨b4, rfl, hc4, he4⟩
          have HC4 := hid hc4
          have HO4 := hid (Eff.own HO3.out he4 hCw)
          have HE4 := hid (HE3.out.trans he4)
          have HD4 := hid (below_any w0 ao n cap C zs 40 w4 HCo.out hc4)
          clear hc4 he4 HD3 HO3 HE3 HC3
          cases b4 with
          | false =>
            have HXB := hid (show 0 < 1 + x1 ∧ 1 + x1 ≤ 1600 from by omega)
            go_wp2_with (first | (go_at_call 47; refine HD4.out.mono ?_; rintro e w5 ⟨x5, rfl, hx5, hc5, he5⟩; obtain ⟨z, rfl⟩ := Int.eq_ofNat_of_zero_le hx5.1; have HZ := hid (show z < 40 from by have := hx5.2; omega); have hzl : (z : Int) < 256 := by { have := HZ.out; omega }; have HO5 := hid (Eff.own HO4.out he5 hCw); have HC5 := hid hc5; have HE5 := hid (HE4.out.trans he5); have hfr := HO5.out.free z; have hcl := HO5.out.at z (by have := HL2.out.1; have := HZ.out; omega); clear hx5 hc5 he5) | fail)
            have HF := hid (show Own (w5.setCell ⟨g, z, none⟩ (.int .i64 (1 + x1))) w.heap.size 3 .i64 (.slice (some ⟨g, 0, none⟩) 256 cS) (fs.set z (1 + x1)) ∧ DrF (fs.set z (1 + x1)) ∧ (0 < k + 1 → ∃ s, 0 < (fs.set z (1 + x1)).getD s 0) ∧ Cur w0 ao n cap C (w5.setCell ⟨g, z, none⟩ (.int .i64 (1 + x1))) ∧ Eff C w (w5.setCell ⟨g, z, none⟩ (.int .i64 (1 + x1))) from by
              have hz := HZ.out
              have hb := HXB.out
              have hg := HO5.out.ge
              refine ⟨HO5.out.store z _, HL2.out.set z _ hz (by omega) hb.2, fun _ => ⟨z, by rw [getD_set_at, if_pos ⟨rfl, by rw [HL2.out.1]; omega⟩]; exact hb.1⟩, ?_, ?_⟩
              · obtain ⟨c1, c2, i, h, c3, c4⟩ := HC5.out
                have hne : C ≠ g := by have h1 := hg.1; have h2 : w.heap.size ≤ g := h1; omega
                exact ⟨c1, c2.setCell (p := ⟨g, z, none⟩) (by have h1 := hg.1; have h2 : w.heap.size ≤ g := h1; have := HCu.out.2.1.size; show w0.heap.size ≤ g; omega) _, i, h, c3, (heap_setCell_other w5 ⟨g, z, none⟩ C _ hne).trans c4⟩
              · have he := HE5.out
                exact ⟨he.os, he.tape, he.output, by simpa using he.size, fun j hj hne => (heap_setCell_other w5 ⟨g, z, none⟩ j _ (by have h1 := hg.1; have h2 : w.heap.size ≤ g := h1; show j ≠ g; omega)).trans (he.block j hj hne)⟩)
            go_wp2_with fail
            go_roundw
            case rel => exact ⟨k + 1, by have := HK.out; omega, by go_num, hid ⟨_, HF.out⟩⟩
            case measure => simp [intOf]; have := HK.out; omega
          | true =>
            have HXB := hid (show 0 < (1 + x1) * (1 + x1) ∧ (1 + x1) * (1 + x1) ≤ 1600 from by constructor <;> (obtain ⟨y, hy⟩ : ∃ y, y = 1 + x1 := ⟨_, rfl⟩; rw [← hy]; first | exact Int.mul_pos (by omega) (by omega) | exact Int.le_trans (Int.mul_le_mul (show y ≤ 40 by omega) (show y ≤ 40 by omega) (by omega) (by decide)) (by decide)))
            have hmx : 0 ≤ 1 + x1 := by omega
            have hmy : 1 + x1 ≤ 40 := by omega
            have hwr : wrap64 ((1 + x1) * (1 + x1)) = (1 + x1) * (1 + x1) := w64 (by have := HXB.out.1; omega) (by have := HXB.out.2; omega)
            go_wp2_with (first | (go_at_call 47; refine HD4.out.mono ?_; rintro e w5 ⟨x5, rfl, hx5, hc5, he5⟩; obtain ⟨z, rfl⟩ := Int.eq_ofNat_of_zero_le hx5.1; have HZ := hid (show z < 40 from by have := hx5.2; omega); have hzl : (z : Int) < 256 := by { have := HZ.out; omega }; have HO5 := hid (Eff.own HO4.out he5 hCw); have HC5 := hid hc5; have HE5 := hid (HE4.out.trans he5); have hfr := HO5.out.free z; have hcl := HO5.out.at z (by have := HL2.out.1; have := HZ.out; omega); clear hx5 hc5 he5) | fail)
            have HF := hid (show Own (w5.setCell ⟨g, z, none⟩ (.int .i64 ((1 + x1) * (1 + x1)))) w.heap.size 3 .i64 (.slice (some ⟨g, 0, none⟩) 256 cS) (fs.set z ((1 + x1) * (1 + x1))) ∧ DrF (fs.set z ((1 + x1) * (1 + x1))) ∧ (0 < k + 1 → ∃ s, 0 < (fs.set z ((1 + x1) * (1 + x1))).getD s 0) ∧ Cur w0 ao n cap C (w5.setCell ⟨g, z, none⟩ (.int .i64 ((1 + x1) * (1 + x1)))) ∧ Eff C w (w5.setCell ⟨g, z, none⟩ (.int .i64 ((1 + x1) * (1 + x1)))) from by
              have hz := HZ.out
              have hb := HXB.out
              have hg := HO5.out.ge
              refine ⟨HO5.out.store z _, HL2.out.set z _ hz (by omega) hb.2, fun _ => ⟨z, by rw [getD_set_at, if_pos ⟨rfl, by rw [HL2.out.1]; omega⟩]; exact hb.1⟩, ?_, ?_⟩
              · obtain ⟨c1, c2, i, h, c3, c4⟩ := HC5.out
                have hne : C ≠ g := by have h1 := hg.1; have h2 : w.heap.size ≤ g := h1; omega
                exact ⟨c1, c2.setCell (p := ⟨g, z, none⟩) (by have h1 := hg.1; have h2 : w.heap.size ≤ g := h1; have := HCu.out.2.1.size; show w0.heap.size ≤ g; omega) _, i, h, c3, (heap_setCell_other w5 ⟨g, z, none⟩ C _ hne).trans c4⟩
              · have he := HE5.out
                exact ⟨he.os, he.tape, he.output, by simpa using he.size, fun j hj hne => (heap_setCell_other w5 ⟨g, z, none⟩ j _ (by have h1 := hg.1; have h2 : w.heap.size ≤ g := h1; show j ≠ g; omega)).trans (he.block j hj hne)⟩)
            go_wp2_with fail
            go_roundw
            case rel => exact ⟨k + 1, by have := HK.out; omega, by go_num, hid ⟨_, HF.out⟩⟩
            case measure => simp [intOf]; have := HK.out; omega
        · obtain rfl : k = N := by omega
          have HX := hid (show ∃ s, 0 < fs.getD s 0 from l3 (by have := HN.out; omega))
          have HY := hid (show _ ∧ _ ∧ _ ∧ _ from ⟨l1, l2, l4, l5⟩)
          clear l1 l2 l3 l4 l5 hL HO2 HCu2 HE2 hk hlt
          go_wp2_with fail
          go_ret
          obtain ⟨s, hs⟩ := HX.out
          exact ⟨_, fs, s, rfl, HY.out.1, HY.out.2.1, hs, HY.out.2.2.1, HY.out.2.2.2⟩
end Go.Proofs.Ytmdmolofiblbmaa
