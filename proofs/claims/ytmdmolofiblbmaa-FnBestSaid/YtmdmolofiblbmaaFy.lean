/- What the law FnCodes calls besides the codes' own functions. -/
import Derived.Test.YtmdmolofiblbmaaDf
import Derived.Test.YtmdmolofiblbmaaKt
namespace Go.Proofs.Ytmdmolofiblbmaa
open Go.RowKit
set_option linter.unusedVariables false

theorem big_any (ao : Option Addr) (n cap : Nat) (w : World) : Calls Try.prog 7 #[.slice ao n cap] w fun e w' => e = .returned (.bool (decide ((1048576 : Int) < (n : Int)))) ∧ w = w' := by
  go_enter Try.func7, Try.ntmps7
  go_wp2
  go_ret
  exact ⟨rfl, rfl⟩
theorem code_row {ao : Option Addr} {n cap : Nat} {zs : List Int} {w : World} (h : IsRow .u8 w ao n cap zs) (hn : n ≤ 1048576) : Code w ao n (zs.take n) := ⟨hn, h.view, h.wf⟩

theorem at_law (ao : Option Addr) (n cap i : Nat) (zs : List Int) (w : World) (hn : n ≤ 1048576) (hi : i ≤ 1000) (hv : View .u8 w ao n zs) (hw : ∀ x ∈ zs, (Lit.int .u8 x).wf = true) :
    Calls Try.prog 13 #[.slice ao n cap, .int .i64 (i : Int)] w fun e w' => ∃ x : Int, e = .returned (.int .i64 x) ∧ (0 ≤ x ∧ x ≤ 255) ∧ w = w' := by
  by_cases hlt : i < n
  · obtain ⟨b, off, rfl, hcell⟩ := hv.2 i hlt
    have hlt' : (i : Int) < (n : Int) := by omega
    have hl := hv.1
    have hb : 0 ≤ zs.getD i 0 ∧ zs.getD i 0 ≤ 255 := by
      have := hw (zs.getD i 0) (by simp [List.getD, show i < zs.length by omega])
      generalize zs.getD i 0 = X at *
      simp [Lit.wf, IntKind.min, IntKind.max, IntKind.signed, IntKind.bits] at this
      omega
    generalize zs.getD i 0 = X at *
    obtain ⟨b0, b1⟩ := hb
    clear hv hw hl
    go_enter Try.func13, Try.ntmps13
    go_wp2_with fail
    go_ret
    exact ⟨_, rfl, ⟨b0, b1⟩, rfl⟩
  · have hlt' : ¬ (i : Int) < (n : Int) := by omega
    have hm : ((i : Int) * 7 + (n : Int)).tmod 256 = ((i : Int) * 7 + (n : Int)) % 256 := Int.tmod_eq_emod_of_nonneg (by omega)
    clear hv hw
    go_enter Try.func13, Try.ntmps13
    go_wp2_with fail
    go_ret
    exact ⟨_, rfl, by omega, rfl⟩

theorem take_two (xs ys : List Int) (n : Nat) (hx : xs.length = n) (hy : ys.length = n) (h : ∀ j, j < n → xs.getD j 0 = ys.getD j 0) : xs = ys := by
  apply List.ext_getElem (by omega)
  intro j h1 h2
  have := h j (by omega)
  simpa [List.getD, h1, h2] using this
set_option maxHeartbeats 800000 in
theorem same_any (ao bo : Option Addr) (n cap cap' : Nat) (xs ys : List Int) (w : World) (hn : n ≤ 4194304) (ha : View .i64 w ao n xs) (hb : View .i64 w bo n ys) :
    Calls Try.prog 11 #[.slice ao n cap, .slice bo n cap'] w fun e w' => e = .returned (.bool (decide (xs = ys))) ∧ Below w.heap.size w w' := by
  have HA := hid ha
  have HB := hid hb
  have HL := hid (show xs.length = n ∧ ys.length = n from ⟨ha.1, hb.1⟩)
  clear ha hb
  go_enter Try.func11, Try.ntmps11
  go_wp2
  go_loopw [5] (fun i wr => ∃ k : Nat, k ≤ n ∧ i = .int .i64 k ∧ Hid (∀ j, j < k → xs.getD j 0 = ys.getD j 0) ∧ ∃ q, wr = w.drewN q) (fun i _ => n - (intOf i).toNat)
  case atStart => exact ⟨0, by omega, rfl, hid (fun j hj => absurd hj (by omega)), 0, rfl⟩
  case round =>
    obtain ⟨k, hk, rfl, hall, q, rfl⟩ := hrel
    by_cases hlt : k < n
    · obtain ⟨b, off, rfl, hc⟩ := HA.out.2 k hlt
      obtain ⟨b', off', rfl, hc'⟩ := HB.out.2 k hlt
      have hlt' : (k : Int) < (n : Int) := by omega
      by_cases e : xs.getD k 0 = ys.getD k 0
      · have HALL := hid (show ∀ j, j < k + 1 → xs.getD j 0 = ys.getD j 0 from fun j hj => by
          by_cases ej : j = k
          · subst ej; exact e
          · exact hall.out j (by omega))
        rw [← e] at hc'
        generalize xs.getD k 0 = X at *
        clear e
        go_wp2
        go_quiet (fail)
        go_wp2
        go_roundw
        case rel => exact ⟨k + 1, by omega, by go_num, HALL, _, rfl⟩
        case measure => simp [intOf]; omega
      · have HN := hid (show decide (xs = ys) = false from decide_eq_false (fun h => e (by rw [h])))
        generalize xs.getD k 0 = X at *
        generalize ys.getD k 0 = Y at *
        have e2 : (X == Y) = false := by simpa using e
        have e3 : (X != Y) = true := by simpa using e
        go_wp2
        go_quiet (fail)
        go_wp2
        go_ret
        exact ⟨by rw [HN.out]; rfl, (below_drewN w q).trans ((below_drewN (w.drewN q) _).mono (below_drewN w q).size)⟩
    · obtain rfl : k = n := by omega
      have HY := hid (show decide (xs = ys) = true from decide_eq_true (take_two xs ys k HL.out.1 HL.out.2 hall.out))
      go_wp2
      go_ret
      exact ⟨by rw [HY.out]; rfl, below_drewN w q⟩

set_option maxHeartbeats 800000 in
theorem draw_best (ao : Option Addr) (n cap : Nat) (zs : List Int) (w : World) (hcode : Code w ao n zs) :
    Calls Try.prog 8 #[.slice ao n cap] w fun e w' => ∃ fv v fs, e = .returned (.tuple #[fv, v]) ∧ bB fs = true ∧ DrF fs ∧ Own w' w.heap.size 3 .i64 fv fs ∧ BO w' w.heap.size v (bC fs) (bS fs) ∧ Below w.heap.size w w' := by
  have hA0 := (Below.refl w.heap.size w).alloc (Nat.le_refl _) (.cells #[.slice none 0 0, .slice none 0 0] 26)
  have hT0 := Two.new w (.slice none 0 0) (.slice none 0 0) 26
  have hC0 : Code (w.alloc (.cells #[.slice none 0 0, .slice none 0 0] 26)) ao n zs := ⟨hcode.1, hcode.2.1.below (Nat.le_refl _) hA0, hcode.2.2⟩
  have HN := hid (new_any ao n cap zs _ hC0)
  have HA0 := hid hA0
  have HT0 := hid hT0
  have HC0 := hid hC0
  have hs0 : (w.alloc (.cells #[.slice none 0 0, .slice none 0 0] 26)).heap.size = w.heap.size + 1 := by simp
  clear hA0 hT0 hC0 hcode
  go_enter Try.func8, Try.ntmps8
  go_wp2_with (first | (go_at_call 31; fail) | fail)
  refine HN.out.mono ?_
  rintro e w1 ⟨C, rfl, hc1, hb1⟩
  have hT1 := HT0.out.below hb1 (by omega)
  have HB1 := hid (HA0.out.trans (hb1.mono (by omega)))
  have HT1 := hid hT1
  have HD := hid (draw_freqs (w.alloc (.cells #[.slice none 0 0, .slice none 0 0] 26)) ao n cap C zs w1 HC0.out hc1)
  have hC := hc1.1
  have HW1 := hid (show w.heap.size + 1 ≤ w1.heap.size from by have := hb1.size; omega)
  clear hc1 hb1 HN HT0 HA0 hT1
  go_wp2_with (first | (go_at_call 32; fail) | fail)
  refine HD.out.mono ?_
  rintro e w2 ⟨v2, fs, s, rfl, ho2, hd2, hs2, hc2, he2⟩
  have hbb := hd2.good hs2
  have HDR := hid hd2
  obtain ⟨a2, c2, e2, vw2⟩ := ho2.view
  rw [hd2.1] at e2 vw2
  subst e2
  have HSB := hid (spec_best a2 256 c2 fs w2 (by decide) vw2)
  have HBB := hid hbb
  rw [hbb] at HSB
  have HO2 := hid ho2
  have hb2 : Below (w.heap.size + 1) w1 w2 := ⟨he2.os, he2.tape, he2.output, he2.size, fun k hk => he2.block k (by have := HW1.out; omega) (fun e => by have := Option.some.inj e; omega)⟩
  have HT2 := hid (HT1.out.below hb2 (by omega))
  have HB2 := hid (HB1.out.trans (hb2.mono (by omega)))
  have HW2 := hid (show w1.heap.size ≤ w2.heap.size from he2.size)
  clear ho2 hd2 hs2 hc2 he2 hb2 vw2 hbb HD HT1 HB1
  generalize hcs : bC fs = CS at *
  generalize hss : bS fs = SS at *
  go_wp2_with (first | (go_at_call 17; fail) | fail)
  refine HSB.out.mono ?_
  rintro e w3 ⟨v3, rfl, bo3, hb3⟩
  obtain ⟨cv, sv, rfl, o1, o2, ap⟩ := bo3
  obtain ⟨a3, c3, rfl⟩ := o1.shape
  obtain ⟨a4, c4, rfl⟩ := o2.shape
  have HT3 := hid (HT2.out.below hb3 HT2.out.lt)
  have HB3 := hid (HB2.out.trans (hb3.mono (by have := HW1.out; have := HW2.out; omega)))
  have HO3 := hid (HO2.out.below hb3)
  have hA3 := (Below.refl w3.heap.size w3).alloc (Nat.le_refl _) (.cells #[.slice a3 CS.length c3, .slice a4 SS.length c4] 26)
  have HT4 := hid (HT3.out.below hA3 HT3.out.lt)
  have HK4 := hid (Two.new w3 (.slice a3 CS.length c3) (.slice a4 SS.length c4) 26)
  have HB4 := hid (HB3.out.trans (hA3.mono HB3.out.size))
  have HF := hid (show BO (w3.alloc (.cells #[.slice a3 CS.length c3, .slice a4 SS.length c4] 26)) w2.heap.size (.agg #[.slice a3 CS.length c3, .slice a4 SS.length c4]) CS SS from ⟨_, _, rfl, o1.below hA3, o2.below hA3, ap⟩)
  have HO4 := hid (HO3.out.below hA3)
  have HS3 := hid hb3.size
  clear o1 o2 ap hb3 hA3 HT3 HB3 HO3 HT2 HB2
  have HSS := hid (show w.heap.size + 1 ≤ w1.heap.size ∧ w1.heap.size ≤ w2.heap.size ∧ w2.heap.size ≤ w3.heap.size from ⟨HW1.out, HW2.out, HS3.out⟩)
  obtain ⟨K, hK⟩ : ∃ K : Nat, K = w3.heap.size := ⟨_, rfl⟩
  rw [← hK] at HK4
  obtain ⟨q0, q1, q2, q3⟩ := HT4.out.cells
  obtain ⟨r0, r1, r2, r3⟩ := HK4.out.cells
  rw [hK] at r0 r1 r2 r3 HK4
  clear hK
  go_wp2_with fail
  generalize w3.alloc (.cells #[.slice a3 CS.length c3, .slice a4 SS.length c4] 26) = w4 at *
  have HEND : Hid (∀ q, Below w4.heap.size w4 q → Own ((q.setCell ⟨w.heap.size, 0, none⟩ (.slice a3 CS.length c3)).setCell ⟨w.heap.size, 1, none⟩ (.slice a4 SS.length c4)) w.heap.size 3 .i64 (.slice a2 256 c2) fs ∧ BO ((q.setCell ⟨w.heap.size, 0, none⟩ (.slice a3 CS.length c3)).setCell ⟨w.heap.size, 1, none⟩ (.slice a4 SS.length c4)) w.heap.size (.agg #[.slice a3 CS.length c3, .slice a4 SS.length c4]) CS SS ∧ Below w.heap.size w ((q.setCell ⟨w.heap.size, 0, none⟩ (.slice a3 CS.length c3)).setCell ⟨w.heap.size, 1, none⟩ (.slice a4 SS.length c4))) := hid (fun q hq => by
    have hs := HSS.out
    have hb := HB4.out.trans (hq.mono HB4.out.size)
    have ho := HO4.out.below hq
    obtain ⟨cv, sv, e, o1, o2, ap⟩ := HF.out
    injection e with e
    injection e with e
    injection e with e1 e2
    injection e2 with e2
    subst e1 e2
    have p1 := o1.below hq
    have p2 := o2.below hq
    have h1 : w.heap.size < w1.heap.size := by omega
    have h2 : w.heap.size < w2.heap.size := by omega
    have h3 : w.heap.size ≤ w1.heap.size := by omega
    have h4 : w.heap.size ≤ w2.heap.size := by omega
    exact ⟨((ho.setCell_below (a := ⟨w.heap.size, 0, none⟩) h1 _).setCell_below (a := ⟨w.heap.size, 1, none⟩) h1 _).mono h3, ⟨_, _, rfl, ((p1.setCell_below (a := ⟨w.heap.size, 0, none⟩) h2 _).setCell_below (a := ⟨w.heap.size, 1, none⟩) h2 _).mono h4, ((p2.setCell_below (a := ⟨w.heap.size, 0, none⟩) h2 _).setCell_below (a := ⟨w.heap.size, 1, none⟩) h2 _).mono h4, ap⟩, (hb.setCell (p := ⟨w.heap.size, 0, none⟩) (Nat.le_refl _) _).setCell (p := ⟨w.heap.size, 1, none⟩) (Nat.le_refl _) _⟩)
  go_region
  all_goals
    go_wp2_with fail
    exact bodyPost_ret (v := .tuple #[.slice a2 256 c2, .agg #[.slice a3 CS.length c3, .slice a4 SS.length c4]]) (by simp [results, Try.results8, go_sem, q0, q1]) rfl ⟨_, _, fs, rfl, HBB.out, HDR.out, (HEND.out _ (Below.refl _ _)).1, by rw [hcs, hss]; exact (HEND.out _ (Below.refl _ _)).2.1, (HEND.out _ (Below.refl _ _)).2.2.drew⟩
end Go.Proofs.Ytmdmolofiblbmaa
