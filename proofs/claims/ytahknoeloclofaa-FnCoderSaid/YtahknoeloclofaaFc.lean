/- The law FnCoder: bits come back from what was written of them with the same chances. -/
import Derived.Test.YtahknoeloclofaaRw
import Derived.Test.YtahknoeloclofaaCl
import Derived.Test.YtahknoeloclofaaRo
namespace Go.Proofs.Ytahknoeloclofaa
open Go.RowKit
set_option linter.unusedVariables false

theorem big_any (ao : Option Addr) (n cap : Nat) (w : World) :
    Calls Try.prog 9 #[.slice ao n cap] w fun e w' => e = .returned (.bool (decide ((1048576 : Int) < (n : Int)))) ∧ w = w' := by
  go_enter Try.func9, Try.ntmps9
  go_wp2
  go_ret
  exact ⟨rfl, rfl⟩
set_option maxHeartbeats 800000 in
/-- Two slices that read as the same numbers. -/
theorem same_same (ao bo : Option Addr) (n cap cap' : Nat) (xs : List Int) (w : World) (hn : n ≤ 4194304) (ha : View .i64 w ao n xs) (hb : View .i64 w bo n xs) :
    Calls Try.prog 15 #[.slice ao n cap, .slice bo n cap'] w fun e w' => e = .returned (.bool true) ∧ Below w.heap.size w w' := by
  have HA := show Hid _ from ha
  have HB := show Hid _ from hb
  clear ha hb
  go_enter Try.func15, Try.ntmps15
  go_wp2
  go_loopw [5] (fun i wr => ∃ k : Nat, k ≤ n ∧ i = .int .i64 k ∧ ∃ q, wr = w.drewN q) (fun i _ => n - (intOf i).toNat)
  case atStart => exact ⟨0, by omega, rfl, 0, rfl⟩
  case round =>
    obtain ⟨k, hk, rfl, q, rfl⟩ := hrel
    by_cases hlt : k < n
    · obtain ⟨b, off, rfl, hc⟩ := HA.out.2 k hlt
      obtain ⟨b', off', rfl, hc'⟩ := HB.out.2 k hlt
      have hlt' : (k : Int) < (n : Int) := by omega
      generalize xs.getD k 0 = X at *
      go_wp2
      go_quiet (fail)
      go_wp2
      go_roundw
      case rel => exact ⟨k + 1, by omega, by go_num, _, rfl⟩
      case measure => simp [intOf]; omega
    · obtain rfl : k = n := by omega
      go_wp2
      go_ret
      exact ⟨rfl, belowN (Below.refl _ _) _⟩
theorem same_v (v u : Value) (xs : List Int) (w : World) (hl : xs.length ≤ 1048576) (h1 : Vw w v xs) (h2 : Vw w u xs) :
    Calls Try.prog 15 #[v, u] w fun e w' => e = .returned (.bool true) ∧ Below w.heap.size w w' := by
  obtain ⟨ao, c, rfl, hv⟩ := h1
  obtain ⟨bo, c', rfl, hu⟩ := h2
  exact same_same ao bo xs.length c c' xs w (by omega) hv hu
set_option maxHeartbeats 400000 in
theorem at3_any (w0 : World) (ao : Option Addr) (n cap : Nat) (zs : List Int) (w : World) (hcode : Code w0 ao n zs) (hb : Below w0.heap.size w0 w) :
    Calls Try.prog 14 #[.slice ao n cap, .int .i64 3] w fun e w' => ∃ x : Nat, e = .returned (.int .i64 (x : Int)) ∧ x ≤ 255 ∧ w = w' := by
  by_cases h : 3 < n
  · obtain ⟨b, off, rfl, hc⟩ := hcode.2.1.2 3 h
    have hcr : w.cell? ⟨b, off + 3, none⟩ = some (.int .u8 (zs.getD 3 0)) := (hb.cell (p := ⟨b, off + 3, none⟩) (World.block_lt_of_cell? w0 _ hc)).trans hc
    have hwf : (Lit.int .u8 (zs.getD 3 0)).wf = true := by
      have hl : 3 < zs.length := by rw [hcode.2.1.1]; exact h
      rw [List.getD_eq_getElem?_getD, List.getElem?_eq_getElem hl]
      exact hcode.2.2 _ (List.getElem_mem hl)
    obtain ⟨h0, h1⟩ := bounds_u8 hwf
    have h3 : (3 : Int) < (n : Int) := by omega
    obtain ⟨x, hx⟩ := Int.eq_ofNat_of_zero_le h0
    rw [hx] at hcr h0 h1
    clear hc hcode hb hwf hx h
    go_enter Try.func14, Try.ntmps14
    go_wp2_with fail
    go_ret
    exact ⟨x, rfl, by omega, rfl⟩
  · have h3 : ¬ (3 : Int) < (n : Int) := by omega
    have hm : (21 + (n : Int)) % 256 = (((21 + n) % 256 : Nat) : Int) := by omega
    have HM := hid hm
    have hn3 : (n : Int) ≤ 3 := by omega
    clear hcode hb hm h
    go_enter Try.func14, Try.ntmps14
    go_wp2_with fail
    go_ret
    refine ⟨(21 + n) % 256, ?_, by omega, rfl⟩
    exact ret_int (by first | exact HM.out | omega)

set_option maxHeartbeats 1600000 in
theorem draw_row (ao : Option Addr) (n cap : Nat) (zs : List Int) (w : World) (hcode : Code w ao n zs) :
    Calls Try.prog 10 #[.slice ao n cap] w fun e w' => ∃ v u bs ps m, e = .returned (.tuple #[v, u]) ∧ (Rowy bs ps m ∧ 2 ≤ m ∧ m ≤ 200) ∧ Vw w' v bs ∧ Vw w' u ps ∧ (∃ B, Own w' B 3 .i64 v bs) ∧ Below w.heap.size w w' := by
  have HC := hid hcode
  have HSZ := hid (fun q => size_any ao n cap 200 q hcode.1 (by decide))
  clear hcode
  go_enter Try.func10, Try.ntmps10
  go_wp2_with fail
  refine (new_any ao n cap zs w HC.out).mono ?_
  rintro e w1 ⟨C, rfl, hc1, hb1⟩
  have HC1 := hid hc1
  have B1 := hid hb1
  have hCw := hc1.1
  clear hc1 hb1
  go_wp2_with fail
  refine (HSZ.out _).mono ?_
  rintro e w2 ⟨x, rfl, ⟨hx0, hx1⟩, rfl⟩
  obtain ⟨m, rfl⟩ := Int.eq_ofNat_of_zero_le (show 0 ≤ x by omega)
  have hm2 : 2 ≤ m := by omega
  have hm3 : m ≤ 200 := by omega
  clear hx0 hx1 HSZ
  go_wp2_with fail
  refine (row_any w ao n cap C zs m w1 hm3 HC.out HC1.out).mono ?_
  rintro e w3 ⟨v, u, bs, ps, rfl, hrow, hv, hu, hb3⟩
  have HR := hid hrow
  have HV := hid hv
  have HU := hid hu
  have B3 := hid (B1.out.trans (hb3.mono hCw))
  clear hrow hv hu hb3
  go_wp2_with fail
  go_ret2
  exact ⟨v, u, bs, ps, m, rfl, ⟨HR.out, hm2, hm3⟩, HV.out.vw, HU.out.vw, ⟨_, HV.out⟩, B3.out⟩

theorem Rowy.flip {bs ps : List Int} {m : Nat} (h : Rowy bs ps m) (k : Nat) (hk : k < m) : Rowy (bs.set k (1 - bs.getD k 0)) ps m := by
  refine ⟨by simp [h.lb], h.lp, h.hn, ?_, h.hp⟩
  intro x hx
  have hb := bitsOk_at h.hb (k := k) (by rw [h.lb]; exact hk)
  rcases List.mem_or_eq_of_mem_set hx with h1 | h1
  · exact h.hb x h1
  · rw [h1]
    omega

set_option maxRecDepth 100000 in
set_option maxHeartbeats 6400000 in
theorem law_coder (ao : Option Addr) (n cap : Nat) (zs : List Int) (w : World) (hr : IsRow .u8 w ao n cap zs) :
    Calls Try.prog 3 #[.slice ao n cap] w fun e w' => e = .returned (.bool true) ∧ Below w.heap.size w w' := by
  have HBIG := hid (big_any ao n cap w)
  by_cases hn : (1048576 : Int) < (n : Int)
  · rw [decide_eq_true hn] at HBIG
    clear hn
    go_enter Try.func3, Try.ntmps3
    go_wp2_with fail
    refine HBIG.out.mono ?_
    rintro e w1 ⟨rfl, rfl⟩
    go_wp2_with fail
    go_ret
    exact ⟨rfl, Below.refl _ _⟩
  · rw [decide_eq_false hn] at HBIG
    have HCO : Hid (Code w ao n (zs.take n)) := ⟨by omega, hr.view, hr.wf⟩
    have HD := hid (draw_row ao n cap (zs.take n) w HCO.out)
    generalize zs.take n = ys at *
    clear hn hr
    go_enter Try.func3, Try.ntmps3
    go_wp2_with fail
    refine HBIG.out.mono ?_
    rintro e w1 ⟨rfl, rfl⟩
    go_wp2_with fail
    refine HD.out.mono ?_
    rintro e w2 ⟨v, u, bs, ps, m, rfl, ⟨hrow, hm2, hm3⟩, hv, hu, ⟨BB, hov⟩, hb2⟩
    have B2 := hid hb2
    have V2 := hid hv
    have U2 := hid hu
    have O2 := hid hov
    have HROW := hid hrow
    obtain ⟨T, hT, hall, hread⟩ := there_and_back hrow
    have lb := hrow.lb
    have lp := hrow.lp
    subst lb
    have HLP := hid lp
    have HIA := hid (fun q h1 h2 => impl_all_v v u bs ps q (by omega) (by omega) h1 h2)
    have HSA := hid (fun q h1 h2 => spec_all_v v u bs ps q (by omega) (by omega) h1 h2)
    have HIR := hid (fun q h => impl_read_v T u ps q (by omega) h)
    rw [hall] at HIA HSA
    rw [hread] at HIR
    simp only at HIA HSA HIR
    have HSM := hid (fun x q h1 h2 => same_v x v bs q (by omega) h1 h2)
    clear hb2 hv hu hov hall hread HD HBIG
    go_wp2_with fail
    refine (HIA.out w2 V2.out U2.out).mono ?_
    rintro e w3 ⟨rfl, hb3⟩
    have B3 := hid (B2.out.trans (hb3.mono B2.out.size))
    have V3 := hid (V2.out.below (Nat.le_refl _) hb3)
    have U3 := hid (U2.out.below (Nat.le_refl _) hb3)
    have O3 := hid (O2.out.below hb3)
    clear hb3 B2 V2 U2 O2
    go_wp2_with fail
    refine (HSA.out w3 V3.out U3.out).mono ?_
    rintro e w4 ⟨rfl, hb4⟩
    have B4 := hid (B3.out.trans (hb4.mono B3.out.size))
    have V4 := hid (V3.out.below (Nat.le_refl _) hb4)
    have U4 := hid (U3.out.below (Nat.le_refl _) hb4)
    have O4 := hid (O3.out.below hb4)
    clear hb4 B3 V3 U3 O3 HSA
    go_wp2_with fail
    refine (HIR.out w4 U4.out).mono ?_
    rintro e w5 ⟨back, rfl, hback, hb5⟩
    have B5 := hid (B4.out.trans (hb5.mono B4.out.size))
    have V5 := hid (V4.out.below (Nat.le_refl _) hb5)
    have U5 := hid (U4.out.below (Nat.le_refl _) hb5)
    have O5 := hid (O4.out.below hb5)
    have K5 := hid hback.vw
    clear hb5 B4 V4 U4 O4 HIR hback
    go_wp2_with (at_builtin; refine wpList_appX (w5.alloc (.cells #[] 3)) rfl _ _ 24 rfl w5.heap.size Try.underlying24 Try.info3 w5.heap.size 0 0 [] rfl (Own.empty w5 3 .i64 w5.heap.size (Nat.le_refl _)) BB v bs rfl (O5.out.alloc _) (by simp; omega) ?_)
    intro v6 w6 hA
    obtain ⟨g6, c6, rfl⟩ := hA.some
    have hbA := hA.below (Own.empty w5 3 .i64 w5.heap.size (Nat.le_refl _))
    have hb6 : Hid (Below w5.heap.size w5 w6) := ((Below.refl w5.heap.size w5).alloc (Nat.le_refl _) (.cells #[] 3)).trans hbA
    have T6 : Hid (Own w6 w5.heap.size 3 .i64 (.slice (some ⟨g6, 0, none⟩) bs.length c6) bs) := hA.1
    have B6 := hid (B5.out.trans (hb6.out.mono B5.out.size))
    have V6 := hid (V5.out.below (Nat.le_refl _) hb6.out)
    have U6 := hid (U5.out.below (Nat.le_refl _) hb6.out)
    have K6 := hid (K5.out.below (Nat.le_refl _) hb6.out)
    have h56 := hid hb6.out.size
    clear hA hbA O5 lp
    go_wp2_with fail
    refine (at3_any w ao n cap ys w6 HCO.out B6.out).mono ?_
    rintro e w7 ⟨x, rfl, hx, rfl⟩
    have hmod : Int.tmod (x : Int) (bs.length : Int) = ((x % bs.length : Nat) : Int) := by
      rw [Int.tmod_eq_emod_of_nonneg (by omega)]
      rfl
    have hkm : x % bs.length < bs.length := Nat.mod_lt _ (by omega)
    have hmz : ¬ ((bs.length : Int) = 0) := by omega
    obtain ⟨k, hk⟩ : ∃ k, x % bs.length = k := ⟨_, rfl⟩
    rw [hk] at hmod hkm
    have hkm' : (k : Int) < (bs.length : Int) := by omega
    have hold := T6.out.at k hkm
    have hfree := T6.out.free k
    have hbk := bitsOk_at HROW.out.hb (k := k) hkm
    have T7 := hid (T6.out.store k (1 - bs.getD k 0))
    obtain ⟨T2, hT2, hall2, hread2⟩ := there_and_back (HROW.out.flip k hkm)
    have hlen2 : (bs.set k (1 - bs.getD k 0)).length = bs.length := by simp
    have HIA2 := hid (fun y q h1 h2 => impl_all_v y u (bs.set k (1 - bs.getD k 0)) ps q (by rw [hlen2]; omega) (by rw [HLP.out]; omega) h1 h2)
    have HIR2 := hid (fun q h => impl_read_v T2 u ps q (by omega) h)
    have HSM2 := hid (fun y z q h1 h2 => same_v y z (bs.set k (1 - bs.getD k 0)) q (by rw [hlen2]; omega) h1 h2)
    rw [hall2] at HIA2
    rw [hread2] at HIR2
    simp only at HIA2 HIR2
    have g6l := T6.out.ge
    have hb7 := hid ((Below.refl w5.heap.size w6).setCell (p := ⟨g6, k, none⟩) g6l.1 (.int .i64 (1 - bs.getD k 0)))
    have B7 := hid (B6.out.trans (hb7.out.mono B5.out.size))
    have V7 := hid (V5.out.below (Nat.le_refl _) (hb6.out.trans hb7.out))
    have U7 := hid (U5.out.below (Nat.le_refl _) (hb6.out.trans hb7.out))
    have K7 := hid (K5.out.below (Nat.le_refl _) (hb6.out.trans hb7.out))
    clear hk hx hall2 hread2 B6 V6 U6 K6 T6 HIA B5 V5 U5 K5 hb6 hb7 g6l hm3
    generalize bs.set k (1 - bs.getD k 0) = cs at *
    generalize bs.getD k 0 = X at *
    go_wp2_with fail
    refine (HIA2.out _ _ T7.out.vw U7.out).mono ?_
    generalize w6.setCell ⟨g6, k, none⟩ (.int .i64 (1 - X)) = w7 at *
    rintro e w8 ⟨rfl, hb8⟩
    have B8 := hid (B7.out.trans (hb8.mono B7.out.size))
    have V8 := hid (V7.out.below (Nat.le_refl _) hb8)
    have U8 := hid (U7.out.below (Nat.le_refl _) hb8)
    have K8 := hid (K7.out.below (Nat.le_refl _) hb8)
    have T8 := hid (T7.out.vw.below (Nat.le_refl _) hb8)
    clear hb8 B7 V7 U7 K7 T7 hold hfree
    go_wp2_with fail
    refine (HIR2.out w8 U8.out).mono ?_
    rintro e w9 ⟨other, rfl, hot, hb9⟩
    have B9 := hid (B8.out.trans (hb9.mono B8.out.size))
    have V9 := hid (V8.out.below (Nat.le_refl _) hb9)
    have K9 := hid (K8.out.below (Nat.le_refl _) hb9)
    have T9 := hid (T8.out.below (Nat.le_refl _) hb9)
    have R9 := hid hot.vw
    clear hb9 B8 V8 U8 K8 T8 hot
    go_wp2_with fail
    refine (HSM.out back w9 K9.out V9.out).mono ?_
    rintro e w10 ⟨rfl, hb10⟩
    have B10 := hid (B9.out.trans (hb10.mono B9.out.size))
    have T10 := hid (T9.out.below (Nat.le_refl _) hb10)
    have R10 := hid (R9.out.below (Nat.le_refl _) hb10)
    clear hb10 B9 V9 K9 T9 R9
    go_wp2_with fail
    refine (HSM2.out other _ w10 R10.out T10.out).mono ?_
    rintro e w11 ⟨rfl, hb11⟩
    have B11 := hid (B10.out.trans (hb11.mono B10.out.size))
    clear hb11
    go_wp2_with fail
    go_ret
    exact ⟨rfl, B11.out⟩
end Go.Proofs.Ytahknoeloclofaa
