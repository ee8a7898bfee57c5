/- The walk of the law FnPlan. -/
import Derived.Test.YtckpdmgmeolepaaDp
import Derived.Test.YtckpdmgmeolepaaNl
import Derived.Test.YtckpdmgmeolepaaPn
import Derived.Test.YtckpdmgmeolepaaPq
namespace Go.Proofs.Ytckpdmgmeolepaa
open Go.RowKit
set_option linter.unusedVariables false

theorem code_row {w : World} {ao : Option Addr} {n cap : Nat} {zs : List Int} (hr : IsRow .u8 w ao n cap zs) (hn : n ≤ 1048576) : Code w ao n (zs.take n) := ⟨hn, hr.view, hr.wf⟩
theorem over_app (a b : List Int) : ∀ s, wkOver s (a ++ b) = (wkOver s a).bind (fun t => wkOver t b) := by
  induction a with
  | nil => intro s; rfl
  | cons c a ih =>
    intro s
    rw [List.cons_append, wkOver, wkOver]
    split
    · exact ih _
    · rfl
/-- What the functions say of a number's decisions, of their beginnings and of one more. -/
theorem plan_says (x : Int) (hx : 0 ≤ sz x) : max (-1) (nextS (planP x)).1 = -1 ∧ pnV (planP x) = .tuple #[.int .i64 x, .bool true] ∧ pnV (planP x ++ [1]) = .tuple #[.int .i64 0, .bool false] := by
  have h := plan_next x hx
  refine ⟨by rw [h]; show max (-1 : Int) (-1) = -1; decide, by unfold pnV; rw [h]; rfl, ?_⟩
  obtain ⟨s, hs, _, h4, _⟩ := walk_whole x hx
  have h2 : nextS (planP x ++ [1]) = (-2, 0) := by
    rw [← next_eq]
    show outI (wkOver wk0 (planP x ++ [1])) = _
    rw [over_app, hs]
    show outI (wkOver s [1]) = _
    rw [over_told s h4 _ (by simp)]
    rfl
  unfold pnV
  rw [h2]
  rfl
theorem part_says (x : Int) (i : Nat) (hi : i < (planP x).length) : ∃ T : Nat, T ≤ 23 ∧ max (-1) (nextS ((planP x).take i)).1 = (T : Int) ∧ pnV ((planP x).take i) = .tuple #[.int .i64 0, .bool false] := by
  obtain ⟨s, _, _, _, he, h0, h23⟩ := walk_part x i hi
  refine ⟨(wkSlot s).toNat, by omega, by rw [← he]; omega, ?_⟩
  unfold pnV
  rw [← he, if_neg (by omega)]

set_option maxRecDepth 100000 in
set_option maxHeartbeats 3200000 in
theorem law_plan (ao : Option Addr) (n cap : Nat) (zs : List Int) (w : World) (hr : IsRow .u8 w ao n cap zs) :
    Calls Try.prog 3 #[.slice ao n cap] w fun e w' => e = .returned (.bool true) ∧ Below w.heap.size w w' := by
  have hlen := hr.len.1
  by_cases hl : (1048576 : Int) < (n : Int)
  · have hd : decide ((1048576 : Int) < (n : Int)) = true := by simpa using hl
    clear hr
    go_enter Try.func3, Try.ntmps3
    go_wp2_with (go_at_call 9; refine (big_any _ _ _ _).mono ?_; rw [hd]; rintro e w' ⟨rfl, rfl⟩)
    go_ret
    exact ⟨rfl, Below.refl _ _⟩
  · have hd : decide ((1048576 : Int) < (n : Int)) = false := by simpa using hl
    have HC := hid (code_row hr (by omega))
    clear hr hl
    go_enter Try.func3, Try.ntmps3
    go_wp2_with fail
    refine (big_any _ _ _ _).mono ?_
    rw [hd]
    rintro e w' ⟨rfl, rfl⟩
    clear hd
    go_wp2_with fail
    refine (draw_num ao n cap _ w HC.out).mono ?_
    rintro e w1 ⟨x, rfl, ⟨hx0, hx1⟩, hb1⟩
    have B1 := hid hb1
    clear hb1 HC
    have HNI := hid (fun q => impl_numPlan x q (by omega) hx1)
    have HNS := hid (fun q => spec_numPlan x q (by omega) hx1)
    have HSZ := hid (fun q => impl_size x q (by omega) hx1)
    have hl23 : (planP x).length ≤ 1000 := by
      have hle := sz_le x
      unfold planP
      split
      · simp
      · split
        · simp
        · simp only [List.length_cons, List.length_append, sb_length, bl_length]
          omega
    have HPS := hid (fun h => plan_says x h)
    have HPA := hid (fun i hi => part_says x i hi)
    have HEM : Hid (sz x < 0 ↔ planP x = []) := by
      refine ⟨fun h => by unfold planP; rw [if_pos h], fun h => ?_⟩
      by_cases h0 : sz x < 0
      · exact h0
      · unfold planP at h
        rw [if_neg h0] at h
        split at h <;> simp at h
    have hsl := sz_le x
    generalize sz x = SZ at *
    generalize planP x = P at *
    go_wp2_with fail
    refine (HNI.out _).mono ?_
    rintro e w2 ⟨pv, rfl, ho2, hb2⟩
    obtain ⟨po, pc, rfl, hpv, hpc⟩ := ho2.vw
    have B2 := hid (B1.out.trans (hb2.mono B1.out.size))
    have V2 := hid hpv
    have HPC := hid hpc
    have HYO : Hid ((po = none ∧ P.length = 0 ∧ pc = 0) ∨ ∃ blk off, po = some ⟨blk, off, none⟩) := by
      obtain ⟨a', c', e', _, hp⟩ := ho2.piece
      simp only [Value.slice.injEq] at e'
      obtain ⟨rfl, _, rfl⟩ := e'
      exact hp
    clear hb2 ho2 hpv hpc B1 HNI
    go_wp2_with fail
    refine (HNS.out _).mono ?_
    rintro e w3 ⟨qv, rfl, ho3, hb3⟩
    obtain ⟨qo, qc, rfl, hqv, hqc⟩ := ho3.vw
    have B3 := hid (B2.out.trans (hb3.mono B2.out.size))
    have V3 := hid (V2.out.below (Nat.le_refl _) hb3)
    have U3 := hid hqv
    clear hb3 ho3 hqv hqc B2 V2 HNS
    go_wp2_with fail
    refine (same_same po qo P.length pc qc P w3 (by omega) V3.out U3.out).mono ?_
    rintro e w4 ⟨rfl, hb4⟩
    have B4 := hid (B3.out.trans (hb4.mono B3.out.size))
    have V4 := hid (V3.out.below (Nat.le_refl _) hb4)
    clear hb4 B3 V3 U3
    by_cases hP : P.length = 0
    · have hP0 : P = [] := List.length_eq_zero_iff.1 hP
      obtain rfl : SZ = -1 := by
        have := HEM.out.2 hP0
        omega
      have hz : ((P.length : Int) == 0) = true := by simp [hP]
      clear hP hP0
      generalize P.length = N at *
      go_wp2_with fail
      refine (HSZ.out _).mono ?_
      rintro e w5 ⟨rfl, rfl⟩
      go_wp2_with fail
      go_ret
      exact ⟨rfl, B4.out⟩
    · have hz : ((P.length : Int) == 0) = false := by rw [beq_eq_false_iff_ne]; omega
      have hS0 : 0 ≤ SZ := by
        by_cases h : SZ < 0
        · exact absurd (by rw [HEM.out.1 h]; rfl) hP
        · omega
      obtain ⟨s1, s2, s3⟩ := HPS.out hS0
      have HNX := hid (fun q (hq : View .i64 q po P.length P) => impl_next po P.length pc P q (by omega) hq)
      have HPN := hid (fun q (hq : View .i64 q po P.length P) => impl_planNum po P.length pc P q (by omega) hq)
      rw [s1] at HNX
      rw [s2] at HPN
      have HPM := hid (fun v q hq => impl_planNum_v v (P ++ [1]) q (by simp; omega) hq)
      rw [s3] at HPM
      have HTK : Hid (∀ k, k < P.length → ∃ T : Nat, T ≤ 23 ∧ (∀ q, View .i64 q po P.length P → Calls Try.prog 15 #[.slice po k pc] q fun e w' => e = .returned (.int .i64 (T : Int)) ∧ Below q.heap.size q w') ∧ ∀ q, View .i64 q po P.length P → Calls Try.prog 16 #[.slice po k pc] q fun e w' => e = .returned (.tuple #[.int .i64 0, .bool false]) ∧ Below q.heap.size q w') := fun k hk => by
        obtain ⟨T, hT, h1, h2⟩ := HPA.out k hk
        have hvk : ∀ q, View .i64 q po P.length P → View .i64 q po k (P.take k) := fun q hq => ⟨by rw [List.length_take]; omega, fun i hi => by
          obtain ⟨b, off, e, hc⟩ := hq.2 i (by omega)
          refine ⟨b, off, e, ?_⟩
          rw [hc, List.getD_eq_getElem?_getD, List.getD_eq_getElem?_getD, List.getElem?_take, if_pos hi]⟩
        refine ⟨T, hT, fun q hq => ?_, fun q hq => ?_⟩
        · have := impl_next po k pc (P.take k) q (by omega) (hvk q hq)
          rw [h1] at this
          exact this
        · have := impl_planNum po k pc (P.take k) q (by omega) (hvk q hq)
          rw [h2] at this
          exact this
      clear hP HPS HPA HEM hsl hS0 s1 s2 s3 HSZ
      have hxx : (x == x) = true := by simp
      go_wp2_with fail
      go_loopw [5] (fun i wr => ∃ k : Nat, k ≤ P.length ∧ i = .int .i64 k ∧ View .i64 wr po P.length P ∧ Below w.heap.size w wr) (fun i _ => P.length - (intOf i).toNat)
      case atStart => exact ⟨0, by omega, rfl, V4.out, B4.out⟩
      case round =>
        obtain ⟨k, hk, rfl, hV, hB⟩ := hrel
        have HVr := hid hV
        have HBr := hid hB
        clear hV hB V4 B4
        by_cases hlt : k < P.length
        · have hlt' : (k : Int) < (P.length : Int) := by omega
          obtain ⟨T, hT, h15, h16⟩ := HTK.out k hlt
          have H15 := hid h15
          have H16 := hid h16
          have t1 : ¬ (T : Int) < 0 := by omega
          have t2 : ¬ (24 : Int) ≤ (T : Int) := by omega
          have hkp := hid HPC.out
          clear h15 h16
          have hkc : k ≤ pc := by have := HPC.out; omega
          go_wp2_with fail
          refine (H15.out _ HVr.out).mono ?_
          rintro e w5 ⟨rfl, hb5⟩
          have V5 := hid (HVr.out.below (Nat.le_refl _) hb5)
          have B5 := hid (HBr.out.trans (hb5.mono HBr.out.size))
          clear hb5 HVr HBr
          go_wp2_with fail
          refine (H16.out _ V5.out).mono ?_
          rintro e w6 ⟨rfl, hb6⟩
          have V6 := hid (V5.out.below (Nat.le_refl _) hb6)
          have B6 := hid (B5.out.trans (hb6.mono B5.out.size))
          clear hb6 V5 B5
          go_wp2_with fail
          go_roundw
          case rel => exact ⟨k + 1, by omega, by go_num, V6.out, B6.out⟩
          case measure => simp [intOf]; omega
        · obtain rfl : k = P.length := by omega
          clear hlt hk HTK
          go_wp2_with fail
          refine (HPN.out _ HVr.out).mono ?_
          rintro e w5 ⟨rfl, hb5⟩
          have B5 := hid (HBr.out.trans (hb5.mono HBr.out.size))
          have V5 := hid (HVr.out.below (Nat.le_refl _) hb5)
          have HO0 := hid (Own.empty w5 3 .i64 w5.heap.size (Nat.le_refl _))
          have HB0 := hid ((Below.refl w5.heap.size w5).alloc (Nat.le_refl _) (.cells #[] 3))
          have HV0 := hid (V5.out.below (Nat.le_refl _) HB0.out)
          have hlen1 : ([] : List Int).length + P.length < 1000000000000 := by simp; omega
          have hlen2 : ([] ++ P : List Int).length < 1000000000000 := by simp; omega
          clear hb5 HVr HBr
          go_wp2_with (at_builtin; refine wpList_appV _ rfl _ _ 25 rfl w5.heap.size 3 .i64 0 8 Try.underlying25 Try.info3 _ _ rfl HO0.out po P.length pc P rfl HV0.out HYO.out hlen1 (by decide) ?_)
          intro v6 w6 hown6 hb6
          have HO6 := hid hown6
          have HB6 := hid (HB0.out.trans hb6)
          clear hown6 hb6
          go_wp2_with (at_builtin; refine wpList_push _ rfl _ _ 25 rfl _ 3 .i64 0 8 Try.underlying25 Try.info3 _ _ rfl HO6.out 1 rfl hlen2 (by decide) ?_)
          intro v7 w7 hown7 hb7
          have V7 : Hid (Vw w7 v7 (P ++ [1])) := by
            have := hown7.vw
            exact hid (by simpa using this)
          have HB7 := hid (HB6.out.trans hb7)
          have B7 := hid (B5.out.trans (HB7.out.mono B5.out.size))
          have VP7 := hid (V5.out.below (Nat.le_refl _) HB7.out)
          clear hown7 hb7
          go_wp2_with fail
          refine (HPM.out _ _ V7.out).mono ?_
          rintro e w8 ⟨rfl, hb8⟩
          have B8 := hid (B7.out.trans (hb8.mono B7.out.size))
          have VP8 := hid (VP7.out.below (Nat.le_refl _) hb8)
          clear hb8
          go_wp2_with fail
          refine (HNX.out _ VP8.out).mono ?_
          rintro e w9 ⟨rfl, hb9⟩
          have B9 := hid (B8.out.trans (hb9.mono B8.out.size))
          clear hb9
          go_wp2_with fail
          go_ret
          exact ⟨rfl, B9.out⟩
end Go.Proofs.Ytckpdmgmeolepaa
