/- The contract of the program's NumPlan. -/
import Derived.Test.YtckpdmgmeolepaaPa
namespace Go.Proofs.Ytckpdmgmeolepaa
open Go.RowKit
set_option linter.unusedVariables false

theorem Own.piece {w : World} {base : Nat} {e : TypeId} {k : IntKind} {v : Value} {xs : List Int} (h : Own w base e k v xs) : ∃ ao cap, v = .slice ao xs.length cap ∧ View k w ao xs.length xs ∧ ((ao = none ∧ xs.length = 0 ∧ cap = 0) ∨ ∃ blk off, ao = some ⟨blk, off, none⟩) := by
  obtain ⟨ao, cap, e1, hv⟩ := h.view
  refine ⟨ao, cap, e1, hv, ?_⟩
  rcases h.2.2 with ⟨e2, h0⟩ | ⟨g, cap', cur, e2, _⟩
  · rw [e1] at e2
    simp only [Value.slice.injEq] at e2
    exact .inl ⟨e2.1, h0, e2.2.2⟩
  · rw [e1] at e2
    cases e2
    exact .inr ⟨_, _, rfl⟩
theorem pow_le_2048a (n : Nat) (h : n ≤ 11) : (2 : Int) ^ n ≤ 2048 := by
  have h1 := pow2_mono n (11 - n)
  rw [show n + (11 - n) = 11 by omega] at h1
  exact h1
theorem bit_if (b : Bool) (w : World) : Calls Try.prog 34 #[.bool b] w fun e w' => e = .returned (.int .i64 (bI b)) ∧ w = w' := by
  cases b
  · go_enter Try.func34, Try.ntmps34
    go_wp2_with fail
    go_ret
    exact ⟨rfl, rfl⟩
  · go_enter Try.func34, Try.ntmps34
    go_wp2_with fail
    go_ret
    exact ⟨rfl, rfl⟩
theorem l01_bool (b : Bool) (w : World) : Calls Try.prog 37 #[.bool b] w fun e w' => e = .returned (.int .i64 (bI b)) ∧ w = w' := by
  cases b
  · go_enter Try.func37, Try.ntmps37
    go_wp2_with fail
    go_ret
    exact ⟨rfl, rfl⟩
  · go_enter Try.func37, Try.ntmps37
    go_wp2_with fail
    go_ret
    exact ⟨rfl, rfl⟩

set_option maxRecDepth 100000 in
set_option maxHeartbeats 1600000 in
theorem impl_numPlan (x : Int) (w : World) (h0 : -9223372036854775808 ≤ x) (h1 : x ≤ 9223372036854775807) :
    Calls Try.prog 11 #[.int .i64 x] w fun e w' => ∃ v, e = .returned v ∧ Own w' w.heap.size 3 .i64 v (planP x) ∧ Below w.heap.size w w' := by
  have HS := hid (impl_size x w h0 h1)
  have hle := sz_le x
  by_cases a1 : sz x < 0
  · have HP : Hid (planP x = []) := by show _ = _; unfold planP; rw [if_pos a1]
    rw [HP.out]
    generalize sz x = n at *
    go_enter Try.func11, Try.ntmps11
    go_wp2_with fail
    refine HS.out.mono ?_
    rintro e w1 ⟨rfl, rfl⟩
    go_wp2_with fail
    go_ret
    exact ⟨_, rfl, Own.empty _ _ _ _ (Nat.le_refl _), (Below.refl _ _).alloc (Nat.le_refl _) _⟩
  · by_cases a2 : sz x = 0
    · have HP : Hid (planP x = [1]) := by show _ = _; unfold planP; rw [if_neg a1, if_pos a2]
      rw [HP.out]
      rw [a2] at HS
      clear a1 a2 hle
      go_enter Try.func11, Try.ntmps11
      go_wp2_with fail
      refine HS.out.mono ?_
      rintro e w1 ⟨rfl, rfl⟩
      go_wp2_with fail
      go_ret
      exact ⟨_, rfl, Own.lit w 3 .i64 w.heap.size [1] (Nat.le_refl _) (by simp), (Below.refl _ _).alloc (Nat.le_refl _) _⟩
    · obtain ⟨n, hn⟩ : ∃ n : Nat, sz x = (n : Int) := ⟨(sz x).toNat, by omega⟩
      have hn1 : 1 ≤ n := by omega
      obtain ⟨p1, p2, p3, p4, p5⟩ := sz_pow hn hn1
      have HP : Hid (planP x = 0 :: bI (decide (x < 0)) :: (sb n (min n 10) ++ (bl (rbX (x.natAbs : Int) n) n).drop 1)) := by
        show _ = _
        unfold planP
        rw [if_neg a1, if_neg a2, hn, Int.toNat_natCast, bl_drop _ _ hn1]
      rw [HP.out]
      rw [hn] at HS
      have HNB := hid (fun q => impl_numBits (x.natAbs : Int) n q (by omega) (by omega) p2)
      have hmax : max x (-x) = (x.natAbs : Int) := by omega
      have HBI := hid (fun b q => bit_if b q)
      have HLN := hid (bl_length (rbX (x.natAbs : Int) n) n)
      generalize bl (rbX (x.natAbs : Int) n) n = BB at *
      clear a1 a2 hle p1 p2 hn
      go_enter Try.func11, Try.ntmps11
      go_wp2_with fail
      refine HS.out.mono ?_
      rintro e w1 ⟨rfl, rfl⟩
      go_wp2_with fail
      refine (HBI.out _ _).mono ?_
      rintro e w1 ⟨rfl, rfl⟩
      have HO0 := hid (Own.lit w 3 .i64 w.heap.size [0, bI (decide (x < 0))] (Nat.le_refl _) (by simp))
      have HB0 := hid ((Below.refl w.heap.size w).alloc (Nat.le_refl _) (.cells ([0, bI (decide (x < 0))].map (Value.int .i64)).toArray 3))
      go_wp2_with fail
      generalize hSG : bI (decide (x < 0)) = SG at *
      have HSG := hid hSG
      clear hSG
      go_loopw [4, 5] (fun p i wr => ∃ (k : Nat), k ≤ min n 10 ∧ i = .int .i64 ((k + 1 : Nat) : Int) ∧ Own wr w.heap.size 3 .i64 p (0 :: SG :: sb n k) ∧ Below w.heap.size w wr) (fun _ i _ => 12 - (intOf i).toNat)
      case atStart => exact ⟨0, by omega, rfl, HO0.out, HB0.out⟩
      case round =>
        obtain ⟨k, hk, rfl, hO, hB⟩ := hrel
        have HO := hid hO
        have HB := hid hB
        clear hO hB HO0 HB0
        by_cases hlt : k < min n 10
        · have hk' : ((k + 1 : Nat) : Int) ≤ min (n : Int) 10 := by omega
          have hlen : (0 :: SG :: sb n k).length < 1000000000000 := by simp [sb_length]; omega
          have HSB := hid (sb_succ n k)
          go_wp2_with fail
          refine (HBI.out _ _).mono ?_
          rintro e w1 ⟨rfl, rfl⟩
          generalize bI (decide ((k : Int) + 1 < (n : Int))) = BV at *
          go_wp2_with (at_builtin; refine wpList_push _ rfl _ _ 25 rfl _ 3 .i64 0 8 Try.underlying25 Try.info3 _ _ rfl HO.out BV rfl hlen (by decide) ?_)
          intro v1 w1 hown1 hb1
          have HO1 := hid hown1
          have HB1 := hid (HB.out.trans hb1)
          clear hown1 hb1
          go_wp2_with fail
          go_roundw
          case rel =>
            refine ⟨k + 1, by omega, by go_num, ?_, HB1.out⟩
            rw [HSB.out]
            exact HO1.out
          case measure => simp [intOf]; omega
        · have hk' : ¬ ((k + 1 : Nat) : Int) ≤ min (n : Int) 10 := by omega
          obtain rfl : k = min n 10 := by omega
          go_wp2_with fail
          refine (HNB.out wr).mono ?_
          rintro e w1 ⟨v2, rfl, ho2, hb2⟩
          obtain ⟨g, cap, rfl, hv2, hc2⟩ : ∃ g cap, v2 = .slice (some ⟨g, 0, none⟩) n cap ∧ View .i64 w1 (some ⟨g, 0, none⟩) n BB ∧ n ≤ cap := by
            obtain ⟨ao, cap, e, hv⟩ := ho2.view
            rw [HLN.out] at e hv
            rcases ho2.2.2 with ⟨e2, h0⟩ | ⟨g, cap', cur, e2, _, _, hc, _⟩
            · rw [HLN.out] at h0
              omega
            · rw [HLN.out] at e2 hc
              rw [e] at e2
              cases e2
              exact ⟨g, _, e, hv, hc⟩
          have HO2 := hid (HO.out.below (hb2))
          have HB2 := hid (HB.out.trans (hb2.mono HB.out.size))
          have HV2 : Hid (View .i64 w1 (if cap = 1 then some ⟨g, 0, none⟩ else some ⟨g, 1, none⟩) (n - 1) (BB.drop 1)) := by
            by_cases c1 : cap = 1
            · exact ⟨by rw [List.length_drop, HLN.out], fun i hi => by omega⟩
            · rw [if_neg c1]
              refine ⟨by rw [List.length_drop, HLN.out], fun i hi => ?_⟩
              obtain ⟨b', off', he, hc⟩ := hv2.2 (1 + i) (by omega)
              cases he
              refine ⟨g, 1, rfl, ?_⟩
              rw [Nat.zero_add] at hc
              rw [hc]
              simp [List.getD_eq_getElem?_getD, Nat.add_comm]
          have hn1' : (1 : Int) ≤ (n : Int) := by omega
          have hlen : (0 :: SG :: sb n (min n 10)).length + (BB.drop 1).length < 1000000000000 := by rw [List.length_drop, HLN.out]; simp [sb_length]; omega
          have hyo : ((if cap = 1 then some ⟨g, 0, none⟩ else some ⟨g, 1, none⟩ : Option Addr) = none ∧ n - 1 = 0 ∧ cap - 1 = 0) ∨ ∃ blk off, (if cap = 1 then some ⟨g, 0, none⟩ else some ⟨g, 1, none⟩ : Option Addr) = some ⟨blk, off, none⟩ := by
            right
            split
            · exact ⟨_, _, rfl⟩
            · exact ⟨_, _, rfl⟩
          have HYO := hid hyo
          clear ho2 hb2 hv2 hyo
          go_wp2_with (at_builtin; refine wpList_appV _ rfl _ _ 25 rfl w.heap.size 3 .i64 0 8 Try.underlying25 Try.info3 _ _ rfl HO2.out (if cap = 1 then some ⟨g, 0, none⟩ else some ⟨g, 1, none⟩) (n - 1) (cap - 1) (BB.drop 1) ?_ HV2.out HYO.out hlen (by decide) ?_)
          all_goals
            intro v3 w3 hown3 hb3
            have HO3 := hid hown3
            have HB3 := hid (HB2.out.trans hb3)
            obtain ⟨ao3, cap3, rfl⟩ := hown3.shape
            clear hown3 hb3
            go_wp2_with fail
            go_ret
            refine ⟨_, rfl, ?_, HB3.out⟩
            rw [HSG.out]
            simpa using HO3.out

set_option maxRecDepth 100000 in
set_option maxHeartbeats 1600000 in
theorem spec_numPlan (x : Int) (w : World) (h0 : -9223372036854775808 ≤ x) (h1 : x ≤ 9223372036854775807) :
    Calls Try.prog 13 #[.int .i64 x] w fun e w' => ∃ v, e = .returned v ∧ Own w' w.heap.size 3 .i64 v (planP x) ∧ Below w.heap.size w w' := by
  have HS := hid (spec_size x w h0 h1)
  have hle := sz_le x
  by_cases a1 : sz x < 0
  · have HP : Hid (planP x = []) := by show _ = _; unfold planP; rw [if_pos a1]
    rw [HP.out]
    generalize sz x = n at *
    go_enter Try.func13, Try.ntmps13
    go_wp2_with fail
    refine HS.out.mono ?_
    rintro e w1 ⟨rfl, rfl⟩
    go_wp2_with fail
    go_ret
    exact ⟨_, rfl, Own.empty _ _ _ _ (Nat.le_refl _), (Below.refl _ _).alloc (Nat.le_refl _) _⟩
  · by_cases a2 : sz x = 0
    · have HP : Hid (planP x = [1]) := by show _ = _; unfold planP; rw [if_neg a1, if_pos a2]
      rw [HP.out]
      rw [a2] at HS
      clear a1 a2 hle
      go_enter Try.func13, Try.ntmps13
      go_wp2_with fail
      refine HS.out.mono ?_
      rintro e w1 ⟨rfl, rfl⟩
      go_wp2_with fail
      go_ret
      exact ⟨_, rfl, Own.lit w 3 .i64 w.heap.size [1] (Nat.le_refl _) (by simp), (Below.refl _ _).alloc (Nat.le_refl _) _⟩
    · obtain ⟨n, hn⟩ : ∃ n : Nat, sz x = (n : Int) := ⟨(sz x).toNat, by omega⟩
      have hn1 : 1 ≤ n := by omega
      obtain ⟨p1, p2, p3, p4, p5⟩ := sz_pow hn hn1
      have HP : Hid (planP x = 0 :: bI (decide (x < 0)) :: (sb n (min n 10) ++ bl (rbX ((x.natAbs : Int) - 2 ^ (n - 1)) (n - 1)) (n - 1))) := by
        show _ = _
        unfold planP
        rw [if_neg a1, if_neg a2, hn, Int.toNat_natCast]
      rw [HP.out]
      rw [hn] at HS
      have hpw : (2 : Int) ^ n = 2 ^ (n - 1) * 2 := by
        rw [← Int.pow_succ]
        congr 1
        omega
      have hpos : (0 : Int) < 2 ^ (n - 1) := Int.pow_pos (by decide)
      have HNB := hid (fun q => spec_numBits ((x.natAbs : Int) - 2 ^ (n - 1)) (n - 1) q (by omega) (by omega) (by omega))
      have HPO := hid (fun q => pow2_any (n - 1) q (by omega))
      have e1 : ((n - 1 : Nat) : Int) = (n : Int) - 1 := by omega
      rw [e1] at HPO HNB
      have HBI := hid (fun b q => l01_bool b q)
      have HLN := hid (bl_length (rbX ((x.natAbs : Int) - 2 ^ (n - 1)) (n - 1)) (n - 1))
      generalize bl (rbX ((x.natAbs : Int) - 2 ^ (n - 1)) (n - 1)) (n - 1) = BB at *
      have hPN : 2 ^ (n - 1) ≤ (x.natAbs : Int) := p1
      have hpwb := pow_le_2048a (n - 1) (by omega)
      generalize (2 : Int) ^ (n - 1) = PW at *
      clear a1 a2 hle p1 p2 hn hpw e1
      go_enter Try.func13, Try.ntmps13
      go_wp2_with fail
      refine HS.out.mono ?_
      rintro e w1 ⟨rfl, rfl⟩
      go_wp2_with fail
      refine (HBI.out _ _).mono ?_
      rintro e w1 ⟨rfl, rfl⟩
      have HO0 := hid (Own.lit w 3 .i64 w.heap.size [0, bI (decide (x < 0))] (Nat.le_refl _) (by simp))
      have HB0 := hid ((Below.refl w.heap.size w).alloc (Nat.le_refl _) (.cells ([0, bI (decide (x < 0))].map (Value.int .i64)).toArray 3))
      go_wp2_with fail
      generalize hSG : bI (decide (x < 0)) = SG at *
      have HSG := hid hSG
      clear hSG
      go_loopw [4, 5] (fun p i wr => ∃ (k : Nat), k ≤ 10 ∧ k < n ∧ i = .int .i64 ((k + 1 : Nat) : Int) ∧ Own wr w.heap.size 3 .i64 p (0 :: SG :: sb n k) ∧ Below w.heap.size w wr) (fun _ i _ => 12 - (intOf i).toNat)
      case atStart => exact ⟨0, by omega, by omega, rfl, HO0.out, HB0.out⟩
      case round =>
        obtain ⟨k, hk, hkn, rfl, hO, hB⟩ := hrel
        have HO := hid hO
        have HB := hid hB
        clear hO hB HO0 HB0
        by_cases hlt : k < 10
        · have hk' : ((k + 1 : Nat) : Int) ≤ 10 := by omega
          have hlen : (0 :: SG :: sb n k).length < 1000000000000 := by simp [sb_length]; omega
          have HSB := hid (sb_succ n k)
          go_wp2_with fail
          refine (HBI.out _ _).mono ?_
          rintro e w1 ⟨rfl, rfl⟩
          generalize bI (decide ((k : Int) + 1 < (n : Int))) = BV at *
          by_cases hbr : n = k + 1
          · have hbr' : (n : Int) ≤ (k : Int) + 1 := by omega
            have HBR := hid hbr
            clear hbr
            go_wp2_with (at_builtin; refine wpList_push _ rfl _ _ 25 rfl _ 3 .i64 0 8 Try.underlying25 Try.info3 _ _ rfl HO.out BV rfl hlen (by decide) ?_)
            intro v1 w1 hown1 hb1
            have HO1 : Hid (Own w1 w.heap.size 3 .i64 v1 (0 :: SG :: sb n (min n 10))) := by
              have e2 : min n 10 = k + 1 := by have := HBR.out; omega
              rw [e2, HSB.out]
              exact hown1
            have HB1 := hid (HB.out.trans hb1)
            clear hown1 hb1 HO HB hlen HSB
            by_cases hx0 : x < 0
            · rw [show (x.natAbs : Int) = -x by omega] at HNB hPN
              go_wp2_with fail
              refine (HPO.out _).mono ?_
              rintro e w5 ⟨rfl, rfl⟩
              go_wp2_with fail
              refine (HNB.out _).mono ?_
              rintro e w6 ⟨v2, rfl, ho2, hb2⟩
              obtain ⟨ao2, cap2, rfl, hv2, hyo⟩ := ho2.piece
              have HO2 := hid (HO1.out.below hb2)
              have HB2 := hid (HB1.out.trans (hb2.mono HB1.out.size))
              have HV2 := hid hv2
              have HYO := hid hyo
              have hlen : (0 :: SG :: sb n (min n 10)).length + BB.length < 1000000000000 := by rw [HLN.out]; simp [sb_length]; omega
              clear ho2 hb2 hv2 hyo
              go_wp2_with (at_builtin; refine wpList_appV _ rfl _ _ 25 rfl w.heap.size 3 .i64 0 8 Try.underlying25 Try.info3 _ _ rfl HO2.out ao2 BB.length cap2 BB rfl HV2.out HYO.out hlen (by decide) ?_)
              intro v3 w3 hown3 hb3
              have HO3 := hid hown3
              have HB3 := hid (HB2.out.trans hb3)
              obtain ⟨ao3, cap3, rfl⟩ := hown3.shape
              clear hown3 hb3
              go_wp2_with fail
              go_ret
              refine ⟨_, rfl, ?_, HB3.out⟩
              rw [HSG.out]
              simpa using HO3.out
            · rw [show (x.natAbs : Int) = x by omega] at HNB hPN
              go_wp2_with fail
              refine (HPO.out _).mono ?_
              rintro e w5 ⟨rfl, rfl⟩
              go_wp2_with fail
              refine (HNB.out _).mono ?_
              rintro e w6 ⟨v2, rfl, ho2, hb2⟩
              obtain ⟨ao2, cap2, rfl, hv2, hyo⟩ := ho2.piece
              have HO2 := hid (HO1.out.below hb2)
              have HB2 := hid (HB1.out.trans (hb2.mono HB1.out.size))
              have HV2 := hid hv2
              have HYO := hid hyo
              have hlen : (0 :: SG :: sb n (min n 10)).length + BB.length < 1000000000000 := by rw [HLN.out]; simp [sb_length]; omega
              clear ho2 hb2 hv2 hyo
              go_wp2_with (at_builtin; refine wpList_appV _ rfl _ _ 25 rfl w.heap.size 3 .i64 0 8 Try.underlying25 Try.info3 _ _ rfl HO2.out ao2 BB.length cap2 BB rfl HV2.out HYO.out hlen (by decide) ?_)
              intro v3 w3 hown3 hb3
              have HO3 := hid hown3
              have HB3 := hid (HB2.out.trans hb3)
              obtain ⟨ao3, cap3, rfl⟩ := hown3.shape
              clear hown3 hb3
              go_wp2_with fail
              go_ret
              refine ⟨_, rfl, ?_, HB3.out⟩
              rw [HSG.out]
              simpa using HO3.out
          · have hbr' : ¬ (n : Int) ≤ (k : Int) + 1 := by omega
            go_wp2_with (at_builtin; refine wpList_push _ rfl _ _ 25 rfl _ 3 .i64 0 8 Try.underlying25 Try.info3 _ _ rfl HO.out BV rfl hlen (by decide) ?_)
            intro v1 w1 hown1 hb1
            have HO1 := hid hown1
            have HB1 := hid (HB.out.trans hb1)
            clear hown1 hb1
            go_wp2_with fail
            go_roundw
            case rel =>
              refine ⟨k + 1, by omega, by omega, by go_num, ?_, HB1.out⟩
              rw [HSB.out]
              exact HO1.out
            case measure => simp [intOf]; omega
        · have hk' : ¬ ((k + 1 : Nat) : Int) ≤ 10 := by omega
          obtain rfl : k = 10 := by omega
          have HO1 : Hid (Own wr w.heap.size 3 .i64 u4 (0 :: SG :: sb n (min n 10))) := by
            rw [show min n 10 = 10 by omega]
            exact HO.out
          clear HO
          by_cases hx0 : x < 0
          · rw [show (x.natAbs : Int) = -x by omega] at HNB hPN
            go_wp2_with fail
            refine (HPO.out _).mono ?_
            rintro e w5 ⟨rfl, rfl⟩
            go_wp2_with fail
            refine (HNB.out _).mono ?_
            rintro e w6 ⟨v2, rfl, ho2, hb2⟩
            obtain ⟨ao2, cap2, rfl, hv2, hyo⟩ := ho2.piece
            have HO2 := hid (HO1.out.below hb2)
            have HB2 := hid (HB.out.trans (hb2.mono HB.out.size))
            have HV2 := hid hv2
            have HYO := hid hyo
            have hlen : (0 :: SG :: sb n (min n 10)).length + BB.length < 1000000000000 := by rw [HLN.out]; simp [sb_length]; omega
            clear ho2 hb2 hv2 hyo
            go_wp2_with (at_builtin; refine wpList_appV _ rfl _ _ 25 rfl w.heap.size 3 .i64 0 8 Try.underlying25 Try.info3 _ _ rfl HO2.out ao2 BB.length cap2 BB rfl HV2.out HYO.out hlen (by decide) ?_)
            intro v3 w3 hown3 hb3
            have HO3 := hid hown3
            have HB3 := hid (HB2.out.trans hb3)
            obtain ⟨ao3, cap3, rfl⟩ := hown3.shape
            clear hown3 hb3
            go_wp2_with fail
            go_ret
            refine ⟨_, rfl, ?_, HB3.out⟩
            rw [HSG.out]
            simpa using HO3.out
          · rw [show (x.natAbs : Int) = x by omega] at HNB hPN
            go_wp2_with fail
            refine (HPO.out _).mono ?_
            rintro e w5 ⟨rfl, rfl⟩
            go_wp2_with fail
            refine (HNB.out _).mono ?_
            rintro e w6 ⟨v2, rfl, ho2, hb2⟩
            obtain ⟨ao2, cap2, rfl, hv2, hyo⟩ := ho2.piece
            have HO2 := hid (HO1.out.below hb2)
            have HB2 := hid (HB.out.trans (hb2.mono HB.out.size))
            have HV2 := hid hv2
            have HYO := hid hyo
            have hlen : (0 :: SG :: sb n (min n 10)).length + BB.length < 1000000000000 := by rw [HLN.out]; simp [sb_length]; omega
            clear ho2 hb2 hv2 hyo
            go_wp2_with (at_builtin; refine wpList_appV _ rfl _ _ 25 rfl w.heap.size 3 .i64 0 8 Try.underlying25 Try.info3 _ _ rfl HO2.out ao2 BB.length cap2 BB rfl HV2.out HYO.out hlen (by decide) ?_)
            intro v3 w3 hown3 hb3
            have HO3 := hid hown3
            have HB3 := hid (HB2.out.trans hb3)
            obtain ⟨ao3, cap3, rfl⟩ := hown3.shape
            clear hown3 hb3
            go_wp2_with fail
            go_ret
            refine ⟨_, rfl, ?_, HB3.out⟩
            rw [HSG.out]
            simpa using HO3.out
end Go.Proofs.Ytckpdmgmeolepaa
