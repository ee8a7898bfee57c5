/- FromCells of the specification. -/
import Derived.Test.YtcodmkampihphaaDoorSd
namespace Go.Proofs.YtcodmkampihphaaDoor
open Go.RowKit
set_option linter.unusedVariables false

set_option maxRecDepth 20000 in
set_option maxHeartbeats 800000 in
theorem spec_from (S : List Int) (hS : S.length = 64) (w : World) :
    Calls Tryd.prog 19 #[.agg (ivs S).toArray] w fun e w' => ∃ v, e = .returned (.tuple #[v, .bool (fcOk S)]) ∧ BOwn w' w.heap.size v (fcD S) (fcA S) ∧ Below w.heap.size w w' := by
  have HB0 := hid ((((Below.refl w.heap.size w).alloc (Nat.le_refl _) (.cells (ivs S).toArray 30)).alloc (by simp) (.cells #[.int .i64 0, .slice none 0 0] 28)).alloc (by simp; omega) (.cells #[.int .i64 (S.getD 0 0), .slice none 0 0] 28))
  have HS0 := hid (((Blk.new w (ivs S) 30).alloc (.cells #[.int .i64 0, .slice none 0 0] 28)).alloc (.cells #[.int .i64 (S.getD 0 0), .slice none 0 0] 28))
  have HR0 := hid ((Blk.newG (w := w.alloc (.cells (ivs S).toArray 30)) (g := w.heap.size + 1) (by simp) [.int .i64 0, .slice none 0 0] 28).alloc (.cells #[.int .i64 (S.getD 0 0), .slice none 0 0] 28))
  have HT0 := hid (Blk.newG (w := (w.alloc (.cells (ivs S).toArray 30)).alloc (.cells #[.int .i64 0, .slice none 0 0] 28)) (g := w.heap.size + 1 + 1) (by simp) [.int .i64 (S.getD 0 0), .slice none 0 0] 28)
  have HL := hid hS
  have HK := hid (acTo_len S)
  have q0 := ivs_get S 0 (by rw [hS]; decide)
  have HDD : Hid (fcOk S = blkOk (S.getD 0 0) (acTo S 63)) := rfl
  have HFD : Hid (fcD S = if fcOk S = true then S.getD 0 0 else 0) := rfl
  have HFA : Hid (fcA S = if fcOk S = true then acTo S 63 else []) := rfl
  clear hS
  generalize S.getD 0 0 = d at *
  go_enter Tryd.func19, Tryd.ntmps19
  go_wp2_with fail
  go_loopw [5] (fun i wr => ∃ (k : Nat) (va : Value), k ≤ 63 ∧ i = .int .i64 ((k : Int) + 1) ∧ Hid (Blk wr (w.heap.size + 1 + 1) [.int .i64 d, va] 28) ∧ Hid (Own wr (w.heap.size + 1 + 1 + 1) 3 .i64 va (acTo S k)) ∧ Hid (Blk wr (w.heap.size + 1) [.int .i64 0, .slice none 0 0] 28) ∧ Hid (Blk wr w.heap.size (ivs S) 30) ∧ Hid (Below w.heap.size w wr)) (fun i _ => 64 - (intOf i).toNat)
  case atStart => exact ⟨0, _, by omega, rfl, HT0.out, Own.nil _ _ _ _ (by simp), HR0.out, HS0.out, HB0.out⟩
  case round =>
    obtain ⟨k, va, hk, rfl, hT, hO, hR, hS, hB⟩ := hrel
    by_cases hlt : k < 63
    · have hlt' : (k : Int) + 1 < 64 := by omega
      have HZ := hid (spec_zigzag ((k : Int) + 1) wr)
      obtain ⟨⟨r0, r1⟩, ⟨c0, c1⟩, he⟩ := zz_all ⟨k + 1, by omega⟩
      have e1 : ((k + 1 : Nat) : Int) = (k : Int) + 1 := rfl
      simp only [e1] at r0 r1 c0 c1 he
      clear e1
      have HN : Hid (acTo S (k + 1) = acTo S k ++ [S.getD (zt.getD (k + 1) 0).toNat 0]) := rfl
      rw [← he] at HN
      have hcl := hS.out.cell (ivs_get S (8 * zr ((k : Int) + 1) + zc ((k : Int) + 1)).toNat (by rw [HL.out]; omega))
      have t1 := hT.out.cell (i := 1) rfl
      have tf := hT.out.free 1
      have hTl := hT.out.lt
      have hSl : w.heap.size < wr.heap.size := by omega
      clear he
      generalize zr ((k : Int) + 1) = R at *
      generalize zc ((k : Int) + 1) = C at *
      have j8 : IntKind.i64.wrap (8 * R) = 8 * R := by rw [IntKind.wrap_i64]; omega
      obtain ⟨I, hI⟩ : ∃ I, 8 * R + C = I := ⟨_, rfl⟩
      have i0 : 0 ≤ I := by omega
      have i1 : I < 64 := by omega
      have jI : IntKind.i64.wrap I = I := by rw [IntKind.wrap_i64]; omega
      rw [hI] at HN hcl
      generalize S.getD I.toNat 0 = x at *
      obtain ⟨ao, cap, rfl⟩ := hO.out.shape
      go_wp2_with fail
      refine HZ.out.mono ?_
      rintro e w2 ⟨rfl, rfl⟩
      go_wp2_with fail
      go_region_law (refine step_push1g wr.drew wr.heap.size rfl rfl (.tmp 21) (.tmp 28) 26 rfl _ 3 .i64 0 8 Tryd.underlying26 Tryd.info3 _ _ rfl hO.out.drew1 x rfl (by rw [HK.out]; omega) (by decide) ?_; intro v3 w3 ho3 hb3; obtain ⟨ao3, cap3, rfl⟩ := ho3.shape; simp only [List.length_append, List.length_cons, List.length_nil, Nat.zero_add] at ho3; have T3 := hid (Blk.below (hT.out.drew 1) hb3 (Nat.lt_succ_self _)); have z1 := T3.out.cell (i := 1) rfl; have zf := T3.out.free 1; have HO3 := hid ho3; have HB3 := hid hb3; clear ho3 hb3)
      all_goals
        have HBW := hid (hB.out.trans (Below.trans (belowN (Below.refl _ _) 1) (HB3.out.mono (by omega))))
        go_wp2_with fail
        go_roundw
        case rel => exact ⟨k + 1, _, by omega, by go_num, T3.out.set 1 _, by rw [HN.out]; exact Own.setB (C := w.heap.size + 1 + 1) HO3.out (by omega) _, Blk.otherB (Blk.below (hR.out.drew 1) HB3.out (by omega)) (by omega) _, Blk.otherB (Blk.below (hS.out.drew 1) HB3.out (by omega)) (by omega) _, belowSet HBW.out (by omega) _⟩
        case measure => simp [intOf]; omega
    · obtain rfl : k = 63 := by omega
      obtain ⟨ao, cap, rfl⟩ := hO.out.shape
      have q1 := hT.out.cell (i := 0) rfl
      have q2 := hT.out.cell (i := 1) rfl
      have HOK := hid (spec_blockOk (.agg #[.int .i64 d, .slice ao (acTo S 63).length cap]) d (acTo S 63) wr (by rw [HK.out]; decide) (BOwn.bv ⟨_, rfl, hO.out⟩))
      have HO := hid hO.out
      have HT := hid hT.out
      have HR := hid hR.out
      have HB := hid hB.out
      have hTl := hT.out.lt
      rw [← HDD.out] at HOK
      clear hT hO hR hS hB hk hlt q0 HDD HS0 HR0 HT0 HB0
      generalize acTo S 63 = A at *
      cases hok : fcOk S with
      | true =>
        rw [hok] at HOK HFD HFA
        simp only [if_true] at HFD HFA
        have HK2 := hid hok
        clear hok
        go_wp2_with fail
        refine HOK.out.mono ?_
        rintro e w2 ⟨rfl, hb2⟩
        have HT2 := hid (HT.out.below hb2 HT.out.lt)
        have HR2 := hid (HR.out.below hb2 HR.out.lt)
        have HO2 := hid (HO.out.below hb2)
        have HB2 := hid (HB.out.trans (hb2.mono HB.out.size))
        have t1 := HT2.out.cell (i := 0) rfl
        have t2 := HT2.out.cell (i := 1) rfl
        have s0 := HR2.out.cell (i := 0) rfl
        have s1 := HR2.out.cell (i := 1) rfl
        have f0 := HR2.out.free 0
        have f1 := HR2.out.free 1
        clear hb2 q1 q2
        go_wp2_with fail
        refine bodyPost_ret (v := .tuple #[.agg #[.int .i64 d, .slice ao A.length cap], .bool true]) (by simp [results, Tryd.results19, go_sem, s0, s1]) rfl ⟨.agg #[.int .i64 d, .slice ao A.length cap], by rw [HK2.out], ?_, ?_⟩
        · rw [HFD.out, HFA.out]
          exact ⟨_, rfl, ((HO2.out.setB (by omega) _).setB (by omega) _).mono (by omega)⟩
        · exact belowSet (belowSet HB2.out (by omega) _) (by omega) _
      | false =>
        rw [hok] at HOK HFD HFA
        simp only [if_neg (show ¬ false = true by decide)] at HFD HFA
        have HK2 := hid hok
        clear hok
        go_wp2_with fail
        refine HOK.out.mono ?_
        rintro e w2 ⟨rfl, hb2⟩
        have HR2 := hid (HR.out.below hb2 HR.out.lt)
        have HB2 := hid (HB.out.trans (hb2.mono HB.out.size))
        have s0 := HR2.out.cell (i := 0) rfl
        have s1 := HR2.out.cell (i := 1) rfl
        have f0 := HR2.out.free 0
        have f1 := HR2.out.free 1
        clear hb2 q1 q2
        go_wp2_with fail
        refine bodyPost_ret (v := .tuple #[.agg #[.int .i64 0, .slice none 0 0], .bool false]) (by simp [results, Tryd.results19, go_sem, s0, s1]) rfl ⟨.agg #[.int .i64 0, .slice none 0 0], by rw [HK2.out], ?_, ?_⟩
        · rw [HFD.out, HFA.out]
          exact bown_zero _ _ (by have := HB2.out.size; simpa using this)
        · exact belowSet (belowSet HB2.out (by omega) _) (by omega) _
end Go.Proofs.YtcodmkampihphaaDoor
