/- The law FnLog. -/
import Derived.Test.YtphhgfgmlfdkiaaDs
import Derived.Test.YtphhgfgmlfdkiaaFla
import Derived.Test.YtphhgfgmlfdkiaaLp
import Derived.Test.YtphhgfgmlfdkiaaOp
import Derived.Test.YtphhgfgmlfdkiaaBg
import Derived.Test.YtphhgfgmlfdkiaaLb
import Derived.Test.YtphhgfgmlfdkiaaQg
namespace Go.Proofs.Ytphhgfgmlfdkiaa
open Go.RowKit
set_option linter.unusedVariables false

theorem Rw.part {w : World} {ao : Option Addr} {T : List ByteArray} (h : Rw w ao (encS T)) (m : Nat) : Rw w ao (encS (T.take m)) := fun j v hj => h j v (by
  unfold encS at hj ⊢
  rw [List.map_take] at hj
  rw [List.getElem?_take] at hj
  split at hj
  · exact hj
  · cases hj)

/-- A log that has nothing on it. -/
theorem sAt_rep (k j : Nat) : sAt (List.replicate k ByteArray.empty) j = ByteArray.empty := by
  unfold sAt List.getD
  rw [List.getElem?_replicate]
  split <;> rfl
theorem Sy2.zero : Sy2 (List.replicate 30 ByteArray.empty) [] [] 0 0 0 0 :=
  Sy2.quiet ⟨⟨by simp, by simp⟩, fun j hj => by rw [sAt_rep]; decide, fun j hj => by simp at hj⟩ (by simp) ⟨by omega, by simp⟩ ⟨rfl, rfl⟩ (fun i _ hi => by rw [sAt_rep]; rfl)

set_option maxRecDepth 100000 in
set_option maxHeartbeats 6400000 in
theorem law_log (ao : Option Addr) (n cap : Nat) (zs : List Int) (w : World) (hn : n ≤ 1048576) (hcode : Code w ao n zs) :
    Calls Try.prog 3 #[.slice ao n cap] w fun e w' => e = .returned (.bool true) ∧ Below w.heap.size w w' := by
  have HC := hid hcode
  have hbig : decide ((1048576 : Int) < (n : Int)) = false := decide_eq_false (by omega)
  clear hcode
  go_enter Try.func3, Try.ntmps3
  go_wp2_with (go_at_call 9; refine (big_any ao n cap w).mono ?_; rintro e w1 ⟨rfl, rfl⟩; rw [hbig])
  refine (draw_story ao n cap zs w HC.out).mono ?_
  rintro e w1 ⟨v, tv, kv, rfl, T, ks, ht1, ht6, hts, hks, ⟨va, vb, rfl, g1, g2⟩, gT, gK, hb1⟩
  have HSY : Hid (Sy2 (List.replicate 30 ByteArray.empty) [] (T.take 0) 0 0 0 0) := hid (by rw [List.take_zero]; exact Sy2.zero)
  generalize List.replicate 30 ByteArray.empty = S0 at *
  obtain ⟨xa, xc, rfl, _, _⟩ := g1.shape
  obtain ⟨ya, yc, rfl, _, _⟩ := g2.shape
  obtain ⟨la, lc, rfl, _, hlc⟩ := gT.shape
  obtain ⟨ka, kc, rfl, hkv⟩ := gK.view
  obtain ⟨lb, lo, rfl, _⟩ := gT.rw.atS 0 (by omega)
  have HT1 := hid gT.rw
  have HK1 := hid hkv
  have HV1 := hid (show View .u8 w1 ao n zs from HC.out.2.1.below (Nat.le_refl _) hb1)
  have HB1 := hid hb1
  have ba := (Below.refl w1.heap.size w1).alloc (Nat.le_refl _) (.cells #[.slice xa S0.length xc, .slice ya (0 : Nat) yc] 27)
  have N := hid (Blk.new w1 [.slice xa S0.length xc, .slice ya (0 : Nat) yc] 27)
  have D := hid (show DO (w1.alloc (.cells #[.slice xa S0.length xc, .slice ya (0 : Nat) yc] 27)) w.heap.size (.agg #[.slice xa S0.length xc, .slice ya (0 : Nat) yc]) S0 [] from ⟨_, _, rfl, g1.below ba, g2.below ba⟩)
  have B := hid ba
  have HTS := hid hts
  have hw01 := hb1.size
  clear g1 g2 gT gK hkv hb1 ba HC hbig hts
  go_wp2_with fail
  generalize w1.alloc (.cells #[.slice xa S0.length xc, .slice ya (0 : Nat) yc] 27) = wa at *
  go_loopw [6, 7, 8] (fun t f i wr => ∃ (k p sf ps : Nat) (S : List ByteArray) (L : List (Int × ByteArray)) (va vb : Value), k ≤ T.length ∧ i = .int .i64 k ∧ t = .int .i64 p ∧ f = .int .i64 sf ∧ Hid (Blk wr w1.heap.size [va, vb] 27) ∧ Hid (DO wr w.heap.size (.agg #[va, vb]) S L) ∧ Hid (Sy2 S L (T.take k) p sf ps k) ∧ Hid (Below w1.heap.size w1 wr)) (fun _ _ i _ => T.length - (intOf i).toNat)
  case atStart => exact ⟨0, 0, 0, 0, S0, [], _, _, by omega, rfl, rfl, rfl, N.out, D.out, HSY.out, B.out⟩
  case round =>
    obtain ⟨k, p, sf, ps, S, L, va, vb, hk, rfl, rfl, rfl, N2, D2, SY, BB⟩ := hrel
    clear N D HSY B
    by_cases hlt : k < T.length
    · have hlt' : (k : Int) < (T.length : Int) := by omega
      go_wp2_with fail
      obtain ⟨lb2, lo2, e2, hcs⟩ := (HT1.out.below (Nat.le_refl _) BB.out).atS k hlt
      cases e2
      have hss := HTS.out k hlt
      have SY' := SY.out
      have hSl := SY'.len
      have hbd := SY'.bd
      refine fl_region _ w1.heap.size lb lo T.length lc k p va vb _ _ _ _ _ _ _ _ _ _ _ _ _ _ _ _ _ _ _ _ _ _ _ _ _ _ _ _ _ _ _ _ _ _ _ _ _ _ _ _ _ _ _ _ _ _ _ _ _ _ _ _ _ _ _ _ _ _ _ _ _ _ _ _ _ _ _ _ _ _ _ _ _ _ _ _ _ _ _ _ _ _ _ _ _ _ _ _ _ _ _ _ _ _ _ _ _ _ _ _ _ _ _ _ _ _ _ _ _ _ _ _ _ _ _ _ _ _ _ _ _ _ _ _ _ _ _ _ _ _ _ _ _ _ _ _ _ _ _ _ _ _ _ _ _ _ _ _ _ _ _ _ _ _ _ _ _ _ _ _ _ _ _ _ _ _ _ _ _ _ _ _ _ _ S L (sAt T k) _ wr (by omega) (by omega) (by omega) hlt (by omega) N2.out D2.out.dp hcs ?_
      intro u38 u39 u40 u41 u42 u43 u44 u45 u46 u47 u48 u49 u50 Bx va3 vb3 wq hBx bX g1 g2 hb3
      obtain ⟨ha1, ha2, ha3⟩ := SY'.app (by omega) (sAt T k) hss
      have eq1 : (((T.take k).length + 1 : Nat) : Int) = (k : Int) + 1 := by rw [List.length_take]; omega
      rw [eq1] at ha1 ha2 ha3
      have eT : T.take k ++ [sAt T k] = T.take (k + 1) := by
        rw [List.take_add_one]
        simp [sAt, List.getD, hlt]
      rw [eT] at ha3
      have hpp := parts_pos (sAt T k)
      rw [ha1, ha2]
      generalize apL S L p (partsP ((k : Int) + 1) (sAt T k)) = L3 at *
      generalize hp3 : p + parts (sAt T k) = p3 at *
      have hnx : ¬ ((p3 : Int) ≤ (p : Int)) := by omega
      have HS3 := hid ha3
      obtain ⟨xa3, xc3, rfl, _, _⟩ := g1.shape
      obtain ⟨ya3, yc3, rfl, _, _⟩ := g2.shape
      have N3 := N2.out.below hb3 N2.out.lt
      have HB3 := BB.out.trans (hb3.mono BB.out.size)
      have HD := hid (Dv.store (M := w.heap.size) N3 g1 g2 (by have := BB.out.size; omega))
      have HBW := hid ((HB3.setCell (p := ⟨w1.heap.size, 0, none⟩) (Nat.le_refl _) (.slice xa3 S.length xc3)).setCell (p := ⟨w1.heap.size, 1, none⟩) (Nat.le_refl _) (.slice ya3 L3.length yc3))
      have z0 := bX.cell (i := 0) rfl
      have z1 := bX.cell (i := 1) rfl
      have q0 := N3.cell (i := 0) rfl
      have q1 := N3.cell (i := 1) rfl
      have l0 := N3.free 0
      have l1 := N3.free 1
      have X1 := N3.set 0 (.slice xa3 S.length xc3)
      have q3 := X1.cell (i := 1) rfl
      have l3 := X1.free 1
      have hw4 : IntKind.i64.wrap ((k : Int) + 4) = ((k + 4 : Nat) : Int) := by rw [IntKind.wrap_i64]; omega
      have HVV := hid (fun wz (hz : Below w1.heap.size w1 wz) => at_any ao n cap (k + 4) zs wz hn (by omega) (HV1.out.below (Nat.le_refl _) hz))
      clear N3 X1 g1 g2 hb3 bX N2 D2 BB SY SY' ha1 ha2 ha3 hcs hss hSl hbd HB3 eT eq1 hpp hp3
      go_wp2_with fail
      rw [show ((k : Int) + 4) = ((k + 4 : Nat) : Int) by omega]
      refine (HVV.out _ HBW.out).mono ?_
      rintro e w4 ⟨x, rfl, rfl⟩
      clear z0 z1 q0 q1 l0 l1 q3 l3 hw4 HVV
      generalize (wq.setCell _ _).setCell _ _ = wn at *
      obtain ⟨va4, vb4, N4, V4⟩ := HD.out
      have c0 := N4.cell (i := 0) rfl
      have c1 := N4.cell (i := 1) rfl
      have HN4 := hid N4
      have HV4 := hid V4
      have hS4 : S.length ≤ 1000 := by have := HS3.out.len; omega
      have hL4 : L3.length ≤ 1000 := by have := HS3.out.bd; omega
      have hk1 : IntKind.i64.wrap ((k : Int) + 1) = (k : Int) + 1 := by rw [IntKind.wrap_i64]; omega
      clear N4 V4 HD hnx
      go_wp2_with fail
      · refine (impl_sync _ S L3 wn (by omega) (by omega) HV4.out.dp).mono ?_
        rintro e w5 ⟨v5, rfl, ⟨va5, vb5, rfl, g1, g2⟩, hb5⟩
        have HS5 := hid HS3.out.sync
        generalize bhS S L3 kpAll = S5 at *
        generalize bhL S L3 = L5 at *
        obtain ⟨xa5, xc5, rfl, _, _⟩ := g1.shape
        obtain ⟨ya5, yc5, rfl, _, _⟩ := g2.shape
        have N5 := HN4.out.below hb5 HN4.out.lt
        have HB5 := HBW.out.trans (hb5.mono HBW.out.size)
        have HD5 := hid (Dv.store (M := w.heap.size) N5 g1 g2 (by have := HBW.out.size; omega))
        have HBX := hid ((HB5.setCell (p := ⟨w1.heap.size, 0, none⟩) (Nat.le_refl _) (.slice xa5 S5.length xc5)).setCell (p := ⟨w1.heap.size, 1, none⟩) (Nat.le_refl _) (.slice ya5 L5.length yc5))
        have q0 := N5.cell (i := 0) rfl
        have q1 := N5.cell (i := 1) rfl
        have l0 := N5.free 0
        have l1 := N5.free 1
        have X1 := N5.set 0 (.slice xa5 S5.length xc5)
        have q3 := X1.cell (i := 1) rfl
        have l3 := X1.free 1
        clear N5 X1 g1 g2 hb5 HN4 HV4 c0 c1 HB5 HBW HS3
        go_wp2_with fail
        clear q0 q1 l0 l1 q3 l3
        go_roundw
        case rel =>
          obtain ⟨va6, vb6, N6, V6⟩ := HD5.out
          have hlt6 : (T.take (k + 1)).length = k + 1 := by rw [List.length_take]; omega
          have hS6 := HS5.out
          rw [hlt6] at hS6
          exact ⟨k + 1, p3, k + 1, p3, S5, L5, va6, vb6, by omega, by go_num, rfl, by go_num, N6, V6, hS6, HBX.out⟩
        case measure => simp [intOf]; omega
      · go_roundw
        case rel => exact ⟨k + 1, p3, sf, ps, S, L3, va4, vb4, by omega, by go_num, rfl, rfl, HN4.out, HV4.out, HS3.out, HBW.out⟩
        case measure => simp [intOf]; omega
    · obtain rfl : k = T.length := by omega
      have hSY := SY.out
      rw [List.take_length] at hSY
      have HSY := hid hSY
      have hSl : S.length ≤ 1000 := by have := hSY.len; omega
      have hLl : L.length ≤ 1000 := by have := hSY.bd; omega
      clear SY hSY
      have c0 := N2.out.cell (i := 0) rfl
      have c1 := N2.out.cell (i := 1) rfl
      go_wp2_with fail
      refine (impl_logRead _ S L wr D2.out.dp).mono ?_
      rintro e w2 ⟨v2, o, p', rfl, g1, hlr, hb⟩
      have hoK : okB S L = true := okB_yes HSY.out.ok
      obtain ⟨rfl, rfl⟩ : o = T ∧ p' = p := by
        rcases hlr with ⟨_, h⟩ | ⟨h, _⟩
        · exact h.same HSY.out.log
        · rw [hoK] at h; cases h
      obtain ⟨oa, oc, rfl, _, _⟩ := g1.shape
      obtain ⟨xa, xc, rfl⟩ : ∃ xa xc, va = .slice xa S.length xc := by
        obtain ⟨_, _, e, g, _⟩ := D2.out
        obtain ⟨x1, x2, e2, _, _⟩ := g.shape
        cases e
        exact ⟨x1, x2, e2⟩
      replace N2 := hid (N2.out.below hb N2.out.lt)
      have DD := hid (D2.out.dp.below (Nat.le_refl _) hb)
      have B2 := hid (BB.out.trans (hb.mono BB.out.size))
      have U := hid g1.rw
      have HT2 := hid (HT1.out.below (Nat.le_refl _) B2.out)
      have HK2 := hid (HK1.out.below (Nat.le_refl _) B2.out)
      clear hb g1 hlr D2 BB c0 c1
      have c0 := N2.out.cell (i := 0) rfl
      have c1 := N2.out.cell (i := 1) rfl
      have HSM := hid (fun wz (hz : Bw w2 wz) => same_texts oa (some ⟨lb, lo, none⟩) oc lc o wz (by omega) (U.out.below (Nat.le_refl _) hz) (HT2.out.below (Nat.le_refl _) hz))
      have HFR := hid (show ∀ wz, Bw w2 wz → Calls Try.prog 16 #[.agg #[.slice xa S.length xc, vb]] wz fun e w' => e = .returned (.int .i64 ((S.length : Int) - (p' : Int))) ∧ Below wz.heap.size wz w' from fun wz hz => (impl_logFree _ S L wz (DD.out.below (Nat.le_refl _) hz)).mono (fun e w' ⟨r, e1, hr, hb⟩ => by
        obtain rfl : r = (S.length : Int) - (p' : Int) := by
          rcases hr with ⟨_, o2, p2, hl, h⟩ | ⟨h, _⟩
          · obtain ⟨rfl, rfl⟩ := hl.same HSY.out.log
            exact h
          · rw [hoK] at h; cases h
        exact ⟨e1, hb⟩))
      have hsub : IntKind.i64.wrap ((S.length : Int) - (p' : Int)) = (S.length : Int) - (p' : Int) := by
        have := HSY.out.bd
        have := HSY.out.len
        rw [IntKind.wrap_i64]
        omega
      go_wp2_with fail
      refine region_R (by kernel_rfl) ?_
      refine anyR_quiet 0 rfl (by kernel_rfl) (by kernel_rfl) (by kernel_rfl) (fun K hK => ?_)
      go_simp
      refine ⟨_, fun _ _ => rfl, hK _ ?_⟩
      clear hK K
      refine anyR_quiet 1 rfl (by kernel_rfl) (by kernel_rfl) (by kernel_rfl) (fun K hK => ?_)
      go_simp
      refine ⟨_, fun _ _ => rfl, hK _ ?_⟩
      clear hK K
      refine anyR_quiet 2 rfl (by kernel_rfl) (by kernel_rfl) (by kernel_rfl) (fun K hK => ?_)
      go_simp
      apply Exists.intro
      refine ⟨fun wz hwz => ?_, hK _ ?_⟩
      · go_at_call 15
        exact (HSM.out wz hwz).mono (fun _ _ h => ⟨h.1, h.2⟩)
      clear hK K
      refine anyR_quiet 3 rfl (by kernel_rfl) (by kernel_rfl) (by kernel_rfl) (fun K hK => ?_)
      go_simp
      refine ⟨_, fun _ _ => rfl, hK _ ?_⟩
      clear hK K
      refine anyR_quiet 4 rfl (by kernel_rfl) (by kernel_rfl) (by kernel_rfl) (fun K hK => ?_)
      go_simp
      refine ⟨_, fun _ _ => rfl, hK _ ?_⟩
      clear hK K
      refine anyR_quiet 5 rfl (by kernel_rfl) (by kernel_rfl) (by kernel_rfl) (fun K hK => ?_)
      go_simp
      refine ⟨_, fun _ _ => rfl, hK _ ?_⟩
      clear hK K
      refine anyR_quiet 6 rfl (by kernel_rfl) (by kernel_rfl) (by kernel_rfl) (fun K hK => ?_)
      go_simp
      refine ⟨_, fun _ _ => rfl, hK _ ?_⟩
      clear hK K
      refine anyR_quiet 7 rfl (by kernel_rfl) (by kernel_rfl) (by kernel_rfl) (fun K hK => ?_)
      go_simp
      refine ⟨_, fun _ _ => rfl, hK _ ?_⟩
      clear hK K
      refine anyR_quiet 8 rfl (by kernel_rfl) (by kernel_rfl) (by kernel_rfl) (fun K hK => ?_)
      go_simp
      refine ⟨_, fun _ _ => rfl, hK _ ?_⟩
      clear hK K
      refine anyR_quiet 9 rfl (by kernel_rfl) (by kernel_rfl) (by kernel_rfl) (fun K hK => ?_)
      go_simp
      refine ⟨_, fun _ _ => rfl, hK _ ?_⟩
      clear hK K
      refine anyR_load 10 rfl (by kernel_rfl) (by kernel_rfl) (by kernel_rfl) (.agg #[.slice xa S.length xc, vb]) rfl (fun wz hwz => ?_) (fun K hK => ?_)
      · have y0 := cell_bw c0 hwz; have y1 := cell_bw c1 hwz
        go_simp
      go_simp
      refine hK _ ?_
      clear hK K
      refine anyR_quiet 11 rfl (by kernel_rfl) (by kernel_rfl) (by kernel_rfl) (fun K hK => ?_)
      go_simp
      apply Exists.intro
      refine ⟨fun wz hwz => ?_, hK _ ?_⟩
      · go_at_call 16
        exact (HFR.out wz hwz).mono (fun _ _ h => ⟨h.1, h.2⟩)
      clear hK K
      refine anyR_quiet 12 rfl (by kernel_rfl) (by kernel_rfl) (by kernel_rfl) (fun K hK => ?_)
      go_simp
      refine ⟨_, fun _ _ => rfl, hK _ ?_⟩
      clear hK K
      refine anyR_load 13 rfl (by kernel_rfl) (by kernel_rfl) (by kernel_rfl) (.slice xa S.length xc) rfl (fun wz hwz => ?_) (fun K hK => ?_)
      · have y0 := cell_bw c0 hwz
        go_simp
      go_simp
      refine hK _ ?_
      clear hK K
      refine anyR_quiet 14 rfl (by kernel_rfl) (by kernel_rfl) (by kernel_rfl) (fun K hK => ?_)
      go_simp
      refine ⟨_, fun _ _ => rfl, hK _ ?_⟩
      clear hK K
      refine anyR_quiet 15 rfl (by kernel_rfl) (by kernel_rfl) (by kernel_rfl) (fun K hK => ?_)
      go_simp
      refine ⟨_, fun _ _ => rfl, hK _ ?_⟩
      clear hK K
      refine anyR_quiet 16 rfl (by kernel_rfl) (by kernel_rfl) (by kernel_rfl) (fun K hK => ?_)
      go_simp
      refine ⟨_, fun _ _ => rfl, hK _ ?_⟩
      clear hK K
      refine anyR_quiet 17 rfl (by kernel_rfl) (by kernel_rfl) (by kernel_rfl) (fun K hK => ?_)
      go_simp
      refine ⟨_, fun _ _ => rfl, hK _ ?_⟩
      clear hK K
      refine anyR_quiet 18 rfl (by kernel_rfl) (by kernel_rfl) (by kernel_rfl) (fun K hK => ?_)
      go_simp
      refine ⟨_, fun _ _ => rfl, hK _ ?_⟩
      clear hK K
      refine anyR_nil (by kernel_rfl) (fun wz hwz => ?_)
      have HBZ := hid hwz
      clear hwz
      replace N2 := hid (N2.out.below HBZ.out N2.out.lt)
      replace DD := hid (DD.out.below (Nat.le_refl _) HBZ.out)
      replace HT2 := hid (HT2.out.below (Nat.le_refl _) HBZ.out)
      replace HK2 := hid (HK2.out.below (Nat.le_refl _) HBZ.out)
      replace B2 := hid (B2.out.trans (Below.mono HBZ.out B2.out.size))
      clear c0 c1 HSM HFR U HBZ hsub
      have c0 := N2.out.cell (i := 0) rfl
      have c1 := N2.out.cell (i := 1) rfl
      go_wp2_with fail
      refine (impl_crash _ S L ka kc ks wz (by omega) (by omega) DD.out (by omega) HK2.out).mono ?_
      rintro e w5 ⟨v5, rfl, hdo5, hb5⟩
      have hcl : (bhS S L (kpOf ks)).length ≤ 1000 ∧ (bhL S L).length ≤ 1000 := ⟨by rw [bhS_len]; exact hSl, Nat.le_trans (bhL_len S L) hLl⟩
      have HCR := hid (fun S3 L3 o3 p3 h => HSY.out.crash (by omega) (kpOf ks) (S3 := S3) (L3 := L3) (o3 := o3) (p3 := p3) h)
      generalize bhS S L (kpOf ks) = S5 at *
      generalize bhL S L = L5 at *
      replace HT2 := hid (HT2.out.below (Nat.le_refl _) hb5)
      replace B2 := hid (B2.out.trans (hb5.mono B2.out.size))
      have DP5 := hid hdo5.dp
      clear c0 c1 N2 DD HK2 hdo5 hb5
      go_wp2_with fail
      refine (impl_logOpen _ S5 L5 w5 (by omega) (by omega) DP5.out).mono ?_
      rintro e w6 ⟨v6, u6, S6, L6, o6, p6, rfl, hdo, hu, _, hop, hb⟩
      obtain ⟨rfl, hf1, hf2, hf3, hsy6⟩ := HCR.out _ _ _ _ hop
      obtain ⟨va6, vb6, rfl, g1, g2⟩ := id hdo
      obtain ⟨xa6, xc6, rfl, _, _⟩ := g1.shape
      obtain ⟨ya6, yc6, rfl, _, _⟩ := g2.shape
      obtain ⟨ua6, uc6, rfl, _, _⟩ := hu.shape
      have ba := (Below.refl w6.heap.size w6).alloc (Nat.le_refl _) (.cells #[.slice xa6 S6.length xc6, .slice ya6 (0 : Nat) yc6] 27)
      have hb' := hb.trans (ba.mono hb.size)
      replace HT2 := hid (HT2.out.below (Nat.le_refl _) hb')
      replace B2 := hid (B2.out.trans (hb'.mono B2.out.size))
      have E := hid (Blk.new w6 [.slice xa6 S6.length xc6, .slice ya6 (0 : Nat) yc6] 27)
      have DE := hid (hdo.dp.below (Nat.le_refl _) ba)
      have U := hid (hu.rw.below (Nat.le_refl _) ba)
      have HS6 := hid hsy6
      have HF3 := hid hf3
      have hl6 : S6.length ≤ 1000 := by have := hsy6.len; omega
      have ho6 : o6.length ≤ 6 := by omega
      have d1 : ¬ ((o6.length : Int) < (sf : Int)) := by omega
      have d2 : ¬ ((o.length : Int) < (o6.length : Int)) := by omega
      have d3 : o6.length ≤ lc := by omega
      have hw6 : IntKind.i64.wrap ((o6.length : Int) + 1) = (o6.length : Int) + 1 := by rw [IntKind.wrap_i64]; omega
      clear hb hb' ba hdo hu hop g1 g2 hsy6 hf1 hf2 hf3 HCR DP5
      go_wp2_with fail
      generalize w6.alloc (.cells #[.slice xa6 S6.length xc6, .slice ya6 (0 : Nat) yc6] 27) = w7 at *
      generalize w6.heap.size = ne at *
      refine (same_texts ua6 (some ⟨lb, lo, none⟩) uc6 lc o6 w7 (by omega) U.out (by
        have h := HT2.out.part o6.length
        rw [← HF3.out] at h
        exact h)).mono ?_
      rintro e w8 ⟨rfl, hb⟩
      replace B2 := hid (B2.out.trans (hb.mono B2.out.size))
      replace E := hid (E.out.below hb E.out.lt)
      replace DE := hid (DE.out.below (Nat.le_refl _) hb)
      clear hb U HT2 HF3 d1 d2 d3
      have e0 := E.out.cell (i := 0) rfl
      have e1 := E.out.cell (i := 1) rfl
      go_wp2_with fail
      obtain ⟨ha1, ha2, ha3⟩ := HS6.out.app (by omega) (ByteArray.mk #[109, 111, 114, 101]) (by decide)
      rw [show (((o6.length + 1 : Nat)) : Int) = (o6.length : Int) + 1 by omega] at ha1 ha2 ha3
      refine (impl_append _ S6 [] p6 _ (ByteArray.mk #[109, 111, 114, 101]) w8 (by omega) (by simp) (by decide) DE.out).mono ?_
      rintro e w9 ⟨v9, rfl, hdo, hb⟩
      rw [ha1, ha2]
      have HS9 := hid ha3
      have hl9 : (apL S6 [] p6 (partsP ((o6.length : Int) + 1) (ByteArray.mk #[109, 111, 114, 101]))).length ≤ 1000 := by have := ha3.bd; omega
      generalize apL S6 [] p6 (partsP ((o6.length : Int) + 1) (ByteArray.mk #[109, 111, 114, 101])) = L9 at *
      generalize p6 + parts (ByteArray.mk #[109, 111, 114, 101]) = p9 at *
      generalize hmore : ByteArray.mk #[109, 111, 114, 101] = more at *
      obtain ⟨va9, vb9, rfl, g1, g2⟩ := id hdo
      obtain ⟨xa9, xc9, rfl, _, _⟩ := g1.shape
      obtain ⟨ya9, yc9, rfl, _, _⟩ := g2.shape
      have ba := (Below.refl w9.heap.size w9).alloc (Nat.le_refl _) (.cells #[.slice xa9 S6.length xc9, .slice ya9 L9.length yc9] 27)
      have hb' := hb.trans (ba.mono hb.size)
      replace B2 := hid (B2.out.trans (hb'.mono B2.out.size))
      replace E := hid (E.out.below hb' E.out.lt)
      have F := hid (Blk.new w9 [.slice xa9 S6.length xc9, .slice ya9 L9.length yc9] 27)
      have DF := hid (hdo.dp.below (Nat.le_refl _) ba)
      clear hb hb' ba hdo g1 g2 ha1 ha2 ha3 e0 e1 DE hw6
      have f0 := F.out.cell (i := 0) rfl
      have f1 := F.out.cell (i := 1) rfl
      go_wp2_with fail
      generalize w9.alloc (.cells #[.slice xa9 S6.length xc9, .slice ya9 L9.length yc9] 27) = w10 at *
      generalize w9.heap.size = nf at *
      have hoK9 : okB S6 L9 = true := okB_yes HS9.out.ok
      refine (impl_logRead _ S6 L9 w10 DF.out).mono ?_
      rintro e w11 ⟨v11, o11, p11, rfl, g1, hlr, hb⟩
      obtain ⟨rfl, rfl⟩ : o11 = o6 ++ [more] ∧ p11 = p9 := by
        rcases hlr with ⟨_, h⟩ | ⟨h, _⟩
        · exact h.same HS9.out.log
        · rw [hoK9] at h; cases h
      obtain ⟨oa11, oc11, rfl, _, _⟩ := g1.shape
      replace B2 := hid (B2.out.trans (hb.mono B2.out.size))
      replace E := hid (E.out.below hb E.out.lt)
      replace F := hid (F.out.below hb F.out.lt)
      replace DF := hid (DF.out.below (Nat.le_refl _) hb)
      have U11 := hid g1.rw
      clear hb hlr g1 f0 f1
      have f0 := F.out.cell (i := 0) rfl
      have f1 := F.out.cell (i := 1) rfl
      have hl11 : (o6 ++ [more]).length = o6.length + 1 := by rw [List.length_append]; rfl
      have HL11 := hid hl11
      have HX11 := hid (show sAt (o6 ++ [more]) o6.length = more by simp [sAt, List.getD])
      clear hl11
      generalize o6 ++ [more] = o11 at *
      go_wp2_with fail
      refine (impl_sync _ S6 L9 w11 (by omega) (by omega) DF.out).mono ?_
      rintro e w12 ⟨v12, rfl, hdo12, hb⟩
      have HS12 := hid HS9.out.sync
      have hcl12 : (bhS S6 L9 kpAll).length ≤ 1000 := by rw [bhS_len]; exact hl6
      generalize bhS S6 L9 kpAll = S12 at *
      generalize bhL S6 L9 = L12 at *
      replace B2 := hid (B2.out.trans (hb.mono B2.out.size))
      replace E := hid (E.out.below hb E.out.lt)
      replace U11 := hid (U11.out.below (Nat.le_refl _) hb)
      have D12 := hid hdo12.dp
      have hoK12 : okB S12 L12 = true := okB_yes HS12.out.ok
      clear hb hdo12 f0 f1 F DF
      go_wp2_with fail
      refine (impl_logRead _ S12 L12 w12 D12.out).mono ?_
      rintro e w13 ⟨v13, o13, p13, rfl, g1, hlr, hb⟩
      obtain ⟨rfl, rfl⟩ : o13 = o11 ∧ p13 = p11 := by
        rcases hlr with ⟨_, h⟩ | ⟨h, _⟩
        · exact h.same HS12.out.log
        · rw [hoK12] at h; cases h
      obtain ⟨oa13, oc13, rfl, _, _⟩ := g1.shape
      replace B2 := hid (B2.out.trans (hb.mono B2.out.size))
      replace E := hid (E.out.below hb E.out.lt)
      replace U11 := hid (U11.out.below (Nat.le_refl _) hb)
      clear hb hlr g1
      have e1 := E.out.cell (i := 1) rfl
      have hlo : o6.length < o13.length := by have := HL11.out; omega
      obtain ⟨qb, qo, rfl, hqc⟩ := U11.out.atS o6.length hlo
      rw [HX11.out] at hqc
      have hlo' : (o6.length : Int) < (o13.length : Int) := by omega
      have hw6 : IntKind.i64.wrap ((o6.length : Int) + 1) = (o13.length : Int) := by rw [IntKind.wrap_i64]; have := HL11.out; omega
      have hmm : (more.toList == more.toList) = true := by simp
      go_wp2_with fail
      go_ret
      exact ⟨rfl, HB1.out.trans (B2.out.mono hw01)⟩

set_option maxRecDepth 100000 in
set_option maxHeartbeats 3200000 in
theorem law_fnLog (ao : Option Addr) (n cap : Nat) (zs : List Int) (w : World) (hv : View .u8 w ao n zs) (hz : ∀ x ∈ zs, (Lit.int .u8 x).wf = true) :
    Calls Try.prog 3 #[.slice ao n cap] w fun e w' => e = .returned (.bool true) ∧ Below w.heap.size w w' := by
  by_cases hbig : (1048576 : Int) < (n : Int)
  · have hd : decide ((1048576 : Int) < (n : Int)) = true := decide_eq_true hbig
    clear hv hz
    go_enter Try.func3, Try.ntmps3
    go_wp2_with (go_at_call 9; refine (big_any ao n cap w).mono ?_; rintro e w1 ⟨rfl, rfl⟩; rw [hd])
    go_ret
    exact ⟨rfl, (Below.refl _ _)⟩
  · exact law_log ao n cap zs w (by omega) ⟨by omega, hv, hz⟩
end Go.Proofs.Ytphhgfgmlfdkiaa
