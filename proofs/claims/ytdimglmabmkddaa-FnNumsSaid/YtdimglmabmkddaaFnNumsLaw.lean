/- The walk of the law FnNums. -/
import Derived.Test.YtdimglmabmkddaaNumsDraw
import Derived.Test.YtdimglmabmkddaaNumsBack
import Derived.Test.YtdimglmabmkddaaFnBitsDraw
import Derived.Test.YtdimglmabmkddaaNumB
namespace Go.Proofs.Ytdimglmabmkddaa
open Go.RowKit
set_option linter.unusedVariables false

theorem code_row {w : World} {ao : Option Addr} {n cap : Nat} {zs : List Int} (hr : IsRow .u8 w ao n cap zs) (hn : n ≤ 1048576) : Code w ao n (zs.take n) := ⟨hn, hr.view, hr.wf⟩

theorem num_congr (f g : Nat → Int) (s : Nat) : ∀ c, (∀ j, j < c → f (s + j) = g (s + j)) → num f s c = num g s c
  | 0, _ => rfl
  | c + 1, h => by rw [num, num, num_congr f g s c (fun j hj => h j (by omega)), h c (by omega)]

theorem num_back (x : Int) (k : Nat) (h0 : 0 ≤ x) (h1 : x < 2 ^ k) : num (pad (bl (rbX x k) k)) 0 k = x := by
  rw [num_congr _ (rbX x k) 0 k (fun j hj => by rw [Nat.zero_add, pad_bl _ _ _ hj]), rbX_num x k h0 h1 k (Nat.le_refl _), Nat.sub_self]
  simp

set_option maxRecDepth 100000 in
set_option maxHeartbeats 6400000 in
theorem law_nums (ao : Option Addr) (n cap : Nat) (zs : List Int) (w : World) (hr : IsRow .u8 w ao n cap zs) :
    Calls Try.prog 4 #[.slice ao n cap] w fun e w' => e = .returned (.bool true) ∧ Below w.heap.size w w' := by
  have hlen := hr.len.1
  by_cases hl : (1048576 : Int) < (n : Int)
  · have hd : decide ((1048576 : Int) < (n : Int)) = true := by simpa using hl
    clear hr
    go_enter Try.func4, Try.ntmps4
    go_wp2_with (go_at_call 9; refine (big_any _ _ _ _).mono ?_; rw [hd]; rintro e w' ⟨rfl, rfl⟩)
    go_ret
    exact ⟨rfl, Below.refl _ _⟩
  · have hd : decide ((1048576 : Int) < (n : Int)) = false := by simpa using hl
    have hn : n ≤ 1048576 := by omega
    have HC := hid (code_row hr hn)
    clear hr hl hlen
    go_enter Try.func4, Try.ntmps4
    go_wp2_with fail
    refine (big_any _ _ _ _).mono ?_
    rw [hd]
    rintro e w' ⟨rfl, rfl⟩
    go_wp2_with fail
    refine (draw_numBits ao n cap _ w HC.out).mono ?_
    rintro e w1 ⟨x, m, rfl, hb1⟩
    have B1 := hid hb1
    clear hb1
    by_cases hbad : m < 0 ∨ 32 < m ∨ x < 0 ∨ 2 ^ m.toNat ≤ x
    · have HBad := hid hbad
      clear hbad
      go_wp2_with fail
      refine (impl_numBits_no x m w1 HBad.out).mono ?_
      rintro e w2 ⟨v2, rfl, ho2, hb2⟩
      obtain ⟨a2, c2, rfl⟩ := ho2.shape
      have B2 := hid (B1.out.trans (hb2.mono B1.out.size))
      clear ho2 hb2 B1
      go_wp2_with fail
      refine (spec_numBits_no x m w2 HBad.out).mono ?_
      rintro e w3 ⟨v3, rfl, ho3, hb3⟩
      obtain ⟨a3, c3, rfl⟩ := ho3.shape
      have B3 := hid (B2.out.trans (hb3.mono B2.out.size))
      clear ho3 hb3 B2
      simp only [List.length_nil]
      go_wp2_with fail
      refine (draw_putNum ao n cap (zs.take n) w3 ⟨hn, HC.out.2.1.below (Nat.le_refl _) B3.out, HC.out.2.2⟩).mono ?_
      rintro e wa ⟨y, rfl, hba⟩
      have BA := hid (B3.out.trans (hba.mono B3.out.size))
      clear hba B3
      by_cases hy : y < 0 ∨ 1000000000 < y
      · go_wp2_with fail
        refine (Nums.impl_putNum_no y wa hy).mono ?_
        rintro e wb ⟨rfl, rfl⟩
        go_wp2_with fail
        refine (Nums.spec_putNum_no y wb hy).mono ?_
        rintro e wb' ⟨rfl, rfl⟩
        by_cases hy0 : y < 0
        · clear hy
          go_wp2
          go_ret
          exact ⟨rfl, BA.out⟩
        · have hy1 : 1000000000 < y := by omega
          clear hy
          go_wp2
          go_ret
          exact ⟨rfl, BA.out⟩
      · have y0 : 0 ≤ y := by omega
        have y1 : y ≤ 1000000000 := by omega
        clear hy
        go_wp2_with fail
        refine (Nums.impl_putNum y wa y0 y1).mono ?_
        rintro e wb ⟨rfl, hbb⟩
        have BB := hid (BA.out.trans (hbb.mono BA.out.size))
        clear hbb BA
        have h5 := Nums.nb_five y y0 y1
        have hp := Nums.nb_length_pos y.toNat y
        have hsz : (strOfNums (Nums.nb y.toNat y)).size = (Nums.nb y.toNat y).length := strOfNums_size _
        have G1 := hid (Nums.getNum_back y y0 y1)
        have G2 := hid (Nums.getNum_cut y y0 y1)
        have G0 := hid (Nums.spec_putNum y wb y0 y1)
        rw [← hsz] at G1 G2 h5 hp
        clear hsz
        generalize strOfNums (Nums.nb y.toNat y) = S at *
        have hS0 : S.toList.isEmpty = false := some_bytes hp
        have hS1 : 1 ≤ (S.size : Int) := by omega
        have hS5 : (S.size : Int) ≤ 5 := by omega
        go_wp2_with fail
        refine G0.out.mono ?_
        rintro e wc ⟨rfl, hbc⟩
        have BC := hid (BB.out.trans (hbc.mono BB.out.size))
        clear hbc BB G0
        go_wp2_with fail
        refine (G1.out _).mono ?_
        rintro e wd ⟨rfl, hbd⟩
        have BD := hid (BC.out.trans (hbd.mono BC.out.size))
        clear hbd BC G1
        go_wp2_with fail
        refine (G2.out _).mono ?_
        rintro e we ⟨rfl, hbe⟩
        have BE := hid (BD.out.trans (hbe.mono BD.out.size))
        clear hbe BD G2
        go_wp2_with fail
        refine (draw_putWord ao n cap (zs.take n) we ⟨hn, HC.out.2.1.below (Nat.le_refl _) BE.out, HC.out.2.2⟩).mono ?_
        rintro e wf ⟨W, rfl, ⟨W0, W1⟩, hbf⟩
        have BF := hid (BE.out.trans (hbf.mono BE.out.size))
        clear hbf BE
        have P := hid (fun w => Nums.impl_putWord W w W0 (by omega))
        have G := hid (Nums.getWord_back W W0 W1)
        have hT : (strOfNums (Nums.wordBytes W)).size = 4 := by rw [strOfNums_size]; rfl
        generalize strOfNums (Nums.wordBytes W) = T at *
        go_wp2_with fail
        refine (P.out _).mono ?_
        rintro e wg ⟨rfl, hbg⟩
        have BG := hid (BF.out.trans (hbg.mono BF.out.size))
        clear hbg BF
        go_wp2_with fail
        refine (G.out _).mono ?_
        rintro e wh ⟨rfl, hbh⟩
        have BH := hid (BG.out.trans (hbh.mono BG.out.size))
        clear hbh BG
        go_wp2_with fail
        refine (P.out _).mono ?_
        rintro e wi ⟨rfl, hbi⟩
        have BI := hid (BH.out.trans (hbi.mono BH.out.size))
        clear hbi BH
        go_wp2
        go_ret
        exact ⟨rfl, BI.out⟩
    · obtain ⟨k, rfl⟩ := Int.eq_ofNat_of_zero_le (show 0 ≤ m by omega)
      have hk : k ≤ 32 := by omega
      have x0 : 0 ≤ x := by omega
      have x1 : x < 2 ^ k := by
        have : ¬ 2 ^ ((k : Int)).toNat ≤ x := by omega
        rw [Int.toNat_natCast] at this
        omega
      have X1 := hid x1
      clear hbad x1
      go_wp2_with fail
      refine (impl_numBits x k w1 hk x0 X1.out).mono ?_
      rintro e w2 ⟨v2, rfl, ho2, hb2⟩
      obtain ⟨a2, c2, rfl, hv2⟩ := ho2.view
      have hL := bl_length (rbX x k) k
      have HB := hid (num_back x k x0 X1.out)
      have HA := hid (show ∀ j, j < k → Bit ((bl (rbX x k) k).getD j 0) from fun j hj => by rw [bl_get _ _ _ hj]; exact rbX_bit _ _ _)
      have HS := hid (fun w => spec_numBits x k w hk x0 X1.out)
      generalize bl (rbX x k) k = L at *
      rw [hL] at hv2 ⊢
      have HV2 := hid hv2
      have B2 := hid (B1.out.trans (hb2.mono B1.out.size))
      clear ho2 hv2 hb2 B1
      go_wp2_with fail
      refine (HS.out w2).mono ?_
      rintro e w3 ⟨v3, rfl, ho3, hb3⟩
      obtain ⟨a3, c3, rfl⟩ := ho3.shape
      have HV3 := hid (HV2.out.below (Nat.le_refl _) hb3)
      have B3 := hid (B2.out.trans (hb3.mono B2.out.size))
      rw [hL]
      clear ho3 hb3 B2 HV2 HS hL
      by_cases hk0 : k = 0
      · subst hk0
        go_wp2_with fail
        refine (draw_putNum ao n cap (zs.take n) w3 ⟨hn, HC.out.2.1.below (Nat.le_refl _) B3.out, HC.out.2.2⟩).mono ?_
        rintro e wa ⟨y, rfl, hba⟩
        have BA := hid (B3.out.trans (hba.mono B3.out.size))
        clear hba B3
        by_cases hy : y < 0 ∨ 1000000000 < y
        · go_wp2_with fail
          refine (Nums.impl_putNum_no y wa hy).mono ?_
          rintro e wb ⟨rfl, rfl⟩
          go_wp2_with fail
          refine (Nums.spec_putNum_no y wb hy).mono ?_
          rintro e wb' ⟨rfl, rfl⟩
          by_cases hy0 : y < 0
          · clear hy
            go_wp2
            go_ret
            exact ⟨rfl, BA.out⟩
          · have hy1 : 1000000000 < y := by omega
            clear hy
            go_wp2
            go_ret
            exact ⟨rfl, BA.out⟩
        · have y0 : 0 ≤ y := by omega
          have y1 : y ≤ 1000000000 := by omega
          clear hy
          go_wp2_with fail
          refine (Nums.impl_putNum y wa y0 y1).mono ?_
          rintro e wb ⟨rfl, hbb⟩
          have BB := hid (BA.out.trans (hbb.mono BA.out.size))
          clear hbb BA
          have h5 := Nums.nb_five y y0 y1
          have hp := Nums.nb_length_pos y.toNat y
          have hsz : (strOfNums (Nums.nb y.toNat y)).size = (Nums.nb y.toNat y).length := strOfNums_size _
          have G1 := hid (Nums.getNum_back y y0 y1)
          have G2 := hid (Nums.getNum_cut y y0 y1)
          have G0 := hid (Nums.spec_putNum y wb y0 y1)
          rw [← hsz] at G1 G2 h5 hp
          clear hsz
          generalize strOfNums (Nums.nb y.toNat y) = S at *
          have hS0 : S.toList.isEmpty = false := some_bytes hp
          have hS1 : 1 ≤ (S.size : Int) := by omega
          have hS5 : (S.size : Int) ≤ 5 := by omega
          go_wp2_with fail
          refine G0.out.mono ?_
          rintro e wc ⟨rfl, hbc⟩
          have BC := hid (BB.out.trans (hbc.mono BB.out.size))
          clear hbc BB G0
          go_wp2_with fail
          refine (G1.out _).mono ?_
          rintro e wd ⟨rfl, hbd⟩
          have BD := hid (BC.out.trans (hbd.mono BC.out.size))
          clear hbd BC G1
          go_wp2_with fail
          refine (G2.out _).mono ?_
          rintro e we ⟨rfl, hbe⟩
          have BE := hid (BD.out.trans (hbe.mono BD.out.size))
          clear hbe BD G2
          go_wp2_with fail
          refine (draw_putWord ao n cap (zs.take n) we ⟨hn, HC.out.2.1.below (Nat.le_refl _) BE.out, HC.out.2.2⟩).mono ?_
          rintro e wf ⟨W, rfl, ⟨W0, W1⟩, hbf⟩
          have BF := hid (BE.out.trans (hbf.mono BE.out.size))
          clear hbf BE
          have P := hid (fun w => Nums.impl_putWord W w W0 (by omega))
          have G := hid (Nums.getWord_back W W0 W1)
          have hT : (strOfNums (Nums.wordBytes W)).size = 4 := by rw [strOfNums_size]; rfl
          generalize strOfNums (Nums.wordBytes W) = T at *
          go_wp2_with fail
          refine (P.out _).mono ?_
          rintro e wg ⟨rfl, hbg⟩
          have BG := hid (BF.out.trans (hbg.mono BF.out.size))
          clear hbg BF
          go_wp2_with fail
          refine (G.out _).mono ?_
          rintro e wh ⟨rfl, hbh⟩
          have BH := hid (BG.out.trans (hbh.mono BG.out.size))
          clear hbh BG
          go_wp2_with fail
          refine (P.out _).mono ?_
          rintro e wi ⟨rfl, hbi⟩
          have BI := hid (BH.out.trans (hbi.mono BH.out.size))
          clear hbi BH
          go_wp2
          go_ret
          exact ⟨rfl, BI.out⟩
      · have hkp : 0 < k := by omega
        have hkp' : 0 < (k : Int) := by omega
        go_wp2_with fail
        refine (impl_bitsNum _ k _ L w3 hk HV3.out HA.out).mono ?_
        rintro e w4 ⟨rfl, hb4⟩
        rw [HB.out]
        have B4 := hid (B3.out.trans (hb4.mono B3.out.size))
        clear hb4 B3
        go_wp2_with fail
        refine (draw_putNum ao n cap (zs.take n) w4 ⟨hn, HC.out.2.1.below (Nat.le_refl _) B4.out, HC.out.2.2⟩).mono ?_
        rintro e wa ⟨y, rfl, hba⟩
        have BA := hid (B4.out.trans (hba.mono B4.out.size))
        clear hba B4
        by_cases hy : y < 0 ∨ 1000000000 < y
        · go_wp2_with fail
          refine (Nums.impl_putNum_no y wa hy).mono ?_
          rintro e wb ⟨rfl, rfl⟩
          go_wp2_with fail
          refine (Nums.spec_putNum_no y wb hy).mono ?_
          rintro e wb' ⟨rfl, rfl⟩
          by_cases hy0 : y < 0
          · clear hy
            go_wp2
            go_ret
            exact ⟨rfl, BA.out⟩
          · have hy1 : 1000000000 < y := by omega
            clear hy
            go_wp2
            go_ret
            exact ⟨rfl, BA.out⟩
        · have y0 : 0 ≤ y := by omega
          have y1 : y ≤ 1000000000 := by omega
          clear hy
          go_wp2_with fail
          refine (Nums.impl_putNum y wa y0 y1).mono ?_
          rintro e wb ⟨rfl, hbb⟩
          have BB := hid (BA.out.trans (hbb.mono BA.out.size))
          clear hbb BA
          have h5 := Nums.nb_five y y0 y1
          have hp := Nums.nb_length_pos y.toNat y
          have hsz : (strOfNums (Nums.nb y.toNat y)).size = (Nums.nb y.toNat y).length := strOfNums_size _
          have G1 := hid (Nums.getNum_back y y0 y1)
          have G2 := hid (Nums.getNum_cut y y0 y1)
          have G0 := hid (Nums.spec_putNum y wb y0 y1)
          rw [← hsz] at G1 G2 h5 hp
          clear hsz
          generalize strOfNums (Nums.nb y.toNat y) = S at *
          have hS0 : S.toList.isEmpty = false := some_bytes hp
          have hS1 : 1 ≤ (S.size : Int) := by omega
          have hS5 : (S.size : Int) ≤ 5 := by omega
          go_wp2_with fail
          refine G0.out.mono ?_
          rintro e wc ⟨rfl, hbc⟩
          have BC := hid (BB.out.trans (hbc.mono BB.out.size))
          clear hbc BB G0
          go_wp2_with fail
          refine (G1.out _).mono ?_
          rintro e wd ⟨rfl, hbd⟩
          have BD := hid (BC.out.trans (hbd.mono BC.out.size))
          clear hbd BC G1
          go_wp2_with fail
          refine (G2.out _).mono ?_
          rintro e we ⟨rfl, hbe⟩
          have BE := hid (BD.out.trans (hbe.mono BD.out.size))
          clear hbe BD G2
          go_wp2_with fail
          refine (draw_putWord ao n cap (zs.take n) we ⟨hn, HC.out.2.1.below (Nat.le_refl _) BE.out, HC.out.2.2⟩).mono ?_
          rintro e wf ⟨W, rfl, ⟨W0, W1⟩, hbf⟩
          have BF := hid (BE.out.trans (hbf.mono BE.out.size))
          clear hbf BE
          have P := hid (fun w => Nums.impl_putWord W w W0 (by omega))
          have G := hid (Nums.getWord_back W W0 W1)
          have hT : (strOfNums (Nums.wordBytes W)).size = 4 := by rw [strOfNums_size]; rfl
          generalize strOfNums (Nums.wordBytes W) = T at *
          go_wp2_with fail
          refine (P.out _).mono ?_
          rintro e wg ⟨rfl, hbg⟩
          have BG := hid (BF.out.trans (hbg.mono BF.out.size))
          clear hbg BF
          go_wp2_with fail
          refine (G.out _).mono ?_
          rintro e wh ⟨rfl, hbh⟩
          have BH := hid (BG.out.trans (hbh.mono BG.out.size))
          clear hbh BG
          go_wp2_with fail
          refine (P.out _).mono ?_
          rintro e wi ⟨rfl, hbi⟩
          have BI := hid (BH.out.trans (hbi.mono BH.out.size))
          clear hbi BH
          go_wp2
          go_ret
          exact ⟨rfl, BI.out⟩
end Go.Proofs.Ytdimglmabmkddaa
