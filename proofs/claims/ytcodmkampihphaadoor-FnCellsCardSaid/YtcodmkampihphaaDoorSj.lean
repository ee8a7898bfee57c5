/- Mirror and Transpose of the specification. -/
import Derived.Test.YtcodmkampihphaaDoorSi
namespace Go.Proofs.YtcodmkampihphaaDoor
open Go.RowKit
set_option linter.unusedVariables false

/-- A block of the specification's, where the block that came in is not right. -/
theorem tb_bad (M : List Int) {d : Int} {xs : List Int} (h : blkOk d xs = false) : tbD M d xs = 0 ∧ tbA M d xs = [] := by
  unfold tbD tbA
  rw [h]
  exact ⟨rfl, rfl⟩
theorem tb_good {M : List Int} {d : Int} {xs : List Int} (h : blkOk d xs = true) (hM : Bd M) : fcOk M = true ∧ fcD M = tbD M d xs ∧ fcA M = tbA M d xs := by
  have hk := fcOk_bd hM
  unfold fcD fcA tbD tbA
  rw [h, hk]
  exact ⟨rfl, rfl, rfl⟩

set_option maxRecDepth 20000 in
set_option maxHeartbeats 1600000 in
theorem spec_mirror (v : Value) (d : Int) (xs : List Int) (w : World) (hl : xs.length ≤ 1048576) (hv : BV w v d xs) :
    Calls Tryd.prog 23 #[v] w fun e w' => ∃ v', e = .returned v' ∧ BOwn w' w.heap.size v' (tbD (mirTo (sq d xs) 64) d xs) (tbA (mirTo (sq d xs) 64) d xs) ∧ Below w.heap.size w w' := by
  obtain ⟨a, c, rfl, hvw⟩ := hv
  have HST := hid (show StT w [.int .i64 d, .slice a xs.length c] [.int .i64 0, .slice none 0 0] ((w.alloc (.cells #[.int .i64 d, .slice a xs.length c] 28)).alloc (.cells #[.int .i64 0, .slice none 0 0] 28)) from
    ⟨((Below.refl w.heap.size w).alloc (Nat.le_refl _) _).alloc (by simp) _, (Blk.new w [.int .i64 d, .slice a xs.length c] 28).alloc _, Blk.newG (by simp) [.int .i64 0, .slice none 0 0] 28⟩)
  have HOK := hid (fun q (hq : Below w.heap.size w q) => spec_blockOk (.agg #[.int .i64 d, .slice a xs.length c]) d xs q hl ⟨a, c, rfl, hvw.below (Nat.le_refl _) hq⟩)
  cases hok : blkOk d xs with
  | false =>
    have HE := hid (tb_bad (mirTo (sq d xs) 64) hok)
    rw [hok] at HOK
    clear hok hvw
    go_enter Tryd.func23, Tryd.ntmps23
    go_wp2_with fail
    refine (HOK.out _ HST.out.1).mono ?_
    rintro e w1 ⟨rfl, hb1⟩
    have HSc := hid (HST.out.step hb1)
    have s0 := HSc.out.2.2.cell (i := 0) rfl
    have s1 := HSc.out.2.2.cell (i := 1) rfl
    have f0 := HSc.out.2.2.free 0
    have f1 := HSc.out.2.2.free 1
    clear HST HOK hb1
    go_wp2_with fail
    refine bodyPost_ret (v := .agg #[.int .i64 0, .slice none 0 0]) (by simp [results, Tryd.results23, go_sem, s0, s1]) rfl ⟨_, rfl, ?_, ?_⟩
    · rw [HE.out.1, HE.out.2]
      exact bown_zero _ _ (by have := HSc.out.1.size; simpa using this)
    · exact belowSet (belowSet HSc.out.1 (Nat.le_succ _) _) (Nat.le_succ _) _
  | true =>
    have h63 := (blk_at hok).2.1
    have hbd : Bd (sq d xs) := bd_sq hok 63 (Nat.le_refl _)
    have hS64 := sq_len d xs
    have HG := hid (tb_good hok (bd_mir hbd 64))
    have HSQ := hid (fun q (hq : Below w.heap.size w q) => spec_square d xs a c q h63 (by rw [← h63]; exact hvw.below (Nat.le_refl _) hq))
    have hML : (mirTo (sq d xs) 64).length = 64 := (mirTo_len _ 64).trans hS64
    have HFR := hid (fun q => spec_from (mirTo (sq d xs) 64) hML q)
    rw [HG.out.1, HG.out.2.1, HG.out.2.2] at HFR
    have HL := hid hS64
    have HMB := hid (fun k (hk : k < 64) => show -1023 ≤ (mirTo (sq d xs) k).getD k 0 ∧ (mirTo (sq d xs) k).getD k 0 ≤ 1023 from bd_mir hbd k k)
    rw [hok] at HOK
    rw [h63] at HOK HST ⊢
    clear hok hvw hbd hS64 hML HG h63
    generalize tbD (mirTo (sq d xs) 64) d xs = D at *
    generalize tbA (mirTo (sq d xs) 64) d xs = A at *
    generalize sq d xs = S at *
    go_enter Tryd.func23, Tryd.ntmps23
    go_wp2_with fail
    refine (HOK.out _ HST.out.1).mono ?_
    rintro e w1 ⟨rfl, hb1⟩
    have HS1 := hid (HST.out.step hb1)
    have q1 := HS1.out.2.1.cell (i := 0) rfl
    have q2 := HS1.out.2.1.cell (i := 1) rfl
    clear HST HOK hb1
    go_wp2_with fail
    refine (HSQ.out _ HS1.out.1).mono ?_
    rintro e w2 ⟨rfl, hb2⟩
    have HS2 := hid (HS1.out.step hb2)
    clear HS1 hb2 q1 q2 HSQ
    go_wp2_with (first | (with_reducible refine at_alloc 30 ?_; refine wpList_newZ _ rfl 30 rfl (ivs z64) zero30 ?_) | (with_reducible refine at_store 30 ?_; refine wpList_storeR _ rfl 30 _ _ rfl w2.heap.size (ivs z64) (ivs S) (Blk.new _ _ _) (by go_simp) rfl (ivs_len2 z64_len HL.out) (size30L HL.out) (ivs_one _) ?_))
    have HS3 := hid (HS2.out.step ((Below.refl _ _).alloc (Nat.le_refl _) (.cells (ivs z64).toArray 30)))
    have hB3 : w.heap.size + 1 < w2.heap.size := HS2.out.2.2.lt
    generalize w2.heap.size = B3 at *
    generalize w2.alloc (.cells (ivs z64).toArray 30) = w2' at *
    intro w3 hb3 he3
    have HB3 := hid (HS3.out.1.trans (he3.below (by omega) HS3.out.1.size))
    have HR3 := hid (HS3.out.2.2.ef he3 (by omega))
    have HD3 := hid hb3
    clear hb3 he3 HS3 HS2
    go_wp2_with fail
    go_loopw [4] (fun i wr => ∃ k : Nat, k ≤ 64 ∧ i = .int .i64 k ∧ Hid (Blk wr B3 (ivs (mirTo S k)) 30) ∧ Hid (Ef B3 w3 wr)) (fun i _ => 64 - (intOf i).toNat)
    case atStart => exact ⟨0, by omega, rfl, HD3.out, Ef.refl _ _⟩
    case round =>
      obtain ⟨k, hk, rfl, hD, hE⟩ := hrel
      by_cases hlt : k < 64
      · have hlt' : (k : Int) < 64 := by omega
        have hcl := hD.out.cell (ivs_get (mirTo S k) k (by rw [mirTo_len, HL.out]; exact hlt))
        have hfr := hD.out.free k
        obtain ⟨y0, y1⟩ := HMB.out k hlt
        have HN : Hid (mirTo S (k + 1) = if k % 2 = 1 then (mirTo S k).set k (-((mirTo S k).getD k 0)) else mirTo S k) := rfl
        generalize (mirTo S k).getD k 0 = Y at *
        by_cases hp : k % 2 = 1
        · have hp' : ((k : Int) % 2 == 1) = true := by simp; omega
          rw [if_pos hp] at HN
          go_wp2_with fail
          go_roundw
          case rel => exact ⟨k + 1, by omega, by go_num, by rw [HN.out, ← ivs_set]; exact hD.out.set _ _, hE.out.trans (Ef.set _ _ _)⟩
          case measure => simp [intOf]; omega
        · have hp' : ((k : Int) % 2 == 1) = false := by simp; omega
          rw [if_neg hp] at HN
          go_wp2_with fail
          go_roundw
          case rel => exact ⟨k + 1, by omega, by go_num, by rw [HN.out]; exact hD.out, hE.out⟩
          case measure => simp [intOf]; omega
      · obtain rfl : k = 64 := by omega
        have hL := hid ((mirTo_len S 64).trans HL.out)
        have hR2 := hid (HR3.out.ef hE.out (by omega))
        have hB2 := hid (HB3.out.trans (hE.out.below (by omega) HB3.out.size))
        have hD2 := hid hD.out
        clear hD hE hlt hk
        obtain ⟨M, hM⟩ : ∃ M, M = mirTo S 64 := ⟨_, rfl⟩
        rw [← hM] at hL hD2 HFR
        clear hM
        go_wp2_with (with_reducible refine at_load 30 ?_; refine wpList_loadR _ rfl 30 _ rfl B3 (ivs M) hD2.out (by go_simp) 64 3 Tryd.underlying30 (size30L hL.out) ?_)
        refine (HFR.out _).mono ?_
        rintro e w4 ⟨v, rfl, ⟨va, rfl, hOw⟩, hb4⟩
        obtain ⟨oo, oc, rfl⟩ := hOw.shape
        have hl4 := hR2.out.lt
        have HR4 := hid (hR2.out.below hb4 hR2.out.lt)
        have HB4 := hid (hB2.out.trans (hb4.mono hB2.out.size))
        have hs4 := hb4.size
        have HOw := hid (hOw.alloc (.cells #[.int .i64 D, .slice oo A.length oc] 28))
        have HR5 := hid (HR4.out.alloc (.cells #[.int .i64 D, .slice oo A.length oc] 28))
        have HB5 := hid (HB4.out.alloc (by omega) (.cells #[.int .i64 D, .slice oo A.length oc] 28))
        have hT5 := Blk.new w4 [.int .i64 D, .slice oo A.length oc] 28
        have s0 := HR5.out.cell (i := 0) rfl
        have s1 := HR5.out.cell (i := 1) rfl
        have f0 := HR5.out.free 0
        have f1 := HR5.out.free 1
        clear hb4 hOw hT5
        go_wp2_with fail
        refine bodyPost_ret (v := .agg #[.int .i64 D, .slice oo A.length oc]) (by simp [results, Tryd.results23, go_sem, s0, s1]) rfl ⟨_, rfl, ⟨_, rfl, ?_⟩, ?_⟩
        · exact ((HOw.out.setB (by omega) _).setB (by omega) _).mono (by omega)
        · exact belowSet (belowSet HB5.out (Nat.le_succ _) _) (Nat.le_succ _) _
end Go.Proofs.YtcodmkampihphaaDoor
