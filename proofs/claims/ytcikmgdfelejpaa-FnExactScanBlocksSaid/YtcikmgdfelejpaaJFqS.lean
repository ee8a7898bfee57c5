/- How often symbols stand: the contract of ScanFreqs of the specification. -/
import Derived.Test.YtcikmgdfelejpaaJFqI
import Derived.Test.YtcikmgdfelejpaaJScL
namespace Go.Proofs.Ytcikmgdfelejpaa
open Go.RowKit
set_option linter.unusedVariables false

theorem own_some {w : World} {base : Nat} {v : Value} (h : Own w base 3 .i64 v (List.replicate 256 0)) : ∃ g c, v = .slice (some ⟨g, 0, none⟩) 256 c := by
  rcases h.2.2 with ⟨_, h0⟩ | ⟨g, c, cur, hv, _⟩
  · rw [List.length_replicate] at h0; omega
  · exact ⟨g, c, by rw [hv, List.length_replicate]⟩

set_option maxHeartbeats 800000 in
theorem zeros256 (w : World) : Calls Try.prog 56 #[] w fun e w' => ∃ g c, e = .returned (.slice (some ⟨g, 0, none⟩) 256 c) ∧ Own w' w.heap.size 3 .i64 (.slice (some ⟨g, 0, none⟩) 256 c) (List.replicate 256 0) ∧ Below w.heap.size w w' := by
  have HO := hid (Own.empty w 3 .i64 w.heap.size (Nat.le_refl _))
  have HB := hid ((Below.refl w.heap.size w).alloc (Nat.le_refl _) (.cells #[] 3))
  go_enter Try.func56, Try.ntmps56
  go_wp2_with fail
  generalize w.alloc (.cells #[] 3) = wa at *
  go_loopw [1, 2] (fun o i wr => ∃ k : Nat, k ≤ 256 ∧ i = .int .i64 k ∧ Hid (Own wr w.heap.size 3 .i64 o (List.replicate k 0)) ∧ Hid (Below w.heap.size w wr)) (fun _ i _ => 256 - (intOf i).toNat)
  case atStart => exact ⟨0, by omega, rfl, HO.out, HB.out⟩
  case round =>
    obtain ⟨k, hk, rfl, hown, hb⟩ := hrel
    clear HO HB
    by_cases hlt : k < 256
    · have hlt' : (k : Int) < 256 := by omega
      have HRP := hid (show List.replicate k (0 : Int) ++ [0] = List.replicate (k + 1) 0 from List.replicate_succ'.symm)
      have hrl : (List.replicate k (0 : Int)).length < 1000000000000 := by rw [List.length_replicate]; omega
      go_wp2_with (at_builtin; refine wpList_push _ rfl _ _ 22 rfl _ 3 .i64 0 8 Try.underlying22 Try.info3 _ _ rfl hown.out 0 rfl hrl (by decide) ?_)
      intro v8 w8 ho8 hb8
      rw [HRP.out] at ho8
      have HO8 := hid ho8
      have HB8 := hid (hb.out.trans hb8)
      clear ho8 hb8
      go_wp2_with fail
      go_roundw
      case rel => exact ⟨k + 1, by omega, by go_num, HO8.out, HB8.out⟩
      case measure => simp [intOf]; omega
    · obtain rfl : k = 256 := by omega
      obtain ⟨g, c, rfl⟩ := own_some hown.out
      go_wp2_with fail
      go_ret
      exact ⟨g, c, rfl, hown.out, hb.out⟩
theorem fq_zero (L : List (Int × List Int)) (k j : Nat) (h : sz (df L k) = (j : Int)) (hj : j < 256) : freqL 0 (ptsAt L k 0) = (freqL 0 (ptsTo L k)).set j (cnt 0 j (ptsTo L k) + 1) ∧ freqL 1 (ptsAt L k 0) = freqL 1 (ptsTo L k) := by
  have e : ptsAt L k 0 = ptsTo L k ++ [.inl (0, (sz (df L k)))] ++ [.inr (restL (df L k))] := by simp [ptsAt, ptsS]
  rw [e, h, freqL_b, freqL_b, freqL_bump 0 _ j hj, freqL_other 1 0 _ _ (by decide)]
  exact ⟨rfl, rfl⟩
theorem fq_step (L : List (Int × List Int)) (k m j : Nat) (s : Int × Int × List Int) (hs : nthS (stepsR (nth L k).1 (nth L k).2) m = s) (h : 16 * s.1 + s.2.1 = (j : Int)) (hj : j < 256) : freqL 0 (ptsAt L k (m + 1)) = freqL 0 (ptsAt L k m) ∧ freqL 1 (ptsAt L k (m + 1)) = (freqL 1 (ptsAt L k m)).set j (cnt 1 j (ptsAt L k m) + 1) := by
  have e : ptsAt L k (m + 1) = ptsAt L k m ++ [.inl (1, (16 * s.1 + s.2.1))] ++ [.inr s.2.2] := by simp [ptsAt, ptsS, hs]
  rw [e, h, freqL_b, freqL_b, freqL_bump 1 _ j hj, freqL_other 0 1 _ _ (by decide)]
  exact ⟨rfl, rfl⟩
theorem ptsAt_len (L : List (Int × List Int)) (h : oksTo L L.length = true) (k m : Nat) (hk : k < L.length) (hm : m ≤ 63) : (ptsAt L k m).length ≤ (k + 1) * 128 := by
  have h1 := ptsTo_len L h k (by omega)
  unfold ptsAt
  rw [List.length_append, List.length_append, ptsS_len]
  simp
  omega
theorem Own.cellF {w : World} {base g n c : Nat} {t : Int} {P : List Pt} (h : Own w base 3 .i64 (.slice (some ⟨g, 0, none⟩) n c) (freqL t P)) (j : Nat) (hj : j < 256) : w.cell? ⟨g, j, none⟩ = some (.int .i64 (cnt t j P)) := by
  have h1 := h.cell rfl j (by rw [freqL_len]; exact hj)
  rw [Addr.add_lit, Nat.zero_add, freqL_get t _ j hj] at h1
  exact h1
theorem Own.freeF {w : World} {base g n c : Nat} {xs : List Int} (h : Own w base 3 .i64 (.slice (some ⟨g, 0, none⟩) n c) xs) (j : Nat) : w.frozen? ⟨g, j, none⟩ = false := by
  obtain ⟨_, _, e⟩ := h.shape
  cases e
  exact h.2.frozenAt j

set_option maxRecDepth 100000 in
set_option maxHeartbeats 1600000 in
theorem spec_freqs (ao : Option Addr) (cap : Nat) (L : List (Int × List Int)) (w : World) (hn : L.length ≤ 1048576) (hs : ∀ j, j < L.length → (nth L j).2.length ≤ 1048576) (hv : BRow w ao L) :
    Calls Try.prog 26 #[.slice ao L.length cap] w (FqP (freqR 0 L) (freqR 1 L) (freqB L) w) := by
  have HSH := hid (spec_shift ao cap L true w hn hs hv)
  have HV := hid hv
  clear hv hs
  by_cases hk : scanOk L
  · have hRR := shR_yes (up := true) (show L.length ≤ 4000 by have := hk.1; omega) hk.2
    have hl' : ¬ (1600 : Int) < (L.length : Int) := by have := hk.1; omega
    have hlen16 := hk.1
    have HOK := hid (oksTo_at L L.length hk.2)
    have HDF := hid (fun k hk' => df_bd L k hk.2 hk')
    have HPL := hid (fun k hk' => ptsTo_len L hk.2 k hk')
    have HAL := hid (fun k m hk' hm => ptsAt_len L hk.2 k m hk' hm)
    have HLN := hid (shl_len true L L.length)
    have HG := hid (fun i hi => shl_get true L L.length i hi)
    rw [hRR] at HSH
    rw [freqR_yes hk, freqR_yes hk, freqB_yes hk]
    clear hk hRR
    generalize shl true L L.length = ST at *
    go_enter Try.func26, Try.ntmps26
    go_wp2_with fail
    refine HSH.out.mono ?_
    rintro e w1 ⟨v1, rfl, ho1, hb1⟩
    obtain ⟨d1, c1, rfl, hv1⟩ := ho1.view
    simp only [HLN.out] at hv1 ⊢
    have HV1 := hid hv1
    have B1 := hid hb1
    clear ho1 hb1 hv1 HSH
    go_wp2_with fail
    refine (zeros256 w1).mono ?_
    rintro e w2 ⟨g1, e1, rfl, o1, hb2⟩
    have O1 := hid o1
    have B2 := hid hb2
    have hg1 : w1.heap.size ≤ g1 ∧ g1 < w2.heap.size := o1.ge
    clear o1 hb2
    go_wp2_with fail
    refine (zeros256 w2).mono ?_
    rintro e w3 ⟨g2, e2, rfl, o2, hb3⟩
    have hg2 : w2.heap.size ≤ g2 ∧ g2 < w3.heap.size := o2.ge
    have P1 := hid (O1.out.below hb3)
    have P2 := hid (o2.mono (show w1.heap.size ≤ w2.heap.size by omega))
    have B3 := hid (B2.out.trans (hb3.mono B2.out.size))
    have BW3 := hid (B1.out.trans (B3.out.mono B1.out.size))
    have HV3 := hid (HV1.out.below (Nat.le_refl _) B3.out)
    have HN0 := hid (freqL_nil 0)
    have HN1 := hid (freqL_nil 1)
    have hww1 : w.heap.size ≤ w1.heap.size := B1.out.size
    clear o2 hb3 O1
    go_wp2_with fail
    go_loopw [9] (fun i wr => ∃ k : Nat, k ≤ L.length ∧ i = .int .i64 k ∧ Hid (Own wr w1.heap.size 3 .i64 (.slice (some ⟨g1, 0, none⟩) 256 e1) (freqL 0 (ptsTo L k))) ∧ Hid (Own wr w1.heap.size 3 .i64 (.slice (some ⟨g2, 0, none⟩) 256 e2) (freqL 1 (ptsTo L k))) ∧ Hid (Below g1 w3 wr)) (fun i _ => L.length - (intOf i).toNat)
    case atStart => exact ⟨0, by omega, rfl, by rw [show ptsTo L 0 = [] from rfl, HN0.out]; exact P1.out, by rw [show ptsTo L 0 = [] from rfl, HN1.out]; exact P2.out, Below.refl _ _⟩
    case round =>
      obtain ⟨k, hk, rfl, o1, o2, hb⟩ := hrel
      clear P1 P2 HN0 HN1
      have HBW := hid (BW3.out.trans (hb.out.mono (show w.heap.size ≤ g1 by omega)))
      by_cases hlt : k < L.length
      · have hlt' : (k : Int) < (L.length : Int) := by omega
        have hdf := HDF.out k hlt
        obtain ⟨j, hj⟩ := Int.eq_ofNat_of_zero_le (sz_bd hdf).1
        have hj256 : j < 256 := by have := (sz_bd hdf).2; omega
        have hj' : (j : Int) < 256 := by omega
        obtain ⟨b2, off2, rfl, hd0⟩ := HV1.out.2 k hlt
        have hb2l : b2 < w1.heap.size := World.block_lt_of_cell? w1 ⟨b2, off2 + k, none⟩ hd0
        have hd : wr.cell? ⟨b2, off2 + k, none⟩ = some (.int .i64 (df L k)) := by
          rw [(hb.out.cell (p := ⟨b2, off2 + k, none⟩) (show b2 < g1 by omega)).trans ((B3.out.cell (p := ⟨b2, off2 + k, none⟩) hb2l).trans hd0), HG.out k hlt]
          rfl
        have HSI := hid (fun q => spec_size (df L k) q (by omega) (by omega))
        have HFZ := hid (fq_zero L k j hj hj256)
        rw [hj] at HSI
        have c1' := o1.out.cellF j hj256
        have z1 := o1.out.freeF j
        have hcb := cnt_bd 0 j (ptsTo L k)
        have hpl := HPL.out k hk
        have HF := hid (stepsR_fine _ _ (HOK.out k hlt))
        generalize cnt 0 j (ptsTo L k) = N0 at *
        generalize hX : df L k = X at *
        have hw0 : IntKind.i64.wrap (N0 + 1) = N0 + 1 := by rw [IntKind.wrap_i64]; omega
        have hne : b2 ≠ g1 := by omega
        have hkeep : ∀ (u : Value), (wr.setCell ⟨g1, j, none⟩ u).cell? ⟨b2, off2 + k, none⟩ = some (.int .i64 X) := fun u => by
          rw [← hd]
          exact World.cell?_of_block (w := wr) (a := ⟨b2, off2 + k, none⟩) (heap_setCell_other _ ⟨g1, j, none⟩ b2 _ (fun e => hne e))
        clear hX hj hd0
        go_wp2_with fail
        go_cut [9] from 29 to 81 (fun s wx => s = .int .i64 (k : Int) ∧ ∃ n, wx = (wr.setCell ⟨g1, j, none⟩ (.int .i64 (N0 + 1))).drewN n)
        case first =>
          go_region_with (first
            | (go_at_call 40; refine (HSI.out _).mono ?_; rintro e w6 ⟨rfl, rfl⟩))
          all_goals
            go_wp2_with fail
            go_meet
            exact ⟨rfl, 1, rfl⟩
        case rest =>
          obtain ⟨rfl, nn, hwx⟩ := hcut
          generalize hwc : wc = wx at *
          clear hwc
          have Q1 := hid (show Own wx w1.heap.size 3 .i64 (.slice (some ⟨g1, 0, none⟩) 256 e1) (freqL 0 (ptsAt L k 0)) by rw [hwx, HFZ.out.1]; exact (o1.out.store j (N0 + 1)).drew nn)
          have Q2 := hid (show Own wx w1.heap.size 3 .i64 (.slice (some ⟨g2, 0, none⟩) 256 e2) (freqL 1 (ptsAt L k 0)) by rw [hwx, HFZ.out.2]; exact (o2.out.storeOther (fun a n c h => by cases h; show g2 ≠ g1; omega) _).drew nn)
          have QB := hid (show Below g1 w3 wx by rw [hwx]; exact belowN (hb.out.setCell (p := ⟨g1, j, none⟩) (Nat.le_refl _) _) nn)
          have QW := hid (BW3.out.trans (QB.out.mono (show w.heap.size ≤ g1 by omega)))
          clear hwx c1' z1 hkeep hd HSI HFZ o1 o2 hb HBW hw0 hcb
          obtain ⟨b, off, a, c, rfl, hc1w, hc2w, hvw⟩ := HV.out k hlt
          have hc1 := (QW.out.cell (p := ⟨b, off + k * 2, none⟩) (World.block_lt_of_cell? w _ hc1w)).trans hc1w
          have hc2 := (QW.out.cell (p := ⟨b, off + k * 2 + 1, none⟩) (World.block_lt_of_cell? w _ hc2w)).trans hc2w
          have hxl : (nth L k).2.length ≤ 1048576 := by
            have h63 := HOK.out k hlt
            unfold blkOk at h63
            simp only [Bool.and_eq_true, decide_eq_true_eq] at h63
            omega
          have HIS := hid (spec_steps (.agg #[.int .i64 (nth L k).1, .slice a (nth L k).2.length c]) (nth L k).1 (nth L k).2 wx hxl ⟨a, c, rfl, hvw.below (Nat.le_refl _) QW.out⟩)
          have HFS := hid (fun m j s e h hj => fq_step L k m j s e h hj)
          have HEND := hid (ptsAt_end L k)
          have HALK := hid (fun m hm => HAL.out k m hlt hm)
          clear hc1w hc2w hvw hxl
          generalize stepsR (nth L k).1 (nth L k).2 = S at *
          generalize (nth L k).1 = D at *
          generalize (nth L k).2 = XS at *
          go_wp2_with fail
          refine HIS.out.mono ?_
          rintro e w8 ⟨v8, rfl, ⟨vs, hot⟩, hb8⟩
          obtain ⟨so, sc, rfl⟩ := hot.shape
          have HOT := hid hot
          have R1 := hid (Q1.out.below hb8)
          have R2 := hid (Q2.out.below hb8)
          have RB := hid (QB.out.trans (hb8.mono (show g1 ≤ wx.heap.size by have := Q1.out.ge.2; exact Nat.le_of_lt this)))
          have hgx1 : g1 < wx.heap.size := Q1.out.ge.2
          have hgx2 : g2 < wx.heap.size := Q2.out.ge.2
          have hSl := HF.out.1
          clear hot hb8 hc1 hc2 HIS Q1 Q2 QB QW
          go_wp2_with fail
          go_loopw [11] (fun i wq => ∃ m : Nat, m ≤ S.length ∧ i = .int .i64 m ∧ Hid (Own wq w1.heap.size 3 .i64 (.slice (some ⟨g1, 0, none⟩) 256 e1) (freqL 0 (ptsAt L k m))) ∧ Hid (Own wq w1.heap.size 3 .i64 (.slice (some ⟨g2, 0, none⟩) 256 e2) (freqL 1 (ptsAt L k m))) ∧ Hid (OwnT wq wx.heap.size (.slice so S.length sc) S vs) ∧ Hid (Below g1 w3 wq)) (fun i _ => S.length - (intOf i).toNat)
          case atStart => exact ⟨0, by omega, rfl, R1.out, R2.out, HOT.out, RB.out⟩
          case round =>
            obtain ⟨m, hm, rfl, o1, o2, ht, hb⟩ := hrel
            clear R1 R2 HOT RB
            by_cases hlt2 : m < S.length
            · have hlt2' : (m : Int) < (S.length : Int) := by omega
              obtain ⟨g, ya, yc, rfl, r0, r1, r2, hoy⟩ := ht.out.at_ m hlt2
              obtain ⟨⟨f0, f1⟩, ⟨f2, f3⟩, f4⟩ := HF.out.2 m hlt2
              obtain ⟨jj, hjj⟩ := Int.eq_ofNat_of_zero_le (show 0 ≤ 16 * (nthS S m).1 + (nthS S m).2.1 by omega)
              have hjj256 : jj < 256 := by omega
              have hjj' : (jj : Int) < 256 := by omega
              have HNX := hid (HFS.out m jj (nthS S m) rfl hjj hjj256)
              have cc := o2.out.cellF jj hjj256
              have zz := o2.out.freeF jj
              have hcb := cnt_bd 1 jj (ptsAt L k m)
              have hal := HALK.out m (by omega)
              generalize cnt 1 jj (ptsAt L k m) = N1 at *
              generalize (nthS S m).1 = RN at *
              generalize (nthS S m).2.1 = SZ at *
              have hw1 : IntKind.i64.wrap (16 * RN) = 16 * RN := by rw [IntKind.wrap_i64]; omega
              have hw2 : IntKind.i64.wrap (16 * RN + SZ) = (jj : Int) := by rw [IntKind.wrap_i64]; omega
              have hw3 : IntKind.i64.wrap (N1 + 1) = N1 + 1 := by rw [IntKind.wrap_i64]; omega
              clear hoy
              have K2 := hid (o2.out.store jj (N1 + 1))
              have K1 := hid (o1.out.storeOther (i := jj) (g := g2) (fun a n c h => by cases h; show g1 ≠ g2; omega) (.int .i64 (N1 + 1)))
              have K3 := hid (hb.out.setCell (p := ⟨g2, jj, none⟩) (show g1 ≤ g2 by omega) (.int .i64 (N1 + 1)))
              have K4 := hid (ht.out.keepM (w' := wr.setCell ⟨g2, jj, none⟩ (.int .i64 (N1 + 1))) (by simp) (fun x h0 h1 => heap_setCell_other _ ⟨g2, jj, none⟩ x _ (fun e => by have e' : x = g2 := e; omega)))
              rw [← HNX.out.1] at K1
              rw [← HNX.out.2] at K2
              go_wp2_with fail
              go_quiet (fail)
              go_wp2_with fail
              go_roundw
              case rel => exact ⟨m + 1, by omega, by go_num, K1.out.drew _, K2.out.drew _, K4.out, belowN K3.out _⟩
              case measure => simp [intOf]; omega
            · obtain rfl : m = S.length := by omega
              have HE1 := hid (show Own wr w1.heap.size 3 .i64 (.slice (some ⟨g1, 0, none⟩) 256 e1) (freqL 0 (ptsTo L (k + 1))) by rw [← HEND.out]; exact o1.out)
              have HE2 := hid (show Own wr w1.heap.size 3 .i64 (.slice (some ⟨g2, 0, none⟩) 256 e2) (freqL 1 (ptsTo L (k + 1))) by rw [← HEND.out]; exact o2.out)
              go_wp2_with fail
              go_roundw
              case rel => exact ⟨k + 1, by omega, by go_num, HE1.out, HE2.out, hb.out⟩
              case measure => simp [intOf]; omega
      · obtain rfl : k = L.length := by omega
        have hbe := HBW.out
        go_wp2_with fail
        refine bodyPost_ret (v := .tuple #[.slice (some ⟨g1, 0, none⟩) 256 e1, .slice (some ⟨g2, 0, none⟩) 256 e2, .bool true]) (by simp [results, Try.results26, go_sem]) rfl ⟨_, _, rfl, ⟨o1.out.mono hww1, o2.out.mono hww1, fun g h h' => ?_⟩, hbe⟩
        simp [Value.ownBlock] at h h'
        omega
  · have hcase : (shR true L).2 = false ∨ (shR true L).2 = true ∧ 1600 < L.length := by
      by_cases h : L.length ≤ 4000 ∧ oksTo L L.length = true
      · refine .inr ⟨by rw [shR_yes h.1 h.2], ?_⟩
        have : ¬ L.length ≤ 1600 := fun h' => hk ⟨h', h.2⟩
        omega
      · exact .inl (by rw [shR_no h])
    rw [freqR_no hk, freqR_no hk, freqB_no hk]
    clear hk
    go_enter Try.func26, Try.ntmps26
    go_wp2_with fail
    refine HSH.out.mono ?_
    rintro e w1 ⟨v1, rfl, ho1, hb1⟩
    obtain ⟨d1, c1, rfl⟩ := ho1.shape
    have B1 := hid hb1
    have hs1 : w.heap.size ≤ w1.heap.size := hb1.size
    clear ho1 hb1 HSH
    have FIN : FqP [] [] false w (.returned (.tuple #[.slice (some ⟨w1.heap.size, 0, none⟩) 0 0, .slice (some ⟨w1.heap.size + 1, 0, none⟩) 0 0, .bool false])) ((w1.alloc (.cells #[] 3)).alloc (.cells #[] 3)) := by
      refine ⟨_, _, rfl, ⟨(Own.empty w1 3 .i64 w.heap.size hs1).alloc _, ?_, fun g h h' => ?_⟩, (B1.out.alloc hs1 _).alloc (Nat.le_trans hs1 (by simp)) _⟩
      · have := Own.empty (w1.alloc (.cells #[] 3)) 3 .i64 w.heap.size (Nat.le_trans hs1 (by simp))
        simpa using this
      · simp [Value.ownBlock] at h h'
        omega
    have HFIN := hid FIN
    clear FIN
    rcases hcase with hc | ⟨hc, hl⟩
    · rw [hc]
      go_wp2_with fail
      refine bodyPost_ret (v := .tuple #[.slice (some ⟨w1.heap.size, 0, none⟩) 0 0, .slice (some ⟨w1.heap.size + 1, 0, none⟩) 0 0, .bool false]) (by simp [results, Try.results26, go_sem]) rfl HFIN.out
    · have hl' : (1600 : Int) < (L.length : Int) := by omega
      rw [hc]
      go_wp2_with fail
      refine bodyPost_ret (v := .tuple #[.slice (some ⟨w1.heap.size, 0, none⟩) 0 0, .slice (some ⟨w1.heap.size + 1, 0, none⟩) 0 0, .bool false]) (by simp [results, Try.results26, go_sem]) rfl HFIN.out
end Go.Proofs.Ytcikmgdfelejpaa
