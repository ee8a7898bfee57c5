/- BestCodes of the program. -/
import Derived.Test.YtmdmolofiblbmaaBp
namespace Go.Proofs.Ytmdmolofiblbmaa
open Go.RowKit
set_option linter.unusedVariables false

theorem COwn.nil (w : World) (base : Nat) (hb : base ≤ w.heap.size) : COwn w base (.agg #[.slice none 0 0, .slice none 0 0]) [] [] :=
  ⟨_, _, w.heap.size, rfl, hb, Own.nil w 3 .i64 base hb, Own.nil w 3 .i64 _ (Nat.le_refl _), fun a n c h => by cases h⟩
theorem blk_view {w : World} {b : Nat} {L : List Int} {t : TypeId} (h : Blk w b (ivs L) t) (hl : 256 ≤ L.length) : View .i64 w (some ⟨b, 0, none⟩) 256 (L.take 256) := by
  refine ⟨by rw [List.length_take]; omega, fun j hj => ⟨b, 0, rfl, ?_⟩⟩
  rw [Nat.zero_add, take_getD _ _ _ hj]
  exact h.cell (ivs_get L j (by omega))

set_option maxRecDepth 20000 in
set_option maxHeartbeats 1600000 in
theorem impl_best (ao : Option Addr) (n cap : Nat) (fs : List Int) (w : World) (hn : n ≤ 1048576) (hv : View .i64 w ao n fs) :
    Calls Try.prog 16 #[.slice ao n cap] w fun e w' => ∃ v, e = .returned (.tuple #[v, .bool (bB fs)]) ∧ COwn w' w.heap.size v (bC fs) (bS fs) ∧ Below w.heap.size w w' := by
  have hA0 := (Below.refl w.heap.size w).alloc (Nat.le_refl _) (.cells #[.slice none 0 0, .slice none 0 0] 26)
  have hT0 := Two.new w (.slice none 0 0) (.slice none 0 0) 26
  have hV0 := hv.below (Nat.le_refl _) hA0
  have hs0 : (w.alloc (.cells #[.slice none 0 0, .slice none 0 0] 26)).heap.size = w.heap.size + 1 := by simp
  have HQ := hid (impl_freqs ao n cap fs (w.alloc (.cells #[.slice none 0 0, .slice none 0 0] 26)) hn hV0)
  have HV := hid hV0
  -- what the answer's box holds, and what no codes are answered with
  have HN : Hid (∀ w', Below (w.heap.size + 1) (w.alloc (.cells #[.slice none 0 0, .slice none 0 0] 26)) w' → Two w' w.heap.size (.slice none 0 0) (.slice none 0 0) 26) := hid (fun w' h => hT0.below h (by omega))
  have HN2 : Hid (∀ w', Below (w.heap.size + 1) (w.alloc (.cells #[.slice none 0 0, .slice none 0 0] 26)) w' → COwn ((w'.setCell ⟨w.heap.size, 0, none⟩ (.slice none 0 0)).setCell ⟨w.heap.size, 1, none⟩ (.slice none 0 0)) w.heap.size (.agg #[.slice none 0 0, .slice none 0 0]) [] [] ∧ Below w.heap.size w ((w'.setCell ⟨w.heap.size, 0, none⟩ (.slice none 0 0)).setCell ⟨w.heap.size, 1, none⟩ (.slice none 0 0))) := hid (fun w' h => by
    have hb : Below w.heap.size w ((w'.setCell ⟨w.heap.size, 0, none⟩ (.slice none 0 0)).setCell ⟨w.heap.size, 1, none⟩ (.slice none 0 0)) := ((hA0.trans (h.mono (by omega))).setCell (p := ⟨w.heap.size, 0, none⟩) (Nat.le_refl _) _).setCell (p := ⟨w.heap.size, 1, none⟩) (Nat.le_refl _) _
    exact ⟨COwn.nil _ _ hb.size, hb⟩)
  have HA0 := hid hA0
  have HR0 := hid (Below.refl (w.heap.size + 1) (w.alloc (.cells #[.slice none 0 0, .slice none 0 0] 26)))
  clear hv hn hA0 hT0 hV0 hs0
  cases hF : freqs fs with
  | false =>
    have hB : bB fs = false := by unfold bB; rw [hF]; rfl
    have hC : bC fs = [] := by unfold bC; rw [hB]; rfl
    have hS : bS fs = [] := by unfold bS; rw [hB]; rfl
    rw [hB, hC, hS]
    rw [hF] at HQ
    clear hB hC hS hF
    obtain ⟨q0, q1, q2, q3⟩ := (HN.out _ HR0.out).cells
    go_enter Try.func16, Try.ntmps16
    go_wp2_with (first | (go_at_call 39; refine HQ.out.mono ?_; rintro e w1 ⟨rfl, rfl⟩) | fail)
    refine bodyPost_ret (v := .tuple #[.agg #[.slice none 0 0, .slice none 0 0], .bool false]) (by simp [results, Try.results16, go_sem]) rfl ⟨_, rfl, COwn.nil _ _ HA0.out.size, HA0.out⟩
  | true =>
    have hfa := freqs_at hF
    have hn : n = 256 := by have := HV.out.1; omega
    subst hn
    rw [hF] at HQ
    have HT := hid (impl_trees ao cap fs (w.alloc (.cells #[.slice none 0 0, .slice none 0 0] 26)) HV.out hfa.2)
    have HE : Hid (∀ E : List TE, E.map TE.pl = (0, 256, [256]) :: initP fs 256 → E.length = np fs + 1) := hid (fun E h => by
      have := congrArg List.length h
      rw [List.length_map, List.length_cons] at this
      exact this)
    have HFA := hid hfa.2
    have hnp : np fs ≤ 256 := initP_len fs 256
    have HNP := hid hnp
    have HBB := hid (show bB fs = decide (1 ≤ np fs ∧ np fs ≤ 255) from by unfold bB; rw [hF]; rfl)
    clear hfa hnp hF
    by_cases hb : 1 ≤ np fs ∧ np fs ≤ 255
    · have HB := hid (show bB fs = true from by rw [HBB.out]; exact decide_eq_true hb)
      have HC := hid (show bC fs = cntsTo (bestL (lensP fs)) 16 from by unfold bC; rw [if_pos HB.out])
      have HS := hid (show bS fs = symsTo (bestL (lensP fs)) 16 from by unfold bS; rw [if_pos HB.out])
      have hbb := HB.out
      rw [hbb, HC.out, HS.out]
      clear hbb HBB HNP HN2 HC HS
      have HLE : Hid (∀ E : List TE, E.map TE.pl = (0, 256, [256]) :: initP fs 256 → (E.map TE.pl).Perm (initP fs 256 ++ [(0, 256, [256])])) := hid (fun E h => by rw [h]; exact List.perm_append_comm (l₁ := [_]))
      have HRN := hid (show runP 257 (initP fs 256 ++ [(0, 256, [256])]) z257 = lensP fs from rfl)
      have HW := hid (WFP.start fs HFA.out)
      have HAP := hid (start_apart fs)
      have HLL : Hid (1 ≤ (initP fs 256 ++ [(0, 256, [256])] : List PT).length ∧ (initP fs 256 ++ [(0, 256, [256])] : List PT).length ≤ 257) := hid (by rw [List.length_append]; exact ⟨Nat.le_add_left _ _, by have : (initP fs 256).length ≤ 256 := initP_len fs 256; simp; omega⟩)
      generalize lensP fs = R at *
      obtain ⟨CL, hCL⟩ : ∃ CL, CL = cntsTo (bestL R) 16 := ⟨_, rfl⟩
      obtain ⟨SL, hSL⟩ : ∃ SL, SL = symsTo (bestL R) 16 := ⟨_, rfl⟩
      rw [← hCL, ← hSL]
      have HCL := hid (show cntsTo (bestL R) 16 = CL ∧ symsTo (bestL R) 16 = SL from ⟨hCL.symm, hSL.symm⟩)
      clear hCL hSL
      obtain ⟨N, hN⟩ : ∃ N, N = np fs := ⟨_, rfl⟩
      rw [← hN] at HE hb
      have hn1 : (1 : Int) ≤ (N : Int) := by omega
      have hn2 : (N : Int) ≤ 255 := by omega
      have hz1 : ((N : Int) + 1 == 1) = false := by simp; omega
      have hz2 : decide ((255 : Int) < (N : Int)) = false := by simp; omega
      have hz3 : ¬ (255 : Int) < (N : Int) := by omega
      clear hb HFA hN
      go_enter Try.func16, Try.ntmps16
      go_wp2_with (first | (go_at_call 39; refine HQ.out.mono ?_; rintro e w1 ⟨rfl, rfl⟩) | (go_at_call 40; refine HT.out.mono ?_; rintro e w2 ⟨v2, E, rfl, hT2, hp2, hb2⟩; have hE := HE.out E hp2; obtain ⟨G, c2, cur, rfl, hG, hr, hcl, hc2⟩ := hT2.row (fun e => by rw [e] at hE; simp at hE); have HB2 := hid (show Below (w.heap.size + 1) (w.alloc (.cells #[.slice none 0 0, .slice none 0 0] 26)) w2 from hb2.mono (by simp)); have HBA := hid (best_any G c2 cur E _ R w2 hcl hr hc2 hT2.2.2 (HLE.out E hp2) HAP.out HW.out HLL.out.1 HLL.out.2 HRN.out); rw [hE] at HBA ⊢; have HG := hid hG; clear hT2 hp2 hb2 hE hG hr hcl hc2) | fail)
      refine HBA.out.mono ?_
      rintro e w3 ⟨rfl, hRl, he3⟩
      have HB3 : Hid (Below (w.heap.size + 1) (w.alloc (.cells #[.slice none 0 0, .slice none 0 0] 26)) w3) := hid (HB2.out.trans ⟨he3.os, he3.tape, he3.output, he3.size, fun k hk => he3.block k (by have := HB2.out.size; simp at this; omega) (fun e => by have := Option.some.inj e; have := HG.out; simp at this; omega)⟩)
      have HRl := hid hRl
      have HZ := hid (blk_new w3 (ivs z257) 64)
      clear he3 hRl
      go_wp2_with (first | (with_reducible refine at_alloc 64 ?_; refine wpList_newZ _ rfl 64 rfl (ivs z257) zero64 ?_) | (with_reducible refine at_store 64 ?_; refine wpList_storeR _ rfl 64 _ _ rfl w3.heap.size (ivs z257) (ivs R) HZ.out (by go_simp) rfl (by rw [ivs_len, ivs_len, z257_len, HRl.out]) (size64L HRl.out) (ivs_one _) ?_) | fail)
      intro w4 hb4 he4
      have HB4 : Hid (Below (w.heap.size + 1) (w.alloc (.cells #[.slice none 0 0, .slice none 0 0] 26)) w4) := hid (HB3.out.trans (((Below.refl (w.heap.size + 1) w3).alloc (by have := HB3.out.size; simp at this; omega) (.cells (ivs z257).toArray 64)).trans ⟨he4.os, he4.tape, he4.output, he4.size, fun k hk => he4.block k (by have := HB3.out.size; simp at this ⊢; omega) (fun e => by have := Option.some.inj e; have := HB3.out.size; simp at this; omega)⟩))
      have HD4 := hid hb4
      have HM := hid (max_any (some ⟨w3.heap.size, 0, none⟩) 255 257 (R.take 256) w4 (by decide) (blk_view hb4 (by rw [HRl.out]; decide)))
      have HME := hid (show maxTo (R.take 256) 255 = maxTo R 255 from maxTo_take R 256 255 (by decide))
      rw [HME.out] at HM
      have HLT3 := hid (show w.heap.size + 1 ≤ w3.heap.size from by have := HB3.out.size; simp at this; omega)
      clear hb4 he4 HZ HME HBA HE HT HQ
      have hd := show bestL R = if 16 < maxTo R 255 then evenTo R 256 else R from rfl
      have HDD := hid hd
      clear hd
      generalize maxTo R 255 = M at *
      have HTAIL : Hid (∀ wx, Below (w.heap.size + 1) (w.alloc (.cells #[.slice none 0 0, .slice none 0 0] 26)) wx → Blk wx w3.heap.size (ivs (bestL R)) 64 → Calls Try.prog 43 #[.slice (some ⟨w3.heap.size, 0, none⟩) 256 257] wx fun e w' => ∃ a0 c0 a1 c1, e = .returned (.agg #[.slice a0 CL.length c0, .slice a1 SL.length c1]) ∧ Hid (COwn w' (w.heap.size + 1) (.agg #[.slice a0 CL.length c0, .slice a1 SL.length c1]) CL SL ∧ Below (w.heap.size + 1) (w.alloc (.cells #[.slice none 0 0, .slice none 0 0] 26)) w')) := hid (fun wx hb hl => by
        refine (impl_codes (some ⟨w3.heap.size, 0, none⟩) 257 ((bestL R).take 256) wx (blk_view hl (by rw [bestL_len, HRl.out]; decide))).mono ?_
        rintro e w' ⟨v, rfl, ho, hb'⟩
        rw [cntsTo_take, symsTo_take, HCL.out.1, HCL.out.2] at ho
        have hsz : w.heap.size + 1 ≤ wx.heap.size := by have := hb.size; simp at this; omega
        obtain ⟨va, vb, m, rfl, hm, h0, h1, hap⟩ := ho
        obtain ⟨a0, c0, rfl⟩ := h0.shape
        obtain ⟨a1, c1, rfl⟩ := h1.shape
        exact ⟨a0, c0, a1, c1, rfl, hid ⟨⟨_, _, m, rfl, by omega, h0.mono hsz, h1, hap⟩, hb.trans (hb'.mono hsz)⟩⟩)
      have HFIN : Hid (∀ a0 c0 a1 c1 w', COwn w' (w.heap.size + 1) (.agg #[.slice a0 CL.length c0, .slice a1 SL.length c1]) CL SL → Below (w.heap.size + 1) (w.alloc (.cells #[.slice none 0 0, .slice none 0 0] 26)) w' → (COwn ((w'.setCell ⟨w.heap.size, 0, none⟩ (.slice a0 CL.length c0)).setCell ⟨w.heap.size, 1, none⟩ (.slice a1 SL.length c1)) w.heap.size (.agg #[.slice a0 CL.length c0, .slice a1 SL.length c1]) CL SL ∧ Below w.heap.size w ((w'.setCell ⟨w.heap.size, 0, none⟩ (.slice a0 CL.length c0)).setCell ⟨w.heap.size, 1, none⟩ (.slice a1 SL.length c1)))) := hid (fun a0 c0 a1 c1 w' ho hb => by
        refine ⟨?_, ((HA0.out.trans (hb.mono (by omega))).setCell (p := ⟨w.heap.size, 0, none⟩) (Nat.le_refl _) _).setCell (p := ⟨w.heap.size, 1, none⟩) (Nat.le_refl _) _⟩
        obtain ⟨va, vb, m, hv, hm, h0, h1, hap⟩ := ho
        cases hv
        exact ⟨_, _, m, rfl, by omega, ((h0.setCell_below (a := ⟨w.heap.size, 0, none⟩) (by show w.heap.size < w.heap.size + 1; omega) _).setCell_below (a := ⟨w.heap.size, 1, none⟩) (by show w.heap.size < w.heap.size + 1; omega) _).mono (by omega), (h1.setCell_below (a := ⟨w.heap.size, 0, none⟩) (by show w.heap.size < m; omega) _).setCell_below (a := ⟨w.heap.size, 1, none⟩) (by show w.heap.size < m; omega) _, hap⟩)
      by_cases hM : 16 < M
      · have hM1 : decide ((16 : Int) < M) = true := by simpa using hM
        have HBL := hid (show bestL R = evenTo R 256 from by rw [HDD.out, if_pos hM])
        clear HDD
        go_wp2_with (first | (go_at_call 42; refine HM.out.mono ?_; rintro e w5 ⟨rfl, rfl⟩) | fail)
        go_loopw [33] (fun i wr => ∃ k : Nat, k ≤ 256 ∧ i = .int .i64 k ∧ Hid (Blk wr w3.heap.size (ivs (evenTo R k)) 64) ∧ Hid (Ef w3.heap.size w5 wr)) (fun i _ => 256 - (intOf i).toNat)
        case atStart => exact ⟨0, by decide, rfl, HD4, hid (Ef.refl _ _)⟩
        case round =>
          obtain ⟨k, hk, rfl, hB, hE⟩ := hrel
          by_cases hlt : k < 256
          · have hlt' : (k : Int) < 256 := by omega
            have hcl := hB.out.cell (ivs_get (evenTo R k) k (by rw [evenTo_len, HRl.out]; omega))
            have hfr := hB.out.free k
            rw [evenTo_off R k k (Nat.le_refl _)] at hcl
            have HST := hid (show evenTo R (k + 1) = if 0 < R.getD k 0 then (evenTo R k).set k 8 else evenTo R k from rfl)
            generalize R.getD k 0 = X at *
            by_cases hX : 0 < X
            · have HB2 := hid (show Blk (wr.setCell ⟨w3.heap.size, k, none⟩ (.int .i64 8)) w3.heap.size (ivs (evenTo R (k + 1))) 64 from by rw [HST.out, if_pos hX, ← ivs_set]; exact hB.out.set _ _)
              have HE2 := hid (hE.out.trans (Ef.set wr k (.int .i64 8)))
              have hX1 : decide (0 < X) = true := by simpa using hX
              clear HST hX
              go_wp2_with fail
              go_roundw
              case rel => exact ⟨k + 1, by omega, by go_num, HB2, HE2⟩
              case measure => simp [intOf]; omega
            · have HB2 := hid (show Blk wr w3.heap.size (ivs (evenTo R (k + 1))) 64 from by rw [HST.out, if_neg hX]; exact hB.out)
              have hX1 : decide (0 < X) = false := by simpa using hX
              clear HST hX
              go_wp2_with fail
              go_roundw
              case rel => exact ⟨k + 1, by omega, by go_num, HB2, hE⟩
              case measure => simp [intOf]; omega
          · obtain rfl : k = 256 := by omega
            have HBW : Hid (Below (w.heap.size + 1) (w.alloc (.cells #[.slice none 0 0, .slice none 0 0] 26)) wr) := hid (HB4.out.trans ⟨hE.out.os, hE.out.tape, hE.out.output, hE.out.size, fun g hg => hE.out.block g (by have := HB4.out.size; simp at this; omega) (fun e => by have := Option.some.inj e; have := HLT3.out; omega)⟩)
            have HTT := hid (HTAIL.out wr HBW.out (by rw [HBL.out]; exact hB.out))
            go_wp2_with (first | (go_at_call 43; refine HTT.out.mono ?_; rintro e w6 ⟨a0, c0, a1, c1, rfl, HX6⟩; obtain ⟨q0, q1, q2, q3⟩ := (HN.out _ HX6.out.2).cells) | fail)
            exact bodyPost_ret (v := .tuple #[.agg #[.slice a0 CL.length c0, .slice a1 SL.length c1], .bool true]) (by simp [results, Try.results16, go_sem, q0, q1]) rfl ⟨_, rfl, (HFIN.out _ _ _ _ _ HX6.out.1 HX6.out.2).1, (HFIN.out _ _ _ _ _ HX6.out.1 HX6.out.2).2⟩
      · have hM1 : decide ((16 : Int) < M) = false := by simpa using hM
        have HBL := hid (show bestL R = R from by rw [HDD.out, if_neg hM])
        have HTT := hid (HTAIL.out w4 HB4.out (by rw [HBL.out]; exact HD4.out))
        clear HDD hM
        go_wp2_with (first | (go_at_call 42; refine HM.out.mono ?_; rintro e w5 ⟨rfl, rfl⟩) | (go_at_call 43; refine HTT.out.mono ?_; rintro e w6 ⟨a0, c0, a1, c1, rfl, HX6⟩; obtain ⟨q0, q1, q2, q3⟩ := (HN.out _ HX6.out.2).cells) | fail)
        exact bodyPost_ret (v := .tuple #[.agg #[.slice a0 CL.length c0, .slice a1 SL.length c1], .bool true]) (by simp [results, Try.results16, go_sem, q0, q1]) rfl ⟨_, rfl, (HFIN.out _ _ _ _ _ HX6.out.1 HX6.out.2).1, (HFIN.out _ _ _ _ _ HX6.out.1 HX6.out.2).2⟩
    · have HB := hid (show bB fs = false from by rw [HBB.out]; exact decide_eq_false hb)
      have hC : bC fs = [] := by unfold bC; rw [HB.out]; rfl
      have hS : bS fs = [] := by unfold bS; rw [HB.out]; rfl
      have hbb := HB.out
      rw [hbb, hC, hS]
      have HH : Hid (np fs = 0 ∨ np fs = 256) := hid (by have := HNP.out; omega)
      clear hbb hC hS HBB HB hb
      generalize np fs = N at *
      rcases HH.out with h0 | h0
      · subst h0
        go_enter Try.func16, Try.ntmps16
        go_wp2_with (first | (go_at_call 39; refine HQ.out.mono ?_; rintro e w1 ⟨rfl, rfl⟩) | (go_at_call 40; refine HT.out.mono ?_; rintro e w2 ⟨v2, E, rfl, hT2, hp2, hb2⟩; obtain ⟨a2, c2, rfl⟩ := hT2.shape; have hE := HE.out E hp2; rw [hE]; have HB2 := hid (show Below (w.heap.size + 1) (w.alloc (.cells #[.slice none 0 0, .slice none 0 0] 26)) w2 from hb2.mono (by simp)); obtain ⟨q0, q1, q2, q3⟩ := (HN.out _ HB2.out).cells; clear hT2 hp2 hb2 hE) | fail)
        refine bodyPost_ret (v := .tuple #[.agg #[.slice none 0 0, .slice none 0 0], .bool false]) (by simp [results, Try.results16, go_sem, q0, q1]) rfl ⟨_, rfl, (HN2.out _ HB2.out).1, (HN2.out _ HB2.out).2⟩
      · subst h0
        go_enter Try.func16, Try.ntmps16
        go_wp2_with (first | (go_at_call 39; refine HQ.out.mono ?_; rintro e w1 ⟨rfl, rfl⟩) | (go_at_call 40; refine HT.out.mono ?_; rintro e w2 ⟨v2, E, rfl, hT2, hp2, hb2⟩; obtain ⟨a2, c2, rfl⟩ := hT2.shape; have hE := HE.out E hp2; rw [hE]; have HB2 := hid (show Below (w.heap.size + 1) (w.alloc (.cells #[.slice none 0 0, .slice none 0 0] 26)) w2 from hb2.mono (by simp)); obtain ⟨q0, q1, q2, q3⟩ := (HN.out _ HB2.out).cells; clear hT2 hp2 hb2 hE) | fail)
        refine bodyPost_ret (v := .tuple #[.agg #[.slice none 0 0, .slice none 0 0], .bool false]) (by simp [results, Try.results16, go_sem, q0, q1]) rfl ⟨_, rfl, (HN2.out _ HB2.out).1, (HN2.out _ HB2.out).2⟩
end Go.Proofs.Ytmdmolofiblbmaa
