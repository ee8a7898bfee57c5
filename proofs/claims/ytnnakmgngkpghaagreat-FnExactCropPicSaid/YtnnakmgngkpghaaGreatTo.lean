/- The contract of l02Lengths. -/
import Derived.Test.YtnnakmgngkpghaaGreatBta
import Derived.Deep.CutRange
namespace Go.Proofs.YtnnakmgngkpghaaGreat
open Go.RowKit
set_option linter.unusedVariables false

set_option maxRecDepth 100000 in
set_option maxHeartbeats 3200000 in
theorem spec_lengths (ao : Option Addr) (cap : Nat) (fs : List Int) (w : World) (hv : View .i64 w ao 256 fs) (hf : ∀ j, j < 256 → 0 ≤ fs.getD j 0 ∧ fs.getD j 0 ≤ 100000) :
    Calls Tryz.prog 93 #[.slice ao 256 cap] w fun e w' => ∃ v', e = .returned v' ∧ Own w' w.heap.size 3 .i64 v' (lensP fs) ∧ Below w.heap.size w w' := by
  have HV := hid hv
  have HF := hid hf
  have HL0 : Hid (L1 fs w.heap.size w ((w.alloc (.cells #[] 144)).alloc (.cells #[] 3)) 0 (.slice (some ⟨w.heap.size, 0, none⟩) 0 0) (.slice (some ⟨w.heap.size + 1, 0, none⟩) 0 0)) := by
    refine ⟨[], (TrL.empty w _ (Nat.le_refl _)).below ((Below.refl _ _).alloc (Nat.le_refl _) _), ?_, rfl, fun e he => (by cases he), fun e he => (by cases he), ((Below.refl _ _).alloc (Nat.le_refl _) _).alloc (by simp) _⟩
    have := Own.empty (w.alloc (.cells #[] 144)) 3 .i64 w.heap.size (by simp)
    rwa [World.size_alloc] at this
  clear hv hf
  go_enter Tryz.func93, Tryz.ntmps93
  go_wp2_with fail
  go_loopw [3, 4, 5] (fun v lv i wr => ∃ k : Nat, k ≤ 256 ∧ i = .int .i64 k ∧ Hid (L1 fs w.heap.size w wr k v lv)) (fun _ _ i _ => 256 - (intOf i).toNat)
  case atStart => exact ⟨0, by omega, rfl, HL0.out⟩
  case round =>
    clear HL0
    obtain ⟨k, hk, rfl, hL⟩ := hrel
    by_cases hlt : k < 256
    · have hlt' : (k : Int) < 256 := by omega
      obtain ⟨E, hT, hl, hp, hs, hne, hb⟩ := hL.out
      have HT := hid hT
      have HP := hid hp
      have HS := hid hs
      have HNE := hid hne
      have HBB := hid hb
      have hlen : (List.replicate k (0 : Int)).length < 1000000000000 := by simp; omega
      clear hL hT hp hs hne hb
      go_wp2_with (at_builtin; refine wpList_pushG _ rfl _ _ 22 rfl _ 3 .i64 0 8 Tryz.underlying22 Tryz.info3 _ _ rfl hl 0 rfl hlen (by decide) ?_)
      intro lv1 w1 hl1 hb1 hk1
      obtain ⟨hT1, hl2, hs1, hne1, hbw1⟩ := L1.pushed HT.out hl HP.out HS.out HNE.out HBB.out hl1 hb1 hk1
      have HT1 := hid hT1
      have HL2 := hid hl2
      have HS1 := hid hs1
      have HNE1 := hid hne1
      have HB1 := hid hbw1
      obtain ⟨b, off, rfl, hc⟩ := HV.out.2 k hlt
      have hcr : w1.cell? ⟨b, off + k, none⟩ = some (.int .i64 (fs.getD k 0)) := (hbw1.cell (p := ⟨b, off + k, none⟩) (World.block_lt_of_cell? w _ hc)).trans hc
      have hf1 := (HF.out k hlt).2
      clear hT1 hl2 hs1 hne1 hbw1 hl hl1 hb1 hk1 hc HT HS HNE HBB
      obtain ⟨F, hF⟩ : ∃ F, F = fs.getD k 0 := ⟨_, rfl⟩
      have HFF := hid hF
      rw [← hF] at hcr hf1
      clear hF
      by_cases hpos : 0 < F
      · have hA := ((Below.refl w1.heap.size w1).alloc (Nat.le_refl _) (.cells #[.int .i64 k] 3)).alloc (by simp) (.cells #[.int .i64 F, .int .i64 k, .slice (some ⟨w1.heap.size, 0, none⟩) 1 1] 144)
        have HT2 := hid (HT1.out.below hA)
        have HY2 := hid ((Own.madeI w1 0 [(k : Int)] (Nat.zero_le _) (by simp)).below ((Below.refl _ _).alloc (Nat.le_refl _) (.cells #[.int .i64 F, .int .i64 k, .slice (some ⟨w1.heap.size, 0, none⟩) 1 1] 144)))
        have HC2 : Hid (∀ (j : Nat) u, (flE [(F, (k : Int), .slice (some ⟨w1.heap.size, 0, none⟩) 1 1, [(k : Int)])])[j]? = some u → ((w1.alloc (.cells #[.int .i64 k] 3)).alloc (.cells #[.int .i64 F, .int .i64 k, .slice (some ⟨w1.heap.size, 0, none⟩) 1 1] 144)).cell? ((⟨w1.heap.size + 1, 0, none⟩ : Addr).add j) = some u) := by
          intro j u hj
          have hrow := heap_alloc_new (w1.alloc (.cells #[.int .i64 k] 3)) (.cells #[.int .i64 F, .int .i64 k, .slice (some ⟨w1.heap.size, 0, none⟩) 1 1] 144)
          rw [World.size_alloc] at hrow
          rw [Addr.add_lit, Nat.zero_add, cell_of_row _ _ j _ 144 (0, 0) hrow]
          simpa [flE, TE.w, TE.l, TE.y] using hj
        have hEl : E.length ≤ 256 := by
          have h1 := congrArg List.length HP.out
          have h2 := initP_len fs k
          rw [List.length_map] at h1
          omega
        clear hA
        go_wp2_with (at_builtin; refine wpList_appE _ rfl _ _ 142 rfl _ Tryz.underlying142 Tryz.info144 _ _ rfl HT2.out ⟨w1.heap.size + 1, 0, none⟩ 1 [(F, (k : Int), .slice (some ⟨w1.heap.size, 0, none⟩) 1 1, [(k : Int)])] rfl HC2.out (fun e he => by simp at he; subst he; exact HY2.out) (by simp; omega) ?_)
        intro v2 w2 hT3 hkp hb3
        have HLN := hid (L1.tree HL2.out HP.out HFF.out hpos HS1.out HNE1.out HB1.out hT3 hkp hb3)
        clear hT3 hkp hb3
        go_wp2
        go_roundw
        case rel => exact ⟨k + 1, by omega, by go_num, HLN.out⟩
        case measure => simp [intOf]; omega
      · have hst := hid (show initP fs (k + 1) = initP fs k by rw [initP, if_neg (by rw [← HFF.out]; exact hpos)])
        go_wp2
        go_roundw
        case rel => exact ⟨k + 1, by omega, by go_num, E, HT1.out, HL2.out, HP.out.trans hst.out.symm, HS1.out, HNE1.out, HB1.out⟩
        case measure => simp [intOf]; omega
    · have hk256 : k = 256 := by omega
      have hge : ¬ (k : Int) < 256 := by omega
      rw [hk256] at hL
      obtain ⟨E, hT, hl, hp, hs, hne, hb⟩ := hL.out
      have HT := hid hT
      have HP := hid hp
      have HS := hid hs
      have HNE := hid hne
      have HBB := hid hb
      have hlen : (List.replicate 256 (0 : Int)).length < 1000000000000 := by simp
      clear hL hT hp hs hne hb hk256 hlt hk
      go_wp2_with (at_builtin; refine wpList_pushG _ rfl _ _ 22 rfl _ 3 .i64 0 8 Tryz.underlying22 Tryz.info3 _ _ rfl hl 0 rfl hlen (by decide) ?_)
      intro lv1 w1 hl1 hb1 hk1
      obtain ⟨hT1, hl2, hs1, hne1, hbw1⟩ := L1.pushed HT.out hl HP.out HS.out HNE.out HBB.out hl1 hb1 hk1
      have HT1 := hid hT1
      have HL2 := hid hl2
      have HS1 := hid hs1
      have HNE1 := hid hne1
      have HB1 := hid hbw1
      clear hT1 hl2 hs1 hne1 hbw1 hl hl1 hb1 hk1 HT HS HNE HBB
      have hA := ((Below.refl w1.heap.size w1).alloc (Nat.le_refl _) (.cells #[.int .i64 256] 3)).alloc (by simp) (.cells #[.int .i64 0, .int .i64 256, .slice (some ⟨w1.heap.size, 0, none⟩) 1 1] 144)
      have HT2 := hid (HT1.out.below hA)
      have HY2 := hid ((Own.madeI w1 0 [256] (Nat.zero_le _) (by simp)).below ((Below.refl _ _).alloc (Nat.le_refl _) (.cells #[.int .i64 0, .int .i64 256, .slice (some ⟨w1.heap.size, 0, none⟩) 1 1] 144)))
      have HC2 : Hid (∀ (j : Nat) u, (flE [(0, 256, .slice (some ⟨w1.heap.size, 0, none⟩) 1 1, [256])])[j]? = some u → ((w1.alloc (.cells #[.int .i64 256] 3)).alloc (.cells #[.int .i64 0, .int .i64 256, .slice (some ⟨w1.heap.size, 0, none⟩) 1 1] 144)).cell? ((⟨w1.heap.size + 1, 0, none⟩ : Addr).add j) = some u) := by
        intro j u hj
        have hrow := heap_alloc_new (w1.alloc (.cells #[.int .i64 256] 3)) (.cells #[.int .i64 0, .int .i64 256, .slice (some ⟨w1.heap.size, 0, none⟩) 1 1] 144)
        rw [World.size_alloc] at hrow
        rw [Addr.add_lit, Nat.zero_add, cell_of_row _ _ j _ 144 (0, 0) hrow]
        simpa [flE, TE.w, TE.l, TE.y] using hj
      have hEl : E.length ≤ 256 := by
        have h1 := congrArg List.length HP.out
        have h2 := initP_len fs 256
        rw [List.length_map] at h1
        omega
      clear hA
      go_wp2_with (at_builtin; refine wpList_appE _ rfl _ _ 142 rfl _ Tryz.underlying142 Tryz.info144 _ _ rfl HT2.out ⟨w1.heap.size + 1, 0, none⟩ 1 [(0, 256, .slice (some ⟨w1.heap.size, 0, none⟩) 1 1, [256])] rfl HC2.out (fun e he => by simp at he; subst he; exact HY2.out) (by simp; omega) ?_)
      intro v2 w2 hT3 hkp hb3
      have HLN := hid (L2.start HF.out HL2.out HP.out HS1.out HNE1.out HB1.out hT3 hkp hb3)
      clear hT3 hkp hb3 HT1 HL2 HS1 HNE1 HB1 HT2 HY2 HC2 HP hEl
      generalize hlv : lv1 = LV at *
      clear hlv
      go_wp2
      go_loopw [3] (fun v wr => ∃ f : Nat, Hid (L2 fs w.heap.size w wr f v LV)) (fun v _ => sliceLen v)
      case atStart => exact ⟨257, HLN.out⟩
      case round =>
        clear HLN
        obtain ⟨f, hL⟩ := hrel
        obtain ⟨E, lens, hT, hl, hrun, hne, hwf, hEf, hf257, hE1, hlens, hbd, hb⟩ := hL.out
        have HT := hid hT
        have HLS := hid hl
        have HRUN := hid hrun
        have HNE := hid hne
        have HWF := hid hwf
        have HBD := hid hbd
        have HB := hid hb
        rcases hT.2.1.2 with ⟨_, h0⟩ | ⟨g, c, cur, rfl, _, hhg, hnc, _⟩
        · omega
        have hgw := (Array.getElem?_eq_some_iff.1 hhg).1
        clear hhg
        have HCL := hid (fun (j : Nat) u hj => hT.cells j u hj)
        clear hL hT hl hrun hne hwf hbd hb
        by_cases hmore : 1 < E.length
        · have hmore' : (1 : Int) < (E.length : Int) := by omega
          go_wp2_with fail
          refine (spec_least _ _ E _ HT.out (by omega) (by omega)).mono ?_
          rintro e w3 ⟨rfl, q, rfl⟩
          have T3 : Hid (TrL (wr.drewN q) w.heap.size (.slice (some ⟨g, 0, none⟩) E.length c) E) := HT.out
          have L3 : Hid (Own (wr.drewN q) w.heap.size 3 .i64 LV lens) := HLS.out
          have B3 : Hid (Below w.heap.size w (wr.drewN q)) := belowN HB.out q
          have hgw3 : g < (wr.drewN q).heap.size := hgw
          generalize wr.drewN q = w3 at *
          have HCL := hid (fun (j : Nat) u hj => T3.out.cells j u hj)
          clear HT HLS HB
          have hlt1 := least_lt E (by omega)
          obtain ⟨I, hI⟩ : ∃ I, I = least E := ⟨_, rfl⟩
          have HI := hid hI
          rw [← hI] at hlt1 ⊢
          have hat := flE_at E I hlt1
          have ca := HCL.out _ _ hat.1
          have cb := HCL.out _ _ hat.2.1
          have cc := HCL.out _ _ hat.2.2
          have HYA := hid (T3.out.2.2 _ (nthE_mem E I hlt1))
          obtain ⟨A, hAA⟩ : ∃ A, A = nthE E I := ⟨_, rfl⟩
          rw [← hAA] at ca cb cc HYA
          have HAA := hid hAA
          obtain ⟨ya, yac, hya⟩ := HYA.out.shape
          rw [hya] at cc HYA
          have hI1 : ((I : Nat) : Int) < (E.length : Int) := by omega
          have hI2 : (I : Int) + 1 ≤ (E.length : Int) := by omega
          clear hI hAA hat hya
          have B4 := hid ((Below.refl w3.heap.size w3).alloc (Nat.le_refl _) (.cells #[.int .i64 A.w, .int .i64 A.l, .slice ya A.s.length yac] 144))
          have T4 := hid (T3.out.below B4.out)
          have L4 := hid (L3.out.below B4.out)
          have BW4 := hid (B3.out.trans (B4.out.mono B3.out.size))
          have HAR := hid (heap_alloc_new w3 (.cells #[.int .i64 A.w, .int .i64 A.l, .slice ya A.s.length yac] 144))
          have Y4 := hid (HYA.out.below B4.out)
          have PA := hid (show (A.w, A.l, A.s) = nthT (E.map TE.pl) I by rw [HAA.out]; exact nthE_pl E I)
          generalize A.w = AW at *
          generalize A.l = AL at *
          generalize A.s = AS at *
          have htk : (E.take I).length = I := List.length_take_of_le (by omega)
          have hdr : (E.drop (I + 1)).length = E.length - (I + 1) := List.length_drop
          have HTK := hid htk
          have HDR := hid hdr
          clear htk hdr
          have HSZ : Hid ((w3.alloc (.cells #[.int .i64 AW, .int .i64 AL, .slice ya AS.length yac] 144)).heap.size = w3.heap.size + 1) := World.size_alloc _ _
          go_wp2_with fail
          generalize w3.alloc (.cells #[.int .i64 AW, .int .i64 AL, .slice ya AS.length yac] 144) = w4 at *
          have B5 := hid (((Below.refl w4.heap.size w4).drew).alloc (Nat.le_refl _) (.cells #[] 144))
          have T5 := hid (T4.out.below B5.out)
          have N5 : Hid (TrL (w4.drew.alloc (.cells #[] 144)) w4.heap.size (.slice (some ⟨w4.heap.size, 0, none⟩) 0 0) []) := TrL.empty w4.drew w4.heap.size (Nat.le_refl _)
          have C5 : Hid (∀ (j : Nat) u, (flE (E.take I))[j]? = some u → (w4.drew.alloc (.cells #[] 144)).cell? ((⟨g, 0, none⟩ : Addr).add j) = some u) := fun j u hj => by
            rw [Addr.add_lit, Nat.zero_add]
            exact T5.out.cells j u (flE_take E I j u hj)
          obtain ⟨AD, hAD⟩ : ∃ AD : Addr, AD = if c = I + 1 then ⟨g, 0, none⟩ else ⟨g, (I + 1) * 3, none⟩ := ⟨_, rfl⟩
          have hAE : (if c = I + 1 then some (⟨g, 0, none⟩ : Addr) else some ⟨g, (I + 1) * 3, none⟩) = some AD := by rw [hAD]; split <;> rfl
          have C6 : Hid (∀ q, Below w4.heap.size (w4.drew.alloc (.cells #[] 144)) q → ∀ (j : Nat) u, (flE (E.drop (I + 1)))[j]? = some u → q.cell? (AD.add j) = some u) := fun q hq j u hj => by
            by_cases hcI : c = I + 1
            · have h0 : (E.drop (I + 1)).length = 0 := by rw [HDR.out]; omega
              have h1 := (List.getElem?_eq_some_iff.1 hj).1
              rw [flE_len, h0] at h1
              omega
            · rw [hAD, if_neg hcI, Addr.add_lit]
              have h1 := T5.out.cells _ u (flE_drop E (I + 1) (by omega) j u hj)
              exact (hq.cell (p := ⟨g, (I + 1) * 3 + j, none⟩) (show g < w4.heap.size by have := HSZ.out; omega)).trans h1
          clear hAD
          have hI0 : (0 : Int) ≤ (I : Int) := by omega
          have hI3 : (I : Int) ≤ (c : Int) := by omega
          have hI5 : (0 : Int) ≤ (I : Int) + 1 := by omega
          have hI4 : IntKind.i64.wrap ((I : Int) + 1) = (I : Int) + 1 := by rw [IntKind.wrap_i64]; omega
          go_region_law (first
            | (refine step_appE (w4.drew.alloc (.cells #[] 144)) rfl (.tmp 54) (.tmp 57) 142 rfl w4.heap.size Tryz.underlying142 Tryz.info144 (.slice (some ⟨w4.heap.size, 0, none⟩) 0 0) [] (by rfl) N5.out ⟨g, 0, none⟩ c (E.take I) (by rw [HTK.out]; rfl) C5.out (fun e he => T5.out.2.2 e (List.mem_of_mem_take he)) (by rw [HTK.out]; simp; omega) ?_
               intro v6 w6 hT6 hk6 hb6 hg6)
            | (refine step_appE w6 rfl (.tmp 58) (.tmp 62) 142 rfl w4.heap.size Tryz.underlying142 Tryz.info144 v6 ([] ++ E.take I) (by rfl) hT6 AD (c - (I + 1)) (E.drop (I + 1)) (by rw [HDR.out]; rfl) (C6.out w6 hb6) (fun e he => (T5.out.2.2 e (List.mem_of_mem_drop he)).kp3 hk6 hg6.size) (by rw [HDR.out, List.nil_append, HTK.out]; omega) ?_
               intro v7 w7 hT7 hk7 hb7 hg7))
          all_goals
            have hb47 : Below w4.heap.size w4 w7 := Below.trans (B5.out.mono (Nat.le_refl _)) (hb6.trans hb7)
            have T7 := hid (TrL.without hT7)
            have L7 := hid (((L4.out.below B5.out).kp3 hk6 hg6.size).kp3 hk7 hg7.size)
            have B7 := hid (BW4.out.trans (hb47.mono BW4.out.size))
            have A7 := hid ((hb47.block w3.heap.size (by have := HSZ.out; omega)).trans HAR.out)
            have YA7 := hid (((Y4.out.below B5.out).kp3 hk6 hg6.size).kp3 hk7 hg7.size)
            have hEr : (E.eraseIdx I).length = E.length - 1 := by rw [List.length_eraseIdx, if_pos hlt1]
            have hs47 := hb47.size
            clear hT7 hT6 hk6 hk7 hg6 hg7 hb6 hb7 hb47
            have hEr1 : 1 ≤ (E.eraseIdx I).length := by omega
            have hEr2 : (E.eraseIdx I).length ≤ 1000 := by omega
            obtain ⟨E1, hE1⟩ : ∃ E1, E1 = E.eraseIdx I := ⟨_, rfl⟩
            have HE1 := hid hE1
            rw [← hE1] at T7 hEr1 hEr2 hEr
            clear hE1 hEr HCL C5 C6 N5 T5 B5 T4 L4 Y4 HYA T3 L3 B3 ca cb cc
            rcases T7.out.2.1.2 with ⟨_, h0⟩ | ⟨h, d, dur, rfl, _, hhh, hhd, _⟩
            · omega
            have hhw := (Array.getElem?_eq_some_iff.1 hhh).1
            clear hhh
            go_wp2_with fail
            refine (spec_least _ _ E1 _ T7.out hEr1 hEr2).mono ?_
            rintro e x3 ⟨rfl, q2, rfl⟩
            have U3 : Hid (TrL (w7.drewN q2) w4.heap.size (.slice (some ⟨h, 0, none⟩) E1.length d) E1) := T7.out
            have M3 : Hid (Own (w7.drewN q2) w.heap.size 3 .i64 LV lens) := L7.out
            have D3 : Hid (Below w.heap.size w (w7.drewN q2)) := belowN B7.out q2
            have A8 : Hid ((w7.drewN q2).heap[w3.heap.size]? = some (.cells #[.int .i64 AW, .int .i64 AL, .slice ya AS.length yac] 144 (0, 0))) := A7.out
            have YA8 : Hid (Own (w7.drewN q2) 0 3 .i64 (.slice ya AS.length yac) AS) := YA7.out
            have hhw3 : h < (w7.drewN q2).heap.size := hhw
            have hs8 : w4.heap.size ≤ (w7.drewN q2).heap.size := hs47
            generalize w7.drewN q2 = x3 at *
            clear T7 L7 B7 A7 YA7
            have HCM := hid (fun (j : Nat) u hj => U3.out.cells j u hj)
            have hlt2 := least_lt E1 (by omega)
            obtain ⟨J, hJ⟩ : ∃ J, J = least E1 := ⟨_, rfl⟩
            have HJ := hid hJ
            rw [← hJ] at hlt2 ⊢
            have hat := flE_at E1 J hlt2
            have da := HCM.out _ _ hat.1
            have db := HCM.out _ _ hat.2.1
            have dc := HCM.out _ _ hat.2.2
            have HYB := hid (U3.out.2.2 _ (nthE_mem E1 J hlt2))
            obtain ⟨Bt, hBB⟩ : ∃ A, A = nthE E1 J := ⟨_, rfl⟩
            rw [← hBB] at da db dc HYB
            have HBt := hid hBB
            obtain ⟨yb, ybc, hyb⟩ := HYB.out.shape
            rw [hyb] at dc HYB
            have hJ1 : ((J : Nat) : Int) < (E1.length : Int) := by omega
            have hJ2 : (J : Int) + 1 ≤ (E1.length : Int) := by omega
            clear hJ hBB hat hyb
            have D4 := hid ((Below.refl x3.heap.size x3).alloc (Nat.le_refl _) (.cells #[.int .i64 Bt.w, .int .i64 Bt.l, .slice yb Bt.s.length ybc] 144))
            have U4 := hid (U3.out.below D4.out)
            have M4 := hid (M3.out.below D4.out)
            have DW4 := hid (D3.out.trans (D4.out.mono D3.out.size))
            have HBR := hid (heap_alloc_new x3 (.cells #[.int .i64 Bt.w, .int .i64 Bt.l, .slice yb Bt.s.length ybc] 144))
            have A9 := hid ((D4.out.block w3.heap.size (by have := HSZ.out; omega)).trans A8.out)
            have YA9 := hid (YA8.out.below D4.out)
            have YB9 := hid (HYB.out.below D4.out)
            have PB := hid (show (Bt.w, Bt.l, Bt.s) = nthT (E1.map TE.pl) J by rw [HBt.out]; exact nthE_pl E1 J)
            generalize Bt.w = BW at *
            generalize Bt.l = BL at *
            generalize Bt.s = BS at *
            have HTK2 : Hid ((E1.take J).length = J) := List.length_take_of_le (by omega)
            have HDR2 : Hid ((E1.drop (J + 1)).length = E1.length - (J + 1)) := List.length_drop
            have HSZ2 : Hid ((x3.alloc (.cells #[.int .i64 BW, .int .i64 BL, .slice yb BS.length ybc] 144)).heap.size = x3.heap.size + 1) := World.size_alloc _ _
            go_wp2_with fail
            generalize x3.alloc (.cells #[.int .i64 BW, .int .i64 BL, .slice yb BS.length ybc] 144) = x4 at *
            have D5 := hid (((Below.refl x4.heap.size x4).drew).alloc (Nat.le_refl _) (.cells #[] 144))
            have U5 := hid (U4.out.below D5.out)
            have N6 : Hid (TrL (x4.drew.alloc (.cells #[] 144)) x4.heap.size (.slice (some ⟨x4.heap.size, 0, none⟩) 0 0) []) := TrL.empty x4.drew x4.heap.size (Nat.le_refl _)
            have C7 : Hid (∀ (j : Nat) u, (flE (E1.take J))[j]? = some u → (x4.drew.alloc (.cells #[] 144)).cell? ((⟨h, 0, none⟩ : Addr).add j) = some u) := fun j u hj => by
              rw [Addr.add_lit, Nat.zero_add]
              exact U5.out.cells j u (flE_take E1 J j u hj)
            obtain ⟨AE, hAD⟩ : ∃ AD : Addr, AD = if d = J + 1 then ⟨h, 0, none⟩ else ⟨h, (J + 1) * 3, none⟩ := ⟨_, rfl⟩
            have hAF : (if d = J + 1 then some (⟨h, 0, none⟩ : Addr) else some ⟨h, (J + 1) * 3, none⟩) = some AE := by rw [hAD]; split <;> rfl
            have C8 : Hid (∀ q, Below x4.heap.size (x4.drew.alloc (.cells #[] 144)) q → ∀ (j : Nat) u, (flE (E1.drop (J + 1)))[j]? = some u → q.cell? (AE.add j) = some u) := fun q hq j u hj => by
              by_cases hcI : d = J + 1
              · have h0 : (E1.drop (J + 1)).length = 0 := by rw [HDR2.out]; omega
                have h1 := (List.getElem?_eq_some_iff.1 hj).1
                rw [flE_len, h0] at h1
                omega
              · rw [hAD, if_neg hcI, Addr.add_lit]
                have h1 := U5.out.cells _ u (flE_drop E1 (J + 1) (by omega) j u hj)
                exact (hq.cell (p := ⟨h, (J + 1) * 3 + j, none⟩) (show h < x4.heap.size by have := HSZ2.out; omega)).trans h1
            clear hAD
            have hJ0 : (0 : Int) ≤ (J : Int) := by omega
            have hJ3 : (J : Int) ≤ (d : Int) := by omega
            have hJ5 : (0 : Int) ≤ (J : Int) + 1 := by omega
            have hJ4 : IntKind.i64.wrap ((J : Int) + 1) = (J : Int) + 1 := by rw [IntKind.wrap_i64]; omega
            go_region_law (first
              | (refine step_appE (x4.drew.alloc (.cells #[] 144)) rfl (.tmp 70) (.tmp 73) 142 rfl x4.heap.size Tryz.underlying142 Tryz.info144 (.slice (some ⟨x4.heap.size, 0, none⟩) 0 0) [] (by rfl) N6.out ⟨h, 0, none⟩ d (E1.take J) (by rw [HTK2.out]; rfl) C7.out (fun e he => U5.out.2.2 e (List.mem_of_mem_take he)) (by rw [HTK2.out]; simp; omega) ?_
                 intro y6 x6 hT6 hk6 hb6 hg6)
              | (refine step_appE x6 rfl (.tmp 74) (.tmp 78) 142 rfl x4.heap.size Tryz.underlying142 Tryz.info144 y6 ([] ++ E1.take J) (by rfl) hT6 AE (d - (J + 1)) (E1.drop (J + 1)) (by rw [HDR2.out]; rfl) (C8.out x6 hb6) (fun e he => (U5.out.2.2 e (List.mem_of_mem_drop he)).kp3 hk6 hg6.size) (by rw [HDR2.out, List.nil_append, HTK2.out]; omega) ?_
                 intro y7 x7 hT7 hk7 hb7 hg7))
            all_goals
              have hb47 : Below x4.heap.size x4 x7 := Below.trans (D5.out.mono (Nat.le_refl _)) (hb6.trans hb7)
              have U7 := hid (TrL.without hT7)
              have M7 := hid (((M4.out.below D5.out).kp3 hk6 hg6.size).kp3 hk7 hg7.size)
              have D7 := hid (DW4.out.trans (hb47.mono DW4.out.size))
              have AA := hid ((hb47.block w3.heap.size (by have := HSZ.out; have := HSZ2.out; omega)).trans A9.out)
              have BB := hid ((hb47.block x3.heap.size (by have := HSZ2.out; omega)).trans HBR.out)
              have YA := hid (((YA9.out.below D5.out).kp3 hk6 hg6.size).kp3 hk7 hg7.size)
              have YB := hid (((YB9.out.below D5.out).kp3 hk6 hg6.size).kp3 hk7 hg7.size)
              have hs48 := hb47.size
              clear hT7 hT6 hk6 hk7 hg6 hg7 hb6 hb7 hb47 C7 C8 N6 U5 D5 U4 M4 A9 YA9 YB9 A8 YA8 HCM da db dc HBR HAR
              have hm1 : E1.map TE.pl = (E.map TE.pl).eraseIdx I := by rw [HE1.out, map_erase]
              have hlS : I < (E.map TE.pl).length := by rw [List.length_map]; exact hlt1
              have hlS1 : J < ((E.map TE.pl).eraseIdx I).length := by rw [← hm1, List.length_map]; exact hlt2
              have hPA : nthT (E.map TE.pl) I = (AW, AL, AS) := PA.out.symm
              have hPB : nthT ((E.map TE.pl).eraseIdx I) J = (BW, BL, BS) := by rw [← hm1]; exact PB.out.symm
              have HPA := hid hPA
              have HPB := hid hPB
              have mA := nthT_mem _ _ hlS
              have mB := List.mem_of_mem_eraseIdx (nthT_mem _ _ hlS1)
              rw [hPA] at mA
              rw [hPB] at mB
              have tw := two_sum (·.1) (E.map TE.pl) I J hlS hlS1 HWF.out.2.1
              have ts := two_sum (fun x => (x.2.2.length : Int)) (E.map TE.pl) I J hlS hlS1 (fun x _ => by simp)
              rw [hPA, hPB] at tw ts
              have hAW : 0 ≤ AW := HWF.out.2.1 _ mA
              have hBW : 0 ≤ BW := HWF.out.2.1 _ mB
              have hABW : AW + BW ≤ 25700000 := Int.le_trans tw HWF.out.1
              have hABS : (AS.length : Int) + (BS.length : Int) ≤ 257 := Int.le_trans ts HWF.out.2.2.1
              have HSA := hid (HWF.out.2.2.2 _ mA)
              have HSB := hid (HWF.out.2.2.2 _ mB)
              obtain ⟨ga, rfl⟩ := YA.out.some_of HSA.out.1
              obtain ⟨gb, rfl⟩ := YB.out.some_of HSB.out.1
              clear hm1 hlS hlS1 hPA hPB mA mB tw ts PA PB
              have a0 := cell_of_row x7 w3.heap.size 0 _ 144 (0, 0) AA.out
              have a1 := cell_of_row x7 w3.heap.size 1 _ 144 (0, 0) AA.out
              have a2 := cell_of_row x7 w3.heap.size 2 _ 144 (0, 0) AA.out
              have b0 := cell_of_row x7 x3.heap.size 0 _ 144 (0, 0) BB.out
              have b1 := cell_of_row x7 x3.heap.size 1 _ 144 (0, 0) BB.out
              have b2 := cell_of_row x7 x3.heap.size 2 _ 144 (0, 0) BB.out
              simp at a0 a1 a2 b0 b1 b2
              have HAC := hid (fun q (hq : Below x7.heap.size x7 q) => (show q.cell? ⟨w3.heap.size, 0, none⟩ = some (.int .i64 AW) ∧ q.cell? ⟨w3.heap.size, 1, none⟩ = some (.int .i64 AL) ∧ q.cell? ⟨w3.heap.size, 2, none⟩ = some (.slice (some ⟨ga, 0, none⟩) AS.length yac) ∧ q.cell? ⟨x3.heap.size, 0, none⟩ = some (.int .i64 BW) ∧ q.cell? ⟨x3.heap.size, 1, none⟩ = some (.int .i64 BL) ∧ q.cell? ⟨x3.heap.size, 2, none⟩ = some (.slice (some ⟨gb, 0, none⟩) BS.length ybc) from
                ⟨(hq.cell (p := ⟨w3.heap.size, 0, none⟩) (World.block_lt_of_cell? x7 _ a0)).trans a0, (hq.cell (p := ⟨w3.heap.size, 1, none⟩) (World.block_lt_of_cell? x7 _ a1)).trans a1, (hq.cell (p := ⟨w3.heap.size, 2, none⟩) (World.block_lt_of_cell? x7 _ a2)).trans a2, (hq.cell (p := ⟨x3.heap.size, 0, none⟩) (World.block_lt_of_cell? x7 _ b0)).trans b0, (hq.cell (p := ⟨x3.heap.size, 1, none⟩) (World.block_lt_of_cell? x7 _ b1)).trans b1, (hq.cell (p := ⟨x3.heap.size, 2, none⟩) (World.block_lt_of_cell? x7 _ b2)).trans b2⟩))
              have D8 := hid (((Below.refl x7.heap.size x7).drew).alloc (Nat.le_refl _) (.cells #[] 3))
              have O8 := hid (Own.empty x7.drew 3 .i64 x7.heap.size (Nat.le_refl _))
              have YA8 := hid (YA.out.below D8.out)
              have D8b := hid (D8.out.alloc D8.out.size (.cells #[.int .i64 0, .int .i64 0, .slice none 0 0] 144))
              have O8b : Hid (Own ((x7.drew.alloc (.cells #[] 3)).alloc (.cells #[.int .i64 0, .int .i64 0, .slice none 0 0] 144)) x7.heap.size 3 .i64 (.slice (some ⟨x7.heap.size, 0, none⟩) 0 0) []) := O8.out.below ((Below.refl _ _).alloc (Nat.le_refl _) _)
              have YA8b := hid (YA.out.below D8b.out)
              have Z8b : Hid (Zer ((x7.drew.alloc (.cells #[] 3)).alloc (.cells #[.int .i64 0, .int .i64 0, .slice none 0 0] 144)) (x7.heap.size + 1)) := by
                have h := heap_alloc_new (x7.drew.alloc (.cells #[] 3)) (.cells #[.int .i64 0, .int .i64 0, .slice none 0 0] 144)
                rw [World.size_alloc] at h
                exact h
              have D8c := hid ((((Below.refl x7.heap.size x7).drew).alloc (Nat.le_refl _) (.cells #[.int .i64 0, .int .i64 0, .slice none 0 0] 144)).alloc (by simp) (.cells #[] 3))
              have O8c : Hid (Own ((x7.drew.alloc (.cells #[.int .i64 0, .int .i64 0, .slice none 0 0] 144)).alloc (.cells #[] 3)) x7.heap.size 3 .i64 (.slice (some ⟨x7.heap.size + 1, 0, none⟩) 0 0) []) := by
                have h := Own.empty (x7.drew.alloc (.cells #[.int .i64 0, .int .i64 0, .slice none 0 0] 144)) 3 .i64 x7.heap.size (by simp)
                rw [World.size_alloc] at h
                exact h
              have YA8c := hid (YA.out.below D8c.out)
              have Z8c : Hid (Zer ((x7.drew.alloc (.cells #[.int .i64 0, .int .i64 0, .slice none 0 0] 144)).alloc (.cells #[] 3)) x7.heap.size) := (((Below.refl _ (x7.drew.alloc (.cells #[.int .i64 0, .int .i64 0, .slice none 0 0] 144))).alloc (Nat.le_refl _) (.cells #[] 3)).block x7.heap.size (by simp)).trans (heap_alloc_new x7.drew (.cells #[.int .i64 0, .int .i64 0, .slice none 0 0] 144))
              have hw8 : IntKind.i64.wrap (AW + BW) = AW + BW := by rw [IntKind.wrap_i64]; omega
              have hA7 : w3.heap.size < x7.heap.size := World.block_lt_of_cell? x7 _ a0
              have hB7 : x3.heap.size < x7.heap.size := World.block_lt_of_cell? x7 _ b0
              have n1 : x7.heap.size ≠ w3.heap.size := by omega
              have n2 : x7.heap.size ≠ x3.heap.size := by omega
              have n3 : x7.heap.size + 1 ≠ w3.heap.size := by omega
              have n4 : x7.heap.size + 1 ≠ x3.heap.size := by omega
              go_wp2_with fail
              go_cut [10] from 80 to 129 (fun p wx => Made x7 p (AW + BW) AL (AS ++ BS) wx)
              case first =>
                go_region_held3 (fun q => q.cell? ⟨w3.heap.size, 0, none⟩ = some (.int .i64 AW) ∧ q.cell? ⟨w3.heap.size, 1, none⟩ = some (.int .i64 AL) ∧ q.cell? ⟨w3.heap.size, 2, none⟩ = some (.slice (some ⟨ga, 0, none⟩) AS.length yac) ∧ q.cell? ⟨x3.heap.size, 0, none⟩ = some (.int .i64 BW) ∧ q.cell? ⟨x3.heap.size, 1, none⟩ = some (.int .i64 BL) ∧ q.cell? ⟨x3.heap.size, 2, none⟩ = some (.slice (some ⟨gb, 0, none⟩) BS.length ybc)) (go_keep) (first
                  | (refine step_appI (x7.drew.alloc (.cells #[] 3)) rfl (.tmp 87) (.tmp 89) 22 rfl x7.heap.size Tryz.underlying22 Tryz.info3 (.slice (some ⟨x7.heap.size, 0, none⟩) 0 0) [] (by rfl) O8.out 0 ga yac AS (by rfl) YA8.out (by simp; omega) ?_
                     intro y8 x8 hO8 hb8 hg8
                     have hc8 : Below x7.heap.size x7 x8 := Below.trans (D8.out) (hb8)
                     obtain ⟨f0, f1, f2, f3, f4, f5⟩ := HAC.out _ hc8)
                  | (refine step_appI ((x7.drew.alloc (.cells #[] 3)).alloc (.cells #[.int .i64 0, .int .i64 0, .slice none 0 0] 144)) rfl (.tmp 87) (.tmp 89) 22 rfl x7.heap.size Tryz.underlying22 Tryz.info3 (.slice (some ⟨x7.heap.size, 0, none⟩) 0 0) [] (by rfl) O8b.out 0 ga yac AS (by rfl) YA8b.out (by simp; omega) ?_
                     intro y8 x8 hO8 hb8 hg8
                     have hc8 : Below x7.heap.size x7 x8 := Below.trans (D8b.out) (hb8)
                     have hz8 : Zer x8 (x7.heap.size + 1) := Z8b.out.grown O8b.out hg8
                     obtain ⟨f0, f1, f2, f3, f4, f5⟩ := HAC.out _ hc8)
                  | (refine step_appI ((x7.drew.alloc (.cells #[.int .i64 0, .int .i64 0, .slice none 0 0] 144)).alloc (.cells #[] 3)) rfl (.tmp 87) (.tmp 89) 22 rfl x7.heap.size Tryz.underlying22 Tryz.info3 (.slice (some ⟨x7.heap.size + 1, 0, none⟩) 0 0) [] (by rfl) O8c.out 0 ga yac AS (by rfl) YA8c.out (by simp; omega) ?_
                     intro y8 x8 hO8 hb8 hg8
                     have hc8 : Below x7.heap.size x7 x8 := Below.trans (D8c.out) (hb8)
                     have hz8 : Zer x8 x7.heap.size := Z8c.out.grown O8c.out hg8
                     obtain ⟨f0, f1, f2, f3, f4, f5⟩ := HAC.out _ hc8)
                  | (have hc8b : Below x7.heap.size x7 (x8.alloc (.cells #[.int .i64 0, .int .i64 0, .slice none 0 0] 144)) := hc8.alloc hc8.size _
                     have hO8b := hO8.below ((Below.refl x8.heap.size x8).alloc (Nat.le_refl _) (.cells #[.int .i64 0, .int .i64 0, .slice none 0 0] 144))
                     refine step_appI (x8.alloc (.cells #[.int .i64 0, .int .i64 0, .slice none 0 0] 144)) rfl (.tmp 90) (.tmp 92) 22 rfl x7.heap.size Tryz.underlying22 Tryz.info3 y8 ([] ++ AS) (by rfl) hO8b 0 gb ybc BS (by rfl) (YB.out.below hc8b) (by simp; omega) ?_
                     intro y9 x9 hO9 hb9 hg9
                     have hc9 : Below x7.heap.size x7 x9 := hc8b.trans hb9
                     have n5 : x8.heap.size ≠ w3.heap.size := by have := hc8.size; omega
                     have n6 : x8.heap.size ≠ x3.heap.size := by have := hc8.size; omega
                     have hz9 : Zer x9 x8.heap.size := Zer.grown (heap_alloc_new x8 (.cells #[.int .i64 0, .int .i64 0, .slice none 0 0] 144)) hO8b hg9
                     have HO9 := hid hO9
                     obtain ⟨yo9, yc9, rfl⟩ := hO9.shape
                     obtain ⟨z0, z1, z2, z3, z4, z5⟩ := hz9.facts
                     obtain ⟨g0, g1, g2, g3, g4, g5⟩ := HAC.out _ hc9)
                  | (have hz := hz8
                     refine step_appI x8 rfl (.tmp 90) (.tmp 92) 22 rfl x7.heap.size Tryz.underlying22 Tryz.info3 y8 ([] ++ AS) (by rfl) hO8 0 gb ybc BS (by rfl) (YB.out.below hc8) (by simp; omega) ?_
                     intro y9 x9 hO9 hb9 hg9
                     have hc9 : Below x7.heap.size x7 x9 := hc8.trans hb9
                     have hz9 := hz.grown hO8 hg9
                     have HO9 := hid hO9
                     obtain ⟨yo9, yc9, rfl⟩ := hO9.shape
                     obtain ⟨z0, z1, z2, z3, z4, z5⟩ := hz9.facts
                     obtain ⟨g0, g1, g2, g3, g4, g5⟩ := HAC.out _ hc9)
                  | (refine step_appI x8 rfl (.tmp 90) (.tmp 92) 22 rfl x7.heap.size Tryz.underlying22 Tryz.info3 y8 ([] ++ AS) (by rfl) hO8 0 gb ybc BS (by rfl) (YB.out.below hc8) (by simp; omega) ?_
                     intro y9 x9 hO9 hb9 hg9
                     have hc9 : Below x7.heap.size x7 x9 := hc8.trans hb9
                     have HO9 := hid hO9
                     obtain ⟨yo9, yc9, rfl⟩ := hO9.shape
                     obtain ⟨g0, g1, g2, g3, g4, g5⟩ := HAC.out _ hc9))
                all_goals
                  have HO : Hid (Own x9 x7.heap.size 3 .i64 (.slice yo9 (AS ++ BS).length yc9) (AS ++ BS)) := by
                    have h := HO9.out
                    rw [List.nil_append] at h
                    exact h
                  go_wp2_with fail
                  go_meet
                  rw [← List.length_append]
                  first | exact Made.alloc HO.out hc9 | exact Made.store (by have := hc8.size; omega) hz9 HO.out hc9
              case rest =>
                obtain ⟨O, yo, yc, rfl, hO, hrow, hown, hb⟩ := hcut
                generalize hwc : wc = x8 at *
                clear hwc
                have hlO := (Array.getElem?_eq_some_iff.1 hrow).1
                have K0 := cell_of_row x8 O 0 _ 144 (0, 0) hrow
                have K1 := cell_of_row x8 O 1 _ 144 (0, 0) hrow
                have K2 := cell_of_row x8 O 2 _ 144 (0, 0) hrow
                simp at K0 K1 K2
                have F1 := frozen_of_row x8 O 1 _ 144 hrow
                obtain ⟨e0, e1, e2, e3, e4, e5⟩ := HAC.out _ hb
                have HROW := hid hrow
                have HOWN := hid hown
                have HBX := hid hb
                clear hrow hown hb a0 a1 a2 b0 b1 b2
                obtain ⟨LL, hLL⟩ : ∃ LL, LL = if BL < AL then BL else AL := ⟨_, rfl⟩
                have HLL := hid hLL
                have ST1 : Hid (BL < AL → LL = BL) := fun h => by rw [HLL.out, if_pos h]
                have ST2 : Hid (¬ BL < AL → LL = AL) := fun h => by rw [HLL.out, if_neg h]
                clear hLL
                have n7 : w3.heap.size ≠ O := by omega
                have n8 : x3.heap.size ≠ O := by omega
                go_upto_if 99 with fail
                go_cut [10] from 95 to 129 (fun p wx => p = .pointer (some ⟨O, 0, none⟩) ∧ wx.heap[O]? = some (.cells #[.int .i64 (AW + BW), .int .i64 LL, .slice yo (AS ++ BS).length yc] 144 (0, 0)) ∧ Own wx x7.heap.size 3 .i64 (.slice yo (AS ++ BS).length yc) (AS ++ BS) ∧ Below x7.heap.size x7 wx)
                case first =>
                  by_cases hBA : BL < AL
                  · have hLB := ST1.out hBA
                    have hr := heap_setCell_same x8 O 1 _ 144 (.int .i64 BL) HROW.out
                    have ho : Own (x8.setCell ⟨O, 1, none⟩ (.int .i64 BL)) x7.heap.size 3 .i64 (.slice yo (AS ++ BS).length yc) (AS ++ BS) := ⟨by have := HOWN.out.1; simpa [World.setCell] using this, ownsRow_setCell_other HOWN.out.2 (HOWN.out.ne95 HROW.out) _⟩
                    have HR1 := hid hr
                    have HO1 := hid ho
                    have HB1 := hid (HBX.out.setCell (p := ⟨O, 1, none⟩) hO (.int .i64 BL))
                    subst hLB
                    clear hr ho
                    go_wp2_with fail
                    go_meet
                    exact ⟨rfl, HR1.out, HO1.out, HB1.out⟩
                  · have hLB := ST2.out hBA
                    subst hLB
                    go_wp2_with fail
                    go_meet
                    exact ⟨rfl, HROW.out, HOWN.out, HBX.out⟩
                case rest =>
                  obtain ⟨rfl, hrow, hown, hb⟩ := hcut
                  generalize hwc : wc = x9 at *
                  clear hwc
                  have HN2 : Hid (∀ e ∈ E1.eraseIdx J, ∀ g, e.y.ownBlock = some g → LV.ownBlock ≠ some g) := fun e he g hg => HNE.out e (by have h1 := List.mem_of_mem_eraseIdx he; rw [HE1.out] at h1; exact List.mem_of_mem_eraseIdx h1) g hg
                  obtain ⟨gl, lc, hLV⟩ : ∃ gl lc, LV = .slice (some ⟨gl, 0, none⟩) 257 lc := by
                    rcases M7.out.2.2 with ⟨hv, h0⟩ | ⟨gl, lc, cur, hv, _⟩
                    · rw [hlens] at h0; omega
                    · exact ⟨gl, lc, by rw [hv, hlens]⟩
                  have hgl : Hid (gl < x7.heap.size) := by
                    have h := M7.out
                    rw [hLV] at h
                    exact h.ge.2
                  have U9 := hid (U7.out.below hb)
                  have M9 := hid (M7.out.below hb)
                  have D9 := hid (D7.out.trans (hb.mono D7.out.size))
                  have h79 := hid hb.size
                  have HNW : Hid (∀ g, (Value.slice yo (AS ++ BS).length yc).ownBlock = some g → LV.ownBlock ≠ some g) := fun g hg e => by
                    have h1 := (hown.2.lt g hg).1
                    rw [hLV] at e
                    simp [Value.ownBlock] at e
                    have := hgl.out
                    omega
                  have HROW9 := hid hrow
                  have HOWN9 := hid hown
                  have HSS : Hid (∀ t, t < (AS ++ BS).length → 0 ≤ (AS ++ BS).getD t 0 ∧ (AS ++ BS).getD t 0 ≤ 256) := fun t ht => by
                    rw [List.getD_eq_getElem?_getD, List.getElem?_eq_getElem ht]
                    have hm := List.getElem_mem ht
                    rcases List.mem_append.1 hm with h | h
                    · exact HSA.out.2 _ h
                    · exact HSB.out.2 _ h
                  have hSL : (AS ++ BS).length ≤ 257 := by rw [List.length_append]; omega
                  have HL9 := hid hLV
                  clear hrow hown hb YA YB AA BB HYB HAC D8 O8 YA8 D8b O8b YA8b Z8b D8c O8c YA8c Z8c
                  subst hLV
                  obtain ⟨SS, hSS⟩ : ∃ SS, AS ++ BS = SS := ⟨_, rfl⟩
                  have HSE := hid hSS
                  rw [hSS] at HROW9 HOWN9 HSS hSL HNW
                  clear hSS
                  go_wp2_with fail
                  go_loopw [11] (fun dd xr => ∃ t : Nat, t ≤ SS.length ∧ dd = .int .i64 t ∧ Own xr w.heap.size 3 .i64 (.slice (some ⟨gl, 0, none⟩) 257 lc) (bumpTo lens SS t) ∧ Hid (x9.grownBy xr (some gl))) (fun dd _ => SS.length - (intOf dd).toNat)
                  case atStart => exact ⟨0, by omega, rfl, M9.out, World.grownBy.refl _ _⟩
                  case round =>
                    obtain ⟨t, ht, rfl, hM, hG⟩ := hrel
                    have hOg : O ≠ gl := by have := hgl.out; omega
                    have hrowr : wr.heap[O]? = some (.cells #[.int .i64 (AW + BW), .int .i64 LL, .slice yo SS.length yc] 144 (0, 0)) := (hG.out.block O (Array.getElem?_eq_some_iff.1 HROW9.out).1 (fun e => hOg (Option.some.inj e))).trans HROW9.out
                    have k2 := cell_of_row wr O 2 _ 144 (0, 0) hrowr
                    have k1 := cell_of_row wr O 1 _ 144 (0, 0) hrowr
                    have k0 := cell_of_row wr O 0 _ 144 (0, 0) hrowr
                    simp at k0 k1 k2
                    have HRW := hid hrowr
                    have HMM := hid hM
                    clear hrowr
                    by_cases hlt5 : t < SS.length
                    · have hlt5' : (t : Int) < (SS.length : Int) := by omega
                      obtain ⟨gy, hyo⟩ : ∃ gy, yo = some ⟨gy, 0, none⟩ := HOWN9.out.some_of (by intro e; rw [e] at hlt5; simp at hlt5)
                      subst hyo
                      have hgy := HOWN9.out.ge
                      have hgy2 : x7.heap.size ≤ gy := hgy.1
                      have hc5 : wr.cell? ⟨gy, t, none⟩ = some (.int .i64 (SS.getD t 0)) := by
                        have h0 := HOWN9.out.at t hlt5
                        rw [World.cell?_of_block (a := ⟨gy, t, none⟩) (hG.out.block gy hgy.2 (fun e => by have := Option.some.inj e; have := hgl.out; omega))]
                        exact h0
                      obtain ⟨hs0, hs1⟩ := HSS.out t hlt5
                      obtain ⟨sn, hsn⟩ := Int.eq_ofNat_of_zero_le hs0
                      have hst : Hid (bumpTo lens SS (t + 1) = (bumpTo lens SS t).set sn ((bumpTo lens SS t).getD sn 0 + 1)) := by
                        show _ = _
                        rw [bumpTo, hsn]
                        rfl
                      rw [hsn] at hc5 hs0 hs1
                      have hbl := bumpTo_len lens SS t
                      have hat := hM.at sn (by rw [hbl, hlens]; omega)
                      have hfr := hM.free sn
                      have hbb := bumpTo_bd lens SS sn t
                      have hb9 := HBD.out sn
                      have hNEW := hid (hM.store sn ((bumpTo lens SS t).getD sn 0 + 1))
                      rw [← hst.out] at hNEW
                      have hX0 : 0 ≤ (bumpTo lens SS t).getD sn 0 := by omega
                      have hX1 : (bumpTo lens SS t).getD sn 0 ≤ 1000000 := by omega
                      have hsl : (sn : Int) < 257 := by omega
                      have hG2 := hid (World.grownBy.trans hG.out (show wr.grownBy (wr.setCell ⟨gl, sn, none⟩ (.int .i64 ((bumpTo lens SS t).getD sn 0 + 1))) (some gl) from ⟨rfl, rfl, rfl, by simp [World.setCell], fun k hk hne => heap_setCell_other wr ⟨gl, sn, none⟩ k _ (fun e => hne (by rw [e]))⟩))
                      clear hM hbb hb9 hgy
                      generalize (bumpTo lens SS t).getD sn 0 = X at *
                      go_wp2_with fail
                      go_region
                      all_goals
                        go_wp2_with fail
                        go_roundw
                        case rel => exact ⟨t + 1, by omega, by go_num, hNEW.out.drew1, ⟨hG2.out.os, hG2.out.tape, hG2.out.output, hG2.out.size, hG2.out.block⟩⟩
                        case measure => simp [intOf]; omega
                    · obtain rfl : t = SS.length := by omega
                      have hLb : (Value.slice (some ⟨gl, 0, none⟩) 257 lc).ownBlock = some gl := rfl
                      have TU := hid ((U9.out.grewI M9.out hG.out.size HN2.out (fun g hg hne => hG.out.block g hg hne)).low (Nat.le_trans DW4.out.size (Nat.le_refl _)))
                      have OW : Hid (Own wr x7.heap.size 3 .i64 (.slice yo SS.length yc) SS) := by
                        have h0 := HOWN9.out
                        refine ⟨Nat.le_trans h0.1 hG.out.size, h0.2.1, ?_⟩
                        rcases h0.2.2 with h1 | ⟨k, cap, cur, hv, hk, hh, r⟩
                        · exact .inl h1
                        · exact .inr ⟨k, cap, cur, hv, hk, (hG.out.block k (Array.getElem?_eq_some_iff.1 hh).1 (fun e => by have := Option.some.inj e; have := hgl.out; omega)).trans hh, r⟩
                      have DF := hid (D9.out.trans (show Below w.heap.size x9 wr from ⟨hG.out.os, hG.out.tape, hG.out.output, hG.out.size, fun k hk => hG.out.block k (Nat.lt_of_lt_of_le hk D9.out.size) (fun e => by have h1 := Option.some.inj e; have h2 := hM.ge.1; have h3 : w.heap.size ≤ gl := h2; omega)⟩))
                      have hA := (Below.refl wr.heap.size wr).alloc (Nat.le_refl _) (.cells #[.int .i64 (AW + BW), .int .i64 LL, .slice yo SS.length yc] 144)
                      have TU2 := hid (TU.out.below hA)
                      have OW2 := hid ((OW.out.below hA).low (Nat.zero_le _))
                      have MM2 := hid (HMM.out.below hA)
                      have CE : Hid (∀ (j : Nat) u, (flE [((AW + BW, LL, .slice yo SS.length yc, SS) : TE)])[j]? = some u → (wr.alloc (.cells #[.int .i64 (AW + BW), .int .i64 LL, .slice yo SS.length yc] 144)).cell? ((⟨wr.heap.size, 0, none⟩ : Addr).add j) = some u) := by
                        intro j u hj
                        have hrow := heap_alloc_new wr (.cells #[.int .i64 (AW + BW), .int .i64 LL, .slice yo SS.length yc] 144)
                        rw [Addr.add_lit, Nat.zero_add, cell_of_row _ _ j _ 144 (0, 0) hrow]
                        simpa [flE, TE.w, TE.l, TE.y] using hj
                      have hEl2 : (E1.eraseIdx J).length ≤ 1000 := by rw [List.length_eraseIdx]; split <;> omega
                      have DF2 := hid (DF.out.trans (hA.mono DF.out.size))
                      have HEL := hid (show (E1.eraseIdx J).length + 1 = E1.length by rw [List.length_eraseIdx, if_pos hlt2]; omega)
                      have HE1L := hid (show E1.length + 1 = E.length by rw [HE1.out, List.length_eraseIdx, if_pos hlt1]; omega)
                      clear hM hA
                      go_wp2_with (at_builtin; refine wpList_appE _ rfl _ _ 142 rfl w.heap.size Tryz.underlying142 Tryz.info144 _ _ rfl TU2.out ⟨wr.heap.size, 0, none⟩ 1 [(AW + BW, LL, .slice yo SS.length yc, SS)] rfl CE.out (fun e he => by simp at he; subst he; exact OW2.out) (by simp; omega) ?_)
                      intro vf xf hTf hkf hbf
                      have hsz := hTf.shape
                      obtain ⟨af, cf, rfl⟩ := hsz
                      have HLF : Hid (L2 fs w.heap.size w xf (f - 1) (.slice af (E1.eraseIdx J ++ [((AW + BW, LL, .slice yo SS.length yc, SS) : TE)]).length cf) (.slice (some ⟨gl, 0, none⟩) 257 lc)) := by
                        refine L2.next (Y := .slice yo SS.length yc) HRUN.out hmore hEf hf257 hlens HWF.out HBD.out HI.out HE1.out HJ.out HPA.out HPB.out HLL.out hABS ?_ ?_ ?_ (DF2.out.trans hbf)
                        · rw [HSE.out]; exact hTf
                        · rw [HSE.out]; exact MM2.out.kp3 hkf hbf.size
                        · rw [HSE.out]
                          intro e he g hg
                          rcases List.mem_append.1 he with h | h
                          · exact HN2.out e h g hg
                          · simp only [List.mem_singleton] at h
                            subst h
                            exact HNW.out g hg
                      have HLEN : Hid ((E1.eraseIdx J ++ [((AW + BW, LL, .slice yo SS.length yc, SS) : TE)]).length < E.length) := by
                        show _ < _
                        have h1 := HEL.out
                        have h2 := HE1L.out
                        rw [List.length_append, List.length_singleton]
                        omega
                      clear hTf hkf hbf
                      go_wp2_with fail
                      go_roundw
                      case rel => exact ⟨f - 1, HLF.out⟩
                      case measure => simpa [sliceLen] using HLEN.out
        · have hle := L2.end HRUN.out hmore
          have hm9 : ¬ (1 : Int) < (E.length : Int) := by omega
          have HOO := hid HLS.out
          rw [hle] at HOO
          clear hmore hle
          go_wp2_with fail
          go_ret
          exact ⟨_, rfl, HOO.out, HB.out⟩
end Go.Proofs.YtnnakmgngkpghaaGreat
