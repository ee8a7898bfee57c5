/- bestLengths. -/
import Derived.Test.YtmdmolofiblbmaaBk
import Derived.Deep.CutRange
namespace Go.Proofs.Ytmdmolofiblbmaa
open Go.RowKit
set_option linter.unusedVariables false

set_option maxRecDepth 20000 in
set_option maxHeartbeats 1600000 in
theorem best_any (G c : Nat) (cur : List Value) (E : List TE) (L : List PT) (R : List Int) (w : World) (hcl : cur.length = c * 3) (hr : RowT w G cur E) (hc : E.length ≤ c) (hO : ∀ e ∈ E, Own w 0 3 .i64 e.y e.s)
    (hp : (E.map TE.pl).Perm L) (ha : Apart L) (hwf : WFP L) (h1 : 1 ≤ L.length) (h2 : L.length ≤ 257) (hR : runP 257 L z257 = R) :
    Calls Try.prog 41 #[.slice (some ⟨G, 0, none⟩) E.length c] w fun e w' => e = .returned (.agg (ivs R).toArray) ∧ R.length = 257 ∧ Ef G w w' := by
  have hG := hr.1.lt
  have hlen : E.length = L.length := by rw [← hp.length_eq, List.length_map]
  have HP := hid (show (E.map TE.pl).Perm L ∧ Apart L ∧ WFP L ∧ runP 257 L z257 = R ∧ 1 ≤ E.length ∧ E.length ≤ 257 ∧ E.length ≤ c ∧ cur.length = c * 3 from ⟨hp, ha, hwf, hR, by omega, by omega, hc, hcl⟩)
  have HR0 := hid hr
  have HO := hid hO
  have HG := hid hG
  clear hr hO hp ha hwf hR hlen h1 h2 hG hcl hc
  obtain ⟨V0, hV0⟩ : ∃ V0, V0 = ((w.alloc (.cells #[.slice (some ⟨G, 0, none⟩) E.length c] 62)).alloc (.cells (ivs z257).toArray 64)).alloc (.cells (ivs z257).toArray 64) := ⟨_, rfl⟩
  have hS0 : V0.heap.size = w.heap.size + 1 + 1 + 1 := by rw [hV0]; simp
  have hB0 : Blk V0 (w.heap.size + 1 + 1) (ivs z257) 64 := by
    have h := blk_new ((w.alloc (.cells #[.slice (some ⟨G, 0, none⟩) E.length c] 62)).alloc (.cells (ivs z257).toArray 64)) (ivs z257) 64
    rw [World.size_alloc, World.size_alloc] at h
    rw [hV0]; exact h
  have hB1 : Blk V0 (w.heap.size + 1) (ivs z257) 64 := by
    have h := blk_new (w.alloc (.cells #[.slice (some ⟨G, 0, none⟩) E.length c] 62)) (ivs z257) 64
    rw [World.size_alloc] at h
    rw [hV0]; exact h.allocK _
  have hB2 : Blk V0 w.heap.size [.slice (some ⟨G, 0, none⟩) E.length c] 62 := by
    rw [hV0]; exact ((blk_new w [.slice (some ⟨G, 0, none⟩) E.length c] 62).allocK _).allocK _
  have hE0 : Below w.heap.size w V0 := by
    rw [hV0]; exact (((Below.refl _ w).alloc (Nat.le_refl _) _).alloc (by simp) _).alloc (by simp; omega) _
  have HV := hid (show V0.heap.size = w.heap.size + 1 + 1 + 1 ∧ Blk V0 (w.heap.size + 1 + 1) (ivs z257) 64 ∧ Blk V0 (w.heap.size + 1) (ivs z257) 64 ∧ Blk V0 w.heap.size [.slice (some ⟨G, 0, none⟩) E.length c] 62 ∧ Below w.heap.size w V0 from ⟨hS0, hB0, hB1, hB2, hE0⟩)
  clear hS0 hB0 hB1 hB2 hE0
  have HVE := hid hV0
  have HB := hid (show Blk (((w.alloc (.cells #[.slice (some ⟨G, 0, none⟩) E.length c] 62)).alloc (.cells (ivs z257).toArray 64)).alloc (.cells (ivs z257).toArray 64)) (w.heap.size + 1 + 1) (ivs z257) 64 from by rw [← HVE.out]; exact HV.out.2.1)
  clear hV0
  go_enter Try.func41, Try.ntmps41
  go_wp2_with (first | (with_reducible refine at_alloc 64 ?_; refine wpList_newZ _ rfl 64 rfl (ivs z257) zero64 ?_) | (with_reducible refine at_build 64 ?_; refine wpList_build0 _ rfl 64 rfl (ivs z257) build64 ?_) | (with_reducible refine at_store 64 ?_; refine wpList_storeR _ rfl 64 _ _ rfl (w.heap.size + 1 + 1) (ivs z257) (ivs z257) HB.out (by go_simp) rfl rfl (size64L z257_len) (ivs_one _) ?_) | fail)
  intro w1 hb1 he1
  have H1 : Hid (Stt w w1 G c E z257) := by
    rw [← HVE.out] at he1
    obtain ⟨v0, v1, v2, v3, v4⟩ := HV.out
    have hG := HG.out
    have hEw : Ef G w w1 := ⟨he1.os.trans v4.os, he1.tape.trans v4.tape, he1.output.trans v4.output, Nat.le_trans v4.size he1.size, fun g hg hne => (he1.block g (by omega) (fun e => by have := Option.some.inj e; omega)).trans (v4.block g hg)⟩
    exact hid ⟨⟨v3.ef he1 (by omega), cur, HP.out.2.2.2.2.2.2.2, (HR0.out.1.below v4 hG).ef he1 (by omega), HR0.out.2⟩, hb1, v2.ef he1 (by omega), fun e he => ((HO.out e he).below v4).ef v1 (by decide) he1, hEw, hG, HP.out.2.2.2.2.2.2.1⟩
  clear hb1 he1 HB HVE HV HR0 HO
  have HI := hid (init_any w.heap.size G c E w1 (by have := HG.out; omega) (by have := HP.out; omega) H1.out.hp H1.out.slices)
  go_wp2_with (first | (go_at_call 59; refine HI.out.mono ?_; rintro e w2 ⟨rfl, ⟨E1, hm1, hp1, hl1, hs1⟩, he1⟩) | fail)
  have H2 : Hid (∃ f E' L' lens, HS R f (E'.map TE.pl) L' lens ∧ Stt w w2 G c E' lens) := by
    obtain ⟨p1, p2, p3, p4, p5, p6, p7, p8⟩ := HP.out
    have hlen := p1.length_eq
    rw [List.length_map] at hlen
    have hin := initH_heap (E.length / 2) (E.map TE.pl) (by rw [List.length_map]; exact Nat.le_refl _) (by have := leaf_heap (E.map TE.pl); rwa [List.length_map] at this ⊢)
    have hz : ∀ j, z257.getD j 0 = 0 := fun j => by
      simp only [z257, List.getD, List.getElem?_replicate]
      split <;> rfl
    refine hid ⟨257, E1, L, z257, ⟨by rw [hp1]; exact hin.1.trans p1, p2, by rw [hp1]; have := hin.2; rw [initH_len]; exact this, p3, p4, by omega, Nat.le_refl _, by omega, z257_len, fun j => by rw [hz j]; omega⟩, H1.out.two (he1.toR w.heap.size) hm1 (fun e he => H1.out.own2 (he1.toR w.heap.size) (H1.out.own e (hs1 e he))) (by omega)⟩
  clear hm1 hp1 hl1 hs1 he1 H1 HI
  go_loopw [] (fun wr => Hid (∃ f E' L' lens, HS R f (E'.map TE.pl) L' lens ∧ Stt w wr G c E' lens)) (fun wr => lenAt wr w.heap.size)
  case atStart => exact H2
  case round =>
    obtain ⟨f, E', L', lens, hS0, hT0⟩ := hrel.out
    have HS0 := hid hS0
    have HT0 := hid hT0
    have HL0 := hid hT0.hp.lenAt
    have hn := hS0.perm.length_eq
    rw [List.length_map] at hn
    have hn1 : 1 ≤ E'.length ∧ E'.length ≤ 257 := by have := hS0.some; have := hS0.fuel; have := hS0.small; omega
    have c0 := hT0.hp.1.cell (i := 0) rfl
    clear hS0 hT0 hrel H2
    obtain ⟨n, hnE⟩ : ∃ n, n = E'.length := ⟨_, rfl⟩
    rw [← hnE] at c0 hn1
    have HN := hid hnE
    have HN1 := hid hn1
    clear hnE hn hn1
    by_cases h1 : 1 < n
    · have h1' : decide ((1 : Int) < (n : Int)) = true := by simp; omega
      have HP1 := hid (HT0.out.pop (by have := HN.out; omega) (by have := HN.out; have := HN1.out; omega))
      have HTY := ta_tree
      have H1 := hid h1
      clear h1
      go_wp2_with (first | (go_at_call 60; refine (len_any _ _ _ _).mono ?_; rintro e w2 ⟨rfl, rfl⟩) | (go_at_call 61; refine HP1.out.mono ?_; rintro e w3 ⟨x1, l1, y1, n1, d1, s1, E2, rfl, HX1⟩) | fail)
      have HG2 := hid (show Stt w (w3.alloc (.cells #[.int .i64 x1, .int .i64 l1, .slice y1 n1 d1] 86)) G c E2 lens ∧ Own (w3.alloc (.cells #[.int .i64 x1, .int .i64 l1, .slice y1 n1 d1] 86)) 0 3 .i64 (.slice y1 n1 d1) s1 ∧ Blk (w3.alloc (.cells #[.int .i64 x1, .int .i64 l1, .slice y1 n1 d1] 86)) w3.heap.size [.int .i64 x1, .int .i64 l1, .slice y1 n1 d1] 86 ∧ w.heap.size < w3.heap.size from by
        obtain ⟨q1, q2, q3, q4, q5⟩ := HX1.out
        have hb := (Below.refl w3.heap.size w3).alloc (Nat.le_refl _) (.cells #[.int .i64 x1, .int .i64 l1, .slice y1 n1 d1] 86)
        exact ⟨q4.below hb, q3.below hb, blk_new _ _ _, q4.hp.1.lt⟩)
      have HE2 : Hid (E2.length = n - 1) := hid (by
        have := congrArg List.length HX1.out.2.1
        rw [List.length_map] at this
        rw [this, (HS0.out.more (by rw [List.length_map, ← HN.out]; exact H1.out)).2.2.1, List.length_map, ← HN.out])
      refine (HG2.out.1.pop (by have := HE2.out; have := H1.out; omega) (by have := HE2.out; have := HN1.out; omega)).mono ?_
      rintro e w4 ⟨x2, l2, y2, n2, d2, s2, E3, rfl, HX2⟩
      have hA0 : Blk w4 w3.heap.size [.int .i64 x1, .int .i64 l1, .slice y1 n1 d1] 86 := HG2.out.2.2.1.ef2 HX2.out.2.2.2.2 (by have := HG2.out.2.2.2; omega) (by have := HG2.out.2.2.2; have := HG.out; omega)
      have HA0 := hid hA0
      have hA2 : (w4.alloc (.cells #[.int .i64 x2, .int .i64 l2, .slice y2 n2 d2] 86)).cell? ⟨w3.heap.size, 2, none⟩ = some (.slice y1 n1 d1) := (hA0.allocK _).cell (i := 2) rfl
      have HOW : Hid (Own w4 0 3 .i64 (.slice y1 n1 d1) s1) := hid (HG2.out.1.own2 HX2.out.2.2.2.2 HG2.out.2.1)
      clear hA0
      have HF := hid (show s1 ≠ [] ∧ s2 ≠ [] ∧ (∀ x ∈ s1 ++ s2, 0 ≤ x ∧ x ≤ 256) ∧ (s1.length : Int) + s2.length ≤ 257 ∧ (0 ≤ x1 ∧ 0 ≤ x2 ∧ x1 + x2 ≤ 25700000) ∧ E3.length = n - 2 ∧ HS R (f - 1) (pushH (E3.map TE.pl) (mergeP (x1, l1, s1) (x2, l2, s2))) ((stepP L').1 ++ [(stepP L').2]) (bumpTo lens (s1 ++ s2) (s1 ++ s2).length) from by
        obtain ⟨a1, a2, a3, a4, a5, a6, a7⟩ := HS0.out.more (by rw [List.length_map, ← HN.out]; exact H1.out)
        obtain ⟨b1, b2, _⟩ := HX1.out
        obtain ⟨c1, c2, _⟩ := HX2.out
        rw [b2] at c1 c2
        rw [← b1] at a1 a5 a6 a7
        rw [← c1] at a2 a5 a6 a7
        rw [← c2] at a4 a7
        have w1 := HS0.out.wf.2.2.2 _ a1
        have w2 := HS0.out.wf.2.2.2 _ a2
        refine ⟨w1.1, w2.1, fun x hx => ?_, a5, ⟨HS0.out.wf.2.1 _ a1, HS0.out.wf.2.1 _ a2, a6⟩, ?_, a7⟩
        · rcases List.mem_append.1 hx with h | h
          · exact w1.2 x h
          · exact w2.2 x h
        · rw [List.length_map, List.length_map, ← HN.out] at a4
          exact a4)
      have HB4 := hid ((Below.refl w4.heap.size w4).alloc (Nat.le_refl _) (.cells #[.int .i64 x2, .int .i64 l2, .slice y2 n2 d2] 86))
      have HB5 := hid (HB4.out.alloc (by simp) (.cells #[.slice y1 n1 d1, .slice y2 n2 d2] 24))
      obtain ⟨SS, hSS⟩ : ∃ SS, SS = s1 ++ s2 := ⟨_, rfl⟩
      obtain ⟨NN, hNN⟩ : ∃ NN, NN = SS.length := ⟨_, rfl⟩
      have HSS := hid (show SS = s1 ++ s2 ∧ NN = SS.length ∧ 1 ≤ NN ∧ NN ≤ 257 from ⟨hSS, hNN, by
        have := List.length_pos_iff.2 HF.out.1
        have := HF.out.2.2.2.1
        rw [hNN, hSS, List.length_append]
        omega⟩)
      have HC : Hid (Calls Try.prog 62 #[.slice (some ⟨w4.heap.size + 1, 0, none⟩) 2 2] ((w4.alloc (.cells #[.int .i64 x2, .int .i64 l2, .slice y2 n2 d2] 86)).alloc (.cells #[.slice y1 n1 d1, .slice y2 n2 d2] 24)) fun e w' => ∃ g5 d5, e = .returned (.slice (some ⟨g5, 0, none⟩) NN d5) ∧ Hid (Own w' 0 3 .i64 (.slice (some ⟨g5, 0, none⟩) NN d5) SS ∧ Below w4.heap.size w4 w' ∧ Blk w' w4.heap.size [.int .i64 x2, .int .i64 l2, .slice y2 n2 d2] 86)) := hid (by
        refine (concat_any (w4.heap.size + 1) y1 y2 n1 n2 d1 d2 s1 s2 ((w4.alloc (.cells #[.int .i64 x2, .int .i64 l2, .slice y2 n2 d2] 86)).alloc (.cells #[.slice y1 n1 d1, .slice y2 n2 d2] 24)) HOW.out.len HX2.out.2.2.1.len (by rw [HOW.out.len]; exact List.length_pos_iff.2 HF.out.1) (by rw [HX2.out.2.2.1.len]; exact List.length_pos_iff.2 HF.out.2.1) (by have h1 := HOW.out.len; have h2 := HX2.out.2.2.1.len; have := HF.out.2.2.2.1; omega) (by have h := blk_new (w4.alloc (.cells #[.int .i64 x2, .int .i64 l2, .slice y2 n2 d2] 86)) [.slice y1 n1 d1, .slice y2 n2 d2] 24; rw [World.size_alloc] at h; exact h) (HOW.out.below HB5.out) (HX2.out.2.2.1.below HB5.out)).mono ?_
        rintro e w5 ⟨v5, rfl, ho5, hb5⟩
        rw [← hSS] at ho5
        obtain ⟨g5, d5, rfl⟩ := ho5.shape
        obtain ⟨g, rfl⟩ := ho5.some_of (fun e => by have := HSS.out.2.2.1; rw [hNN, e] at this; simp at this)
        rw [← hNN] at ho5 ⊢
        exact ⟨g, d5, rfl, hid ⟨ho5.low (Nat.zero_le _), Below.trans HB5.out ⟨hb5.os, hb5.tape, hb5.output, hb5.size, fun k hk => hb5.block k (by simp; omega)⟩, ((blk_new w4 [.int .i64 x2, .int .i64 l2, .slice y2 n2 d2] 86).allocK _).below hb5 (by simp; omega)⟩⟩)
      have n1b : (NN : Int) ≤ 257 := by have := HSS.out.2.2.2; omega
      clear hSS hNN
      go_wp2_with (first | (go_at_call 62; refine HC.out.mono ?_; rintro e w5 ⟨g5, d5, rfl, HX5⟩) | fail)
      have HS5 := hid (HX2.out.2.2.2.1.below HX5.out.2.1)
      clear HC HTY hA2
      go_loopw [29] (fun i wr2 => ∃ k : Nat, k ≤ NN ∧ i = .int .i64 k ∧ Hid (Stt w wr2 G c E3 (bumpTo lens SS k)) ∧ Hid (Ef (w.heap.size + 1 + 1) w5 wr2)) (fun i _ => NN - (intOf i).toNat)
      case atStart => exact ⟨0, Nat.zero_le _, rfl, HS5, hid (Ef.refl _ _)⟩
      case round =>
        obtain ⟨k, hk, rfl, hT2, hE2⟩ := hrel
        have HOS := hid (HX5.out.1.ef HS5.out.ln (by decide) hE2.out)
        by_cases hlt : k < NN
        · have hlt' : (k : Int) < (NN : Int) := by omega
          have hcs := HOS.out.at k (by have := HSS.out.2.1; omega)
          have HX := hid (HF.out.2.2.1 (SS.getD k 0) (by rw [← HSS.out.1]; simp [List.getD, show k < SS.length by have := HSS.out.2.1; omega]))
          have HN2 := hid (show bumpTo lens SS (k + 1) = (bumpTo lens SS k).set (SS.getD k 0).toNat ((bumpTo lens SS k).getD (SS.getD k 0).toNat 0 + 1) from rfl)
          have hx0 := HX.out.1
          have hx1 : SS.getD k 0 < 257 := by have := HX.out.2; omega
          have hcl := hT2.out.ln.cell (ivs_get (bumpTo lens SS k) (SS.getD k 0).toNat (by rw [bumpTo_len, HS0.out.len]; omega))
          have hfr := hT2.out.ln.free (SS.getD k 0).toNat
          have hyb : 0 ≤ (bumpTo lens SS k).getD (SS.getD k 0).toNat 0 ∧ (bumpTo lens SS k).getD (SS.getD k 0).toNat 0 ≤ 300000 := by
            have h1 := bumpTo_bd lens SS (SS.getD k 0).toNat k
            have h2 := HS0.out.bd (SS.getD k 0).toNat
            have h3 := HS0.out.small
            have h4 := HSS.out.2.2.2
            omega
          clear HX
          generalize SS.getD k 0 = X at *
          generalize (bumpTo lens SS k).getD X.toNat 0 = Y at *
          obtain ⟨hy0, hy1⟩ := hyb
          have HT3 := hid (hT2.out.bump X.toNat (Y + 1))
          rw [← HN2.out] at HT3
          have HE3 := hid (hE2.out.trans (Ef.set wr X.toNat (.int .i64 (Y + 1))))
          clear HN2 hT2 hE2 HOS
          go_wp2_with fail
          go_roundw
          case rel => exact ⟨k + 1, by omega, by go_num, HT3, HE3⟩
          case measure => simp [intOf]; omega
        · obtain rfl : k = NN := by omega
          have hE3 : E3.length < 1000 ∧ E3.length < c := by
            have h1 := HF.out.2.2.2.2.2.1
            have h2 := HN1.out
            have h3 := HT0.out.cap
            have h4 := HN.out
            have h5 := H1.out
            omega
          have hAw := (HA0.out.below HX5.out.2.1 HA0.out.lt).ef hE2.out (by have := HX1.out.2.2.2.1.ln.lt; omega)
          have hBw : Blk wr w4.heap.size [.int .i64 x2, .int .i64 l2, .slice y2 n2 d2] 86 := HX5.out.2.2.ef hE2.out (by have := HX2.out.2.2.2.1.ln.lt; omega)
          have a0 := hAw.cell (i := 0) rfl
          have a1 := hAw.cell (i := 1) rfl
          have b0 := hBw.cell (i := 0) rfl
          have b1 := hBw.cell (i := 1) rfl
          obtain ⟨p1, p2, p3⟩ := HF.out.2.2.2.2.1
          have HEND : Hid (∀ (LL : Int) w6, LL = (if l2 < l1 then l2 else l1) → (∃ E2, E2.map TE.pl = pushH (E3.map TE.pl) (x1 + x2, LL, SS) ∧ Stt w w6 G c E2 (bumpTo lens SS k)) → (∃ f E' L' lens, HS R f (E'.map TE.pl) L' lens ∧ Stt w w6 G c E' lens) ∧ lenAt w6 w.heap.size < n) := hid (by
            rintro LL w6 hLL ⟨E4, hpl, hT⟩
            have hm : mergeP (x1, l1, s1) (x2, l2, s2) = (x1 + x2, LL, SS) := by rw [hLL, HSS.out.1]; rfl
            obtain ⟨f1, f2, f3, f4, f5, f6, f7⟩ := HF.out
            rw [hm, ← hpl, ← HSS.out.1, ← HSS.out.2.1] at f7
            refine ⟨⟨_, E4, _, _, f7, hT⟩, ?_⟩
            rw [hT.hp.lenAt]
            have h1 := congrArg List.length hpl
            have h2 : (pushH (E3.map TE.pl) (x1 + x2, LL, SS)).length = (E3.map TE.pl).length + 1 := by
              unfold pushH
              rw [up_len, List.length_append]
              rfl
            rw [h2, List.length_map, List.length_map] at h1
            have := H1.out
            omega)
          clear hAw hBw hk hlt
          have HP3 := hid (hT2.out.push hE3.1 hE3.2 (x1 + x2) (min l1 l2) (some ⟨g5, 0, none⟩) k d5 SS HOS.out)
          have HE4 := hid (fun w6 h => HEND.out (min l1 l2) w6 (by split <;> omega) h)
          clear hE3
          go_wp2_with (first | (go_at_call 63; refine HP3.out.mono ?_; rintro e w6 ⟨rfl, HX6⟩) | fail)
          go_roundw
          case rel => exact (HE4.out _ HX6.out).1
          case measure => have h1 := (HE4.out _ HX6.out).2; have h2 := HL0.out; have h3 := HN.out; omega
    · have h1' : decide ((1 : Int) < (n : Int)) = false := by simp; omega
      have HRR := hid (HS0.out.end (by rw [List.length_map, ← HN.out]; exact h1))
      have HLn := hid HS0.out.len
      have HT := hid (show Stt w wr G c E' R from by rw [← HRR.out]; exact HT0.out)
      have hRl : R.length = 257 := by rw [← HRR.out]; exact HLn.out
      have HRl := hid hRl
      clear hRl h1 HS0 HT0
      go_wp2_with (first | (go_at_call 60; refine (len_any _ _ _ _).mono ?_; rintro e w2 ⟨rfl, rfl⟩) | (with_reducible refine at_load 64 ?_; refine wpList_loadR _ rfl 64 _ rfl (w.heap.size + 1 + 1) (ivs R) HT.out.ln (by go_simp) 257 3 Try.underlying64 (size64L HRl.out) ?_) | (with_reducible refine at_store 64 ?_; refine wpList_storeR _ rfl 64 _ _ rfl (w.heap.size + 1) (ivs z257) (ivs R) HT.out.rs (by go_simp) rfl (by rw [ivs_len, ivs_len, z257_len, HRl.out]) (size64L HRl.out) (ivs_one _) ?_) | fail)
      intro w3 hb3 he3
      go_wp2_with fail
      refine bodyPost_ret (v := .agg (ivs R).toArray) ?_ rfl ⟨rfl, HRl.out, ?_⟩
      · have hld := run_loadVar_row (P := Try.prog) w3 (w.heap.size + 1) 64 64 (ivs R).toArray (0, 0) _ hb3 Try.underlying64 rfl (by simpa using size64L HRl.out)
        exact results_one_cell rfl _ _ _ _ _ rfl hld
      · have h7 := HT.out.ef
        have hG := HG.out
        exact ⟨he3.os.trans h7.os, he3.tape.trans h7.tape, he3.output.trans h7.output, Nat.le_trans h7.size he3.size, fun g hg hne => (he3.block g (Nat.lt_of_lt_of_le hg h7.size) (fun e => by have := Option.some.inj e; omega)).trans (h7.block g hg hne)⟩
end Go.Proofs.Ytmdmolofiblbmaa
