/- The walk of the law FnCrash, whole. -/
import Derived.Test.YtlphojlccecnhaaCk
namespace Go.Proofs.Ytlphojlccecnhaa
open Go.RowKit
set_option linter.unusedVariables false

theorem toList_loop (bs : ByteArray) : ∀ k i r, bs.size - i = k → ByteArray.toList.loop bs i r = r.reverse ++ bs.data.toList.drop i := by
  intro k
  induction k with
  | zero =>
    intro i r h
    rw [ByteArray.toList.loop]
    have : ¬ i < bs.size := by omega
    rw [if_neg this, List.drop_of_length_le (by have : bs.data.size = bs.size := rfl; simp; omega)]
    simp
  | succ k ih =>
    intro i r h
    rw [ByteArray.toList.loop]
    have hi : i < bs.size := by omega
    rw [if_pos hi, ih (i + 1) _ (by omega)]
    have hd : i < bs.data.toList.length := by have : bs.data.size = bs.size := rfl; simp; omega
    rw [List.drop_eq_getElem_cons hd]
    have hd' : i < bs.data.size := hi
    have : bs.get! i = bs.data.toList[i] := by
      unfold ByteArray.get!
      simp
      exact getElem!_pos bs.data i hd'
    simp [this]
theorem toList_inj {a b : ByteArray} (h : a.toList = b.toList) : a = b := by
  unfold ByteArray.toList at h
  rw [toList_loop a _ 0 [] rfl, toList_loop b _ 0 [] rfl] at h
  simp at h
  obtain ⟨⟨l⟩⟩ := a
  obtain ⟨⟨m⟩⟩ := b
  simp at h
  rw [h]
theorem ne_list {a b : ByteArray} (h : a ≠ b) : (a.toList == b.toList) = false := by
  cases h2 : (a.toList == b.toList)
  · rfl
  · exact absurd (toList_inj (eq_of_beq h2)) h

theorem Own.vw {w : World} {base : Nat} {ao : Option Addr} {n c : Nat} {xs : List Int} (h : Own w base 3 .i64 (.slice ao n c) xs) : View .i64 w ao xs.length xs := by
  obtain ⟨ao', cap, e, hv⟩ := h.view
  cases e
  exact hv

set_option maxRecDepth 100000 in
set_option maxHeartbeats 6400000 in
theorem law_fnCrash (ao : Option Addr) (n cap : Nat) (zs : List Int) (w : World) (hv : View .u8 w ao n zs) (hz : ∀ x ∈ zs, (Lit.int .u8 x).wf = true) :
    Calls Try.prog 4 #[.slice ao n cap] w fun e w' => e = .returned (.bool true) ∧ Below w.heap.size w w' := by
  by_cases hbig : (1048576 : Int) < (n : Int)
  · have hd : decide ((1048576 : Int) < (n : Int)) = true := decide_eq_true hbig
    have HBG := hid (big_any ao n cap w)
    rw [hd] at HBG
    go_enter Try.func4, Try.ntmps4
    go_wp2_with (go_at_call 9; refine HBG.out.mono ?_; rintro e w1 ⟨rfl, rfl⟩)
    go_ret
    exact ⟨rfl, Below.refl _ _⟩
  · have hd : decide ((1048576 : Int) < (n : Int)) = false := decide_eq_false hbig
    have HBG := hid (big_any ao n cap w)
    rw [hd] at HBG
    have HDR := hid (draw_crash ao n cap zs w ⟨by omega, hv, hz⟩)
    clear hv hz hd hbig
    go_enter Try.func4, Try.ntmps4
    go_wp2_with (first
      | (go_at_call 9; refine HBG.out.mono ?_; rintro e w1 ⟨rfl, rfl⟩)
      | (go_at_call 19; refine HDR.out.mono ?_; rintro e w2 ⟨v, kv, rfl, S, L, ks, hS1, hS2, hL, hks, ⟨va, vb, rfl, ho1, ho2⟩, hok, hb⟩; obtain ⟨xa, xc, rfl, px, _⟩ := ho1.shape; obtain ⟨ya, yc, rfl, py, _⟩ := ho2.shape; obtain ⟨ka, kc, rfl⟩ := hok.shape; have B := hid hb; have G1 := hid ho1; have G2 := hid ho2; have GK := hid hok; have PX := hid px; have PY := hid py; have hb2 := (Below.refl w2.heap.size w2).alloc (Nat.le_refl _) (.cells #[.slice xa S.length xc, .slice ya L.length yc] 27); replace B := hid (B.out.trans (hb2.mono B.out.size)); replace G1 := hid (G1.out.below hb2); replace G2 := hid (G2.out.below hb2); replace GK := hid (GK.out.below hb2); have D := hid (Blk.new w2 [.slice xa S.length xc, .slice ya L.length yc] 27); clear ho1 ho2 hok hb hb2 px py HDR HBG))
    have HIM := hid (fun v ko kc q (hq : DP q v S L) (hk : View .i64 q ko ks.length ks) => impl_crash v S L ko kc ks q (by omega) (by omega) hq (by omega) hk)
    have HSP := hid (fun v ko kc q (hq : DP q v S L) (hk : View .i64 q ko ks.length ks) => spec_crash v S L ko kc ks q (by omega) (by omega) hq (by omega) hk)
    have HRL := hid (bhL_len S L)
    have HRS := hid (bhS_len S L (kpOf ks))
    have HRN := hid (fun h => bhL_no (S := S) (L := L) h)
    have HRY := hid (fun h => And.intro (bhS_yes (S := S) (L := L) (kp := kpOf ks) h) (bhL_yes (S := S) (L := L) h))
    generalize bhS S L (kpOf ks) = RS at *
    generalize bhL S L = RL at *
    have q0 := D.out.cell (i := 0) rfl
    have q1 := D.out.cell (i := 1) rfl
    go_wp2_with fail
    refine (HIM.out _ _ _ _ (show DO _ _ _ S L from ⟨_, _, rfl, G1.out, G2.out⟩).dp GK.out.vw).mono ?_
    clear q0 q1 HIM
    generalize w2.alloc (.cells #[.slice xa S.length xc, .slice ya L.length yc] 27) = w3 at *
    rintro e w4 ⟨v, rfl, ⟨va, vb, rfl, ho1, ho2⟩, hb⟩
    obtain ⟨Ea, Ec, rfl, Ep, _⟩ := ho1.shape
    obtain ⟨Eb, Ed, rfl, Er, _⟩ := ho2.shape
    replace B := hid (B.out.trans (hb.mono B.out.size))
    replace D := hid (D.out.below hb D.out.lt)
    replace G1 := hid (G1.out.below hb)
    replace G2 := hid (G2.out.below hb)
    replace GK := hid (GK.out.below hb)
    have E1 := hid ho1
    have E2 := hid ho2
    have EP := hid (show _ ∧ _ from ⟨Ep, Er⟩)
    clear hb ho1 ho2 Ep Er
    have hb := (Below.refl w4.heap.size w4).alloc (Nat.le_refl _) (.cells #[.slice Ea RS.length Ec, .slice Eb RL.length Ed] 27)
    replace B := hid (B.out.trans (hb.mono B.out.size))
    replace D := hid (D.out.below hb D.out.lt)
    replace G1 := hid (G1.out.below hb)
    replace G2 := hid (G2.out.below hb)
    replace GK := hid (GK.out.below hb)
    replace E1 := hid (E1.out.below hb)
    replace E2 := hid (E2.out.below hb)
    have EB := hid (Blk.new w4 [.slice Ea RS.length Ec, .slice Eb RL.length Ed] 27)
    clear hb
    have q0 := D.out.cell (i := 0) rfl
    have q1 := D.out.cell (i := 1) rfl
    go_wp2_with fail
    refine (HSP.out _ _ _ _ (show DO _ _ _ S L from ⟨_, _, rfl, G1.out, G2.out⟩).dp GK.out.vw).mono ?_
    clear q0 q1 HSP
    generalize w4.alloc (.cells #[.slice Ea RS.length Ec, .slice Eb RL.length Ed] 27) = w5 at *
    rintro e w6 ⟨v, rfl, ⟨va, vb, rfl, ho1, ho2⟩, hb⟩
    obtain ⟨Wa, Wc, rfl, Wp, _⟩ := ho1.shape
    obtain ⟨Wb, We, rfl, Wr, _⟩ := ho2.shape
    replace B := hid (B.out.trans (hb.mono B.out.size))
    replace D := hid (D.out.below hb D.out.lt)
    replace G1 := hid (G1.out.below hb)
    replace G2 := hid (G2.out.below hb)
    replace E1 := hid (E1.out.below hb)
    replace E2 := hid (E2.out.below hb)
    replace EB := hid (EB.out.below hb EB.out.lt)
    clear GK
    have W1 := hid ho1
    have W2 := hid ho2
    clear hb ho1 ho2 Wp Wr
    have hb := (Below.refl w6.heap.size w6).alloc (Nat.le_refl _) (.cells #[.slice Wa RS.length Wc, .slice Wb RL.length We] 27)
    replace B := hid (B.out.trans (hb.mono B.out.size))
    replace D := hid (D.out.below hb D.out.lt)
    replace G1 := hid (G1.out.below hb)
    replace G2 := hid (G2.out.below hb)
    replace E1 := hid (E1.out.below hb)
    replace E2 := hid (E2.out.below hb)
    replace EB := hid (EB.out.below hb EB.out.lt)
    replace W1 := hid (W1.out.below hb)
    have WB := hid (Blk.new w6 [.slice Wa RS.length Wc, .slice Wb RL.length We] 27)
    clear hb W2
    have q0 := EB.out.cell (i := 0) rfl
    have q1 := EB.out.cell (i := 1) rfl
    have q2 := WB.out.cell (i := 0) rfl
    have q3 := WB.out.cell (i := 1) rfl
    go_wp2_with fail
    refine (same_texts _ _ _ _ RS _ (by have := HRS.out; omega) E1.out.rw W1.out.rw).mono ?_
    clear q0 q1 q2 q3
    generalize w6.alloc (.cells #[.slice Wa RS.length Wc, .slice Wb RL.length We] 27) = w7 at *
    rintro e w8 ⟨rfl, hb⟩
    replace B := hid (B.out.trans (hb.mono B.out.size))
    replace D := hid (D.out.below hb D.out.lt)
    replace G1 := hid (G1.out.below hb)
    replace G2 := hid (G2.out.below hb)
    replace E1 := hid (E1.out.below hb)
    replace E2 := hid (E2.out.below hb)
    replace EB := hid (EB.out.below hb EB.out.lt)
    replace WB := hid (WB.out.below hb WB.out.lt)
    clear hb W1
    have q0 := EB.out.cell (i := 0) rfl
    have q1 := EB.out.cell (i := 1) rfl
    have q2 := WB.out.cell (i := 0) rfl
    have q3 := WB.out.cell (i := 1) rfl
    have q4 := D.out.cell (i := 0) rfl
    have q5 := D.out.cell (i := 1) rfl
    have hKK : ((RL.length : Int) != (RL.length : Int)) = false := by simp
    go_wp2_with fail
    refine (spec_ok _ S L _ (show DO _ _ _ S L from ⟨_, _, rfl, G1.out, G2.out⟩).dp.dv).mono ?_
    clear q0 q1 q2 q3 q4 q5 WB hKK
    rintro e w9 ⟨rfl, hb⟩
    replace B := hid (B.out.trans (hb.mono B.out.size))
    replace D := hid (D.out.below hb D.out.lt)
    replace G1 := hid (G1.out.below hb)
    replace G2 := hid (G2.out.below hb)
    replace E1 := hid (E1.out.below hb)
    replace E2 := hid (E2.out.below hb)
    replace EB := hid (EB.out.below hb EB.out.lt)
    clear hb
    have q0 := EB.out.cell (i := 0) rfl
    have q1 := EB.out.cell (i := 1) rfl
    have q4 := D.out.cell (i := 0) rfl
    have q5 := D.out.cell (i := 1) rfl
    cases hok : okB S L
    · have hee : ((RL.length : Int) == (L.length : Int)) = true := by rw [HRN.out hok]; simp
      go_wp2_with fail
      go_ret
      exact ⟨rfl, B.out⟩
    · have HFR : Hid (∀ i, i < S.length → sAt RS i = sAt S i ∨ ∃ j, j < L.length ∧ (lAt L j).1 = (i : Int) ∧ (lAt L j).2 = sAt RS i) := hid (fun i hi => by
        have := crTo_from S L (kpOf ks) (fun j hj => ((okB_iff hok).2.2 j hj).1) i hi L.length (Nat.le_refl _)
        rwa [← (HRY.out hok).1] at this)
      have HOE : Hid (okB RS RL = true) := hid (by rw [(HRY.out hok).1, (HRY.out hok).2]; exact okB_yes (crTo_ok S L _ (okB_iff hok)))
      clear HRN HRY hok
      go_wp2_with fail
      go_loopw [7] (fun i wr => ∃ k : Nat, k ≤ S.length ∧ i = .int .i64 k ∧ ∃ q, wr = w9.drewN q) (fun i _ => S.length - (intOf i).toNat)
      case atStart => exact ⟨0, by omega, rfl, 0, rfl⟩
      case round =>
        obtain ⟨i, hi, rfl, q, rfl⟩ := hrel
        by_cases hlt : i < S.length
        · have hlt' : (i : Int) < (S.length : Int) := by omega
          have hlr : (i : Int) < (RS.length : Int) := by rw [HRS.out]; exact hlt'
          obtain ⟨b, off, e1, hc⟩ := E1.out.rw.atS i (by rw [HRS.out]; exact hlt)
          obtain ⟨b', off', e2, hc'⟩ := G1.out.rw.atS i hlt
          subst e1
          subst e2
          have HF := hid (HFR.out i hlt)
          generalize sAt RS i = X at *
          generalize sAt S i = Y at *
          go_wp2_with fail
          go_quiet (fail)
          go_wp2_with fail
          go_loopw [8, 9] (fun kn j wr => ∃ (k : Nat) (b : Bool), k ≤ L.length ∧ kn = .bool b ∧ j = .int .i64 k ∧ Hid ((X = Y ∨ ∃ j, j < k ∧ (lAt L j).1 = (i : Int) ∧ (lAt L j).2 = X) → b = true) ∧ ∃ q, wr = w9.drewN q) (fun _ j _ => L.length - (intOf j).toNat)
          case atStart =>
            refine ⟨0, _, by omega, rfl, rfl, hid ?_, _, World.drewN_drewN _ _ _⟩
            rintro (h | ⟨j, h, _⟩)
            · subst h; simp
            · omega
          case round =>
            obtain ⟨k, bb, hk, rfl, rfl, hinv, q, rfl⟩ := hrel
            by_cases hkl : k < L.length
            · have hkl' : (k : Int) < (L.length : Int) := by omega
              obtain ⟨g, o, e3, c1, c2⟩ := G2.out.rw.atW k hkl
              subst e3
              have HST : Hid (∀ b' : Bool, (bb = true → b' = true) → ((lAt L k).1 = (i : Int) ∧ (lAt L k).2 = X → b' = true) → (X = Y ∨ ∃ j, j < k + 1 ∧ (lAt L j).1 = (i : Int) ∧ (lAt L j).2 = X) → b' = true) := hid (by
                intro b' h1 h2
                rintro (h | ⟨j, h3, h4⟩)
                · exact h1 (hinv.out (.inl h))
                · by_cases hj : j = k
                  · subst hj; exact h2 h4
                  · exact h1 (hinv.out (.inr ⟨j, by omega, h4⟩)))
              generalize (lAt L k).1 = A at *
              generalize (lAt L k).2 = T at *
              clear hinv
              cases bb
              · by_cases hA : A = (i : Int)
                · subst hA
                  by_cases hT : T = X
                  · subst hT
                    go_wp2_with fail
                    go_quiet (fail)
                    go_wp2_with fail
                    go_roundw
                    case rel => exact ⟨k + 1, true, by omega, rfl, by go_num, hid (HST.out _ (fun _ => rfl) (fun _ => rfl)), _, rfl⟩
                    case measure => simp [intOf]; omega
                  · have hTb := ne_list hT
                    go_wp2_with fail
                    go_quiet (fail)
                    go_wp2_with fail
                    go_roundw
                    case rel => exact ⟨k + 1, false, by omega, rfl, by go_num, hid (HST.out _ (fun h => h) (fun h => absurd h.2 hT)), _, rfl⟩
                    case measure => simp [intOf]; omega
                · have hAb : (A == (i : Int)) = false := by simp [hA]
                  go_wp2_with fail
                  go_quiet (fail)
                  go_wp2_with fail
                  go_roundw
                  case rel => exact ⟨k + 1, false, by omega, rfl, by go_num, hid (HST.out _ (fun h => h) (fun h => absurd h.1 hA)), _, rfl⟩
                  case measure => simp [intOf]; omega
              · go_wp2_with fail
                go_quiet (fail)
                go_wp2_with fail
                go_roundw
                case rel => exact ⟨k + 1, true, by omega, rfl, by go_num, hid (HST.out _ (fun _ => rfl) (fun _ => rfl)), _, rfl⟩
                case measure => simp [intOf]; omega
            · obtain rfl : k = L.length := by omega
              obtain rfl : bb = true := hinv.out HF.out
              go_wp2_with fail
              go_roundw
              case rel => exact ⟨i + 1, by omega, by go_num, _, rfl⟩
              case measure => simp [intOf]; omega
        · obtain rfl : i = S.length := by omega
          go_wp2_with fail
          refine (impl_ok _ RS RL _ (show DO _ _ _ RS RL from ⟨_, _, rfl, E1.out.drew q, E2.out.drew q⟩).dp.dv).mono ?_
          rw [HOE.out]
          rintro e w10 ⟨rfl, hb⟩
          have hBq := belowN B.out q
          replace B := hid (hBq.trans (hb.mono hBq.size))
          clear hb hBq
          go_wp2_with fail
          go_ret
          exact ⟨rfl, B.out⟩
end Go.Proofs.Ytlphojlccecnhaa
