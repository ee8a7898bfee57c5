/- LogOpen of the specification. -/
import Derived.Test.YtphhgfgmlfdkiaaOp
import Derived.Test.YtphhgfgmlfdkiaaLb
import Derived.Test.YtphhgfgmlfdkiaaSy
namespace Go.Proofs.Ytphhgfgmlfdkiaa
open Go.RowKit
set_option linter.unusedVariables false

set_option maxRecDepth 100000 in
set_option maxHeartbeats 6400000 in
theorem spec_logOpen (v : Value) (S : List ByteArray) (L : List (Int × ByteArray)) (w : World) (h1 : S.length ≤ 1048576) (h2 : L.length ≤ 1048576) (hv : DP w v S L) :
    Calls Try.prog 24 #[v] w fun e w' => ∃ v' u' S' L' o p, e = .returned (.tuple #[v', u', .int .i64 (p : Nat)]) ∧ DO w' w.heap.size v' S' L' ∧ OwG w' w.heap.size 9 1 u' o.length (encS o) ∧ Ap u' v' ∧ OpR S L S' L' o p ∧ Below w.heap.size w w' := by
  obtain ⟨a, c, a', c', e0, r1, r2, p1, p2⟩ := id hv
  subst e0
  obtain ⟨n1, n2, n3⟩ := new_two w [.slice a S.length c, .slice a' L.length c'] [.slice none 0 0, .slice none 0 0] 27 27
  have N := hid n1
  have O := hid n2
  have B := hid n3
  have V := hid (hv.below (Nat.le_refl _) n3)
  clear n1 n2 n3 r1 r2 p1 p2 hv
  have q0 := N.out.cell (i := 0) rfl
  have q1 := N.out.cell (i := 1) rfl
  go_enter Try.func24, Try.ntmps24
  go_wp2_with fail
  clear q0 q1
  refine (spec_copy _ S L _ h1 h2 V.out).mono ?_
  generalize (w.alloc _).alloc _ = wa at *
  have hO := O.out.lt
  have hN := N.out.lt
  rintro e w1 ⟨v', rfl, ⟨va, vb, rfl, ho1, ho2⟩, hb⟩
  obtain ⟨xa, xc, rfl, _, _⟩ := ho1.shape
  obtain ⟨ya, yc, rfl, _, _⟩ := ho2.shape
  have hwa1 := hb.size
  have KN := N.out.below hb N.out.lt
  have q0 := KN.cell (i := 0) rfl
  have q1 := KN.cell (i := 1) rfl
  have f0 := KN.free 0
  have f1 := KN.free 1
  have KN1 := KN.set 0 (.slice xa S.length xc)
  have q3 := KN1.cell (i := 1) rfl
  have f3 := KN1.free 1
  have KN2 := KN1.set 1 (.slice ya L.length yc)
  have q4 := KN2.cell (i := 0) rfl
  have q5 := KN2.cell (i := 1) rfl
  replace B := hid (((B.out.trans (hb.mono B.out.size)).setCell (p := ⟨w.heap.size, 0, none⟩) (Nat.le_refl _) (.slice xa S.length xc)).setCell (p := ⟨w.heap.size, 1, none⟩) (Nat.le_refl _) (.slice ya L.length yc))
  replace O := hid (((O.out.below hb O.out.lt).other (a := ⟨w.heap.size, 0, none⟩) (by show w.heap.size + 1 ≠ w.heap.size; omega) (.slice xa S.length xc)).other (a := ⟨w.heap.size, 1, none⟩) (by show w.heap.size + 1 ≠ w.heap.size; omega) (.slice ya L.length yc))
  have G1 := hid ((ho1.setCell_below (a := ⟨w.heap.size, 0, none⟩) hN (.slice xa S.length xc)).setCell_below (a := ⟨w.heap.size, 1, none⟩) hN (.slice ya L.length yc))
  have G2 := hid ((ho2.setCell_below (a := ⟨w.heap.size, 0, none⟩) hN (.slice xa S.length xc)).setCell_below (a := ⟨w.heap.size, 1, none⟩) hN (.slice ya L.length yc))
  replace N := hid KN2
  have HLR := hid (spec_logRead (.agg #[.slice xa S.length xc, .slice ya L.length yc]) S L ((w1.setCell ⟨w.heap.size, 0, none⟩ (.slice xa S.length xc)).setCell ⟨w.heap.size, 1, none⟩ (.slice ya L.length yc)) ⟨_, _, _, _, rfl, G1.out.rw, G2.out.rw⟩)
  clear ho1 ho2 hb V KN KN1 KN2
  go_wp2_with fail
  clear q0 q1 q3 q4 q5 f0 f1 f3
  refine HLR.out.mono ?_
  clear HLR
  generalize (w1.setCell _ _).setCell _ _ = wb at *
  have hBwb := B.out.size
  rintro e w2 ⟨u, o, p, rfl, hou, hlr, hb⟩
  obtain ⟨ua, uc, rfl, _, _⟩ := hou.shape
  have hbG := hid (fun g (e : (Value.slice xa S.length xc).ownBlock = some g) => (G1.out.2.lt g e).2)
  replace B := hid (B.out.trans (hb.mono B.out.size))
  replace N := hid (N.out.below hb N.out.lt)
  replace O := hid (O.out.below hb O.out.lt)
  replace G1 := hid (G1.out.below hb)
  replace G2 := hid (G2.out.below hb)
  have U := hid hou
  have HLR := hid hlr
  have HAP := hid (show Ap (.slice ua o.length uc) (.agg #[.slice xa S.length xc, .slice ya L.length yc]) from fun va vb e g hg e2 => by
    cases e
    have h3 := hbG.out g e2.symm
    have h4 := (hou.2.lt g hg).1
    omega)
  have HOK := hid (spec_ok (.agg #[.slice xa S.length xc, .slice ya L.length yc]) S L w2 ⟨_, _, _, _, rfl, G1.out.rw, G2.out.rw⟩)
  have hwb : wb.heap.size ≤ w2.heap.size := hb.size
  have hB2 := B.out.size
  clear hb hou hlr
  have q0 := N.out.cell (i := 0) rfl
  have q1 := N.out.cell (i := 1) rfl
  go_wp2_with fail
  refine HOK.out.mono ?_
  rintro e w3 ⟨rfl, hb⟩
  replace B := hid (B.out.trans (hb.mono B.out.size))
  replace N := hid (N.out.below hb N.out.lt)
  replace O := hid (O.out.below hb O.out.lt)
  replace G1 := hid (G1.out.below hb)
  replace G2 := hid (G2.out.below hb)
  replace U := hid (U.out.below hb)
  clear hb q0 q1 HOK
  have z0 := N.out.cell (i := 0) rfl
  have z1 := N.out.cell (i := 1) rfl
  have k0 := O.out.cell (i := 0) rfl
  have k1 := O.out.cell (i := 1) rfl
  have l0 := O.out.free 0
  have l1 := O.out.free 1
  cases hO1 : okB S L with
  | false =>
    have F := (O.out.set 0 (.slice xa S.length xc)).set 1 (.slice ya L.length yc)
    have y0 := F.cell (i := 0) rfl
    have y1 := F.cell (i := 1) rfl
    clear F
    obtain ⟨rfl, rfl⟩ : o = [] ∧ p = 0 := by
      rcases HLR.out with ⟨h, _⟩ | ⟨_, h⟩
      · rw [hO1] at h; cases h
      · exact h
    go_wp2_with fail
    refine bodyPost_ret (v := .tuple #[.agg #[.slice xa S.length xc, .slice ya L.length yc], .slice ua 0 uc, .int .i64 0]) (by simp [results, Try.results24, go_sem, y0, y1]) rfl ?_
    refine ⟨_, _, S, L, [], 0, rfl, ⟨_, _, rfl, ?_, ?_⟩, ?_, HAP.out, .inl ⟨hO1, rfl, rfl, rfl, rfl⟩, (B.out.setCell (p := ⟨w.heap.size + 1, 0, none⟩) (Nat.le_succ _) _).setCell (p := ⟨w.heap.size + 1, 1, none⟩) (Nat.le_succ _) _⟩
    · exact ((G1.out.setCell_below (a := ⟨w.heap.size + 1, 0, none⟩) hO _).setCell_below (a := ⟨w.heap.size + 1, 1, none⟩) hO _).mono (by omega)
    · exact ((G2.out.setCell_below (a := ⟨w.heap.size + 1, 0, none⟩) hO _).setCell_below (a := ⟨w.heap.size + 1, 1, none⟩) hO _).mono (by omega)
    · exact ((U.out.setCell_other (a := ⟨w.heap.size + 1, 0, none⟩) (fun e => U.out.tag O.out (by decide) e.symm) _).setCell_other (a := ⟨w.heap.size + 1, 1, none⟩) (fun e => U.out.tag O.out (by decide) e.symm) _).mono (by have := B.out.size; omega)
  | true =>
    have hD := okB_iff hO1
    have hn1 : S.length ≤ 1500 := hD.1.1
    have hm1 : L.length ≤ 3000 := hD.1.2
    have HLG : Hid (Log (eff S L) o p) := hid (by
      rcases HLR.out with ⟨_, h⟩ | ⟨h, _⟩
      · exact h
      · rw [hO1] at h; cases h)
    have hpb : p ≤ S.length := by
      have := (Log.bound (h := HLG.out) (by rw [eff_len]; exact hn1)).2
      rwa [eff_len] at this
    have HRD := hid (fun i wz (hi : i < S.length) hz => spec_l10read (.agg #[.slice xa S.length xc, .slice ya L.length yc]) S L i wz hn1 hm1 hi hz)
    have HEA := hid (fun i (hi : i < S.length) => eff_at S L i hi)
    have HRP : Hid (∀ i : Nat, rdP S L i = rdF (mpTo L L.length) S i) := hid (fun i => rfl)
    have HRE := hid (show ∀ S' L' o' p', (((emTo (eff S L) p S.length).length + L.length ≤ 3000 ∧ S' = crTo S (L ++ emTo (eff S L) p S.length) kpAll (L ++ emTo (eff S L) p S.length).length ∧ L' = [] ∧ o' = o ∧ p' = p) ∨ (¬ (emTo (eff S L) p S.length).length + L.length ≤ 3000 ∧ S' = S ∧ L' = L ∧ o' = [] ∧ p' = 0)) → OpR S L S' L' o' p' from fun S' L' o' p' h => .inr ⟨hO1, o, p, HLG.out, h⟩)
    have HDA := hid (fun h => dok_app (E := eff S L) (p := p) hD h)
    have HDD := hid hD
    have hbE := (Below.refl w3.heap.size w3).alloc (Nat.le_refl _) (.cells #[] 69)
    have OE := hid (OwG.empty w3 w3.heap.size 69 2 (Nat.le_refl _))
    have hw23 := hid (show w.heap.size ≤ w3.heap.size from B.out.size)
    have BE := hid hbE
    clear hbE hD HLR HLG
    generalize eff S L = E at *
    go_wp2_with fail
    clear z0 z1 k0 k1 l0 l1
    go_loopw [7, 8] (fun lv i wr => ∃ (k : Nat), p ≤ k ∧ k ≤ S.length ∧ i = .int .i64 k ∧ Hid (OwG wr w3.heap.size 69 2 lv (emTo E p k).length (encW (emTo E p k))) ∧ Hid (Below w3.heap.size w3 wr)) (fun _ i _ => S.length - (intOf i).toNat)
    case atStart =>
      refine ⟨p, Nat.le_refl _, hpb, rfl, ?_, BE.out⟩
      rw [emTo_early E p p (Nat.le_refl _)]
      exact OE.out
    case round =>
      obtain ⟨k, hpk, hk, rfl, hown, hbb⟩ := hrel
      obtain ⟨oa, oc, rfl, hop, _⟩ := hown.out.shape
      have hlb := emTo_len E p k
      have Nr := hid (N.out.below hbb.out N.out.lt)
      have z0 := Nr.out.cell (i := 0) rfl
      have z1 := Nr.out.cell (i := 1) rfl
      have hw3r := hbb.out.size
      by_cases hlt : k < S.length
      · have hlt' : (k : Int) < (S.length : Int) := by omega
        have HY := hid (fun h => emTo_yes (E := E) (f := p) (k := k) h)
        have HN := hid (fun h => emTo_no (E := E) (f := p) (k := k) h)
        have HR := hid (HRD.out k wr hlt ⟨_, _, _, _, rfl, (G1.out.below hbb.out).rw, (G2.out.below hbb.out).rw⟩)
        rw [HRP.out k, ← HEA.out k hlt] at HR
        generalize hX : sAt E k = X at *
        by_cases hx0 : X.size = 0
        · have e2 := size_eq hx0
          subst e2
          have HEN := hid (HN.out (by simp [hx0]))
          clear HY HN hX
          go_wp2_with fail
          refine HR.out.mono ?_
          rintro e w4 ⟨rfl, hb4⟩
          have HO4 := hid (hown.out.below hb4)
          have HB4 := hid (hbb.out.trans (hb4.mono hw3r))
          clear hb4 HR z0 z1
          go_wp2_with fail
          go_roundw
          case rel => exact ⟨k + 1, by omega, by omega, by go_num, by rw [HEN.out]; exact HO4.out, HB4.out⟩
          case measure => simp [intOf]; omega
        · have HEN := hid (HY.out ⟨hpk, hx0⟩)
          have hne : X.toList.isEmpty = false := not_empty hx0
          have hl4 : (emTo E p k).length < 1000000000 := by omega
          clear HY HN hX
          go_wp2_with fail
          refine HR.out.mono ?_
          rintro e w4 ⟨rfl, hb4⟩
          have HO4 := hid (hown.out.below hb4)
          have HB4 := hid (hbb.out.trans (hb4.mono hw3r))
          have hw34 := HB4.out.size
          clear hb4 HR z0 z1
          go_wp2_with (at_builtin; refine wpList_pushG w4 w4.heap.size rfl rfl _ _ 25 rfl w3.heap.size 69 (.agg #[.int .i64 0, .string ByteArray.empty]) 2 24 Try.underlying25 Try.info69 rfl (by decide) (.slice oa (emTo E p k).length oc) (emTo E p k).length (encW (emTo E p k)) rfl HO4.out [.int .i64 (k : Int), .string (ByteArray.mk #[])] rfl (one_W (k : Int) (ByteArray.mk #[])) rfl hl4 (by decide) ?_)
          intro v5 w5 ho5 hb5 hg5 _
          obtain ⟨va5, vc5, rfl, _, _⟩ := ho5.shape
          have HO5 := hid (show OwG w5 w3.heap.size 69 2 (.slice va5 ((emTo E p k).length + 1) vc5) (emTo E p (k + 1)).length (encW (emTo E p (k + 1))) from by rw [HEN.out, List.length_append, encW_app]; exact ho5)
          have HB5 := hid (HB4.out.trans (hb5.mono (Nat.le_refl _)))
          clear ho5 hg5 hb5
          go_wp2_with fail
          go_roundw
          case rel => exact ⟨k + 1, by omega, by omega, by go_num, HO5.out, HB5.out⟩
          case measure => simp [intOf]; omega
      · obtain rfl : k = S.length := by omega
        have HML := hid hlb
        have HOP := hid hop
        have HOWN := hid hown.out
        have BR := hid hbb.out
        have OR := hid (O.out.below hbb.out O.out.lt)
        have g1 := hid (G1.out.below hbb.out)
        have g2 := hid (G2.out.below hbb.out)
        have u1 := hid (U.out.below hbb.out)
        have b1 := hid (B.out.trans (hbb.out.mono hw23.out))
        clear hown hbb hop
        generalize emTo E p S.length = M at *
        have k0 := OR.out.cell (i := 0) rfl
        have k1 := OR.out.cell (i := 1) rfl
        have l0 := OR.out.free 0
        have l1 := OR.out.free 1
        by_cases hh : M.length + L.length ≤ 3000
        · have hd : ¬ (3000 : Int) - (L.length : Int) < (M.length : Int) := by omega
          have HSA := hid (fun va vb wz (x1 : OwG wz wa.heap.size 9 1 va S.length (encS S)) (x2 : OwG wz wa.heap.size 69 2 vb (L ++ M).length (encW (L ++ M))) => spec_all va vb wa.heap.size S (L ++ M) wz (HDA.out hh) x1 x2)
          have HRE2 := hid (HRE.out _ _ _ _ (.inl ⟨hh, rfl, rfl, rfl, rfl⟩))
          have HCL := hid (crTo_len S (L ++ M) kpAll (L ++ M).length)
          generalize crTo S (L ++ M) kpAll (L ++ M).length = RS at *
          have hLl := hid (show L.length + M.length < 1000000000 by omega)
          have HMA := hid (show (L ++ M).length = L.length + M.length from List.length_append)
          have HEA2 := hid (encW_app L M)
          have HLMM := hid (show ∃ LM, L ++ M = LM from ⟨_, rfl⟩)
          clear HRE HDA hh k0 k1 l0 l1
          have p1 := Nr.out.free 1
          go_wp2_with (at_builtin; refine wpList_appG _ rfl _ _ 25 rfl wa.heap.size 69 (.agg #[.int .i64 0, .string ByteArray.empty]) 2 24 Try.underlying25 Try.info69 rfl (by decide) (.slice ya L.length yc) L.length (encW L) rfl g2.out oa M.length oc (encW M) rfl (encW_len M) HOWN.out.rw HOP.out (encW_one M) hLl.out (by decide) ?_)
          intro v4 w4 ho4 hb4 hg4
          obtain ⟨va4, vc4, rfl, _, _⟩ := ho4.shape
          have N4 := Nr.out.below hb4 hN
          have O4 := OR.out.below hb4 hO
          have X1 := g1.out.kept hg4 (g1.out.apart g2.out (by decide))
          have U4 := u1.out.kept hg4 (u1.out.apart g2.out (by decide))
          have B4 := b1.out.trans (hb4.mono (by omega))
          have c0 := N4.cell (i := 0) rfl
          have c1 := N4.cell (i := 1) rfl
          have f1 := N4.free 1
          have N5 := N4.set 1 (.slice va4 (L.length + M.length) vc4)
          have O5 := hid (O4.other (a := ⟨w.heap.size, 1, none⟩) (by show w.heap.size + 1 ≠ w.heap.size; omega) (.slice va4 (L.length + M.length) vc4))
          have d0 := N5.cell (i := 0) rfl
          have d1 := N5.cell (i := 1) rfl
          have X2 := hid (X1.setCell_below (a := ⟨w.heap.size, 1, none⟩) hN (.slice va4 (L.length + M.length) vc4))
          have Y2 := hid ((ho4.setCell_below (a := ⟨w.heap.size, 1, none⟩) hN (.slice va4 (L.length + M.length) vc4)).cast2 HMA.out.symm HEA2.out.symm)
          have U5 := hid (U4.setCell_other (a := ⟨w.heap.size, 1, none⟩) (fun e => U4.tag N4 (by decide) e.symm) (.slice va4 (L.length + M.length) vc4))
          have B5 := hid (B4.setCell (p := ⟨w.heap.size, 1, none⟩) (Nat.le_refl _) (.slice va4 (L.length + M.length) vc4))
          have HC := hid (HSA.out _ _ _ X2.out Y2.out)
          have HGE := hid (fun g (e : (Value.slice xa S.length xc).ownBlock = some g) => (X2.out.2.lt g e).1)
          clear N4 O4 X1 U4 B4 N5 ho4 hb4 hg4 z0 z1 p1 HSA
          go_wp2_with fail
          refine HC.out.mono ?_
          generalize w4.setCell _ _ = w5 at *
          rintro e w6 ⟨rfl, ho6, hg6⟩
          have hb6 : Below wa.heap.size w5 w6 := ⟨hg6.os, hg6.tape, hg6.output, hg6.size, fun q hq => hg6.block q (Nat.lt_of_lt_of_le hq X2.out.1) (fun e => by have := HGE.out q e.symm; omega)⟩
          have O6 := O5.out.below hb6 hO
          have U6 := hid (U5.out.kept hg6 (fun g hg e2 => HAP.out _ _ rfl g hg e2))
          have B6 := hid (B5.out.trans (hb6.mono (by omega)))
          have H6 := hid ho6
          clear ho6 hg6 hb6 HC c0 c1 f1 d0 d1
          have k0 := O6.cell (i := 0) rfl
          have k1 := O6.cell (i := 1) rfl
          have l0 := O6.free 0
          have l1 := O6.free 1
          have F := (O6.set 0 (.slice xa S.length xc)).set 1 (.slice none 0 0)
          have y0 := F.cell (i := 0) rfl
          have y1 := F.cell (i := 1) rfl
          have O7 := hid O6
          clear F O6
          go_wp2_with fail
          refine bodyPost_ret (v := .tuple #[.agg #[.slice xa S.length xc, .slice none 0 0], .slice ua o.length uc, .int .i64 (p : Int)]) (by simp [results, Try.results24, go_sem, y0, y1]) rfl ?_
          refine ⟨_, _, RS, [], o, p, rfl, ⟨_, _, rfl, ?_, ?_⟩, ?_, ?_, HRE2.out, (B6.out.setCell (p := ⟨w.heap.size + 1, 0, none⟩) (Nat.le_succ _) _).setCell (p := ⟨w.heap.size + 1, 1, none⟩) (Nat.le_succ _) _⟩
          · exact (((H6.out.setCell_below (a := ⟨w.heap.size + 1, 0, none⟩) hO _).setCell_below (a := ⟨w.heap.size + 1, 1, none⟩) hO _).mono (by omega)).cast HCL.out.symm rfl
          · exact OwG.nil _ _ _ _ (by have := B6.out.size; simpa [World.setCell] using this)
          · exact ((U6.out.setCell_other (a := ⟨w.heap.size + 1, 0, none⟩) (fun e => U6.out.tag O7.out (by decide) e.symm) _).setCell_other (a := ⟨w.heap.size + 1, 1, none⟩) (fun e => U6.out.tag O7.out (by decide) e.symm) _).mono (by omega)
          · intro va vb e g hg e2
            cases e
            exact HAP.out _ _ rfl g hg e2
        · have hd : (3000 : Int) - (L.length : Int) < (M.length : Int) := by omega
          have HRE2 := hid (HRE.out S L [] 0 (.inr ⟨hh, rfl, rfl, rfl, rfl⟩))
          have HLT := hid (fun g e => (g1.out.2.lt g e).2)
          clear HRE HDA hh
          have O1 := OR.out.alloc (.cells #[] 9)
          have F := (O1.set 0 (.slice xa S.length xc)).set 1 (.slice ya L.length yc)
          have y0 := F.cell (i := 0) rfl
          have y1 := F.cell (i := 1) rfl
          have k3 := O1.cell (i := 0) rfl
          have k4 := O1.cell (i := 1) rfl
          have l3 := O1.free 0
          have l4 := O1.free 1
          have hOq := hid OR.out.lt
          have hbw := hid b1.out.size
          clear O1 F
          have HG1 := hid (((g1.out.alloc (.cells #[] 9)).setCell_below (a := ⟨w.heap.size + 1, 0, none⟩) hO (.slice xa S.length xc)).setCell_below (a := ⟨w.heap.size + 1, 1, none⟩) hO (.slice ya L.length yc))
          have HG2 := hid (((g2.out.alloc (.cells #[] 9)).setCell_below (a := ⟨w.heap.size + 1, 0, none⟩) hO (.slice xa S.length xc)).setCell_below (a := ⟨w.heap.size + 1, 1, none⟩) hO (.slice ya L.length yc))
          have HBB := hid (((b1.out.alloc b1.out.size (.cells #[] 9)).setCell (p := ⟨w.heap.size + 1, 0, none⟩) (Nat.le_succ _) (.slice xa S.length xc)).setCell (p := ⟨w.heap.size + 1, 1, none⟩) (Nat.le_succ _) (.slice ya L.length yc))
          have HOE := hid (((OwG.empty wr w.heap.size 9 1 hbw.out).setCell_other (a := ⟨w.heap.size + 1, 0, none⟩) (by have := hOq.out; simp [Value.ownBlock]; omega) (.slice xa S.length xc)).setCell_other (a := ⟨w.heap.size + 1, 1, none⟩) (by have := hOq.out; simp [Value.ownBlock]; omega) (.slice ya L.length yc))
          go_wp2_with fail
          refine bodyPost_ret (v := .tuple #[.agg #[.slice xa S.length xc, .slice ya L.length yc], .slice (some ⟨wr.heap.size, 0, none⟩) 0 0, .int .i64 0]) (by simp [results, Try.results24, go_sem, y0, y1]) rfl ?_
          refine ⟨_, _, S, L, [], 0, rfl, ⟨_, _, rfl, HG1.out.mono (by omega), HG2.out.mono (by omega)⟩, HOE.out, ?_, HRE2.out, HBB.out⟩
          intro va vb e g hg e2
          cases e
          have := HLT.out g e2.symm
          simp [Value.ownBlock] at hg
          omega
end Go.Proofs.Ytphhgfgmlfdkiaa
