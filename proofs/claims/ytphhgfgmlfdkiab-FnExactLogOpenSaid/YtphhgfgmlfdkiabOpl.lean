/- The walk of the law FnExactLogOpen. -/
import Derived.Test.YtphhgfgmlfdkiabOb
import Derived.Test.YtphhgfgmlfdkiabTo
import Derived.Test.YtphhgfgmlfdkiabEq
import Derived.Test.YtphhgfgmlfdkiabFr
namespace Go.Proofs.Ytphhgfgmlfdkiab
open Go.RowKit
set_option linter.unusedVariables false

set_option maxRecDepth 100000 in
set_option maxHeartbeats 6400000 in
theorem law_open (a : Option Addr) (n c : Nat) (a' : Option Addr) (n' c' : Nat) (S : List ByteArray) (L : List (Int × ByteArray)) (w : World) (hn : S.length = n) (hn' : L.length = n') (hw : Wd S L) (hr1 : Rw w a (encS S)) (hr2 : Rw w a' (encW L)) :
    Calls Try.prog 3 #[.agg #[.slice a n c, .slice a' n' c']] w fun e w' => e = .returned (.bool true) ∧ Below w.heap.size w w' := by
  have HV : Hid (DV w (.agg #[.slice a n c, .slice a' n' c']) S L) := hid ⟨a, c, a', c', by rw [hn, hn'], hr1, hr2⟩
  have B := hid ((Below.refl w.heap.size w).alloc (Nat.le_refl _) (.cells #[.slice a n c, .slice a' n' c'] 25))
  have A := hid (Blk.new w [.slice a n c, .slice a' n' c'] 25)
  have HSZ := hid (sz_disk _ S L 1048576 _ hw (by decide) (by decide) (HV.out.below (Nat.le_refl _) B.out))
  clear hr1 hr2 hw hn hn'
  have HSP := hid (fun v q h1 h2 (hq : DP q v S L) => spec_logOpen v S L q h1 h2 hq)
  have HIM := hid (fun v q h1 h2 (hq : DP q v S L) => impl_logOpen v S L q h1 h2 hq)
  go_enter Try.func3, Try.ntmps3
  go_wp2_with fail
  refine HSZ.out.mono ?_
  clear HSZ
  generalize w.alloc (.cells #[.slice a n c, .slice a' n' c'] 25) = w0 at *
  rintro e w1 ⟨r, rfl, hr, hb⟩
  replace B := hid (B.out.trans (hb.mono B.out.size))
  replace A := hid (A.out.below hb A.out.lt)
  clear hb
  rcases hr with rfl | ⟨g0, g1, hsm⟩
  · clear A
    go_wp2_with fail
    go_ret
    exact ⟨rfl, B.out⟩
  · have HS := hid hsm
    clear hsm
    have hng : ¬ r < 0 := by omega
    have hX0 : ¬ (1 : Int) + (S.length : Int) + 2 * (L.length : Int) < 0 := by omega
    have q0 := A.out.cell (i := 0) rfl
    have q1 := A.out.cell (i := 1) rfl
    go_wp2_with fail
    refine (to_disk _ S L _ HS.out (HV.out.below (Nat.le_refl _) B.out)).mono ?_
    clear q0 q1
    rintro e w2 ⟨v, rfl, ⟨va, vb, rfl, ho1, ho2⟩, hb⟩
    obtain ⟨Ta, Tc, rfl, Tp, _⟩ := ho1.shape
    obtain ⟨Tb, Td, rfl, Tr, _⟩ := ho2.shape
    replace B := hid (B.out.trans (hb.mono B.out.size))
    replace A := hid (A.out.below hb A.out.lt)
    have T1 := hid ho1
    have T2 := hid ho2
    have TP := hid (show _ ∧ _ from ⟨Tp, Tr⟩)
    clear hb ho1 ho2 Tp Tr
    go_wp2_with fail
    refine (HSP.out _ _ HS.out.1 HS.out.2.2.1 (show DO _ _ _ S L from ⟨_, _, rfl, T1.out, T2.out⟩).dp).mono ?_
    have hALW := hid A.out.lt
    rintro e w3 ⟨v, u, RS, RL, o, p, rfl, ⟨va, vb, rfl, ho1, ho2⟩, hu, hap, hre, hb⟩
    have HRE := hid hre
    clear hre
    obtain ⟨Wa, Wc, rfl, Wp, _⟩ := ho1.shape
    obtain ⟨Wb, Wd, rfl, Wr, _⟩ := ho2.shape
    obtain ⟨Wta, Wtc, rfl, _, _⟩ := hu.shape
    replace B := hid (B.out.trans (hb.mono B.out.size))
    replace A := hid (A.out.below hb A.out.lt)
    replace T1 := hid (T1.out.below hb)
    replace T2 := hid (T2.out.below hb)
    have W1 := hid ho1
    have W2 := hid ho2
    have WT := hid hu
    have WP := hid hap
    clear hb ho1 ho2 hu hap Wp Wr
    clear T1 T2
    have hb := (Below.refl w3.heap.size w3).alloc (Nat.le_refl _) (.cells #[.slice Wa RS.length Wc, .slice Wb RL.length Wd] 29)
    replace B := hid (B.out.trans (hb.mono B.out.size))
    replace A := hid (A.out.below hb A.out.lt)
    replace W1 := hid (W1.out.below hb)
    replace W2 := hid (W2.out.below hb)
    replace WT := hid (WT.out.below hb)
    have WB := hid (Blk.new w3 [.slice Wa RS.length Wc, .slice Wb RL.length Wd] 29)
    clear hb
    have HO := hid (OpR.len HRE.out).2.2
    have HL := hid (show RS.length ≤ 1048576 ∧ RL.length ≤ 1048577 from ⟨by have := (OpR.len HRE.out).1; have := HS.out.1; omega, by have := (OpR.len HRE.out).2.1; have := HS.out.2.2.1; omega⟩)
    have hK0 : ¬ (1 : Int) + (RS.length : Int) + 2 * (RL.length : Int) < 0 := by omega
    have hKK : ((1 : Int) + (RS.length : Int) + 2 * (RL.length : Int) != (1 : Int) + (RS.length : Int) + 2 * (RL.length : Int)) = false := by simp
    have hPP : ((p : Int) != (p : Int)) = false := by simp
    have hM0 : ¬ (1 : Int) + (RS.length : Int) + 2 * (RL.length : Int) + (o.length : Int) < 0 := by omega
    have hMM : ((1 : Int) + (RS.length : Int) + 2 * (RL.length : Int) + (o.length : Int) != (1 : Int) + (RS.length : Int) + 2 * (RL.length : Int) + (o.length : Int)) = false := by simp
    have q0 := A.out.cell (i := 0) rfl
    have q1 := A.out.cell (i := 1) rfl
    go_wp2_with fail
    have hbsX := hid B.out.size
    generalize w3.alloc (.cells #[.slice Wa RS.length Wc, .slice Wb RL.length Wd] 29) = w4 at *
    have WTLX := hid (fun g (e : (Value.slice Wta o.length Wtc).ownBlock = some g) => (WT.out.2.lt g e).2)
    refine (to_disk _ S L _ HS.out (HV.out.below (Nat.le_refl _) B.out)).mono ?_
    clear q0 q1
    have WLX := hid (show (∀ g, (Value.slice Wa RS.length Wc).ownBlock = some g → g < w4.heap.size) ∧ (∀ g, (Value.slice Wb RL.length Wd).ownBlock = some g → g < w4.heap.size) from ⟨fun g e => (W1.out.2.lt g e).2, fun g e => (W2.out.2.lt g e).2⟩)
    rintro e w5 ⟨v, rfl, ⟨va, vb, rfl, ho1, ho2⟩, hb⟩
    obtain ⟨Xa, Xc, rfl, Xp, _⟩ := ho1.shape
    obtain ⟨Xb, Xd, rfl, Xr, _⟩ := ho2.shape
    replace B := hid (B.out.trans (hb.mono B.out.size))
    replace A := hid (A.out.below hb A.out.lt)
    replace W1 := hid (W1.out.below hb)
    replace W2 := hid (W2.out.below hb)
    replace WT := hid (WT.out.below hb)
    replace WB := hid (WB.out.below hb WB.out.lt)
    have X1 := hid ho1
    have X2 := hid ho2
    have XP := hid (show _ ∧ _ from ⟨Xp, Xr⟩)
    clear hb ho1 ho2 Xp Xr
    have hb := (Below.refl w5.heap.size w5).alloc (Nat.le_refl _) (.cells #[.slice Xa S.length Xc, .slice Xb L.length Xd] 29)
    replace B := hid (B.out.trans (hb.mono B.out.size))
    replace A := hid (A.out.below hb A.out.lt)
    replace W1 := hid (W1.out.below hb)
    replace W2 := hid (W2.out.below hb)
    replace WT := hid (WT.out.below hb)
    replace WB := hid (WB.out.below hb WB.out.lt)
    replace X1 := hid (X1.out.below hb)
    replace X2 := hid (X2.out.below hb)
    have XB := hid (Blk.new w5 [.slice Xa S.length Xc, .slice Xb L.length Xd] 29)
    clear hb
    have q0 := XB.out.cell (i := 0) rfl
    have q1 := XB.out.cell (i := 1) rfl
    go_wp2_with fail
    have hbsG := hid B.out.size
    refine (HIM.out _ _ HS.out.1 HS.out.2.2.1 (show DO _ _ _ S L from ⟨_, _, rfl, X1.out, X2.out⟩).dp).mono ?_
    generalize w5.alloc (.cells #[.slice Xa S.length Xc, .slice Xb L.length Xd] 29) = w6 at *
    clear q0 q1
    have WLG := hid (show (∀ g, (Value.slice Wa RS.length Wc).ownBlock = some g → g < w6.heap.size) ∧ (∀ g, (Value.slice Wb RL.length Wd).ownBlock = some g → g < w6.heap.size) from ⟨fun g e => (W1.out.2.lt g e).2, fun g e => (W2.out.2.lt g e).2⟩)
    have XLG := hid (show (∀ g, (Value.slice Xa S.length Xc).ownBlock = some g → g < w6.heap.size) ∧ (∀ g, (Value.slice Xb L.length Xd).ownBlock = some g → g < w6.heap.size) from ⟨fun g e => (X1.out.2.lt g e).2, fun g e => (X2.out.2.lt g e).2⟩)
    have WTLG := hid (show ∀ g, (Value.slice Wta o.length Wtc).ownBlock = some g → g < w6.heap.size from fun g e => (WT.out.2.lt g e).2)
    have hALG := hid A.out.lt
    rintro e w7 ⟨v, u, RS2, RL2, o2, p2, rfl, ⟨va, vb, rfl, ho1, ho2⟩, hu, hap, hre, hb⟩
    obtain ⟨rfl, rfl, rfl, rfl⟩ := HRE.out.same hre
    clear hre
    obtain ⟨Ga, Gc, rfl, Gp, _⟩ := ho1.shape
    obtain ⟨Gb, Gd, rfl, Gr, _⟩ := ho2.shape
    obtain ⟨Gta, Gtc, rfl, _, _⟩ := hu.shape
    replace B := hid (B.out.trans (hb.mono B.out.size))
    replace A := hid (A.out.below hb A.out.lt)
    replace W1 := hid (W1.out.below hb)
    replace W2 := hid (W2.out.below hb)
    replace WT := hid (WT.out.below hb)
    replace WB := hid (WB.out.below hb WB.out.lt)
    replace X1 := hid (X1.out.below hb)
    replace X2 := hid (X2.out.below hb)
    replace XB := hid (XB.out.below hb XB.out.lt)
    have G1 := hid ho1
    have G2 := hid ho2
    have GT := hid hu
    have GP := hid hap
    clear hb ho1 ho2 hu hap Gp Gr
    have hb := (Below.refl w7.heap.size w7).alloc (Nat.le_refl _) (.cells #[.slice Ga RS.length Gc, .slice Gb RL.length Gd] 29)
    replace B := hid (B.out.trans (hb.mono B.out.size))
    replace A := hid (A.out.below hb A.out.lt)
    replace W1 := hid (W1.out.below hb)
    replace W2 := hid (W2.out.below hb)
    replace WT := hid (WT.out.below hb)
    replace WB := hid (WB.out.below hb WB.out.lt)
    replace X1 := hid (X1.out.below hb)
    replace X2 := hid (X2.out.below hb)
    replace XB := hid (XB.out.below hb XB.out.lt)
    replace G1 := hid (G1.out.below hb)
    replace G2 := hid (G2.out.below hb)
    replace GT := hid (GT.out.below hb)
    have GB := hid (Blk.new w7 [.slice Ga RS.length Gc, .slice Gb RL.length Gd] 29)
    clear hb
    have q0 := GB.out.cell (i := 0) rfl
    have q1 := GB.out.cell (i := 1) rfl
    have q2 := WB.out.cell (i := 0) rfl
    have q3 := WB.out.cell (i := 1) rfl
    go_wp2_with fail
    refine (eq_disk _ _ RS RL _ (by have := HL.out.1; omega) (by have := HL.out.2; omega) ⟨_, _, _, _, rfl, G1.out.rw, G2.out.rw⟩ ⟨_, _, _, _, rfl, W1.out.rw, W2.out.rw⟩).mono ?_
    generalize w7.alloc (.cells #[.slice Ga RS.length Gc, .slice Gb RL.length Gd] 29) = w8 at *
    clear q0 q1 q2 q3
    rintro e w9 ⟨rfl, hb⟩
    replace B := hid (B.out.trans (hb.mono B.out.size))
    replace A := hid (A.out.below hb A.out.lt)
    replace W1 := hid (W1.out.below hb)
    replace W2 := hid (W2.out.below hb)
    replace WT := hid (WT.out.below hb)
    replace WB := hid (WB.out.below hb WB.out.lt)
    replace X1 := hid (X1.out.below hb)
    replace X2 := hid (X2.out.below hb)
    replace XB := hid (XB.out.below hb XB.out.lt)
    replace G1 := hid (G1.out.below hb)
    replace G2 := hid (G2.out.below hb)
    replace GT := hid (GT.out.below hb)
    replace GB := hid (GB.out.below hb GB.out.lt)
    clear hb
    go_wp2_with fail
    refine (eq_strings _ _ _ _ o _ (by have := HO.out; omega) GT.out.rw WT.out.rw).mono ?_
    rintro e w10 ⟨rfl, hb⟩
    replace B := hid (B.out.trans (hb.mono B.out.size))
    replace A := hid (A.out.below hb A.out.lt)
    replace W1 := hid (W1.out.below hb)
    replace W2 := hid (W2.out.below hb)
    replace WT := hid (WT.out.below hb)
    replace WB := hid (WB.out.below hb WB.out.lt)
    replace X1 := hid (X1.out.below hb)
    replace X2 := hid (X2.out.below hb)
    replace XB := hid (XB.out.below hb XB.out.lt)
    replace G1 := hid (G1.out.below hb)
    replace G2 := hid (G2.out.below hb)
    replace GT := hid (GT.out.below hb)
    replace GB := hid (GB.out.below hb GB.out.lt)
    clear hb
    have hXlt := XB.out.lt
    have X0 : Hid (DV w10 (.agg #[.slice Xa S.length Xc, .slice Xb L.length Xd]) S L) := hid ⟨_, _, _, _, rfl, X1.out.rw, X2.out.rw⟩
    have HTO := hid (fun q (hq : Below w10.heap.size w10 q) => to_disk _ S L q HS.out (HV.out.below (Nat.le_refl _) (B.out.trans (hq.mono B.out.size))))
    have HEQ := hid (fun v q (hq : Below w10.heap.size w10 q) (hv : DV q v S L) => eq_disk _ v S L q (by have := HS.out.1; omega) (by have := HS.out.2.2.1; omega) (X0.out.below (Nat.le_refl _) hq) hv)
    have HQ2 := hid (fun q (hq : Below w10.heap.size w10 q) => (XB.out.below hq hXlt).cell (i := 0) rfl)
    have HQ3 := hid (fun q (hq : Below w10.heap.size w10 q) => (XB.out.below hq hXlt).cell (i := 1) rfl)
    have q0 := A.out.cell (i := 0) rfl
    have q1 := A.out.cell (i := 1) rfl
    have q2 := XB.out.cell (i := 0) rfl
    have q3 := XB.out.cell (i := 1) rfl
    go_wp2_with fail
    go_cut [56] from 52 to 56 (fun s wx => s = .bool false ∧ Below w10.heap.size w10 wx)
    case first =>
      go_region_with (first
        | (go_at_call 7; refine (HTO.out _ ?_).mono ?_; · first | exact Below.refl _ _ | exact (Below.refl _ _).drew | exact (Below.refl _ _).drew.drew
           rintro e w7x ⟨v3, rfl, ho7, hb7⟩
           have hc7 : Below w10.heap.size w10 w7x := by first | exact hb7 | exact Below.trans (Below.refl _ _).drew hb7 | exact Below.trans (Below.refl _ _).drew.drew hb7
           have hd7 := ho7.dp.dv
           have r2 := HQ2.out w7x hc7
           have r3 := HQ3.out w7x hc7)
        | (go_at_call 9; have hz := hc7; refine (HEQ.out _ _ ?_ ?_).mono ?_; · first | exact hc7 | exact hc7.drew
           · first | exact hd7 | exact hd7.below (Nat.le_refl _) (Below.refl _ _).drew
           rintro e w8x ⟨rfl, hb8⟩
           have hc8 : Below w10.heap.size w10 w8x := by first | exact hc7.trans (hb8.mono hc7.size) | exact hc7.drew.trans (hb8.mono hc7.drew.size)))
      all_goals
        go_wp2_with fail
        go_meet
        first | exact ⟨rfl, hc8⟩ | exact ⟨rfl, hc8.drew⟩
    case rest =>
      obtain ⟨rfl, hb⟩ := hcut
      clear q0 q1 q2 q3
      replace B := hid (B.out.trans (hb.mono B.out.size))
      replace A := hid (A.out.below hb A.out.lt)
      replace W1 := hid (W1.out.below hb)
      replace W2 := hid (W2.out.below hb)
      replace WT := hid (WT.out.below hb)
      replace WB := hid (WB.out.below hb WB.out.lt)
      replace X1 := hid (X1.out.below hb)
      replace X2 := hid (X2.out.below hb)
      replace XB := hid (XB.out.below hb XB.out.lt)
      replace G1 := hid (G1.out.below hb)
      replace G2 := hid (G2.out.below hb)
      replace GT := hid (GT.out.below hb)
      replace GB := hid (GB.out.below hb GB.out.lt)
      clear hb HTO HEQ HQ2 HQ3 X0 hXlt
      rename_i wcut0
      have q0 := XB.out.cell (i := 0) rfl
      have q1 := XB.out.cell (i := 1) rfl
      go_wp2_with fail
      refine (mark_disk _ _ _ S L 1 _ (by decide) (by decide) (by have := HS.out.1; omega) (by have := HS.out.2.2.1; omega) X1.out X2.out).mono ?_
      clear q0 q1
      rintro e w11 ⟨rfl, hd, hf, hb⟩
      replace B := hid (B.out.trans (hb.mono hbsX.out))
      replace A := hid (A.out.fr X1.out X2.out hf (by decide) (by decide))
      replace WB := hid (WB.out.fr X1.out X2.out hf (by decide) (by decide))
      replace XB := hid (XB.out.fr X1.out X2.out hf (by decide) (by decide))
      replace GB := hid (GB.out.fr X1.out X2.out hf (by decide) (by decide))
      replace W1 := hid (W1.out.sub hb WLX.out.1)
      replace W2 := hid (W2.out.sub hb WLX.out.2)
      replace G1 := hid (G1.out.fr hf XLG.out.1 XLG.out.2)
      replace G2 := hid (G2.out.fr hf XLG.out.1 XLG.out.2)
      replace WT := hid (WT.out.sub hb WTLX.out)
      replace GT := hid (GT.out.fr hf XLG.out.1 XLG.out.2)
      clear hd hf hb X1 X2 XB
      have q0 := GB.out.cell (i := 0) rfl
      have q1 := GB.out.cell (i := 1) rfl
      have q2 := WB.out.cell (i := 0) rfl
      have q3 := WB.out.cell (i := 1) rfl
      go_wp2_with fail
      refine (eq_disk _ _ RS RL _ (by have := HL.out.1; omega) (by have := HL.out.2; omega) ⟨_, _, _, _, rfl, G1.out.rw, G2.out.rw⟩ ⟨_, _, _, _, rfl, W1.out.rw, W2.out.rw⟩).mono ?_
      clear q0 q1 q2 q3
      rintro e w12 ⟨rfl, hb⟩
      replace B := hid (B.out.trans (hb.mono B.out.size))
      replace A := hid (A.out.below hb A.out.lt)
      replace W1 := hid (W1.out.below hb)
      replace W2 := hid (W2.out.below hb)
      replace WT := hid (WT.out.below hb)
      replace WB := hid (WB.out.below hb WB.out.lt)
      replace G1 := hid (G1.out.below hb)
      replace G2 := hid (G2.out.below hb)
      replace GT := hid (GT.out.below hb)
      replace GB := hid (GB.out.below hb GB.out.lt)
      clear hb
      go_wp2_with fail
      refine (eq_strings _ _ _ _ o _ (by have := HO.out; omega) GT.out.rw WT.out.rw).mono ?_
      rintro e w13 ⟨rfl, hb⟩
      replace B := hid (B.out.trans (hb.mono B.out.size))
      replace A := hid (A.out.below hb A.out.lt)
      replace W1 := hid (W1.out.below hb)
      replace W2 := hid (W2.out.below hb)
      replace WT := hid (WT.out.below hb)
      replace WB := hid (WB.out.below hb WB.out.lt)
      replace G1 := hid (G1.out.below hb)
      replace G2 := hid (G2.out.below hb)
      replace GT := hid (GT.out.below hb)
      replace GB := hid (GB.out.below hb GB.out.lt)
      clear hb
      have q0 := GB.out.cell (i := 0) rfl
      have q1 := GB.out.cell (i := 1) rfl
      go_wp2_with fail
      refine (mark_disk _ _ _ RS RL 1 _ (by decide) (by decide) (by have := HL.out.1; omega) (by have := HL.out.2; omega) G1.out G2.out).mono ?_
      clear q0 q1
      rintro e w14 ⟨rfl, hd, hf, hb⟩
      replace B := hid (B.out.trans (hb.mono hbsG.out))
      replace A := hid (A.out.fr G1.out G2.out hf (by decide) (by decide))
      replace WB := hid (WB.out.fr G1.out G2.out hf (by decide) (by decide))
      replace GB := hid (GB.out.fr G1.out G2.out hf (by decide) (by decide))
      replace W1 := hid (W1.out.sub hb WLG.out.1)
      replace W2 := hid (W2.out.sub hb WLG.out.2)
      replace WT := hid (WT.out.sub hb WTLG.out)
      have hGX := GT.out.apart G2.out (by decide)
      replace GT := hid (GT.out.frA hf (fun g hg => GP.out _ _ rfl g hg) hGX)
      clear hGX
      obtain ⟨va, vb, he, ho1, ho2⟩ := hd
      rw [marksS_len] at ho1
      rw [marksW_len] at ho2
      obtain ⟨rfl, rfl⟩ : .slice Ga RS.length Gc = va ∧ .slice Gb RL.length Gd = vb := by simpa using he
      have Gm1 := hid ho1
      have Gm2 := hid ho2
      clear ho1 ho2 hf hb he G1 G2
      go_wp2_with fail
      refine (mark_strings _ _ o (1 + (RS.length : Int) + 2 * (RL.length : Int)) _ (by omega) (by have := HL.out.1; have := HL.out.2; omega) (by have := HO.out; omega) GT.out).mono ?_
      rintro e w15 ⟨rfl, ho, hg, hb⟩
      replace B := hid (B.out.trans (hb.mono hbsG.out))
      replace A := hid (A.out.below hb hALG.out)
      have hG2 := Gm2.out.apart GT.out (by decide)
      replace WB := hid (WB.out.kept hg (GT.out.tag WB.out (by decide)))
      replace GB := hid (GB.out.kept hg (GT.out.tag GB.out (by decide)))
      replace W1 := hid (W1.out.sub hb WLG.out.1)
      replace W2 := hid (W2.out.sub hb WLG.out.2)
      replace WT := hid (WT.out.sub hb WTLG.out)
      replace Gm1 := hid (Gm1.out.kept hg (fun g hg1 hg2 => GP.out _ _ rfl g hg2.symm hg1.symm))
      replace Gm2 := hid (Gm2.out.kept hg hG2)
      have GTm := hid ho
      clear ho hg hb hG2 GT
      have q0 := GB.out.cell (i := 0) rfl
      have q1 := GB.out.cell (i := 1) rfl
      go_wp2_with fail
      refine (held_disk _ RS.length RL.length 1 _ (by decide) (by decide) (by have := HL.out.1; omega) (by have := HL.out.2; omega) ⟨_, _, _, _, by rw [marksS_len, marksW_len], Gm1.out.rw, Gm2.out.rw⟩).mono ?_
      clear q0 q1
      rintro e w16 ⟨rfl, hb⟩
      replace B := hid (B.out.trans (hb.mono B.out.size))
      replace A := hid (A.out.below hb A.out.lt)
      replace W1 := hid (W1.out.below hb)
      replace W2 := hid (W2.out.below hb)
      replace WT := hid (WT.out.below hb)
      replace WB := hid (WB.out.below hb WB.out.lt)
      replace GB := hid (GB.out.below hb GB.out.lt)
      replace Gm1 := hid (Gm1.out.below hb)
      replace Gm2 := hid (Gm2.out.below hb)
      replace GTm := hid (GTm.out.below hb)
      clear hb
      go_wp2_with fail
      refine (held_strings _ _ o.length (1 + (RS.length : Int) + 2 * (RL.length : Int)) _ (by omega) (by have := HL.out.1; have := HL.out.2; omega) (by have := HO.out; omega) GTm.out.rw).mono ?_
      rintro e w17 ⟨rfl, hb⟩
      replace B := hid (B.out.trans (hb.mono B.out.size))
      replace A := hid (A.out.below hb A.out.lt)
      replace W1 := hid (W1.out.below hb)
      replace W2 := hid (W2.out.below hb)
      replace WT := hid (WT.out.below hb)
      replace WB := hid (WB.out.below hb WB.out.lt)
      replace GB := hid (GB.out.below hb GB.out.lt)
      replace Gm1 := hid (Gm1.out.below hb)
      replace Gm2 := hid (Gm2.out.below hb)
      replace GTm := hid (GTm.out.below hb)
      clear hb
      have q0 := A.out.cell (i := 0) rfl
      have q1 := A.out.cell (i := 1) rfl
      go_wp2_with fail
      refine (to_disk _ S L _ HS.out (HV.out.below (Nat.le_refl _) B.out)).mono ?_
      clear q0 q1
      rintro e w18 ⟨v, rfl, ⟨va, vb, rfl, ho1, ho2⟩, hb⟩
      obtain ⟨Ta, Tc, rfl, Tp, _⟩ := ho1.shape
      obtain ⟨Tb, Td, rfl, Tr, _⟩ := ho2.shape
      replace B := hid (B.out.trans (hb.mono B.out.size))
      replace A := hid (A.out.below hb A.out.lt)
      replace W1 := hid (W1.out.below hb)
      replace W2 := hid (W2.out.below hb)
      replace WT := hid (WT.out.below hb)
      replace WB := hid (WB.out.below hb WB.out.lt)
      replace GB := hid (GB.out.below hb GB.out.lt)
      replace Gm1 := hid (Gm1.out.below hb)
      replace Gm2 := hid (Gm2.out.below hb)
      replace GTm := hid (GTm.out.below hb)
      have T1 := hid ho1
      have T2 := hid ho2
      have TP := hid (show _ ∧ _ from ⟨Tp, Tr⟩)
      clear hb ho1 ho2 Tp Tr
      go_wp2_with fail
      refine (HIM.out _ _ HS.out.1 HS.out.2.2.1 (show DO _ _ _ S L from ⟨_, _, rfl, T1.out, T2.out⟩).dp).mono ?_
      have hALH := hid A.out.lt
      rintro e w19 ⟨v, u, RS2, RL2, o2, p2, rfl, ⟨va, vb, rfl, ho1, ho2⟩, hu, hap, hre, hb⟩
      obtain ⟨rfl, rfl, rfl, rfl⟩ := HRE.out.same hre
      clear hre
      obtain ⟨Ha, Hc, rfl, Hp, _⟩ := ho1.shape
      obtain ⟨Hb, Hd, rfl, Hr, _⟩ := ho2.shape
      obtain ⟨Hta, Htc, rfl, _, _⟩ := hu.shape
      replace B := hid (B.out.trans (hb.mono B.out.size))
      replace A := hid (A.out.below hb A.out.lt)
      replace W1 := hid (W1.out.below hb)
      replace W2 := hid (W2.out.below hb)
      replace WT := hid (WT.out.below hb)
      replace WB := hid (WB.out.below hb WB.out.lt)
      replace GB := hid (GB.out.below hb GB.out.lt)
      replace Gm1 := hid (Gm1.out.below hb)
      replace Gm2 := hid (Gm2.out.below hb)
      replace GTm := hid (GTm.out.below hb)
      replace T1 := hid (T1.out.below hb)
      replace T2 := hid (T2.out.below hb)
      have H1 := hid ho1
      have H2 := hid ho2
      have HT := hid hu
      have HP := hid hap
      clear hb ho1 ho2 hu hap Hp Hr
      clear T1 T2
      have hb := (Below.refl w19.heap.size w19).alloc (Nat.le_refl _) (.cells #[.slice Ha RS.length Hc, .slice Hb RL.length Hd] 29)
      replace B := hid (B.out.trans (hb.mono B.out.size))
      replace A := hid (A.out.below hb A.out.lt)
      replace W1 := hid (W1.out.below hb)
      replace W2 := hid (W2.out.below hb)
      replace WT := hid (WT.out.below hb)
      replace WB := hid (WB.out.below hb WB.out.lt)
      replace GB := hid (GB.out.below hb GB.out.lt)
      replace Gm1 := hid (Gm1.out.below hb)
      replace Gm2 := hid (Gm2.out.below hb)
      replace GTm := hid (GTm.out.below hb)
      replace H1 := hid (H1.out.below hb)
      replace H2 := hid (H2.out.below hb)
      replace HT := hid (HT.out.below hb)
      have HB := hid (Blk.new w19 [.slice Ha RS.length Hc, .slice Hb RL.length Hd] 29)
      clear hb
      have q0 := HB.out.cell (i := 0) rfl
      have q1 := HB.out.cell (i := 1) rfl
      have q2 := WB.out.cell (i := 0) rfl
      have q3 := WB.out.cell (i := 1) rfl
      go_wp2_with fail
      refine (eq_disk _ _ RS RL _ (by have := HL.out.1; omega) (by have := HL.out.2; omega) ⟨_, _, _, _, rfl, H1.out.rw, H2.out.rw⟩ ⟨_, _, _, _, rfl, W1.out.rw, W2.out.rw⟩).mono ?_
      generalize w19.alloc (.cells #[.slice Ha RS.length Hc, .slice Hb RL.length Hd] 29) = w20 at *
      clear q0 q1 q2 q3
      rintro e w21 ⟨rfl, hb⟩
      replace B := hid (B.out.trans (hb.mono B.out.size))
      replace A := hid (A.out.below hb A.out.lt)
      replace W1 := hid (W1.out.below hb)
      replace W2 := hid (W2.out.below hb)
      replace WT := hid (WT.out.below hb)
      replace WB := hid (WB.out.below hb WB.out.lt)
      replace GB := hid (GB.out.below hb GB.out.lt)
      replace Gm1 := hid (Gm1.out.below hb)
      replace Gm2 := hid (Gm2.out.below hb)
      replace GTm := hid (GTm.out.below hb)
      replace H1 := hid (H1.out.below hb)
      replace H2 := hid (H2.out.below hb)
      replace HT := hid (HT.out.below hb)
      replace HB := hid (HB.out.below hb HB.out.lt)
      clear hb
      go_wp2_with fail
      refine (eq_strings _ _ _ _ o _ (by have := HO.out; omega) HT.out.rw WT.out.rw).mono ?_
      rintro e w22 ⟨rfl, hb⟩
      replace B := hid (B.out.trans (hb.mono B.out.size))
      replace A := hid (A.out.below hb A.out.lt)
      replace W1 := hid (W1.out.below hb)
      replace W2 := hid (W2.out.below hb)
      replace WT := hid (WT.out.below hb)
      replace WB := hid (WB.out.below hb WB.out.lt)
      replace GB := hid (GB.out.below hb GB.out.lt)
      replace Gm1 := hid (Gm1.out.below hb)
      replace Gm2 := hid (Gm2.out.below hb)
      replace GTm := hid (GTm.out.below hb)
      replace H1 := hid (H1.out.below hb)
      replace H2 := hid (H2.out.below hb)
      replace HT := hid (HT.out.below hb)
      replace HB := hid (HB.out.below hb HB.out.lt)
      clear hb
      have q0 := GB.out.cell (i := 0) rfl
      have q1 := GB.out.cell (i := 1) rfl
      go_wp2_with fail
      refine (held_disk _ RS.length RL.length 1 _ (by decide) (by decide) (by have := HL.out.1; omega) (by have := HL.out.2; omega) ⟨_, _, _, _, by rw [marksS_len, marksW_len], Gm1.out.rw, Gm2.out.rw⟩).mono ?_
      clear q0 q1
      rintro e w23 ⟨rfl, hb⟩
      replace B := hid (B.out.trans (hb.mono B.out.size))
      replace A := hid (A.out.below hb A.out.lt)
      replace W1 := hid (W1.out.below hb)
      replace W2 := hid (W2.out.below hb)
      replace WT := hid (WT.out.below hb)
      replace WB := hid (WB.out.below hb WB.out.lt)
      replace GB := hid (GB.out.below hb GB.out.lt)
      replace Gm1 := hid (Gm1.out.below hb)
      replace Gm2 := hid (Gm2.out.below hb)
      replace GTm := hid (GTm.out.below hb)
      replace H1 := hid (H1.out.below hb)
      replace H2 := hid (H2.out.below hb)
      replace HT := hid (HT.out.below hb)
      replace HB := hid (HB.out.below hb HB.out.lt)
      clear hb
      go_wp2_with fail
      refine (held_strings _ _ o.length (1 + (RS.length : Int) + 2 * (RL.length : Int)) _ (by omega) (by have := HL.out.1; have := HL.out.2; omega) (by have := HO.out; omega) GTm.out.rw).mono ?_
      rintro e w24 ⟨rfl, hb⟩
      replace B := hid (B.out.trans (hb.mono B.out.size))
      replace A := hid (A.out.below hb A.out.lt)
      replace W1 := hid (W1.out.below hb)
      replace W2 := hid (W2.out.below hb)
      replace WT := hid (WT.out.below hb)
      replace WB := hid (WB.out.below hb WB.out.lt)
      replace GB := hid (GB.out.below hb GB.out.lt)
      replace Gm1 := hid (Gm1.out.below hb)
      replace Gm2 := hid (Gm2.out.below hb)
      replace GTm := hid (GTm.out.below hb)
      replace H1 := hid (H1.out.below hb)
      replace H2 := hid (H2.out.below hb)
      replace HT := hid (HT.out.below hb)
      replace HB := hid (HB.out.below hb HB.out.lt)
      clear hb
      go_wp2_with fail
      go_ret
      exact ⟨rfl, B.out⟩
end Go.Proofs.Ytphhgfgmlfdkiab
