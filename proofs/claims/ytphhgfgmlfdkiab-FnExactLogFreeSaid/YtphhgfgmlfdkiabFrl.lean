/- The walk of the law FnExactLogFree. -/
import Derived.Test.YtphhgfgmlfdkiabFre
import Derived.Test.YtphhgfgmlfdkiabTo
import Derived.Test.YtphhgfgmlfdkiabEq
namespace Go.Proofs.Ytphhgfgmlfdkiab
open Go.RowKit
set_option linter.unusedVariables false

set_option maxRecDepth 100000 in
set_option maxHeartbeats 6400000 in
theorem law_free (a : Option Addr) (n c : Nat) (a' : Option Addr) (n' c' : Nat) (S : List ByteArray) (L : List (Int × ByteArray)) (w : World) (hn : S.length = n) (hn' : L.length = n') (hw : Wd S L) (hr1 : Rw w a (encS S)) (hr2 : Rw w a' (encW L)) :
    Calls Try.prog 4 #[.agg #[.slice a n c, .slice a' n' c']] w fun e w' => e = .returned (.bool true) ∧ Below w.heap.size w w' := by
  have HV : Hid (DV w (.agg #[.slice a n c, .slice a' n' c']) S L) := hid ⟨a, c, a', c', by rw [hn, hn'], hr1, hr2⟩
  have B := hid ((Below.refl w.heap.size w).alloc (Nat.le_refl _) (.cells #[.slice a n c, .slice a' n' c'] 25))
  have A := hid (Blk.new w [.slice a n c, .slice a' n' c'] 25)
  have HSZ := hid (sz_disk _ S L 1048576 _ hw (by decide) (by decide) (HV.out.below (Nat.le_refl _) B.out))
  clear hr1 hr2 hw hn hn'
  have HSP := hid (fun v q (hq : DV q v S L) => spec_logFree v S L q hq)
  have HIM := hid (fun v q (hq : DP q v S L) => impl_logFree v S L q hq)
  go_enter Try.func4, Try.ntmps4
  go_wp2_with fail
  refine HSZ.out.mono ?_
  clear HSZ
  generalize w.alloc (.cells #[.slice a n c, .slice a' n' c'] 25) = w0 at *
  rintro e w1 ⟨r, rfl, hr, hb⟩
  replace B := hid (B.out.trans (hb.mono B.out.size))
  replace A := hid (A.out.below hb A.out.lt)
  clear hb
  rcases hr with rfl | ⟨g0, g1, hsm⟩
  · clear A
    go_wp2_with fail
    go_ret
    exact ⟨rfl, B.out⟩
  · have HS := hid hsm
    clear hsm
    have hng : ¬ r < 0 := by omega
    have HL := hid (show S.length ≤ 1048576 ∧ L.length ≤ 1048577 from ⟨HS.out.1, by have := HS.out.2.2.1; omega⟩)
    have q0 := A.out.cell (i := 0) rfl
    have q1 := A.out.cell (i := 1) rfl
    go_wp2_with fail
    refine (to_disk _ S L _ HS.out (HV.out.below (Nat.le_refl _) B.out)).mono ?_
    clear q0 q1
    rintro e w2 ⟨v, rfl, ⟨va, vb, rfl, ho1, ho2⟩, hb⟩
    obtain ⟨Ta, Tc, rfl, Tp, _⟩ := ho1.shape
    obtain ⟨Tb, Td, rfl, Tr, _⟩ := ho2.shape
    replace B := hid (B.out.trans (hb.mono B.out.size))
    replace A := hid (A.out.below hb A.out.lt)
    have T1 := hid ho1
    have T2 := hid ho2
    have TP := hid (show _ ∧ _ from ⟨Tp, Tr⟩)
    clear hb ho1 ho2 Tp Tr
    go_wp2_with fail
    refine (HSP.out _ _ (show DO _ _ _ S L from ⟨_, _, rfl, T1.out, T2.out⟩).dp.dv).mono ?_
    rintro e w3 ⟨rw, rfl, hfr, hb⟩
    have HFR := hid hfr
    replace B := hid (B.out.trans (hb.mono B.out.size))
    replace A := hid (A.out.below hb A.out.lt)
    replace T1 := hid (T1.out.below hb)
    replace T2 := hid (T2.out.below hb)
    clear hb hfr T1 T2
    have q0 := A.out.cell (i := 0) rfl
    have q1 := A.out.cell (i := 1) rfl
    go_wp2_with fail
    refine (to_disk _ S L _ HS.out (HV.out.below (Nat.le_refl _) B.out)).mono ?_
    clear q0 q1
    rintro e w4 ⟨v, rfl, ⟨va, vb, rfl, ho1, ho2⟩, hb⟩
    obtain ⟨Xa, Xc, rfl, Xp, _⟩ := ho1.shape
    obtain ⟨Xb, Xd, rfl, Xr, _⟩ := ho2.shape
    replace B := hid (B.out.trans (hb.mono B.out.size))
    replace A := hid (A.out.below hb A.out.lt)
    have X1 := hid ho1
    have X2 := hid ho2
    have XP := hid (show _ ∧ _ from ⟨Xp, Xr⟩)
    clear hb ho1 ho2 Xp Xr
    have hb := (Below.refl w4.heap.size w4).alloc (Nat.le_refl _) (.cells #[.slice Xa S.length Xc, .slice Xb L.length Xd] 29)
    replace B := hid (B.out.trans (hb.mono B.out.size))
    replace A := hid (A.out.below hb A.out.lt)
    replace X1 := hid (X1.out.below hb)
    replace X2 := hid (X2.out.below hb)
    have XB := hid (Blk.new w4 [.slice Xa S.length Xc, .slice Xb L.length Xd] 29)
    clear hb
    have q0 := XB.out.cell (i := 0) rfl
    have q1 := XB.out.cell (i := 1) rfl
    go_wp2_with fail
    refine (HIM.out _ _ (show DO _ _ _ S L from ⟨_, _, rfl, X1.out, X2.out⟩).dp).mono ?_
    generalize w4.alloc (.cells #[.slice Xa S.length Xc, .slice Xb L.length Xd] 29) = w5 at *
    clear q0 q1
    rintro e w6 ⟨rg, rfl, hfr, hb⟩
    obtain rfl := HFR.out.same hfr
    replace B := hid (B.out.trans (hb.mono B.out.size))
    replace A := hid (A.out.below hb A.out.lt)
    replace X1 := hid (X1.out.below hb)
    replace X2 := hid (X2.out.below hb)
    replace XB := hid (XB.out.below hb XB.out.lt)
    clear hb hfr
    have hRR : (rw != rw) = false := by simp
    have hXlt := XB.out.lt
    have X0 : Hid (DV w6 (.agg #[.slice Xa S.length Xc, .slice Xb L.length Xd]) S L) := hid ⟨_, _, _, _, rfl, X1.out.rw, X2.out.rw⟩
    have HTO := hid (fun q (hq : Below w6.heap.size w6 q) => to_disk _ S L q HS.out (HV.out.below (Nat.le_refl _) (B.out.trans (hq.mono B.out.size))))
    have HEQ := hid (fun v q (hq : Below w6.heap.size w6 q) (hv : DV q v S L) => eq_disk _ v S L q (by have := HS.out.1; omega) (by have := HS.out.2.2.1; omega) (X0.out.below (Nat.le_refl _) hq) hv)
    have HQ2 := hid (fun q (hq : Below w6.heap.size w6 q) => (XB.out.below hq hXlt).cell (i := 0) rfl)
    have HQ3 := hid (fun q (hq : Below w6.heap.size w6 q) => (XB.out.below hq hXlt).cell (i := 1) rfl)
    have q0 := A.out.cell (i := 0) rfl
    have q1 := A.out.cell (i := 1) rfl
    have q2 := XB.out.cell (i := 0) rfl
    have q3 := XB.out.cell (i := 1) rfl
    go_wp2_with fail
    go_cut [26] from 22 to 26 (fun s wx => s = .bool false ∧ Below w6.heap.size w6 wx)
    case first =>
      go_region_with (first
        | (go_at_call 7; refine (HTO.out _ ?_).mono ?_; · first | exact Below.refl _ _ | exact (Below.refl _ _).drew | exact (Below.refl _ _).drew.drew
           rintro e w7x ⟨v3, rfl, ho7, hb7⟩
           have hc7 : Below w6.heap.size w6 w7x := by first | exact hb7 | exact Below.trans (Below.refl _ _).drew hb7 | exact Below.trans (Below.refl _ _).drew.drew hb7
           have hd7 := ho7.dp.dv
           have r2 := HQ2.out w7x hc7
           have r3 := HQ3.out w7x hc7)
        | (go_at_call 9; have hz := hc7; refine (HEQ.out _ _ ?_ ?_).mono ?_; · first | exact hc7 | exact hc7.drew
           · first | exact hd7 | exact hd7.below (Nat.le_refl _) (Below.refl _ _).drew
           rintro e w8x ⟨rfl, hb8⟩
           have hc8 : Below w6.heap.size w6 w8x := by first | exact hc7.trans (hb8.mono hc7.size) | exact hc7.drew.trans (hb8.mono hc7.drew.size)))
      all_goals
        go_wp2_with fail
        go_meet
        first | exact ⟨rfl, hc8⟩ | exact ⟨rfl, hc8.drew⟩
    case rest =>
      obtain ⟨rfl, hb⟩ := hcut
      clear q0 q1 q2 q3
      replace B := hid (B.out.trans (hb.mono B.out.size))
      replace A := hid (A.out.below hb A.out.lt)
      replace X1 := hid (X1.out.below hb)
      replace X2 := hid (X2.out.below hb)
      replace XB := hid (XB.out.below hb XB.out.lt)
      clear hb HTO HEQ HQ2 HQ3 X0 hXlt
      go_wp2_with fail
      go_ret
      exact ⟨rfl, B.out⟩
end Go.Proofs.Ytphhgfgmlfdkiab
