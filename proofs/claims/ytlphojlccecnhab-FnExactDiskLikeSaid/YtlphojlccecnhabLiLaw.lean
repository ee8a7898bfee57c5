/- The walk of the law FnExactDiskLike. -/
import Derived.Test.YtlphojlccecnhabLi
import Derived.Test.YtlphojlccecnhabTo
import Derived.Test.YtlphojlccecnhabEq
namespace Go.Proofs.Ytlphojlccecnhab
open Go.RowKit
set_option linter.unusedVariables false

set_option maxRecDepth 100000 in
set_option maxHeartbeats 6400000 in
theorem law_like (a : Option Addr) (n c : Nat) (a' : Option Addr) (n' c' : Nat) (S : List ByteArray) (L : List (Int × ByteArray)) (w : World) (hn : S.length = n) (hn' : L.length = n') (hw : Wd S L) (hr1 : Rw w a (encS S)) (hr2 : Rw w a' (encW L)) (b : Option Addr) (m d : Nat) (b' : Option Addr) (m' d' : Nat) (T : List ByteArray) (U : List (Int × ByteArray)) (hm : T.length = m) (hm' : U.length = m') (hw2 : Wd T U) (ht1 : Rw w b (encS T)) (ht2 : Rw w b' (encW U)) :
    Calls Try.prog 5 #[.agg #[.slice a n c, .slice a' n' c'], .agg #[.slice b m d, .slice b' m' d']] w fun e w' => e = .returned (.bool true) ∧ Below w.heap.size w w' := by
  have HV : Hid (DV w (.agg #[.slice a n c, .slice a' n' c']) S L) := hid ⟨a, c, a', c', by rw [hn, hn'], hr1, hr2⟩
  have HV2 : Hid (DV w (.agg #[.slice b m d, .slice b' m' d']) T U) := hid ⟨b, d, b', d', by rw [hm, hm'], ht1, ht2⟩
  obtain ⟨n1, n2, n3⟩ := new_two w [.slice a n c, .slice a' n' c'] [.slice b m d, .slice b' m' d'] 25 25
  have B := hid n3
  have A := hid n1
  have C := hid n2
  have HSZ := hid (sz_disk _ S L 1048576 _ hw (by decide) (by decide) (HV.out.below (Nat.le_refl _) B.out))
  have HW2 := hid hw2
  clear hr1 hr2 ht1 ht2 hw hw2 hn hn' hm hm' n1 n2 n3
  have HSP := hid (fun v v2 q h1 h2 (hq : DV q v S L) (hq2 : DV q v2 T U) => spec_like v v2 S L T U q h1 h2 hq hq2)
  have HIM := hid (fun v v2 q (hq : DP q v S L) (hq2 : DP q v2 T U) => impl_like v v2 S L T U q hq hq2)
  go_enter Try.func5, Try.ntmps5
  go_wp2_with fail
  refine HSZ.out.mono ?_
  clear HSZ
  generalize (w.alloc _).alloc _ = w0 at *
  rintro e w1 ⟨r, rfl, hr, hb⟩
  replace B := hid (B.out.trans (hb.mono B.out.size))
  replace A := hid (A.out.below hb A.out.lt)
  replace C := hid (C.out.below hb C.out.lt)
  clear hb
  rcases hr with rfl | ⟨g0, g1, hsm⟩
  · clear A C
    go_wp2_with fail
    go_ret
    exact ⟨rfl, B.out⟩
  · have HS := hid hsm
    clear hsm
    have hng : ¬ r < 0 := by omega
    have q0 := C.out.cell (i := 0) rfl
    have q1 := C.out.cell (i := 1) rfl
    go_wp2_with fail
    refine (sz_disk _ T U r _ HW2.out g0 (by omega) (HV2.out.below (Nat.le_refl _) B.out)).mono ?_
    clear q0 q1
    rintro e w2 ⟨r2, rfl, hr2, hb⟩
    replace B := hid (B.out.trans (hb.mono B.out.size))
    replace A := hid (A.out.below hb A.out.lt)
    replace C := hid (C.out.below hb C.out.lt)
    clear hb
    rcases hr2 with rfl | ⟨k0, k1, hsm⟩
    · clear A C
      go_wp2_with fail
      go_ret
      exact ⟨rfl, B.out⟩
    · have HS2 := hid hsm
      clear hsm
      have hng2 : ¬ r2 < 0 := by omega
      have HTA := hid (fun q (hq : Below w2.heap.size w2 q) => to_disk _ S L q HS.out (HV.out.below (Nat.le_refl _) (B.out.trans (hq.mono B.out.size))))
      have HTC := hid (fun q (hq : Below w2.heap.size w2 q) => to_disk _ T U q HS2.out (HV2.out.below (Nat.le_refl _) (B.out.trans (hq.mono B.out.size))))
      have HQ0 := hid (fun q (hq : Below w2.heap.size w2 q) => (C.out.below hq C.out.lt).cell (i := 0) rfl)
      have HQ1 := hid (fun q (hq : Below w2.heap.size w2 q) => (C.out.below hq C.out.lt).cell (i := 1) rfl)
      have q0 := A.out.cell (i := 0) rfl
      have q1 := A.out.cell (i := 1) rfl
      have q2 := C.out.cell (i := 0) rfl
      have q3 := C.out.cell (i := 1) rfl
      go_wp2_with fail
      go_cut [6, 24] from 20 to 24 (fun s t wx => ∃ r, s = .bool r ∧ LkB r S L T U ∧ Below w2.heap.size w2 wx)
      case first =>
        go_region_with (first
          | (go_at_call 18; have hz := hc4; refine (HSP.out _ _ _ HS.out.1 HS2.out.1 d3b d4).mono ?_
             rintro e w5 ⟨rs, rfl, hlk, hb5⟩
             have hc5 : Below w2.heap.size w2 w5 := by first | exact hc4.trans (hb5.mono hc4.size) | exact hc4.drew.trans (hb5.mono hc4.drew.size))
          | (go_at_call 8; have hz := hc3; refine (HTC.out _ ?_).mono ?_; · first | exact hc3 | exact hc3.drew
             rintro e w4 ⟨v4, rfl, ho4, hb4⟩
             have hc4 : Below w2.heap.size w2 w4 := by first | exact hc3.trans (hb4.mono hc3.size) | exact hc3.drew.trans (hb4.mono hc3.drew.size)
             have d4 := ho4.dp.dv
             have d3b := d3.below (Nat.le_refl _) hb4)
          | (go_at_call 8; refine (HTA.out _ ?_).mono ?_; · first | exact Below.refl _ _ | exact (Below.refl _ _).drew | exact (Below.refl _ _).drew.drew
             rintro e w3 ⟨v3, rfl, ho3, hb3⟩
             have hc3 : Below w2.heap.size w2 w3 := by first | exact hb3 | exact Below.trans (Below.refl _ _).drew hb3 | exact Below.trans (Below.refl _ _).drew.drew hb3
             have d3 := ho3.dp.dv
             have r0 := HQ0.out w3 hc3
             have r1 := HQ1.out w3 hc3))
        all_goals
          go_wp2_with fail
          go_meet
          first | exact ⟨_, rfl, hlk, hc5⟩ | exact ⟨_, rfl, hlk, hc5.drew⟩
      case rest =>
        obtain ⟨rs, rfl, hlk, hb⟩ := hcut
        have HLK := hid hlk
        clear q0 q1 q2 q3
        replace B := hid (B.out.trans (hb.mono B.out.size))
        replace A := hid (A.out.below hb A.out.lt)
        replace C := hid (C.out.below hb C.out.lt)
        clear hb hlk HTA HTC HQ0 HQ1
        rename World => wq1
        have q0 := A.out.cell (i := 0) rfl
        have q1 := A.out.cell (i := 1) rfl
        go_wp2_with fail
        refine (to_disk _ S L _ HS.out (HV.out.below (Nat.le_refl _) B.out)).mono ?_
        clear q0 q1
        rintro e w11 ⟨v, rfl, ⟨va, vb, rfl, ho1, ho2⟩, hb⟩
        obtain ⟨Xa, Xc, rfl, Xp, _⟩ := ho1.shape
        obtain ⟨Xb, Xd, rfl, Xr, _⟩ := ho2.shape
        replace B := hid (B.out.trans (hb.mono B.out.size))
        replace A := hid (A.out.below hb A.out.lt)
        replace C := hid (C.out.below hb C.out.lt)
        have X1 := hid ho1
        have X2 := hid ho2
        have XP := hid (show _ ∧ _ from ⟨Xp, Xr⟩)
        clear hb ho1 ho2 Xp Xr
        have hb := (Below.refl w11.heap.size w11).alloc (Nat.le_refl _) (.cells #[.slice Xa S.length Xc, .slice Xb L.length Xd] 29)
        replace B := hid (B.out.trans (hb.mono B.out.size))
        replace A := hid (A.out.below hb A.out.lt)
        replace C := hid (C.out.below hb C.out.lt)
        replace X1 := hid (X1.out.below hb)
        replace X2 := hid (X2.out.below hb)
        have XB := hid (Blk.new w11 [.slice Xa S.length Xc, .slice Xb L.length Xd] 29)
        clear hb
        have q0 := C.out.cell (i := 0) rfl
        have q1 := C.out.cell (i := 1) rfl
        go_wp2_with fail
        refine (to_disk _ T U _ HS2.out (HV2.out.below (Nat.le_refl _) B.out)).mono ?_
        generalize w11.alloc (.cells #[.slice Xa S.length Xc, .slice Xb L.length Xd] 29) = w12 at *
        clear q0 q1
        rintro e w13 ⟨v, rfl, ⟨va, vb, rfl, ho1, ho2⟩, hb⟩
        obtain ⟨Ya, Yc, rfl, Yp, _⟩ := ho1.shape
        obtain ⟨Yb, Yd, rfl, Yr, _⟩ := ho2.shape
        replace B := hid (B.out.trans (hb.mono B.out.size))
        replace A := hid (A.out.below hb A.out.lt)
        replace C := hid (C.out.below hb C.out.lt)
        replace X1 := hid (X1.out.below hb)
        replace X2 := hid (X2.out.below hb)
        replace XB := hid (XB.out.below hb XB.out.lt)
        have Y1 := hid ho1
        have Y2 := hid ho2
        have YP := hid (show _ ∧ _ from ⟨Yp, Yr⟩)
        clear hb ho1 ho2 Yp Yr
        have hb := (Below.refl w13.heap.size w13).alloc (Nat.le_refl _) (.cells #[.slice Ya T.length Yc, .slice Yb U.length Yd] 29)
        replace B := hid (B.out.trans (hb.mono B.out.size))
        replace A := hid (A.out.below hb A.out.lt)
        replace C := hid (C.out.below hb C.out.lt)
        replace X1 := hid (X1.out.below hb)
        replace X2 := hid (X2.out.below hb)
        replace XB := hid (XB.out.below hb XB.out.lt)
        replace Y1 := hid (Y1.out.below hb)
        replace Y2 := hid (Y2.out.below hb)
        have YB := hid (Blk.new w13 [.slice Ya T.length Yc, .slice Yb U.length Yd] 29)
        clear hb
        have q0 := XB.out.cell (i := 0) rfl
        have q1 := XB.out.cell (i := 1) rfl
        have q2 := YB.out.cell (i := 0) rfl
        have q3 := YB.out.cell (i := 1) rfl
        go_wp2_with fail
        refine (HIM.out _ _ _ (show DO _ _ _ S L from ⟨_, _, rfl, X1.out, X2.out⟩).dp (show DO _ _ _ T U from ⟨_, _, rfl, Y1.out, Y2.out⟩).dp).mono ?_
        generalize w13.alloc (.cells #[.slice Ya T.length Yc, .slice Yb U.length Yd] 29) = w14 at *
        clear q0 q1 q2 q3
        rintro e w15 ⟨rr, rfl, hlk, hb⟩
        have hrr : rr = rs := LkB.same hlk HLK.out
        subst hrr
        replace B := hid (B.out.trans (hb.mono B.out.size))
        replace A := hid (A.out.below hb A.out.lt)
        replace C := hid (C.out.below hb C.out.lt)
        replace X1 := hid (X1.out.below hb)
        replace X2 := hid (X2.out.below hb)
        replace XB := hid (XB.out.below hb XB.out.lt)
        replace Y1 := hid (Y1.out.below hb)
        replace Y2 := hid (Y2.out.below hb)
        replace YB := hid (YB.out.below hb YB.out.lt)
        clear hb hlk
        have hRR : (rr != rr) = false := by simp
        have hXlt := XB.out.lt
        have X0 : Hid (DV w15 (.agg #[.slice Xa S.length Xc, .slice Xb L.length Xd]) S L) := hid ⟨_, _, _, _, rfl, X1.out.rw, X2.out.rw⟩
        have HTO := hid (fun q (hq : Below w15.heap.size w15 q) => to_disk _ S L q HS.out (HV.out.below (Nat.le_refl _) (B.out.trans (hq.mono B.out.size))))
        have HEQ := hid (fun v q (hq : Below w15.heap.size w15 q) (hv : DV q v S L) => eq_disk _ v S L q (by have := HS.out.1; omega) (by have := HS.out.2.2.1; omega) (X0.out.below (Nat.le_refl _) hq) hv)
        have HQ2 := hid (fun q (hq : Below w15.heap.size w15 q) => (XB.out.below hq hXlt).cell (i := 0) rfl)
        have HQ3 := hid (fun q (hq : Below w15.heap.size w15 q) => (XB.out.below hq hXlt).cell (i := 1) rfl)
        have q0 := A.out.cell (i := 0) rfl
        have q1 := A.out.cell (i := 1) rfl
        have q2 := XB.out.cell (i := 0) rfl
        have q3 := XB.out.cell (i := 1) rfl
        go_wp2_with fail
        go_cut [39] from 35 to 39 (fun s wx => s = .bool false ∧ Below w15.heap.size w15 wx)
        case first =>
          go_region_with (first
            | (go_at_call 8; refine (HTO.out _ ?_).mono ?_; · first | exact Below.refl _ _ | exact (Below.refl _ _).drew | exact (Below.refl _ _).drew.drew
               rintro e w7x ⟨v3, rfl, ho7, hb7⟩
               have hc7 : Below w15.heap.size w15 w7x := by first | exact hb7 | exact Below.trans (Below.refl _ _).drew hb7 | exact Below.trans (Below.refl _ _).drew.drew hb7
               have hd7 := ho7.dp.dv
               have r2 := HQ2.out w7x hc7
               have r3 := HQ3.out w7x hc7)
            | (go_at_call 10; have hz := hc7; refine (HEQ.out _ _ ?_ ?_).mono ?_; · first | exact hc7 | exact hc7.drew
               · first | exact hd7 | exact hd7.below (Nat.le_refl _) (Below.refl _ _).drew
               rintro e w8x ⟨rfl, hb8⟩
               have hc8 : Below w15.heap.size w15 w8x := by first | exact hc7.trans (hb8.mono hc7.size) | exact hc7.drew.trans (hb8.mono hc7.drew.size)))
          all_goals
            go_wp2_with fail
            go_meet
            first | exact ⟨rfl, hc8⟩ | exact ⟨rfl, hc8.drew⟩
        case rest =>
          obtain ⟨rfl, hb⟩ := hcut
          clear q0 q1 q2 q3
          replace B := hid (B.out.trans (hb.mono B.out.size))
          replace A := hid (A.out.below hb A.out.lt)
          replace C := hid (C.out.below hb C.out.lt)
          replace X1 := hid (X1.out.below hb)
          replace X2 := hid (X2.out.below hb)
          replace XB := hid (XB.out.below hb XB.out.lt)
          replace Y1 := hid (Y1.out.below hb)
          replace Y2 := hid (Y2.out.below hb)
          replace YB := hid (YB.out.below hb YB.out.lt)
          clear hb HTO HEQ HQ2 HQ3 X0 hXlt
          rename World => wq2
          clear X1 X2 XB
          have hXlt := YB.out.lt
          have X0 : Hid (DV wq2 (.agg #[.slice Ya T.length Yc, .slice Yb U.length Yd]) T U) := hid ⟨_, _, _, _, rfl, Y1.out.rw, Y2.out.rw⟩
          have HTO := hid (fun q (hq : Below wq2.heap.size wq2 q) => to_disk _ T U q HS2.out (HV2.out.below (Nat.le_refl _) (B.out.trans (hq.mono B.out.size))))
          have HEQ := hid (fun v q (hq : Below wq2.heap.size wq2 q) (hv : DV q v T U) => eq_disk _ v T U q (by have := HS2.out.1; omega) (by have := HS2.out.2.2.1; omega) (X0.out.below (Nat.le_refl _) hq) hv)
          have HQ2 := hid (fun q (hq : Below wq2.heap.size wq2 q) => (YB.out.below hq hXlt).cell (i := 0) rfl)
          have HQ3 := hid (fun q (hq : Below wq2.heap.size wq2 q) => (YB.out.below hq hXlt).cell (i := 1) rfl)
          have q0 := C.out.cell (i := 0) rfl
          have q1 := C.out.cell (i := 1) rfl
          have q2 := YB.out.cell (i := 0) rfl
          have q3 := YB.out.cell (i := 1) rfl
          go_wp2_with fail
          go_cut [44] from 40 to 44 (fun s wx => s = .bool false ∧ Below wq2.heap.size wq2 wx)
          case first =>
            go_region_with (first
              | (go_at_call 8; refine (HTO.out _ ?_).mono ?_; · first | exact Below.refl _ _ | exact (Below.refl _ _).drew | exact (Below.refl _ _).drew.drew
                 rintro e w7x ⟨v3, rfl, ho7, hb7⟩
                 have hc7 : Below wq2.heap.size wq2 w7x := by first | exact hb7 | exact Below.trans (Below.refl _ _).drew hb7 | exact Below.trans (Below.refl _ _).drew.drew hb7
                 have hd7 := ho7.dp.dv
                 have r2 := HQ2.out w7x hc7
                 have r3 := HQ3.out w7x hc7)
              | (go_at_call 10; have hz := hc7; refine (HEQ.out _ _ ?_ ?_).mono ?_; · first | exact hc7 | exact hc7.drew
                 · first | exact hd7 | exact hd7.below (Nat.le_refl _) (Below.refl _ _).drew
                 rintro e w8x ⟨rfl, hb8⟩
                 have hc8 : Below wq2.heap.size wq2 w8x := by first | exact hc7.trans (hb8.mono hc7.size) | exact hc7.drew.trans (hb8.mono hc7.drew.size)))
            all_goals
              go_wp2_with fail
              go_meet
              first | exact ⟨rfl, hc8⟩ | exact ⟨rfl, hc8.drew⟩
          case rest =>
            obtain ⟨rfl, hb⟩ := hcut
            clear q0 q1 q2 q3
            replace B := hid (B.out.trans (hb.mono B.out.size))
            replace A := hid (A.out.below hb A.out.lt)
            replace C := hid (C.out.below hb C.out.lt)
            replace Y1 := hid (Y1.out.below hb)
            replace Y2 := hid (Y2.out.below hb)
            replace YB := hid (YB.out.below hb YB.out.lt)
            clear hb HTO HEQ HQ2 HQ3 X0 hXlt
            go_wp2_with fail
            go_ret
            exact ⟨rfl, B.out⟩
end Go.Proofs.Ytlphojlccecnhab
