/- The walk of the law FnExactDiskRead. -/
import Derived.Test.YtlphojlccecnhaaRd
import Derived.Test.YtlphojlccecnhaaTo
import Derived.Test.YtlphojlccecnhaaEq
namespace Go.Proofs.Ytlphojlccecnhaa
open Go.RowKit
set_option linter.unusedVariables false

set_option maxRecDepth 100000 in
set_option maxHeartbeats 3200000 in
theorem law_read (i : Int) (a : Option Addr) (n c : Nat) (a' : Option Addr) (n' c' : Nat) (S : List ByteArray) (L : List (Int × ByteArray)) (w : World) (hn : S.length = n) (hn' : L.length = n') (hw : Wd S L) (h1 : Rw w a (encS S)) (h2 : Rw w a' (encW L)) :
    Calls Try.prog 7 #[.agg #[.slice a n c, .slice a' n' c'], .int .i64 i] w fun e w' => e = .returned (.bool true) ∧ Below w.heap.size w w' := by
  have HV : Hid (DV w (.agg #[.slice a n c, .slice a' n' c']) S L) := hid ⟨a, c, a', c', by rw [hn, hn'], h1, h2⟩
  have B := hid ((Below.refl w.heap.size w).alloc (Nat.le_refl _) (.cells #[.slice a n c, .slice a' n' c'] 46))
  have A := hid (Blk.new w [.slice a n c, .slice a' n' c'] 46)
  have HSZ := hid (sz_disk _ S L 1048576 _ hw (by decide) (by decide) (HV.out.below (Nat.le_refl _) B.out))
  clear h1 h2 hw hn hn'
  go_enter Try.func7, Try.ntmps7
  go_wp2_with fail
  refine HSZ.out.mono ?_
  clear HSZ
  generalize w.alloc (.cells #[.slice a n c, .slice a' n' c'] 46) = w0 at *
  rintro e w1 ⟨r, rfl, hr, hb⟩
  replace B := hid (B.out.trans (hb.mono B.out.size))
  replace A := hid (A.out.below hb A.out.lt)
  clear hb
  rcases hr with rfl | ⟨g0, g1, hsm⟩
  · clear A
    go_wp2_with fail
    go_ret
    exact ⟨rfl, B.out⟩
  · have HS := hid hsm
    clear hsm
    have hng : ¬ r < 0 := by omega
    have q0 := A.out.cell (i := 0) rfl
    have q1 := A.out.cell (i := 1) rfl
    go_wp2_with fail
    clear q0 q1
    refine (to_disk _ S L _ HS.out (HV.out.below (Nat.le_refl _) B.out)).mono ?_
    rintro e w2 ⟨v1, rfl, ho, hb⟩
    replace B := hid (B.out.trans (hb.mono B.out.size))
    replace A := hid (A.out.below hb A.out.lt)
    have HOK := hid (spec_read v1 S L i w2 HS.out.1 ho.dp)
    have HIM := hid (fun v q (hq : DP q v S L) => impl_read v S L i q hq)
    clear hb ho
    generalize (drR S L i).1 = R1 at *
    generalize (drR S L i).2 = R2 at *
    go_wp2_with fail
    refine HOK.out.mono ?_
    clear HOK
    rintro e w3 ⟨rfl, hb⟩
    replace B := hid (B.out.trans (hb.mono B.out.size))
    replace A := hid (A.out.below hb A.out.lt)
    clear hb
    have q0 := A.out.cell (i := 0) rfl
    have q1 := A.out.cell (i := 1) rfl
    go_wp2_with fail
    clear q0 q1
    refine (to_disk _ S L _ HS.out (HV.out.below (Nat.le_refl _) B.out)).mono ?_
    rintro e w4 ⟨v2, rfl, ho, hb⟩
    replace B := hid (B.out.trans (hb.mono B.out.size))
    replace A := hid (A.out.below hb A.out.lt)
    obtain ⟨x1, x2, rfl, ho1, ho2⟩ := ho
    obtain ⟨xa, xc, rfl, px, _⟩ := ho1.shape
    obtain ⟨ya, yc, rfl, py, _⟩ := ho2.shape
    have X : Hid (DP w4 (.agg #[.slice xa S.length xc, .slice ya L.length yc]) S L) := hid ⟨xa, xc, ya, yc, rfl, ho1.rw, ho2.rw, px, py⟩
    clear hb ho1 ho2 px py
    have hb := (Below.refl w4.heap.size w4).alloc (Nat.le_refl _) (.cells #[.slice xa S.length xc, .slice ya L.length yc] 27)
    replace B := hid (B.out.trans (hb.mono B.out.size))
    replace A := hid (A.out.below hb A.out.lt)
    replace X := hid (X.out.below (Nat.le_refl _) hb)
    have XB := hid (Blk.new w4 [.slice xa S.length xc, .slice ya L.length yc] 27)
    have hxlt := XB.out.lt
    clear hb
    go_wp2_with fail
    refine (HIM.out _ _ X.out).mono ?_
    clear HIM
    generalize w4.alloc (.cells #[.slice xa S.length xc, .slice ya L.length yc] 27) = w5 at *
    rintro e w6 ⟨rfl, hb⟩
    replace B := hid (B.out.trans (hb.mono B.out.size))
    replace A := hid (A.out.below hb A.out.lt)
    replace X := hid (X.out.below (Nat.le_refl _) hb)
    replace XB := hid (XB.out.below hb XB.out.lt)
    clear hb
    have hRR2 : (R2 != R2) = false := by simp
    have q0 := A.out.cell (i := 0) rfl
    have q1 := A.out.cell (i := 1) rfl
    have q2 := XB.out.cell (i := 0) rfl
    have q3 := XB.out.cell (i := 1) rfl
    have HTO := hid (fun q (hq : Below w6.heap.size w6 q) => to_disk _ S L q HS.out (HV.out.below (Nat.le_refl _) (B.out.trans (hq.mono B.out.size))))
    have HEQ := hid (fun v q (hq : Below w6.heap.size w6 q) (hv : DV q v S L) => eq_disk _ v S L q (by have := HS.out.1; omega) (by have := HS.out.2.2.1; omega) (X.out.below (Nat.le_refl _) hq).dv hv)
    have HQ2 := hid (fun q (hq : Below w6.heap.size w6 q) => (XB.out.below hq XB.out.lt).cell (i := 0) rfl)
    have HQ3 := hid (fun q (hq : Below w6.heap.size w6 q) => (XB.out.below hq XB.out.lt).cell (i := 1) rfl)
    go_wp2_with fail
    go_cut [43] from 39 to 43 (fun s wx => s = .bool false ∧ Below w6.heap.size w6 wx)
    case first =>
      go_region_with (first
        | (go_at_call 23; refine (HTO.out _ ?_).mono ?_; · first | exact Below.refl _ _ | exact (Below.refl _ _).drew | exact (Below.refl _ _).drew.drew
           rintro e w7 ⟨v3, rfl, ho7, hb7⟩
           have hc7 : Below w6.heap.size w6 w7 := by first | exact hb7 | exact Below.trans (Below.refl _ _).drew hb7 | exact Below.trans (Below.refl _ _).drew.drew hb7
           have hd7 := ho7.dp.dv
           have r2 := HQ2.out w7 hc7
           have r3 := HQ3.out w7 hc7)
        | (go_at_call 24; have hz := hc7; refine (HEQ.out _ _ ?_ ?_).mono ?_; · first | exact hc7 | exact hc7.drew
           · first | exact hd7 | exact hd7.below (Nat.le_refl _) (Below.refl _ _).drew
           rintro e w8 ⟨rfl, hb8⟩
           have hc8 : Below w6.heap.size w6 w8 := by first | exact hc7.trans (hb8.mono hc7.size) | exact hc7.drew.trans (hb8.mono hc7.drew.size)))
      all_goals
        go_wp2_with fail
        go_meet
        first | exact ⟨rfl, hc8⟩ | exact ⟨rfl, hc8.drew⟩
    case rest =>
      obtain ⟨rfl, hb⟩ := hcut
      replace B := hid (B.out.trans (hb.mono B.out.size))
      clear hb
      go_wp2_with fail
      go_ret
      exact ⟨rfl, B.out⟩
end Go.Proofs.Ytlphojlccecnhaa
