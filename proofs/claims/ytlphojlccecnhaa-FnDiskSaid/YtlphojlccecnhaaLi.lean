/- Contract of the program's DiskLike. -/
import Derived.Test.YtlphojlccecnhaaLk
import Derived.Deep.WholeRow
import Derived.Deep.CutRange
namespace Go.Proofs.Ytlphojlccecnhaa
open Go.RowKit
set_option linter.unusedVariables false

set_option maxRecDepth 100000 in
set_option maxHeartbeats 3200000 in
theorem impl_like (v v' : Value) (S : List ByteArray) (L : List (Int × ByteArray)) (S' : List ByteArray) (L' : List (Int × ByteArray)) (w : World) (hv : DP w v S L) (hv' : DP w v' S' L') :
    Calls Try.prog 18 #[v, v'] w fun e w' => ∃ r, e = .returned (.bool r) ∧ LkB r S L S' L' ∧ Below w.heap.size w w' := by
  obtain ⟨a, c, a', c', e0, r1, r2, _, _⟩ := id hv
  obtain ⟨b, d, b', d', e1, s1, s2, _, _⟩ := id hv'
  subst e0
  subst e1
  obtain ⟨n1, n2, n3⟩ := new_two w [.slice a S.length c, .slice a' L.length c'] [.slice b S'.length d, .slice b' L'.length d'] 27 27
  have X := hid n1
  have Y := hid n2
  have B := hid n3
  have VX := hid (hv.below (Nat.le_refl _) n3)
  have VY := hid (hv'.below (Nat.le_refl _) n3)
  have HOK := hid (impl_ok _ S L _ VX.out.dv)
  have HOK2 := hid (fun q (hq : DV q (.agg #[.slice b S'.length d, .slice b' L'.length d']) S' L') => impl_ok _ S' L' q hq)
  have q0 := X.out.cell (i := 0) rfl
  have q1 := X.out.cell (i := 1) rfl
  clear n1 n2 n3 r1 r2 s1 s2 hv hv'
  cases hO1 : okB S L with
  | false =>
    have HL := hid (LkB.no1 (S' := S') (L' := L') hO1)
    rw [hO1] at HOK
    go_enter Try.func18, Try.ntmps18
    go_wp2_with (go_at_call 13; refine HOK.out.mono ?_; generalize (w.alloc _).alloc _ = wa at *; rintro e w1 ⟨rfl, hb⟩; replace B := hid (B.out.trans (hb.mono B.out.size)); clear hb)
    go_ret
    exact ⟨_, rfl, HL.out, B.out⟩
  | true =>
    rw [hO1] at HOK
    cases hO2 : okB S' L' with
    | false =>
      have HL := hid (LkB.no2 (S := S) (L := L) hO2)
      rw [hO2] at HOK2
      go_enter Try.func18, Try.ntmps18
      go_wp2_with (first
        | (go_at_call 13; refine HOK.out.mono ?_; generalize (w.alloc _).alloc _ = wa at *; rintro e w1 ⟨rfl, hb⟩; replace B := hid (B.out.trans (hb.mono B.out.size)); replace Y := hid (Y.out.below hb Y.out.lt); replace VY := hid (VY.out.below (Nat.le_refl _) hb); have y0 := Y.out.cell (i := 0) rfl; have y1 := Y.out.cell (i := 1) rfl; clear hb q0 q1 HOK)
        | (go_at_call 13; refine (HOK2.out _ VY.out.dv).mono ?_; rintro e w2 ⟨rfl, hb⟩; replace B := hid (B.out.trans (hb.mono B.out.size)); clear hb y0 y1))
      go_ret
      exact ⟨_, rfl, HL.out, B.out⟩
    | true =>
      rw [hO2] at HOK2
      have hk1 := okB_iff hO1
      have hk2 := okB_iff hO2
      have hm1 : S.length ≤ 1500 := hk1.1.1
      have hm3 : S'.length ≤ 1500 := hk2.1.1
      have HK1 := hid hk1
      have HK2 := hid hk2
      have HIQ := hid (fun r h => LkB.iq (r := r) hO1 hO2 h)
      clear hk1 hk2
      go_enter Try.func18, Try.ntmps18
      go_wp2_with (first
        | (go_at_call 13; refine HOK.out.mono ?_; generalize (w.alloc _).alloc _ = wa at *; rintro e w1 ⟨rfl, hb⟩; replace B := hid (B.out.trans (hb.mono B.out.size)); replace X := hid (X.out.below hb X.out.lt); replace VX := hid (VX.out.below (Nat.le_refl _) hb); replace Y := hid (Y.out.below hb Y.out.lt); replace VY := hid (VY.out.below (Nat.le_refl _) hb); have y0 := Y.out.cell (i := 0) rfl; have y1 := Y.out.cell (i := 1) rfl; clear hb q0 q1 HOK)
        | (go_at_call 13; refine (HOK2.out _ VY.out.dv).mono ?_; rintro e w2 ⟨rfl, hb⟩; replace B := hid (B.out.trans (hb.mono B.out.size)); replace X := hid (X.out.below hb X.out.lt); replace VX := hid (VX.out.below (Nat.le_refl _) hb); replace Y := hid (Y.out.below hb Y.out.lt); replace VY := hid (VY.out.below (Nat.le_refl _) hb); clear hb y0 y1; have y0 := Y.out.cell (i := 0) rfl; have y1 := Y.out.cell (i := 1) rfl; have q0 := X.out.cell (i := 0) rfl; have q1 := X.out.cell (i := 1) rfl))
      have HWa := hid (fun q (hq : Below w2.heap.size w2 q) => open_whole _ S L q HK1.out (VX.out.below (Nat.le_refl _) hq))
      have HWb := hid (fun q (hq : Below w2.heap.size w2 q) => open_whole _ S' L' q HK2.out (VY.out.below (Nat.le_refl _) hq))
      have HRA := hid (fun ao c b m q hr h => read_all ao c b m S (mpTo L L.length) q hm1 hr h)
      have HRB := hid (fun ao c b m q hr h => read_all ao c b m S' (mpTo L' L'.length) q hm3 hr h)
      have HEQ := hid (fun ao bo cap cap' q ha hb => equal_s ao bo cap cap' (raL (mpTo L L.length) S) (raL (mpTo L' L'.length) S') q (by rw [raL_len]; omega) (by rw [raL_len]; omega) ha hb)
      have HQ0 := hid (fun q (hq : Below w2.heap.size w2 q) => (Y.out.below hq Y.out.lt).cell (i := 0) rfl)
      have HQ1 := hid (fun q (hq : Below w2.heap.size w2 q) => (Y.out.below hq Y.out.lt).cell (i := 1) rfl)
      have HLa := hid (raL_len (mpTo L L.length) S)
      have HLb := hid (raL_len (mpTo L' L'.length) S')
      generalize raL (mpTo L L.length) S = PA at *
      generalize raL (mpTo L' L'.length) S' = PB at *
      generalize mpTo L L.length = fa at *
      generalize mpTo L' L'.length = fb at *
      rw [HLa.out, HLb.out] at HEQ
      go_region_with (first
        | (go_at_call 44; have hz := hc6; refine (HEQ.out pa4 pa6 pc4 pc6 _ o4c.rw o6.rw).mono ?_
           rintro e w7 ⟨r, rfl, hiq, hb7⟩
           have hc7 : Below w2.heap.size w2 w7 := by first | exact hc6.trans (hb7.mono hc6.size) | exact hc6.drew.trans (hb7.mono hc6.drew.size))
        | (go_at_call 45; have hz := hc5; refine (HRB.out pa5 pc5 b5 L'.length _ o5.rw m5).mono ?_
           rintro e w6 ⟨v6, rfl, o6, hb6⟩
           obtain ⟨pa6, pc6, rfl, _, _⟩ := o6.shape
           have hc6 : Below w2.heap.size w2 w6 := by first | exact hc5.trans (hb6.mono hc5.size) | exact hc5.drew.trans (hb6.mono hc5.drew.size)
           have o4c := o4b.below hb6)
        | (go_at_call 39; have hz := hc4; refine (HWb.out _ ?_).mono ?_; · first | exact hc4 | exact hc4.drew
           rintro e w5 ⟨va5, b5, rfl, o5, m5, hbb5, hb5⟩
           obtain ⟨pa5, pc5, rfl, _, _⟩ := o5.shape
           have hc5 : Below w2.heap.size w2 w5 := by first | exact hc4.trans (hb5.mono hc4.size) | exact hc4.drew.trans (hb5.mono hc4.drew.size)
           have o4b := o4.below hb5)
        | (go_at_call 45; have hz := hc3; refine (HRA.out pa3 pc3 b3 L.length _ o3.rw m3).mono ?_
           rintro e w4 ⟨v4, rfl, o4, hb4⟩
           obtain ⟨pa4, pc4, rfl, _, _⟩ := o4.shape
           have hc4 : Below w2.heap.size w2 w4 := by first | exact hc3.trans (hb4.mono hc3.size) | exact hc3.drew.trans (hb4.mono hc3.drew.size)
           have x0 := HQ0.out w4 hc4
           have x1 := HQ1.out w4 hc4)
        | (go_at_call 39; refine (HWa.out _ ?_).mono ?_; · first | exact Below.refl _ _ | exact (Below.refl _ _).drew | exact (Below.refl _ _).drew.drew
           rintro e w3 ⟨va3, b3, rfl, o3, m3, hbb3, hb3⟩
           obtain ⟨pa3, pc3, rfl, _, _⟩ := o3.shape
           have hc3 : Below w2.heap.size w2 w3 := by first | exact hb3 | exact Below.trans (Below.refl _ _).drew hb3 | exact Below.trans (Below.refl _ _).drew.drew hb3
           have z0 := HQ0.out w3 hc3
           have z1 := HQ1.out w3 hc3))
      all_goals
        go_wp2_with fail
        go_ret
        exact ⟨_, rfl, HIQ.out _ hiq, B.out.trans (hc7.mono B.out.size)⟩
end Go.Proofs.Ytlphojlccecnhaa
