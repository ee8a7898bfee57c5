/- The contract of CodeOf of the specification. -/
import Derived.Test.YtmdmolofiblbmaaCodePlain
import Derived.Test.YtmdmolofiblbmaaOkBoth
namespace Go.Proofs.Ytmdmolofiblbmaa
open Go.RowKit Go.Maps
set_option linter.unusedVariables false

set_option maxRecDepth 100000 in
set_option maxHeartbeats 1600000 in
theorem spec_codeOf (v : Value) (cs ss : List Int) (sym : Int) (w : World) (h0 : cs.length ≤ 1048576) (h1 : ss.length ≤ 1048576) (hv : CV w v cs ss) :
    Calls Try.prog 51 #[v, .int .i64 sym] w fun e w' => ∃ v', e = .returned v' ∧ Own w' w.heap.size 3 .i64 v' (codeR cs ss sym) ∧ Below w.heap.size w w' := by
  obtain ⟨a0, c0, a1, c1, rfl, u0, u1⟩ := hv
  have HB := hid ((Below.refl w.heap.size w).alloc (Nat.le_refl _) (.cells #[.slice a0 cs.length c0, .slice a1 ss.length c1] 26))
  have HT := hid (Two.new w (.slice a0 cs.length c0) (.slice a1 ss.length c1) 26)
  have HCV := hid (show CV w (.agg #[.slice a0 cs.length c0, .slice a1 ss.length c1]) cs ss from ⟨a0, c0, a1, c1, rfl, u0, u1⟩)
  have HI := hid (spec_ok _ cs ss _ h0 h1 (HCV.out.below HB.out))
  have HU1 := hid u1
  clear u0 u1
  by_cases hr : rightC cs ss = true
  · have HC := hid (show codeR cs ss sym = codeL cs ss sym by unfold codeR; rw [if_pos hr])
    have HBK := hid (fun q hq => all_codes (.agg #[.slice a0 cs.length c0, .slice a1 ss.length c1]) cs ss q hr (HCV.out.below hq))
    have HHIT := hid (codeL_hit cs ss hr)
    have HMISS := hid (codeL_miss cs ss hr sym)
    have HKL := hid (keys_len cs ss hr)
    rw [hr] at HI
    clear hr
    go_enter Try.func51, Try.ntmps51
    go_wp2_with fail
    refine HI.out.mono ?_
    generalize w.alloc (.cells #[.slice a0 cs.length c0, .slice a1 ss.length c1] 26) = wa at *
    rintro e w1 ⟨rfl, hb1⟩
    have B1 := hid (HB.out.trans (hb1.mono HB.out.size))
    have T1 := hid (HT.out.below hb1 HT.out.lt)
    clear hb1 HI
    obtain ⟨q1, q2, q3, q4⟩ := T1.out.cells
    go_wp2_with fail
    refine (HBK.out _ B1.out).mono ?_
    rintro e w2 ⟨v2, rfl, ⟨vs, hvl, howns, hels⟩, hb2⟩
    obtain ⟨oo, oc, rfl⟩ := howns.shape
    have B2 := hid (B1.out.trans (hb2.mono B1.out.size))
    have T2 := hid (T1.out.below hb2 T1.out.lt)
    have hsz : w.heap.size ≤ w2.heap.size := B2.out.size
    have hsz1 : w.heap.size ≤ w1.heap.size := B1.out.size
    have HOS := hid howns
    have HEL := hid hels
    have hvS : vs.length = ss.length := by rw [hvl, HKL.out]
    rw [hvS] at HOS ⊢
    clear hb2 howns hels q1 q2 q3 q4 HBK hvl
    obtain ⟨q1, q2, q3, q4⟩ := T2.out.cells
    have HVS := hid hvS
    clear hvS
    go_wp2_with fail
    go_loop [6] (fun i => ∃ k : Nat, k ≤ ss.length ∧ i = .int .i64 k ∧ Hid (∀ p, p < k → ss.getD p 0 ≠ sym)) (fun i => ss.length - (intOf i).toNat)
    case atStart => exact ⟨0, by omega, rfl, fun p hp => by omega⟩
    case round =>
      obtain ⟨k, hk, rfl, hno⟩ := hrel
      by_cases hlt : k < ss.length
      · obtain ⟨b, off, rfl, hc⟩ := HU1.out.2 k hlt
        have hcr : w2.cell? ⟨b, off + k, none⟩ = some (.int .i64 (ss.getD k 0)) := (B2.out.cell (p := ⟨b, off + k, none⟩) (World.block_lt_of_cell? w _ hc)).trans hc
        have hlt' : (k : Int) < (ss.length : Int) := by omega
        have hkK : k < (keysTo cs 16).length := by rw [HKL.out]; exact hlt
        obtain ⟨x, hx⟩ : ∃ x, (keysTo cs 16)[k]? = some x := ⟨_, List.getElem?_eq_getElem hkK⟩
        obtain ⟨y, hy1, hy2⟩ := HEL.out k x hx
        obtain ⟨g, rfl, hyc⟩ := HOS.out.cell k y hy1
        have HR := hid (fun e : ss.getD k 0 = sym => (show codeR cs ss sym = bitsK x by rw [HC.out, ← e]; exact HHIT.out k hlt x hx))
        have HNE := hid (fun (e : ss.getD k 0 ≠ sym) p (hp : p < k + 1) => (show ss.getD p 0 ≠ sym by
          by_cases ep : p = k
          · rw [ep]; exact e
          · exact hno.out p (by omega)))
        have HY := hid (hy2.mono hsz1)
        obtain ⟨yo, yc, rfl⟩ := hy2.shape
        generalize ss.getD k 0 = X at *
        clear hc hy1 hy2 HEL hkK hx
        by_cases hX : X = sym
        · have hd : (X == sym) = true := by simpa using hX
          have HRR := hid (HR.out hX)
          clear hX HR HNE HMISS HHIT
          go_wp2
          go_ret
          exact ⟨_, rfl, by rw [HRR.out]; exact HY.out, B2.out⟩
        · have hd : (X == sym) = false := by simpa using hX
          have HNN := hid (HNE.out hX)
          clear hX HR HNE HMISS HHIT
          go_wp2
          go_round
          case rel => exact ⟨k + 1, by omega, by go_num, HNN.out⟩
          case measure => simp [intOf]; omega
      · obtain rfl : k = ss.length := by omega
        have HR := hid (show codeR cs ss sym = [] by rw [HC.out]; exact HMISS.out hno.out)
        clear HMISS HHIT
        go_wp2
        go_ret
        exact ⟨_, rfl, by rw [HR.out]; exact Own.empty _ _ _ _ hsz, B2.out.alloc hsz _⟩
  · have hr' : rightC cs ss = false := by simpa using hr
    have HR := hid (show codeR cs ss sym = [] by unfold codeR; rw [if_neg hr])
    rw [hr'] at HI
    clear hr hr'
    go_enter Try.func51, Try.ntmps51
    go_wp2_with fail
    refine HI.out.mono ?_
    generalize w.alloc (.cells #[.slice a0 cs.length c0, .slice a1 ss.length c1] 26) = wa at *
    rintro e w1 ⟨rfl, hb1⟩
    have B1 := hid (HB.out.trans (hb1.mono HB.out.size))
    have hsz : w.heap.size ≤ w1.heap.size := B1.out.size
    clear hb1 HI
    go_wp2
    go_ret
    exact ⟨_, rfl, by rw [HR.out]; exact Own.empty _ _ _ _ hsz, B1.out.alloc hsz _⟩
end Go.Proofs.Ytmdmolofiblbmaa
