/- The contract of PutSyms of the specification. -/
import Derived.Test.YtkmalefkdeppkaaPutPlain
import Derived.Deep.CutRange
namespace Go.Proofs.Ytkmalefkdeppkaa
open Go.RowKit Go.Maps
set_option linter.unusedVariables false

set_option maxRecDepth 100000 in
set_option maxHeartbeats 6400000 in
theorem spec_putSyms (v : Value) (cs ss : List Int) (lo : Option Addr) (n lc : Nat) (xs : List Int) (w : World) (h0 : cs.length ≤ 1048576) (h1 : ss.length ≤ 1048576) (hn : n ≤ 1048576) (hv : CV w v cs ss) (hxs : View .i64 w lo n xs) :
    Calls Try.prog 34 #[v, .slice lo n lc] w fun e w' => ∃ v', e = .returned (.tuple #[v', .bool (putR cs ss xs).2]) ∧ Own w' w.heap.size 3 .i64 v' (putR cs ss xs).1 ∧ Below w.heap.size w w' := by
  obtain ⟨a0, c0, a1, c1, rfl, u0, u1⟩ := hv
  have hba : Below w.heap.size w (w.alloc (.cells #[.slice a0 cs.length c0, .slice a1 ss.length c1] 26)) := (Below.refl w.heap.size w).alloc (Nat.le_refl _) _
  have HB := hid (hba.alloc hba.size (.cells #[] 3))
  have HT := hid ((Two.new w (.slice a0 cs.length c0) (.slice a1 ss.length c1) 26).alloc (.cells #[] 3))
  have HCV := hid (show CV w (.agg #[.slice a0 cs.length c0, .slice a1 ss.length c1]) cs ss from ⟨a0, c0, a1, c1, rfl, u0, u1⟩)
  have HI := hid (spec_ok _ cs ss _ h0 h1 (HCV.out.below HB.out))
  have hoe := Own.empty (w.alloc (.cells #[.slice a0 cs.length c0, .slice a1 ss.length c1] 26)) 3 .i64 (w.heap.size + 1) (by simp)
  simp only [World.size_alloc] at hoe
  have HOE := hid hoe
  have HXS := hid hxs
  have hxl := hxs.1
  clear u0 u1 hxs hba hoe
  by_cases hr : rightC cs ss = true
  · have HCO := hid (fun s q hq => spec_codeOf (.agg #[.slice a0 cs.length c0, .slice a1 ss.length c1]) cs ss s q h0 h1 (HCV.out.below hq))
    have HCR := hid (fun s => (show codeR cs ss s = codeL cs ss s by unfold codeR; rw [if_pos hr]))
    have HNO := hid (putR_none (xs := xs) hr)
    have HYES := hid (fun a => putR_some (xs := xs) (a := a) hr)
    rw [hxl] at HNO HYES
    have HCL := hid (fun s => codeL_len cs ss s hr)
    rw [hr] at HI
    clear hr hxl
    go_enter Try.func34, Try.ntmps34
    go_wp2_with fail
    refine HI.out.mono ?_
    generalize (w.alloc (.cells #[.slice a0 cs.length c0, .slice a1 ss.length c1] 26)).alloc (.cells #[] 3) = wa at *
    rintro e w1 ⟨rfl, hb1⟩
    have B1 := hid (HB.out.trans (hb1.mono HB.out.size))
    have T1 := hid (HT.out.below hb1 HT.out.lt)
    have HOE1 := hid (HOE.out.below hb1)
    have hsz : w.heap.size ≤ w1.heap.size := B1.out.size
    clear hb1 HI HOE
    go_wp2_with fail
    go_loopw [6, 7] (fun b i wr => ∃ (k : Nat) (acc : List Int), k ≤ n ∧ i = .int .i64 k ∧ Hid (putTo cs ss xs k = some acc) ∧ Own wr (w.heap.size + 1) 3 .i64 b acc ∧ Hid (Two wr w.heap.size (.slice a0 cs.length c0) (.slice a1 ss.length c1) 26) ∧ Hid (Below w.heap.size w wr)) (fun _ i _ => n - (intOf i).toNat)
    case atStart => exact ⟨0, [], by omega, rfl, rfl, HOE1.out, T1.out, B1.out⟩
    case round =>
      obtain ⟨k, acc, hk, rfl, hput, hown, htwo, hb⟩ := hrel
      have hszr : w.heap.size ≤ wr.heap.size := hb.out.size
      by_cases hlt : k < n
      · obtain ⟨b, off, rfl, hc⟩ := HXS.out.2 k hlt
        have hcr : wr.cell? ⟨b, off + k, none⟩ = some (.int .i64 (xs.getD k 0)) := (hb.out.cell (p := ⟨b, off + k, none⟩) (World.block_lt_of_cell? w _ hc)).trans hc
        have hlt' : (k : Int) < (n : Int) := by omega
        have hal := putTo_len hput.out
        have HBAD := hid (fun h => HNO.out (putTo_bad hput.out h n hlt))
        have HGOOD := hid (fun h => putTo_good hput.out h)
        have hcx := HCL.out (xs.getD k 0)
        have HSC := hid (fun q (hq : Below wr.heap.size wr q) => HCO.out (xs.getD k 0) q (hb.out.trans (hq.mono hszr)))
        rw [HCR.out] at HSC
        generalize codeL cs ss (xs.getD k 0) = Y at *
        generalize xs.getD k 0 = X at *
        obtain ⟨q1, q2, q3, q4⟩ := htwo.out.cells
        obtain ⟨oo, oc, rfl⟩ := hown.shape
        clear hc
        go_wp2_with fail
        go_cut [8] from 14 to 40 (fun s wx => ∃ yo yc, s = .slice yo Y.length yc ∧ Own wx wr.heap.size 3 .i64 (.slice yo Y.length yc) Y ∧ Below wr.heap.size wr wx)
        case first =>
          go_region_with (go_at_call 27; refine (HSC.out _ ?_).mono ?_; · first | exact Below.refl _ _ | exact (Below.refl _ _).drew | exact (Below.refl _ _).drew.drew
                          rintro e w8 ⟨y, rfl, hy, hb8⟩)
          all_goals
            have hc8 : Below wr.heap.size wr w8 := by first | exact hb8 | exact Below.trans (Below.refl _ _).drew hb8 | exact Below.trans (Below.refl _ _).drew.drew hb8
            obtain ⟨yo, yc, rfl⟩ := hy.shape
            have HY := hid hy
            go_wp2_with fail
            go_meet
            exact ⟨yo, yc, rfl, HY.out, hc8⟩
        case rest =>
          obtain ⟨yo, yc, rfl, hy, hb4⟩ := hcut
          generalize hwc : wc = w4 at *
          clear hwc
          have hown4 := hown.below hb4
          have T4 := hid (htwo.out.below hb4 htwo.out.lt)
          have HB4 := hid (hb.out.trans (hb4.mono hszr))
          have hsz4 : w.heap.size ≤ w4.heap.size := HB4.out.size
          clear hb4 hcr HSC q1 q2 q3 q4 hown
          by_cases hz : Y.length = 0
          · have HR := hid (HBAD.out (.inl hz))
            have hzb : ((Y.length : Int) == 0) = true := by simp [hz]
            clear HBAD HGOOD hy hown4 hz
            generalize Y.length = LY at *
            go_wp2
            go_ret2
            exact ⟨_, ret_vb (by rw [HR.out]), by rw [HR.out]; exact Own.empty _ _ _ _ hsz4, HB4.out.alloc hsz4 _⟩
          · have hzb : ((Y.length : Int) == 0) = false := by simp; intro e; apply hz; rw [e]; rfl
            by_cases hbig : 480000 < acc.length + Y.length
            · have HR := hid (HBAD.out (.inr hbig))
              have hbig' : decide ((480000 : Int) < (acc.length : Int) + (Y.length : Int)) = true := by simp; omega
              clear HBAD HGOOD hy hown4 hz
              generalize Y.length = LY at *
              go_wp2
              go_ret2
              exact ⟨_, ret_vb (by rw [HR.out]), by rw [HR.out]; exact Own.empty _ _ _ _ hsz4, HB4.out.alloc hsz4 _⟩
            · have HNX := hid (HGOOD.out (by omega))
              have hbig' : decide ((480000 : Int) < (acc.length : Int) + (Y.length : Int)) = false := by simp; omega
              have hpos : 0 < Y.length := by omega
              clear HBAD HGOOD
              go_wp2_with (at_builtin; refine wpList_app w4 rfl _ _ 24 rfl (w.heap.size + 1) 3 .i64 0 8 Try.underlying24 Try.info3 _ acc (by rfl) hown4 wr.heap.size _ Y (by rfl) hy hpos (by omega) (by decide) ?_)
              intro v5 w5 hown5 hb5
              have HB5 := hid (HB4.out.trans (hb5.mono (Nat.le_succ _)))
              have T5 := hid (T4.out.below hb5 (Nat.lt_succ_self _))
              have HO5 := hid hown5
              clear hown5 hb5 hown4 hy
              go_wp2
              go_roundw
              case rel => exact ⟨k + 1, _, by omega, by go_num, HNX.out, HO5.out, T5.out, HB5.out⟩
              case measure => simp [intOf]; omega
      · obtain rfl : k = n := by omega
        have HR := hid (HYES.out acc hput.out)
        have HO := hid (hown.mono (Nat.le_succ _))
        obtain ⟨oo, oc, rfl⟩ := hown.shape
        go_wp2
        go_ret2
        exact ⟨_, ret_vb (by rw [HR.out]), by rw [HR.out]; exact HO.out, hb.out⟩
  · have hr' : rightC cs ss = false := by simpa using hr
    have HR := hid (putR_wrong (xs := xs) hr)
    rw [hr'] at HI
    clear hr hr'
    go_enter Try.func34, Try.ntmps34
    go_wp2_with fail
    refine HI.out.mono ?_
    generalize (w.alloc (.cells #[.slice a0 cs.length c0, .slice a1 ss.length c1] 26)).alloc (.cells #[] 3) = wa at *
    rintro e w1 ⟨rfl, hb1⟩
    have B1 := hid (HB.out.trans (hb1.mono HB.out.size))
    have HOE1 := hid (HOE.out.below hb1)
    clear hb1 HI
    go_wp2
    go_ret2
    exact ⟨_, ret_vb (by rw [HR.out]), by rw [HR.out]; exact HOE1.out.mono (Nat.le_succ _), B1.out⟩
end Go.Proofs.Ytkmalefkdeppkaa
