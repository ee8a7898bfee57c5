/- The contract of PutSyms of the program. -/
import Derived.Test.YtmdmolofiblbmaaPutPlain
namespace Go.Proofs.Ytmdmolofiblbmaa
open Go.RowKit Go.Maps
set_option linter.unusedVariables false

set_option maxRecDepth 100000 in
set_option maxHeartbeats 6400000 in
theorem impl_putSyms (v : Value) (cs ss : List Int) (lo : Option Addr) (n lc : Nat) (xs : List Int) (w : World) (h0 : cs.length ≤ 1048576) (h1 : ss.length ≤ 1048576) (hn : n ≤ 1048576) (hv : CV w v cs ss) (hxs : View .i64 w lo n xs) :
    Calls Try.prog 14 #[v, .slice lo n lc] w fun e w' => ∃ v', e = .returned (.tuple #[v', .bool (putR cs ss xs).2]) ∧ Own w' w.heap.size 3 .i64 v' (putR cs ss xs).1 ∧ Below w.heap.size w w' := by
  obtain ⟨a0, c0, a1, c1, rfl, u0, u1⟩ := hv
  have HB := hid ((Below.refl w.heap.size w).alloc (Nat.le_refl _) (.cells #[.slice a0 cs.length c0, .slice a1 ss.length c1] 26))
  have HT := hid (Two.new w (.slice a0 cs.length c0) (.slice a1 ss.length c1) 26)
  have HCV := hid (show CV w (.agg #[.slice a0 cs.length c0, .slice a1 ss.length c1]) cs ss from ⟨a0, c0, a1, c1, rfl, u0, u1⟩)
  have HI := hid (impl_ok _ cs ss _ h0 h1 (HCV.out.below HB.out))
  have HXS := hid hxs
  have hxl := hxs.1
  clear u0 u1 hxs
  by_cases hr : rightC cs ss = true
  · have HBK := hid (fun q hq => book_any (.agg #[.slice a0 cs.length c0, .slice a1 ss.length c1]) cs ss q hr (HCV.out.below hq))
    have HKEY := hid (book_key cs ss hr)
    have HNO := hid (putR_none (xs := xs) hr)
    have HYES := hid (fun a => putR_some (xs := xs) (a := a) hr)
    rw [hxl] at HNO HYES
    have HCL := hid (fun s => codeL_len cs ss s hr)
    rw [hr] at HI
    clear hr hxl
    go_enter Try.func14, Try.ntmps14
    go_wp2_with fail
    refine HI.out.mono ?_
    generalize w.alloc (.cells #[.slice a0 cs.length c0, .slice a1 ss.length c1] 26) = wa at *
    rintro e w1 ⟨rfl, hb1⟩
    have B1 := hid (HB.out.trans (hb1.mono HB.out.size))
    have T1 := hid (HT.out.below hb1 HT.out.lt)
    clear hb1 HI
    obtain ⟨q1, q2, q3, q4⟩ := T1.out.cells
    go_wp2_with fail
    refine (HBK.out _ B1.out).mono ?_
    rintro e w2 ⟨C, M, rfl, hbk, hb2⟩
    have B2 := hid (B1.out.trans (hb2.mono B1.out.size))
    have HK := hid hbk
    have hsz : w.heap.size ≤ w2.heap.size := B2.out.size
    obtain ⟨hCl, hMl⟩ := hbk.lt
    clear hb2 hbk q1 q2 q3 q4 HBK
    go_wp2_with fail
    go_loopw [7, 19] (fun b i wr => ∃ (k : Nat) (acc : List Int), k ≤ n ∧ i = .int .i64 k ∧ Hid (putTo cs ss xs k = some acc) ∧ Own wr w2.heap.size 3 .i64 b acc ∧ Hid (BookAt wr C M ss (keysTo cs 16)) ∧ Hid (Below w.heap.size w wr)) (fun _ i _ => n - (intOf i).toNat)
    case atStart => exact ⟨0, [], by omega, rfl, rfl, Own.empty _ _ _ _ (Nat.le_refl _), HK.out.below ((Below.refl _ _).alloc (Nat.le_refl _) _), B2.out.alloc hsz _⟩
    case round =>
      obtain ⟨k, acc, hk, rfl, hput, hown, hbk, hb⟩ := hrel
      have hszr : w.heap.size ≤ wr.heap.size := hb.out.size
      have hsz2 : w2.heap.size ≤ wr.heap.size := hown.1
      by_cases hlt : k < n
      · obtain ⟨b, off, rfl, hc⟩ := HXS.out.2 k hlt
        have hcr : wr.cell? ⟨b, off + k, none⟩ = some (.int .i64 (xs.getD k 0)) := (hb.out.cell (p := ⟨b, off + k, none⟩) (World.block_lt_of_cell? w _ hc)).trans hc
        have hlt' : (k : Int) < (n : Int) := by omega
        have hal := putTo_len hput.out
        have HBAD := hid (fun h => HNO.out (putTo_bad hput.out h n hlt))
        have HGOOD := hid (fun h => putTo_good hput.out h)
        have HCX := hid (HCL.out (xs.getD k 0))
        generalize xs.getD k 0 = X at *
        have HH := hid (has_any C M ss (keysTo cs 16) X wr hbk.out)
        clear hc
        by_cases hs : 0 ≤ X ∧ X ≤ 255
        · have hin := (inB_iff _).2 hs
          obtain ⟨j, rfl⟩ := Int.eq_ofNat_of_zero_le hs.1
          have hj : j < 256 := by omega
          have hcl : codeL cs ss (j : Int) = bitsK (bookTo ss (keysTo cs 16) j) := by unfold codeL; rw [if_pos hin]; rfl
          rcases HKEY.out j with hz | hkk
          · have HR := hid (HBAD.out (.inl (by rw [hcl, hz]; rfl)))
            have hfl : (inB (j : Int) && decide (0 < ((bookTo ss (keysTo cs 16) (j : Int).toNat).1 : Int))) = false := by
              show (inB (j : Int) && decide (0 < ((bookTo ss (keysTo cs 16) j).1 : Int))) = false
              rw [hz]; simp
            rw [hfl] at HH
            clear HBAD HGOOD hz hin hs hcl HCX
            go_wp2_with fail
            refine HH.out.mono ?_
            rintro e w3 ⟨rfl, rfl⟩
            go_wp2
            go_ret2
            exact ⟨_, ret_vb (by rw [HR.out]), by rw [HR.out]; exact Own.empty _ _ _ _ hszr, hb.out.alloc hszr _⟩
          · have hfl : (inB (j : Int) && decide (0 < ((bookTo ss (keysTo cs 16) (j : Int).toNat).1 : Int))) = true := by
              show (inB (j : Int) && decide (0 < ((bookTo ss (keysTo cs 16) j).1 : Int))) = true
              have := hkk.1.1
              rw [hin, Bool.true_and]; simp; omega
            rw [hfl] at HH
            have HBI := hid (bitsOf_any C M ss (keysTo cs 16) j wr hj hbk.out hkk)
            have hpos : 0 < (bitsK (bookTo ss (keysTo cs 16) j)).length := by rw [bitsK, bl_length]; exact hkk.1.1
            rw [hcl] at HBAD HGOOD HCX
            have hcx := HCX.out
            generalize bitsK (bookTo ss (keysTo cs 16) j) = Y at *
            clear hkk hin hs hcl HCX
            go_wp2_with fail
            refine HH.out.mono ?_
            rintro e w3 ⟨rfl, rfl⟩
            go_wp2_with fail
            refine HBI.out.mono ?_
            rintro e w4 ⟨y, rfl, hy, hb4⟩
            have hown4 := hown.below hb4
            have HBK4 := hid (hbk.out.below hb4)
            have HB4 := hid (hb.out.trans (hb4.mono hszr))
            clear hb4 HH HBI hcr
            go_wp2_with (at_builtin; refine wpList_app w4 rfl _ _ 24 rfl w2.heap.size 3 .i64 0 8 Try.underlying24 Try.info3 _ acc (by rfl) hown4 w3.heap.size y Y (by rfl) hy hpos (by omega) (by decide) ?_)
            intro v5 w5 hown5 hb5
            obtain ⟨oo, oc, rfl⟩ := hown5.shape
            have HO5 := hid hown5
            have HBK5 := hid (HBK4.out.belowB hb5 hCl hMl)
            have HB5 := hid (HB4.out.trans (hb5.mono hsz))
            have hsz5 : w.heap.size ≤ w5.heap.size := HB5.out.size
            have hl5 : ((acc ++ Y).length : Int) = (acc.length : Int) + (Y.length : Int) := by simp
            have HG2 := hid (fun h => HGOOD.out h)
            clear hown5 hb5 hown4 hy HBK4 HB4 HGOOD
            by_cases hbig : 480000 < acc.length + Y.length
            · have HR := hid (HBAD.out (.inr hbig))
              have hbig' : (480000 : Int) < ((acc ++ Y).length : Int) := by omega
              clear HBAD HG2 hl5
              generalize (acc ++ Y).length = L5 at *
              go_wp2
              go_ret2
              exact ⟨_, ret_vb (by rw [HR.out]), by rw [HR.out]; exact Own.empty _ _ _ _ hsz5, HB5.out.alloc hsz5 _⟩
            · have HNX := hid (HG2.out (by omega))
              have hbig' : ¬ (480000 : Int) < ((acc ++ Y).length : Int) := by omega
              have HLL := hid (rfl : (acc ++ Y).length = (acc ++ Y).length)
              clear HBAD HG2 hl5
              go_wp2
              go_roundw
              case rel => exact ⟨k + 1, _, by omega, by go_num, HNX.out, HO5.out, HBK5.out, HB5.out⟩
              case measure => simp [intOf]; omega
        · have hin := (inB_no _).2 hs
          have HR := hid (HBAD.out (.inl (by rw [codeL_out cs ss X hin]; rfl)))
          rw [hin, Bool.false_and] at HH
          clear HBAD HGOOD hin hs HCX
          go_wp2_with fail
          refine HH.out.mono ?_
          rintro e w3 ⟨rfl, rfl⟩
          go_wp2
          go_ret2
          exact ⟨_, ret_vb (by rw [HR.out]), by rw [HR.out]; exact Own.empty _ _ _ _ hszr, hb.out.alloc hszr _⟩
      · obtain rfl : k = n := by omega
        have HR := hid (HYES.out acc hput.out)
        have HO := hid (hown.mono hsz)
        obtain ⟨oo, oc, rfl⟩ := hown.shape
        go_wp2
        go_ret2
        exact ⟨_, ret_vb (by rw [HR.out]), by rw [HR.out]; exact HO.out, hb.out⟩
  · have hr' : rightC cs ss = false := by simpa using hr
    have HR := hid (putR_wrong (xs := xs) hr)
    rw [hr'] at HI
    clear hr hr'
    go_enter Try.func14, Try.ntmps14
    go_wp2_with fail
    refine HI.out.mono ?_
    generalize w.alloc (.cells #[.slice a0 cs.length c0, .slice a1 ss.length c1] 26) = wa at *
    rintro e w1 ⟨rfl, hb1⟩
    have B1 := hid (HB.out.trans (hb1.mono HB.out.size))
    have hsz : w.heap.size ≤ w1.heap.size := B1.out.size
    clear hb1 HI
    go_wp2
    go_ret2
    exact ⟨_, ret_vb (by rw [HR.out]), by rw [HR.out]; exact Own.empty _ _ _ _ hsz, B1.out.alloc hsz _⟩
end Go.Proofs.Ytmdmolofiblbmaa
