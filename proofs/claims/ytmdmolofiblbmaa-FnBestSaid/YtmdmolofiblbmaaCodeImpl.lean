/- Contracts of has, bitsOf and CodeOf of the program. -/
import Derived.Test.YtmdmolofiblbmaaCodePlain
namespace Go.Proofs.Ytmdmolofiblbmaa
open Go.RowKit Go.Maps
set_option linter.unusedVariables false

/-- The two cells of a symbol's key. -/
theorem BookAt.key {w : World} {C M : Nat} {ss : List Int} {K : List (Nat × Int)} (h : BookAt w C M ss K) (j : Nat) (hj : j < 256) :
    w.cell? ⟨C, 1 + j * 2, none⟩ = some (.int .i64 (bookTo ss K j).1) ∧ w.cell? ⟨C, 1 + j * 2 + 1, none⟩ = some (.int .i64 (bookTo ss K j).2) := by
  obtain ⟨⟨arr, h1, h2, h3, h4⟩, _⟩ := h
  exact ⟨(h1.cell _).trans (h4 j hj).1, (h1.cell _).trans (h4 j hj).2⟩

set_option maxHeartbeats 800000 in
theorem has_any (C M : Nat) (ss : List Int) (K : List (Nat × Int)) (sym : Int) (w : World) (hb : BookAt w C M ss K) :
    Calls Try.prog 36 #[.pointer (some ⟨C, 0, none⟩), .int .i64 sym] w fun e w' => e = .returned (.bool (inB sym && decide (0 < ((bookTo ss K sym.toNat).1 : Int)))) ∧ w' = w := by
  by_cases hs : 0 ≤ sym ∧ sym ≤ 255
  · have hin := (inB_iff _).2 hs
    obtain ⟨j, rfl⟩ := Int.eq_ofNat_of_zero_le hs.1
    obtain ⟨q1, q2⟩ := hb.key j (by omega)
    have hj6 : (j : Int) < 256 := by omega
    rw [hin, Bool.true_and]
    show Calls _ _ _ _ fun e w' => e = .returned (.bool (decide (0 < ((bookTo ss K j).1 : Int)))) ∧ w' = w
    generalize (bookTo ss K j).1 = L at *
    generalize (bookTo ss K j).2 = D at *
    clear hb
    go_enter Try.func36, Try.ntmps36
    go_wp2_with (go_at_call 56; refine (isSym_any _ _).mono ?_; rw [hin]; rintro e w' ⟨rfl, rfl⟩)
    go_ret
    exact ⟨ret_bool (by simp), rfl⟩
  · have hin := (inB_no _).2 hs
    rw [hin, Bool.false_and]
    clear hb hs
    go_enter Try.func36, Try.ntmps36
    go_wp2_with (go_at_call 56; refine (isSym_any _ _).mono ?_; rw [hin]; rintro e w' ⟨rfl, rfl⟩)
    go_ret
    exact ⟨rfl, rfl⟩

set_option maxHeartbeats 800000 in
theorem bitsOf_any (C M : Nat) (ss : List Int) (K : List (Nat × Int)) (j : Nat) (w : World) (hj : j < 256) (hb : BookAt w C M ss K) (hk : KeyOk (bookTo ss K j)) :
    Calls Try.prog 37 #[.pointer (some ⟨C, 0, none⟩), .int .i64 j] w fun e w' => ∃ v, e = .returned v ∧ Own w' w.heap.size 3 .i64 v (bitsK (bookTo ss K j)) ∧ Below w.heap.size w w' := by
  obtain ⟨q1, q2⟩ := hb.key j hj
  obtain ⟨⟨k1, k2⟩, k3, k4⟩ := hk
  have hj6 : (j : Int) < 256 := by omega
  have HN := hid (fun q : World => impl_numBits (bookTo ss K j).2 (bookTo ss K j).1 q (by omega) k3 k4)
  have HE := hid (show bitsK (bookTo ss K j) = bl (rbX (bookTo ss K j).2 (bookTo ss K j).1) (bookTo ss K j).1 from rfl)
  generalize bitsK (bookTo ss K j) = R at *
  generalize (bookTo ss K j).1 = L at *
  generalize (bookTo ss K j).2 = D at *
  have HB := hid ((Below.refl w.heap.size w).alloc (Nat.le_refl _) (.cells #[.int .i64 (L : Int), .int .i64 D] 69))
  clear hb k4
  go_enter Try.func37, Try.ntmps37
  go_wp2_with fail
  refine (HN.out _).mono ?_
  rintro e w1 ⟨v, rfl, hown, hb1⟩
  have HO := hid (hown.mono HB.out.size)
  have HB1 := hid (HB.out.trans (hb1.mono HB.out.size))
  clear hown hb1
  go_wp2
  go_ret
  exact ⟨_, rfl, by rw [HE.out]; exact HO.out, HB1.out⟩

set_option maxRecDepth 100000 in
set_option maxHeartbeats 1600000 in
theorem impl_codeOf (v : Value) (cs ss : List Int) (sym : Int) (w : World) (h0 : cs.length ≤ 1048576) (h1 : ss.length ≤ 1048576) (hv : CV w v cs ss) :
    Calls Try.prog 10 #[v, .int .i64 sym] w fun e w' => ∃ v', e = .returned v' ∧ Own w' w.heap.size 3 .i64 v' (codeR cs ss sym) ∧ Below w.heap.size w w' := by
  obtain ⟨a0, c0, a1, c1, rfl, u0, u1⟩ := hv
  have HB := hid ((Below.refl w.heap.size w).alloc (Nat.le_refl _) (.cells #[.slice a0 cs.length c0, .slice a1 ss.length c1] 26))
  have HT := hid (Two.new w (.slice a0 cs.length c0) (.slice a1 ss.length c1) 26)
  have HCV := hid (show CV w (.agg #[.slice a0 cs.length c0, .slice a1 ss.length c1]) cs ss from ⟨a0, c0, a1, c1, rfl, u0, u1⟩)
  have HI := hid (impl_ok _ cs ss _ h0 h1 (HCV.out.below HB.out))
  clear u0 u1
  by_cases hr : rightC cs ss = true
  · have HC := hid (show codeR cs ss sym = codeL cs ss sym by unfold codeR; rw [if_pos hr])
    have HBK := hid (fun q hq => book_any (.agg #[.slice a0 cs.length c0, .slice a1 ss.length c1]) cs ss q hr (HCV.out.below hq))
    have HKEY := hid (book_key cs ss hr)
    have HOUT := hid (codeL_out cs ss sym)
    have HIN := hid (fun h : inB sym = true => (show codeL cs ss sym = bitsK (bookTo ss (keysTo cs 16) sym.toNat) by unfold codeL; rw [if_pos h]))
    rw [hr] at HI
    clear hr
    go_enter Try.func10, Try.ntmps10
    go_wp2_with fail
    refine HI.out.mono ?_
    generalize w.alloc (.cells #[.slice a0 cs.length c0, .slice a1 ss.length c1] 26) = wa at *
    rintro e w1 ⟨rfl, hb1⟩
    have B1 := hid (HB.out.trans (hb1.mono HB.out.size))
    have T1 := hid (HT.out.below hb1 HT.out.lt)
    clear hb1 HI
    obtain ⟨q1, q2, q3, q4⟩ := T1.out.cells
    go_wp2_with fail
    refine (HBK.out _ B1.out).mono ?_
    rintro e w2 ⟨C, M, rfl, hbk, hb2⟩
    have B2 := hid (B1.out.trans (hb2.mono B1.out.size))
    have HK := hid hbk
    have HH := hid (has_any C M ss (keysTo cs 16) sym w2 hbk)
    have hsz : w.heap.size ≤ w2.heap.size := B2.out.size
    clear hb2 hbk q1 q2 q3 q4 HBK
    by_cases hs : 0 ≤ sym ∧ sym ≤ 255
    · have hin := (inB_iff _).2 hs
      obtain ⟨j, rfl⟩ := Int.eq_ofNat_of_zero_le hs.1
      have hj : j < 256 := by omega
      rcases HKEY.out j with hz | hk
      · have HR := hid (show codeR cs ss (j : Int) = [] by rw [HC.out, HIN.out hin]; show bitsK (bookTo ss (keysTo cs 16) j) = []; rw [hz]; rfl)
        have hfl : (inB (j : Int) && decide (0 < ((bookTo ss (keysTo cs 16) (j : Int).toNat).1 : Int))) = false := by
          show (inB (j : Int) && decide (0 < ((bookTo ss (keysTo cs 16) j).1 : Int))) = false
          rw [hz]; simp
        rw [hfl] at HH
        clear HC HIN HOUT hz hin hs
        go_wp2_with fail
        refine HH.out.mono ?_
        rintro e w3 ⟨rfl, rfl⟩
        go_wp2
        go_ret
        exact ⟨_, rfl, by rw [HR.out]; exact Own.empty _ _ _ _ hsz, B2.out.alloc hsz _⟩
      · have HR := hid (show codeR cs ss (j : Int) = bitsK (bookTo ss (keysTo cs 16) j) by rw [HC.out, HIN.out hin]; rfl)
        have hfl : (inB (j : Int) && decide (0 < ((bookTo ss (keysTo cs 16) (j : Int).toNat).1 : Int))) = true := by
          show (inB (j : Int) && decide (0 < ((bookTo ss (keysTo cs 16) j).1 : Int))) = true
          have := hk.1.1
          rw [hin, Bool.true_and]; simp; omega
        rw [hfl] at HH
        have HBI := hid (bitsOf_any C M ss (keysTo cs 16) j w2 hj HK.out hk)
        clear HC HIN HOUT hk hin hs
        go_wp2_with fail
        refine HH.out.mono ?_
        rintro e w3 ⟨rfl, rfl⟩
        go_wp2_with fail
        refine HBI.out.mono ?_
        rintro e w4 ⟨y, rfl, hy, hb4⟩
        have HY := hid (hy.mono hsz)
        have B4 := hid (B2.out.trans (hb4.mono hsz))
        clear hy hb4
        go_wp2
        go_ret
        exact ⟨_, rfl, by rw [HR.out]; exact HY.out, B4.out⟩
    · have hin := (inB_no _).2 hs
      have HR := hid (show codeR cs ss sym = [] by rw [HC.out]; exact HOUT.out hin)
      rw [hin, Bool.false_and] at HH
      clear HC HIN HOUT hin hs
      go_wp2_with fail
      refine HH.out.mono ?_
      rintro e w3 ⟨rfl, rfl⟩
      go_wp2
      go_ret
      exact ⟨_, rfl, by rw [HR.out]; exact Own.empty _ _ _ _ hsz, B2.out.alloc hsz _⟩
  · have hr' : rightC cs ss = false := by simpa using hr
    have HR := hid (show codeR cs ss sym = [] by unfold codeR; rw [if_neg hr])
    rw [hr'] at HI
    clear hr hr'
    go_enter Try.func10, Try.ntmps10
    go_wp2_with fail
    refine HI.out.mono ?_
    generalize w.alloc (.cells #[.slice a0 cs.length c0, .slice a1 ss.length c1] 26) = wa at *
    rintro e w1 ⟨rfl, hb1⟩
    have B1 := hid (HB.out.trans (hb1.mono HB.out.size))
    have hsz : w.heap.size ≤ w1.heap.size := B1.out.size
    clear hb1 HI
    go_wp2
    go_ret
    exact ⟨_, rfl, by rw [HR.out]; exact Own.empty _ _ _ _ hsz, B1.out.alloc hsz _⟩
end Go.Proofs.Ytmdmolofiblbmaa
