/- The contract of FromSteps of the program. -/
import Derived.Test.YtdlookcklkdonaaStpT
namespace Go.Proofs.Ytdlookcklkdonaa
open Go.RowKit
set_option linter.unusedVariables false

theorem readTo_none (L : List (Int × Int × List Int)) (k : Nat) (h : readTo L k = none) : ∀ n, k ≤ n → readTo L n = none
  | 0, hn => by have : k = 0 := by omega
                subst this; exact h
  | n + 1, hn => by
    by_cases e : k = n + 1
    · rw [← e]; exact h
    · rw [readTo, readTo_none L k h n (by omega)]; rfl
theorem readTo_len {L : List (Int × Int × List Int)} {k : Nat} {ac : List Int} {sk : Bool} (hk : k ≤ L.length) (h : readTo L k = some (ac, sk)) : ac.length ≤ 63 := by
  rcases take_inv L k ac sk hk h with h1 | h1
  · exact h1.2.1
  · exact Nat.le_of_eq h1.1
theorem fromR_no {dc : Int} {L : List (Int × Int × List Int)} (h : inC dc = false) : fromR dc L = none := by unfold fromR; rw [if_neg (by simp [h])]
theorem fromR_stop {dc : Int} {L : List (Int × Int × List Int)} (h : readTo L L.length = none) : fromR dc L = none := by
  unfold fromR; rw [h]; split <;> rfl
theorem fromR_end {dc : Int} {L : List (Int × Int × List Int)} {ac : List Int} {sk : Bool} (hd : inC dc = true) (h : readTo L L.length = some (ac, sk)) : fromR dc L = if ac.length = 63 then some ac else none := by
  unfold fromR; rw [h, if_pos hd]; rfl

/-- What FromSteps answers. -/
def FrP (R : Option (List Int)) (dc : Int) (w : World) (e : Ending) (w' : World) : Prop :=
  Below w.heap.size w w' ∧ ∃ v, e = .returned (.tuple #[.agg #[.int .i64 (if R.isSome then dc else 0), v], .bool R.isSome]) ∧ Own w' w.heap.size 3 .i64 v (R.getD [])

set_option maxHeartbeats 800000 in
theorem newAc_any (w : World) : Calls Try.prog 42 #[] w fun e w' => ∃ v, e = .returned (.agg #[v, .int .i64 0]) ∧ Own w' w.heap.size 3 .i64 v [] ∧ Below w.heap.size w w' := by
  have HT := hid (Two.new w (.slice none 0 0) (.int .i64 0) 69)
  have HB := hid ((Below.refl w.heap.size w).alloc (Nat.le_refl _) (.cells #[.slice none 0 0, .int .i64 0] 69))
  have hlt : w.heap.size < (w.alloc (.cells #[.slice none 0 0, .int .i64 0] 69)).heap.size := by simp
  go_enter Try.func42, Try.ntmps42
  go_wp2_with (at_make; refine wpList_mk0 _ rfl _ _ 26 rfl (w.heap.size + 1) 3 .i64 0 8 Try.underlying26 Try.info3 _ _ 63 rfl rfl (by decide) (by decide) hlt ?_)
  generalize w.alloc (.cells #[.slice none 0 0, .int .i64 0] 69) = wa at *
  intro w1 ho1 hb1
  have T1 := hid (HT.out.below hb1 (by omega))
  obtain ⟨q1, q2, q3, q4⟩ := T1.out.cells
  have B1 := hid (HB.out.trans (hb1.mono (by omega)))
  have HO := hid ho1
  clear ho1 hb1
  go_wp2_with fail
  have c0 := (T1.out.set0 (.slice (some ⟨w.heap.size + 1, 0, none⟩) 0 63)).set1 (.int .i64 0)
  obtain ⟨p1, p2, p3, p4⟩ := c0.cells
  refine bodyPost_ret (v := .agg #[.slice (some ⟨w.heap.size + 1, 0, none⟩) 0 63, .int .i64 0]) (by simp [results, Try.results42, go_sem, p1, p2]) rfl ⟨_, rfl, ?_, ?_⟩
  · exact ((HO.out.setCell_below (a := ⟨w.heap.size, 0, none⟩) (by show w.heap.size < w.heap.size + 1; omega) _).setCell_below (a := ⟨w.heap.size, 1, none⟩) (by show w.heap.size < w.heap.size + 1; omega) _).mono (by omega)
  · exact (B1.out.setCell (p := ⟨w.heap.size, 0, none⟩) (Nat.le_refl _) _).setCell (p := ⟨w.heap.size, 1, none⟩) (Nat.le_refl _) _

/-- The end of FromSteps that says no. -/
theorem FrP.no {dc : Int} {w w' : World} {b : Nat} (h : Two w' b (.int .i64 0) (.slice none 0 0) 38) (hb : Below w.heap.size w w') : FrP none dc w (.returned (.tuple #[.agg #[.int .i64 0, .slice none 0 0], .bool false])) w' :=
  ⟨hb, _, rfl, Own.nil w' 3 .i64 w.heap.size hb.size⟩

set_option maxRecDepth 100000 in
set_option maxHeartbeats 3200000 in
theorem impl_fromSteps (dc : Int) (ao : Option Addr) (cap : Nat) (L : List (Int × Int × List Int)) (w : World) (hn : L.length ≤ 1048576) (hs : ∀ j, j < L.length → (nthS L j).2.2.length ≤ 1048576) (hv : SRow w ao L) :
    Calls Try.prog 18 #[.int .i64 dc, .slice ao L.length cap] w (FrP (fromR dc L) dc w) := by
  have HT := hid (Two.new w (.int .i64 0) (.slice none 0 0) 38)
  have HB := hid ((Below.refl w.heap.size w).alloc (Nat.le_refl _) (.cells #[.int .i64 0, .slice none 0 0] 38))
  have HV := hid hv
  have HS := hid hs
  have HC := hid (fun q => isCoef_any dc q)
  have hsz : w.heap.size + 1 = (w.alloc (.cells #[.int .i64 0, .slice none 0 0] 38)).heap.size := by simp
  clear hv hs
  by_cases hdc : inC dc = true
  · rw [hdc] at HC
    have HDC := hid hdc
    clear hdc
    go_enter Try.func18, Try.ntmps18
    go_wp2_with fail
    refine (HC.out _).mono ?_
    rintro e w0 ⟨rfl, rfl⟩
    go_wp2_with fail
    refine (newAc_any _).mono ?_
    generalize w.alloc (.cells #[.int .i64 0, .slice none 0 0] 38) = wa at *
    rintro e w1 ⟨v1, rfl, ho1, hb1⟩
    obtain ⟨vo, vc, rfl⟩ := ho1.shape
    have HB2 := hid (Below.trans hb1 (((Below.refl w1.heap.size w1).alloc (Nat.le_refl _) (.cells #[.slice vo ([] : List Int).length vc, .int .i64 0] 69)).mono hb1.size))
    have R2 := hid (show RdA (w1.alloc (.cells #[.slice vo ([] : List Int).length vc, .int .i64 0] 69)) w1.heap.size wa.heap.size [] 0 from ⟨hb1.size, _, Two.new w1 _ _ 69, ho1.alloc _⟩)
    have B2 := hid (HB.out.trans (HB2.out.mono HB.out.size))
    have T2 := hid (HT.out.below HB2.out HT.out.lt)
    have hrb : wa.heap.size ≤ w1.heap.size := hb1.size
    simp only [List.length_nil] at R2 HB2 B2 T2 ⊢
    clear ho1 hb1
    go_wp2_with fail
    generalize w1.alloc (.cells #[.slice vo 0 vc, .int .i64 0] 69) = w2 at *
    go_loopw [16] (fun i wr => ∃ (k : Nat) (ac : List Int) (kd : Int), k ≤ L.length ∧ i = .int .i64 k ∧ Hid (readTo L k = some (ac, kd == 2)) ∧ Hid (RdA wr w1.heap.size wa.heap.size ac kd) ∧ Hid (Below wa.heap.size wa wr)) (fun i _ => L.length - (intOf i).toNat)
    case atStart => exact ⟨0, [], 0, by omega, rfl, rfl, R2.out, HB2.out⟩
    case round =>
      obtain ⟨k, ac, kd, hk, rfl, hread, hrd, hb⟩ := hrel
      have B3 := hid (HB.out.trans (hb.out.mono HB.out.size))
      have T3 := hid (HT.out.below hb.out HT.out.lt)
      have hal := readTo_len hk hread.out
      by_cases hlt : k < L.length
      · have hlt' : (k : Int) < (L.length : Int) := by omega
        obtain ⟨b, off, a, c, rfl, hc1, hc2, hc3, hvw⟩ := HV.out.below B3.out k hlt
        have hbl := HS.out k hlt
        have HNX := hid (show readTo L (k + 1) = (readTo L k).bind fun st => takeR st (nthS L k) from rfl)
        rw [hread.out] at HNX
        have HNO := hid (fun h => readTo_none L (k + 1) h L.length (by omega))
        generalize hst : nthS L k = st at *
        obtain ⟨r, n, bits⟩ := st
        simp only at hc1 hc2 hc3 hvw hbl
        have HB4 := hid ((Below.refl wr.heap.size wr).alloc (Nat.le_refl _) (.cells #[.int .i64 r, .int .i64 n, .slice a bits.length c] 65))
        have HTK := hid (take_any w1.heap.size wa.heap.size ac kd r n a c bits _ hal hbl (hrd.out.below HB4.out) (hvw.below (Nat.le_refl _) HB4.out))
        have HNX2 := hid (show readTo L (k + 1) = takeR (ac, kd == 2) (r, n, bits) from HNX.out)
        clear hst hvw HNX
        generalize takeR (ac, kd == 2) (r, n, bits) = R at *
        have hwr : wa.heap.size ≤ wr.heap.size := hb.out.size
        go_wp2_with fail
        refine HTK.out.mono ?_
        generalize wr.alloc (.cells #[.int .i64 r, .int .i64 n, .slice a bits.length c] 65) = w4 at *
        rintro e w5 ⟨hb5, hm⟩
        have HB5 := hid (hb.out.trans ((HB4.out.mono hwr).trans hb5))
        have B5 := hid (HB.out.trans (HB5.out.mono HB.out.size))
        have T5 := hid (HT.out.below HB5.out HT.out.lt)
        cases R with
        | none =>
          obtain rfl : e = .returned (.bool false) := hm
          have HR0 := hid (fromR_stop (dc := dc) (HNO.out HNX2.out))
          obtain ⟨q1, q2, q3, q4⟩ := T5.out.cells
          have c0 := (T5.out.set0 (.int .i64 0)).set1 (.slice none 0 0)
          obtain ⟨p1, p2, p3, p4⟩ := c0.cells
          have HC0 := hid c0
          clear hb5 c0
          go_wp2_with fail
          refine bodyPost_ret (v := .tuple #[.agg #[.int .i64 0, .slice none 0 0], .bool false]) (by simp [results, Try.results18, go_sem, q1, q2]) rfl ?_
          rw [HR0.out]
          exact FrP.no HC0.out ((B5.out.setCell (p := ⟨w.heap.size, 0, none⟩) (Nat.le_refl _) _).setCell (p := ⟨w.heap.size, 1, none⟩) (Nat.le_refl _) _)
        | some st' =>
          obtain ⟨ac', sk'⟩ := st'
          obtain ⟨he, kd', hr', hkd'⟩ := hm
          subst he
          have HR5 := hid hr'
          have HRD5 := hid (show readTo L (k + 1) = some (ac', kd' == 2) by rw [HNX2.out, hkd'])
          clear hr' hkd' hb5
          go_wp2_with fail
          go_roundw
          case rel => exact ⟨k + 1, ac', kd', by omega, by go_num, HRD5.out, HR5.out, HB5.out⟩
          case measure => simp [intOf]; omega
      · obtain rfl : k = L.length := by omega
        have HR0 := hid (fromR_end HDC.out hread.out)
        have HW := hid (whole_any w1.heap.size wa.heap.size ac kd wr (by omega) hrd.out)
        obtain ⟨q1, q2, q3, q4⟩ := T3.out.cells
        by_cases hfull : ac.length = 63
        · rw [if_pos hfull] at HR0
          have hd : decide (ac.length = 63) = true := by simpa using hfull
          rw [hd] at HW
          obtain ⟨_, v3, t3, o3⟩ := hrd.out
          obtain ⟨yo, yc, rfl⟩ := o3.shape
          obtain ⟨m1, m2, m3, m4⟩ := t3.cells
          have HO3 := hid ((o3.setTwo (i := 0) T3.out (by decide) (.int .i64 dc)).setTwo (i := 1) (T3.out.set0 (.int .i64 dc)) (by decide) (.slice yo ac.length yc))
          have c0 := (T3.out.set0 (.int .i64 dc)).set1 (.slice yo ac.length yc)
          obtain ⟨p1, p2, p3, p4⟩ := c0.cells
          clear t3 o3 c0 hfull hd
          go_wp2_with fail
          refine HW.out.mono ?_
          rintro e w6 ⟨rfl, rfl⟩
          go_wp2_with fail
          refine bodyPost_ret (v := .tuple #[.agg #[.int .i64 dc, .slice yo ac.length yc], .bool true]) (by simp [results, Try.results18, go_sem, q1, q2]) rfl ?_
          rw [HR0.out]
          exact ⟨(B3.out.setCell (p := ⟨w.heap.size, 0, none⟩) (Nat.le_refl _) _).setCell (p := ⟨w.heap.size, 1, none⟩) (Nat.le_refl _) _, _, rfl, HO3.out.mono (by omega)⟩
        · rw [if_neg hfull] at HR0
          have hd : decide (ac.length = 63) = false := by simpa using hfull
          rw [hd] at HW
          have c0 := (T3.out.set0 (.int .i64 0)).set1 (.slice none 0 0)
          obtain ⟨p1, p2, p3, p4⟩ := c0.cells
          have HC0 := hid c0
          clear c0
          go_wp2_with fail
          refine HW.out.mono ?_
          rintro e w6 ⟨rfl, rfl⟩
          go_wp2_with fail
          refine bodyPost_ret (v := .tuple #[.agg #[.int .i64 0, .slice none 0 0], .bool false]) (by simp [results, Try.results18, go_sem, q1, q2]) rfl ?_
          rw [HR0.out]
          exact FrP.no HC0.out ((B3.out.setCell (p := ⟨w.heap.size, 0, none⟩) (Nat.le_refl _) _).setCell (p := ⟨w.heap.size, 1, none⟩) (Nat.le_refl _) _)
  · have hdc' : inC dc = false := by simpa using hdc
    rw [hdc'] at HC
    have HR0 := hid (fromR_no (L := L) hdc')
    clear hdc hdc'
    go_enter Try.func18, Try.ntmps18
    go_wp2_with fail
    refine (HC.out _).mono ?_
    rintro e w0 ⟨rfl, rfl⟩
    go_wp2_with fail
    refine bodyPost_ret (v := .tuple #[.agg #[.int .i64 0, .slice none 0 0], .bool false]) (by simp [results, Try.results18, go_sem]) rfl ?_
    rw [HR0.out]
    exact FrP.no HT.out HB.out
end Go.Proofs.Ytdlookcklkdonaa
