/- The contract of the program's GetCodes. -/
import Derived.Test.YtmdmolofiblbmaaGp
namespace Go.Proofs.Ytmdmolofiblbmaa
open Go.RowKit
set_option linter.unusedVariables false

theorem cdR_def (s : ByteArray) (i : Nat) : cdR s i = if i + 16 ≤ s.size ∧ goodC (bts s i 16) = true ∧ (i : Int) + 16 + told (bts s i 16) 16 ≤ s.size ∧ rightC (bts s i 16) (bts s (i + 16) (told (bts s i 16) 16).toNat) = true
  then some (bts s i 16, bts s (i + 16) (told (bts s i 16) 16).toNat) else none := rfl

set_option maxHeartbeats 800000 in
theorem impl_get_short (s : ByteArray) (i : Int) (w : World) (hs : s.size ≤ 1048576) (hi : i ≤ 9223372036854775807) (h : i < 0 ∨ 0 ≤ i ∧ (s.size : Int) < i + 16) :
    Calls Try.prog 24 #[.string s, .int .i64 i] w fun e w' => e = .returned (.tuple #[.agg #[.slice none 0 0, .slice none 0 0], .int .i64 (-1)]) ∧ Below w.heap.size w w' := by
  have HT := hid (Two.new w (.slice none 0 0) (.slice none 0 0) 26)
  have HB := hid ((Below.refl w.heap.size w).alloc (Nat.le_refl _) (.cells #[.slice none 0 0, .slice none 0 0] 26))
  obtain ⟨q0, q1, q2, q3⟩ := HT.out.cells
  rcases h with h | ⟨h, h2⟩
  · go_enter Try.func24, Try.ntmps24
    go_wp2
    refine bodyPost_ret (v := .tuple #[.agg #[.slice none 0 0, .slice none 0 0], .int .i64 (-1)]) (by simp [results, Try.results24, go_sem, q0, q1]) rfl ⟨rfl, HB.out⟩
  · have h1 : ¬ i < 0 := by omega
    have h3 : (s.size : Int) - i < 16 := by omega
    go_enter Try.func24, Try.ntmps24
    go_wp2
    refine bodyPost_ret (v := .tuple #[.agg #[.slice none 0 0, .slice none 0 0], .int .i64 (-1)]) (by simp [results, Try.results24, go_sem, q0, q1]) rfl ⟨rfl, HB.out⟩

set_option maxRecDepth 100000 in
set_option maxHeartbeats 1600000 in
theorem impl_get_at (s : ByteArray) (i : Nat) (w : World) (hs : s.size ≤ 1048576) (h : i + 16 ≤ s.size) :
    Calls Try.prog 24 #[.string s, .int .i64 (i : Int)] w (GcP w i (cdR s i)) := by
  have HB := hid ((Below.refl w.heap.size w).alloc (Nat.le_refl _) (.cells #[.slice none 0 0, .slice none 0 0] 26))
  have HT := hid (Two.new w (.slice none 0 0) (.slice none 0 0) 26)
  have h1 : ¬ (i : Int) < 0 := by omega
  have h2 : ¬ (s.size : Int) - (i : Int) < 16 := by omega
  have HN := hid (fun q => numbersOf (s.extract i (i + 16)) q (by rw [ByteArray.size_extract]; omega))
  have hz : (s.extract i (i + 16)).size = 16 := by rw [ByteArray.size_extract]; omega
  rw [hz, bts_ext s i (i + 16) 16 (by omega) h] at HN
  have hl := bts_length s i 16
  have HTL := hid (fun (q : World) ao cap (hq : View .i64 q ao 16 (bts s i 16)) => told_any ao 16 cap (bts s i 16) q (by decide) hq)
  have HR := hid (cdR_def s i)
  generalize hcs : bts s i 16 = cs at *
  have hi16 : (i : Int) + 16 ≤ 1048576 := by omega
  have hiw : (i : Int) + 16 ≤ (s.size : Int) := by omega
  have HL := hid hl
  clear hl hz hcs
  by_cases hg : goodC cs = true
  · have HG := hid ((goodC_iff cs).1 hg)
    have hT : toldR cs = told cs 16 := by unfold toldR; rw [if_pos hg]
    rw [hT] at HTL
    obtain ⟨T, hTT⟩ : ∃ T : Nat, told cs 16 = (T : Int) := ⟨(told cs 16).toNat, by have := HG.out; omega⟩
    rw [hTT] at HR HTL HG
    rw [show ((T : Int)).toNat = T from rfl] at HR
    have hT255 : T ≤ 255 := by have := HG.out; omega
    have hT0 : ¬ (T : Int) < 0 := by omega
    by_cases hfit : i + 16 + T ≤ s.size
    · have hz2 : (s.extract (i + 16) (i + 16 + T)).size = T := by rw [ByteArray.size_extract]; omega
      have HN2 := hid (fun q => numbersOf (s.extract (i + 16) (i + 16 + T)) q (by rw [hz2]; omega))
      rw [hz2, bts_ext s (i + 16) (i + 16 + T) T (by omega) hfit] at HN2
      have HL2 := hid (bts_length s (i + 16) T)
      generalize bts s (i + 16) T = ss at *
      have HK := hid (fun q v hq => impl_ok v cs ss q (by have := HL.out; omega) (by have := HL2.out; omega) hq)
      have hR : cdR s i = if rightC cs ss = true then some (cs, ss) else none := by
        rw [HR.out]
        by_cases hr : rightC cs ss = true
        · rw [if_pos ⟨h, hg, by omega, hr⟩, if_pos hr]
        · rw [if_neg (fun hh => hr hh.2.2.2), if_neg hr]
      rw [hR]
      obtain ⟨QQ, hQ1, HQ⟩ : ∃ QQ : Ending → World → Prop, QQ = GcP w i (if rightC cs ss = true then some (cs, ss) else none) ∧ Hid (∀ e w', GcP w i (if rightC cs ss = true then some (cs, ss) else none) e w' → QQ e w') := ⟨_, rfl, fun _ _ h => h⟩
      rw [← hQ1]
      clear hQ1
      clear HR hR hg HG hT hTT hz2 hT0
      go_enter Try.func24, Try.ntmps24
      go_wp2_with fail
      refine (HN.out _).mono ?_
      generalize w.alloc (.cells #[.slice none 0 0, .slice none 0 0] 26) = wa at *
      rintro e w1 ⟨v1, rfl, ho1, hb1⟩
      have B1 := hid (HB.out.trans (hb1.mono HB.out.size))
      have T1 := hid (HT.out.below hb1 HT.out.lt)
      have HO1 := hid ho1
      obtain ⟨xo, xc, rfl, hvw⟩ := ho1.view
      rw [HL.out] at hvw HO1 ⊢
      have HV1 := hid hvw
      have hsz1 := hb1.size
      have hsw : w.heap.size < wa.heap.size := HT.out.lt
      clear hb1 HB HT HN ho1 hvw
      go_wp2_with fail
      refine (HTL.out _ _ _ HV1.out).mono ?_
      rintro e w2 ⟨rfl, rfl⟩
      have hT0 : ¬ (T : Int) < 0 := by omega
      have hT1 : ¬ (s.size : Int) - ((i : Int) + 16) < (T : Int) := by omega
      have hf0 : (i : Int) + 16 + (T : Int) ≤ (s.size : Int) := by omega
      have HFT := hid hfit
      have HTT := hid hT255
      clear HTL h1 hiw h2 hi16 h hfit hT255
      go_wp2_with fail
      refine (HN2.out _).mono ?_
      rintro e w3 ⟨v3, rfl, ho3, hb3⟩
      have B3 := hid (B1.out.trans (hb3.mono B1.out.size))
      have T3 := hid (T1.out.below hb3 T1.out.lt)
      have HO3 := hid (HO1.out.below hb3)
      have HP3 := hid ho3
      have HA3 : Hid (∀ (a : Addr) n c, Value.slice xo 16 xc = .slice (some a) n c → a.block < w2.heap.size) := by
        intro a n c e
        cases e
        exact HO1.out.ge.2
      obtain ⟨yo, yc, rfl⟩ := ho3.shape
      rw [HL2.out] at HP3 ⊢
      have hsz3 := hb3.size
      clear hb3 HN2 ho3 HO1 HV1
      have HB4 := hid ((Below.refl w3.heap.size w3).alloc (Nat.le_refl _) (.cells #[.slice xo 16 xc, .slice yo T yc] 26))
      have D4 := hid (Two.new w3 (.slice xo 16 xc) (.slice yo T yc) 26)
      have T4 := hid (T3.out.below HB4.out T3.out.lt)
      have B4 := hid (B3.out.trans (HB4.out.mono B3.out.size))
      have HO4 := hid (HO3.out.below HB4.out)
      have HP4 := hid (HP3.out.below HB4.out)
      have hd3 : w3.heap.size < (w3.alloc (.cells #[.slice xo 16 xc, .slice yo T yc] 26)).heap.size := D4.out.lt
      have HCV : Hid (CV (w3.alloc (.cells #[.slice xo 16 xc, .slice yo T yc] 26)) (.agg #[.slice xo 16 xc, .slice yo T yc]) cs ss) := by
        have hc : COwn (w3.alloc (.cells #[.slice xo 16 xc, .slice yo T yc] 26)) wa.heap.size (.agg #[.slice xo 16 xc, .slice yo T yc]) cs ss := ⟨_, _, w2.heap.size, rfl, hsz1, HO4.out, HP4.out, HA3.out⟩
        exact hc.cv
      go_wp2_with fail
      refine (HK.out _ _ HCV.out).mono ?_
      generalize w3.alloc (.cells #[.slice xo 16 xc, .slice yo T yc] 26) = w4 at *
      rintro e w5 ⟨rfl, hb5⟩
      have B5 := hid (B4.out.trans (hb5.mono B4.out.size))
      have T5 := hid (T4.out.below hb5 T4.out.lt)
      have D5 := hid (D4.out.below hb5 D4.out.lt)
      have HO5 := hid (HO4.out.below hb5)
      have HP5 := hid (HP4.out.below hb5)
      have hsz5 := hb5.size
      obtain ⟨q0, q1, q2, q3⟩ := T5.out.cells
      obtain ⟨p0, p1, p2, p3⟩ := D5.out.cells
      clear hb5 HB4 HK HCV
      by_cases hr : rightC cs ss = true
      · rw [if_pos hr] at HQ
        have T6 := hid ((T5.out.set0 (.slice xo 16 xc)).set1 (.slice yo T yc))
        obtain ⟨r0, r1, r2, r3⟩ := T6.out.cells
        have B6 := hid ((B5.out.setCell (p := ⟨w.heap.size, 0, none⟩) (Nat.le_refl _) (.slice xo 16 xc)).setCell (p := ⟨w.heap.size, 1, none⟩) (Nat.le_refl _) (.slice yo T yc))
        have HO6 := hid ((HO5.out.setCell_below (a := ⟨w.heap.size, 0, none⟩) hsw (.slice xo 16 xc)).setCell_below (a := ⟨w.heap.size, 1, none⟩) hsw (.slice yo T yc))
        have HP6 := hid ((HP5.out.setCell_below (a := ⟨w.heap.size, 0, none⟩) (show w.heap.size < w2.heap.size by omega) (.slice xo 16 xc)).setCell_below (a := ⟨w.heap.size, 1, none⟩) (show w.heap.size < w2.heap.size by omega) (.slice yo T yc))
        go_wp2_with fail
        refine bodyPost_ret (v := .tuple #[.agg #[.slice xo 16 xc, .slice yo T yc], .int .i64 ((i : Int) + 16 + (T : Int))]) (by simp [results, Try.results24, go_sem, r0, r1]) rfl (HQ.out _ _ ⟨_, ?_, ⟨_, _, w2.heap.size, rfl, by omega, HO6.out.mono (by omega), HP6.out, HA3.out⟩, B6.out⟩)
        show _ = Ending.returned (.tuple #[_, .int .i64 ((i : Int) + 16 + (ss.length : Int))])
        rw [HL2.out]
      · have hr' : rightC cs ss = false := by simpa using hr
        rw [if_neg hr] at HQ
        rw [hr']
        have T6 := hid ((T5.out.set0 (.slice none 0 0)).set1 (.slice none 0 0))
        obtain ⟨r0, r1, r2, r3⟩ := T6.out.cells
        have B6 := hid ((B5.out.setCell (p := ⟨w.heap.size, 0, none⟩) (Nat.le_refl _) (.slice none 0 0)).setCell (p := ⟨w.heap.size, 1, none⟩) (Nat.le_refl _) (.slice none 0 0))
        clear hr hr'
        go_wp2_with fail
        refine bodyPost_ret (v := .tuple #[.agg #[.slice none 0 0, .slice none 0 0], .int .i64 (-1)]) (by simp [results, Try.results24, go_sem, r0, r1]) rfl (HQ.out _ _ ⟨_, rfl, COwn.nilG _ _ B6.out.size, B6.out⟩)
    · have hR : cdR s i = none := by
        rw [HR.out, if_neg (fun hh => hfit (by omega))]
      rw [hR]
      obtain ⟨QQ, hQ1, HQ⟩ : ∃ QQ : Ending → World → Prop, QQ = GcP w i none ∧ Hid (∀ e w', GcP w i none e w' → QQ e w') := ⟨_, rfl, fun _ _ h => h⟩
      rw [← hQ1]
      clear hQ1
      clear HR hR hg HG hT hTT hT0
      go_enter Try.func24, Try.ntmps24
      go_wp2_with fail
      refine (HN.out _).mono ?_
      generalize w.alloc (.cells #[.slice none 0 0, .slice none 0 0] 26) = wa at *
      rintro e w1 ⟨v1, rfl, ho1, hb1⟩
      have B1 := hid (HB.out.trans (hb1.mono HB.out.size))
      have T1 := hid (HT.out.below hb1 HT.out.lt)
      obtain ⟨xo, xc, rfl, hvw⟩ := ho1.view
      rw [HL.out] at hvw ⊢
      have HV1 := hid hvw
      clear hb1 HB HT HN ho1 hvw
      go_wp2_with fail
      refine (HTL.out _ _ _ HV1.out).mono ?_
      rintro e w2 ⟨rfl, rfl⟩
      have hT0 : ¬ (T : Int) < 0 := by omega
      have hT1 : (s.size : Int) - ((i : Int) + 16) < (T : Int) := by omega
      clear HTL h1 h2 hi16 h hfit hT255
      obtain ⟨q0, q1, q2, q3⟩ := T1.out.cells
      have T6 := hid ((T1.out.set0 (.slice none 0 0)).set1 (.slice none 0 0))
      obtain ⟨r0, r1, r2, r3⟩ := T6.out.cells
      have B6 := hid ((B1.out.setCell (p := ⟨w.heap.size, 0, none⟩) (Nat.le_refl _) (.slice none 0 0)).setCell (p := ⟨w.heap.size, 1, none⟩) (Nat.le_refl _) (.slice none 0 0))
      go_wp2_with fail
      refine bodyPost_ret (v := .tuple #[.agg #[.slice none 0 0, .slice none 0 0], .int .i64 (-1)]) (by simp [results, Try.results24, go_sem, r0, r1]) rfl (HQ.out _ _ ⟨_, rfl, COwn.nilG _ _ B6.out.size, B6.out⟩)
  · have hT : toldR cs = -1 := by unfold toldR; rw [if_neg hg]
    rw [hT] at HTL
    have hR : cdR s i = none := by rw [HR.out, if_neg (fun hh => hg hh.2.1)]
    rw [hR]
    obtain ⟨QQ, hQ1, HQ⟩ : ∃ QQ : Ending → World → Prop, QQ = GcP w i none ∧ Hid (∀ e w', GcP w i none e w' → QQ e w') := ⟨_, rfl, fun _ _ h => h⟩
    rw [← hQ1]
    clear hQ1
    clear HR hR hg hT
    go_enter Try.func24, Try.ntmps24
    go_wp2_with fail
    refine (HN.out _).mono ?_
    generalize w.alloc (.cells #[.slice none 0 0, .slice none 0 0] 26) = wa at *
    rintro e w1 ⟨v1, rfl, ho1, hb1⟩
    have B1 := hid (HB.out.trans (hb1.mono HB.out.size))
    have T1 := hid (HT.out.below hb1 HT.out.lt)
    obtain ⟨xo, xc, rfl, hvw⟩ := ho1.view
    rw [HL.out] at hvw ⊢
    have HV1 := hid hvw
    clear hb1 HB HT HN ho1 hvw
    go_wp2_with fail
    refine (HTL.out _ _ _ HV1.out).mono ?_
    rintro e w2 ⟨rfl, rfl⟩
    clear HTL h1 hiw h2 hi16 h
    obtain ⟨q0, q1, q2, q3⟩ := T1.out.cells
    have T6 := hid ((T1.out.set0 (.slice none 0 0)).set1 (.slice none 0 0))
    obtain ⟨r0, r1, r2, r3⟩ := T6.out.cells
    have B6 := hid ((B1.out.setCell (p := ⟨w.heap.size, 0, none⟩) (Nat.le_refl _) (.slice none 0 0)).setCell (p := ⟨w.heap.size, 1, none⟩) (Nat.le_refl _) (.slice none 0 0))
    go_wp2_with fail
    refine bodyPost_ret (v := .tuple #[.agg #[.slice none 0 0, .slice none 0 0], .int .i64 (-1)]) (by simp [results, Try.results24, go_sem, r0, r1]) rfl (HQ.out _ _ ⟨_, rfl, COwn.nilG _ _ B6.out.size, B6.out⟩)

/-- The program's GetCodes, at every text and place. -/
theorem impl_getCodes (s : ByteArray) (i : Int) (w : World) (hs : s.size ≤ 1048576) (hi : i ≤ 9223372036854775807) :
    Calls Try.prog 24 #[.string s, .int .i64 i] w (GcP w i (getR s i)) := by
  by_cases h : i < 0
  · rw [getR_neg s i h]
    exact (impl_get_short s i w hs hi (.inl h)).mono fun e w' ⟨he, hb⟩ => ⟨_, he, COwn.nilG _ _ hb.size, hb⟩
  · obtain ⟨n, rfl⟩ : ∃ n : Nat, i = (n : Int) := ⟨i.toNat, by omega⟩
    by_cases h2 : n + 16 ≤ s.size
    · rw [getR_at]
      exact impl_get_at s n w hs h2
    · rw [getR_short s n (by omega)]
      exact (impl_get_short s n w hs hi (.inr ⟨by omega, by omega⟩)).mono fun e w' ⟨he, hb⟩ => ⟨_, he, COwn.nilG _ _ hb.size, hb⟩
end Go.Proofs.Ytmdmolofiblbmaa
