/- The contract of ScanBits of the program. -/
import Derived.Test.YtcikmgdfelejpaaJGg
namespace Go.Proofs.Ytcikmgdfelejpaa
open Go.RowKit Go.Maps
set_option linter.unusedVariables false

theorem more_s_no {T : Tb} {acc : List Int} {t x : Int} (h : (T.code t x).length = 0) : more T acc (.inl (t, x)) = none := by
  unfold more; show (Option.bind (if (T.code t x).length = 0 then none else some (T.code t x)) _) = _; rw [if_pos h]; rfl
theorem more_s_big {T : Tb} {acc : List Int} {t x : Int} (h : 0 < (T.code t x).length) (hb : 480000 < acc.length + (T.code t x).length) : more T acc (.inl (t, x)) = none := by
  unfold more; show (Option.bind (if (T.code t x).length = 0 then none else some (T.code t x)) _) = _; rw [if_neg (by omega)]; show (if _ then _ else _) = _; rw [if_pos hb]
theorem more_s_ok {T : Tb} {acc : List Int} {t x : Int} (h : 0 < (T.code t x).length) (hb : ¬ 480000 < acc.length + (T.code t x).length) : more T acc (.inl (t, x)) = some (acc ++ T.code t x) := by
  unfold more; show (Option.bind (if (T.code t x).length = 0 then none else some (T.code t x)) _) = _; rw [if_neg (by omega)]; show (if _ then _ else _) = _; rw [if_neg hb]
theorem more_b_big {T : Tb} {acc xs : List Int} (hb : 480000 < acc.length + xs.length) : more T acc (.inr xs) = none := by
  unfold more bitsPt; show (if _ then _ else _) = _; rw [if_pos hb]
theorem more_b_ok {T : Tb} {acc xs : List Int} (hb : ¬ 480000 < acc.length + xs.length) : more T acc (.inr xs) = some (acc ++ xs) := by
  unfold more bitsPt; show (if _ then _ else _) = _; rw [if_neg hb]

theorem ScP.noG {w w' : World} (g : Nat) (hg : w'.heap.size = g) (hb : Below w.heap.size w w') : ScP none w (.returned (.tuple #[.slice (some ⟨g, 0, none⟩) 0 0, .bool false])) (w'.alloc (.cells #[] 3)) := by
  subst hg
  exact ScP.no hb

set_option maxRecDepth 100000 in
set_option maxHeartbeats 3200000 in
theorem impl_scanBits (v : Value) (T : Tb) (ao : Option Addr) (cap : Nat) (L : List (Int × List Int)) (w : World) (h0 : T.cs.length ≤ 1048576) (h1 : T.ss.length ≤ 1048576) (h2 : T.ct.length ≤ 1048576) (h3 : T.st.length ≤ 1048576)
    (hn : L.length ≤ 1048576) (hs : ∀ j, j < L.length → (nth L j).2.length ≤ 1048576) (ht : TV w v T.cs T.ss T.ct T.st) (hv : BRow w ao L) :
    Calls Try.prog 14 #[v, .slice ao L.length cap] w (ScP (scanR T L) w) := by
  have HTV := hid ht
  obtain ⟨a0, c0, a1, c1, a2, c2, a3, c3, rfl, _, _⟩ := ht
  have HB := hid ((Below.refl w.heap.size w).alloc (Nat.le_refl _) (.cells #[.slice a0 T.cs.length c0, .slice a1 T.ss.length c1, .slice a2 T.ct.length c2, .slice a3 T.st.length c3] 34))
  have HV := hid hv
  have HS := hid hs
  clear hv hs
  by_cases hr : T.right
  · have HKB := hid (books_yes _ T.cs T.ss T.ct T.st _ h0 h1 h2 h3 hr.1 hr.2 (HTV.out.below HB.out))
    have HR := hid hr
    clear h0 h1 h2 h3 HTV
    by_cases hk : scanOk L
    · have HPA := hid (fun q (hq : Below w.heap.size w q) => parts_yes ao cap L q hk.1 hk.2 (HV.out.below hq))
      have HRES := hid (scanR_yes hr hk)
      have HFN := hid (fun j hj => ptsTo_fine L hk.2 L.length (Nat.le_refl _) _ (nthP_mem (ptsTo L L.length) j hj))
      have hpl := ptsTo_len L hk.2 L.length (Nat.le_refl _)
      have hl1600 := hk.1
      clear hr hk
      generalize ptsTo L L.length = P at *
      have hP9 : P.length < 1000000 := by omega
      go_enter Try.func14, Try.ntmps14
      go_wp2_with fail
      refine HKB.out.mono ?_
      generalize w.alloc (.cells #[.slice a0 T.cs.length c0, .slice a1 T.ss.length c1, .slice a2 T.ct.length c2, .slice a3 T.st.length c3] 34) = wa at *
      rintro e w1 ⟨C1, C2, rfl, hbk, hb1⟩
      have HA1 := hid ((Below.refl w1.heap.size w1).alloc (Nat.le_refl _) (.cells #[.pointer (some ⟨C1, 0, none⟩), .pointer (some ⟨C2, 0, none⟩)] 78))
      have B1 := hid (HB.out.trans ((hb1.trans (HA1.out.mono hb1.size)).mono HB.out.size))
      have HT1 := hid (Two.new w1 (.pointer (some ⟨C1, 0, none⟩)) (.pointer (some ⟨C2, 0, none⟩)) 78)
      have HK1 := hid (hbk.below HA1.out)
      clear hbk hb1 HKB HB
      go_wp2_with fail
      generalize w1.alloc (.cells #[.pointer (some ⟨C1, 0, none⟩), .pointer (some ⟨C2, 0, none⟩)] 78) = w2 at *
      refine (HPA.out _ B1.out).mono ?_
      rintro e w3 ⟨v3, rfl, ho3, hb3⟩
      obtain ⟨po, pc, rfl⟩ := ho3.shape
      have B3 := hid (B1.out.trans (hb3.mono B1.out.size))
      have HT3 := hid (HT1.out.below hb3 HT1.out.lt)
      have HK3 := hid (HK1.out.below hb3)
      have HO3 := hid ho3
      have HE0 := hid (Own.empty w3 3 .i64 w3.heap.size (Nat.le_refl _))
      have HBE := hid ((Below.refl w3.heap.size w3).alloc (Nat.le_refl _) (.cells #[] 3))
      clear ho3 hb3 HT1 HK1 B1 HPA HA1
      obtain ⟨q1, q2, q3, q4⟩ := HT3.out.cells
      go_wp2_with fail
      generalize w3.alloc (.cells #[] 3) = wb at *
      clear q1 q2 q3 q4
      go_loopw [9, 33] (fun bs i wr => ∃ (k : Nat) (acc : List Int), k ≤ P.length ∧ i = .int .i64 k ∧ Hid (foldTo T P k = some acc) ∧ Hid (Own wr w3.heap.size 3 .i64 bs acc) ∧ Hid (Below w3.heap.size w3 wr)) (fun _ i _ => P.length - (intOf i).toNat)
      case atStart => exact ⟨0, [], by omega, rfl, rfl, HE0.out, HBE.out⟩
      case round =>
        obtain ⟨k, acc, hk, rfl, hfold, hown, hb⟩ := hrel
        clear HE0 HBE
        obtain ⟨bo, bc, rfl⟩ := hown.out.shape
        have HBW := hid (B3.out.trans (hb.out.mono B3.out.size))
        have hal := foldTo_len hfold.out
        by_cases hlt : k < P.length
        · have hlt' : (k : Int) < (P.length : Int) := by omega
          obtain ⟨g, y, rfl, hcy, hpt⟩ := (HO3.out.below hb.out).cell k hlt
          have HNO := hid (fun (h : more T acc (nthP P k) = none) => foldTo_none T P (k + 1) ((foldTo_next hfold.out).trans h) P.length (by omega))
          have HYES := hid (fun r (h : more T acc (nthP P k) = some r) => (foldTo_next hfold.out).trans h)
          have hfine := HFN.out k hlt
          have HT := hid (HT3.out.below hb.out HT3.out.lt)
          have HK := hid (HK3.out.below hb.out)
          obtain ⟨q1, q2, q3, q4⟩ := HT.out.cells
          have hszr : w.heap.size ≤ wr.heap.size := HBW.out.size
          revert hpt hfine HNO HYES
          cases nthP P k with
          | inl q =>
            obtain ⟨t, x⟩ := q
            intro hpt HNO HYES hfine
            obtain rfl : y = .iface 110 (.agg #[.int .i64 t, .int .i64 x]) := hpt
            have HBI := hid (bitsOf_i C1 C2 t x T wr hfine HR.out HK.out)
            have hcl := code_len T HR.out t x
            have HM1 := hid (fun h => HNO.out (more_s_no (T := T) (acc := acc) (t := t) (x := x) h))
            have HM2 := hid (fun h h' => HNO.out (more_s_big (T := T) (acc := acc) (t := t) (x := x) h h'))
            have HM3 := hid (fun h h' => HYES.out _ (more_s_ok (T := T) (acc := acc) (t := t) (x := x) h h'))
            clear hfine HNO HYES
            generalize T.code t x = Y at *
            go_wp2_with fail
            refine HBI.out.mono ?_
            rintro e w4 ⟨hcase, hb4⟩
            have HB4 := hid (hb.out.trans (hb4.mono hb.out.size))
            have HBW4 := hid (HBW.out.trans (hb4.mono HBW.out.size))
            have HOW4 := hid (hown.out.below hb4)
            clear hcy q1 q2 q3 q4 HBI HT HK
            rcases hcase with ⟨hz, rfl⟩ | ⟨hpos, y, rfl, hy⟩
            · have HRN := hid (HRES.out.trans (HM1.out hz))
              clear hz hb4
              go_wp2_with fail
              go_ret2
              rw [HRN.out]
              exact ScP.no HBW4.out
            · obtain ⟨yo, yc, rfl⟩ := hy.shape
              have HY := hid hy
              by_cases hbig : 480000 < acc.length + Y.length
              · have HRN := hid (HRES.out.trans (HM2.out hpos hbig))
                have hbig' : (480000 : Int) < (acc.length : Int) + (Y.length : Int) := by omega
                clear hb4 hy
                go_wp2_with fail
                go_ret2
                rw [HRN.out]
                exact ScP.no HBW4.out
              · have HNX := hid (HM3.out hpos hbig)
                have hbig' : ¬ (480000 : Int) < (acc.length : Int) + (Y.length : Int) := by omega
                clear hb4 hy
                go_wp2_with (at_builtin; refine wpList_appO w4 rfl _ _ 22 rfl w3.heap.size 3 .i64 0 8 Try.underlying22 Try.info3 _ acc (by rfl) HOW4.out wr.heap.size _ Y (by rfl) HY.out (by omega) (by decide) ?_)
                intro v5 w5 ho5 hb5
                obtain ⟨oo, oc, rfl⟩ := ho5.shape
                have HO5 := hid ho5
                have HB5 := hid (HB4.out.trans hb5)
                clear ho5 hb5
                go_wp2_with fail
                go_roundw
                case rel => exact ⟨k + 1, _, by omega, by go_num, HNX.out, HO5.out, HB5.out⟩
                case measure => simp [intOf]; omega
          | inr xs =>
            intro hpt HNO HYES hfine
            obtain ⟨y', rfl, hy⟩ := hpt
            obtain ⟨yo, yc, rfl⟩ := hy.shape
            have hxl : xs.length ≤ 11 := hfine
            have HM2 := hid (fun h' => HNO.out (more_b_big (T := T) (acc := acc) (xs := xs) h'))
            have HM3 := hid (fun h' => HYES.out _ (more_b_ok (T := T) (acc := acc) (xs := xs) h'))
            have HY0 := hid hy
            clear hfine HNO HYES hy
            go_wp2_with fail
            refine (bitsOf_b C1 C2 yo xs.length yc wr).mono ?_
            rintro e w4 ⟨rfl, hb4⟩
            have HB4 := hid (hb.out.trans (hb4.mono hb.out.size))
            have HBW4 := hid (HBW.out.trans (hb4.mono HBW.out.size))
            have HOW4 := hid (hown.out.below hb4)
            have HY := hid (HY0.out.below hb4)
            clear hcy q1 q2 q3 q4 HT HK hb4
            by_cases hbig : 480000 < acc.length + xs.length
            · have HRN := hid (HRES.out.trans (HM2.out hbig))
              have hbig' : (480000 : Int) < (acc.length : Int) + (xs.length : Int) := by omega
              go_wp2_with fail
              go_ret2
              rw [HRN.out]
              exact ScP.no HBW4.out
            · have HNX := hid (HM3.out hbig)
              have hbig' : ¬ (480000 : Int) < (acc.length : Int) + (xs.length : Int) := by omega
              go_wp2_with (at_builtin; refine wpList_appO w4 rfl _ _ 22 rfl w3.heap.size 3 .i64 0 8 Try.underlying22 Try.info3 _ acc (by rfl) HOW4.out w2.heap.size _ xs (by rfl) HY.out (by omega) (by decide) ?_)
              intro v5 w5 ho5 hb5
              obtain ⟨oo, oc, rfl⟩ := ho5.shape
              have HO5 := hid ho5
              have HB5 := hid (HB4.out.trans hb5)
              clear ho5 hb5
              go_wp2_with fail
              go_roundw
              case rel => exact ⟨k + 1, _, by omega, by go_num, HNX.out, HO5.out, HB5.out⟩
              case measure => simp [intOf]; omega
        · obtain rfl : k = P.length := by omega
          have HRS := hid (HRES.out.trans hfold.out)
          have HOF := hid (hown.out.mono B3.out.size)
          go_wp2_with fail
          go_ret2
          rw [HRS.out]
          exact ⟨_, rfl, HOF.out, HBW.out⟩
    · have HPA := hid (fun q (hq : Below w.heap.size w q) => parts_no ao cap L q hn HS.out (HV.out.below hq) hk)
      have HRN := hid (scanR_no (T := T) (L := L) (fun h => hk h.2))
      clear hr hk
      go_enter Try.func14, Try.ntmps14
      go_wp2_with fail
      refine HKB.out.mono ?_
      generalize w.alloc (.cells #[.slice a0 T.cs.length c0, .slice a1 T.ss.length c1, .slice a2 T.ct.length c2, .slice a3 T.st.length c3] 34) = wa at *
      rintro e w1 ⟨C1, C2, rfl, hbk, hb1⟩
      have HA1 := hid ((Below.refl w1.heap.size w1).alloc (Nat.le_refl _) (.cells #[.pointer (some ⟨C1, 0, none⟩), .pointer (some ⟨C2, 0, none⟩)] 78))
      have B1 := hid (HB.out.trans ((hb1.trans (HA1.out.mono hb1.size)).mono HB.out.size))
      clear hbk hb1 HKB HB
      go_wp2_with fail
      generalize w1.alloc (.cells #[.pointer (some ⟨C1, 0, none⟩), .pointer (some ⟨C2, 0, none⟩)] 78) = w2 at *
      refine (HPA.out _ B1.out).mono ?_
      rintro e w3 ⟨rfl, hb3⟩
      have B3 := hid (B1.out.trans (hb3.mono B1.out.size))
      clear hb3
      go_wp2_with fail
      go_ret2
      rw [HRN.out]
      exact ScP.no B3.out
  · have HKB := hid (books_no _ T.cs T.ss T.ct T.st _ h0 h1 h2 h3 hr (HTV.out.below HB.out))
    have HRN := hid (scanR_no (T := T) (L := L) (fun h => hr h.1))
    clear hr h0 h1 h2 h3 HTV
    go_enter Try.func14, Try.ntmps14
    go_wp2_with fail
    refine HKB.out.mono ?_
    generalize w.alloc (.cells #[.slice a0 T.cs.length c0, .slice a1 T.ss.length c1, .slice a2 T.ct.length c2, .slice a3 T.st.length c3] 34) = wa at *
    rintro e w1 ⟨rfl, hb1⟩
    have HA1 := hid ((Below.refl w1.heap.size w1).alloc (Nat.le_refl _) (.cells #[.pointer none, .pointer none] 78))
    have B1 := hid (HB.out.trans ((hb1.trans (HA1.out.mono hb1.size)).mono HB.out.size))
    have HS2 := hid (show (w1.alloc (.cells #[.pointer none, .pointer none] 78)).heap.size = w1.heap.size + 1 by simp)
    clear hb1 HKB HB
    go_wp2_with fail
    generalize w1.alloc (.cells #[.pointer none, .pointer none] 78) = w2 at *
    go_ret2
    rw [HRN.out]
    exact ScP.noG _ HS2.out B1.out
end Go.Proofs.Ytcikmgdfelejpaa
