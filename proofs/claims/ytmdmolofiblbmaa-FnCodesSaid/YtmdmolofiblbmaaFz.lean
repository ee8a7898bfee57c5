/- The law FnCodes. -/
import Derived.Test.YtmdmolofiblbmaaFy
import Derived.Test.YtmdmolofiblbmaaPx
namespace Go.Proofs.Ytmdmolofiblbmaa
open Go.RowKit Go.Maps
set_option linter.unusedVariables false

theorem view_take {w : World} {ao : Option Addr} {n : Nat} {xs : List Int} (h : View .i64 w ao n xs) (m : Nat) (hm : m ≤ n) : View .i64 w ao m (xs.take m) := by
  refine ⟨by rw [List.length_take, h.1]; omega, fun i hi => ?_⟩
  obtain ⟨b, off, e, hc⟩ := h.2 i (by omega)
  refine ⟨b, off, e, ?_⟩
  rw [hc]
  simp [List.getD, hi]
/-- An own row of numbers that is not empty stands at the beginning of its block. -/
theorem own_at {w : World} {base : Nat} {v : Value} {xs : List Int} (h : Own w base 3 .i64 v xs) (hp : 1 ≤ xs.length) : ∃ g c, v = .slice (some ⟨g, 0, none⟩) xs.length c ∧ xs.length ≤ c := by
  rcases h.2.2 with ⟨_, h0⟩ | ⟨g, cap, cur, rfl, _, _, hn, _⟩
  · omega
  · exact ⟨g, cap, rfl, hn⟩

theorem own_vw {w : World} {base c n : Nat} {a : Option Addr} {xs : List Int} (h : Own w base 3 .i64 (.slice a n c) xs) : View .i64 w a xs.length xs := by
  obtain ⟨a', c', e, hv⟩ := h.view
  injection e with e1 e2 e3
  subst e1
  exact hv

theorem same_yes2 (ao bo : Option Addr) (n cap cap' : Nat) (xs : List Int) (w : World) (hn : n ≤ 4194304) (ha : View .i64 w ao n xs) (hb : View .i64 w bo n xs) :
    Calls Try.prog 11 #[.slice ao n cap, .slice bo n cap'] w fun e w' => e = .returned (.bool true) ∧ Below w.heap.size w w' := by
  have := same_any ao bo n cap cap' xs xs w hn ha hb
  rw [decide_eq_true rfl] at this
  exact this
/-- A new row of one number. -/
theorem own_one (w : World) (x : Int) : Own (w.alloc (.cells #[.int .i64 x] 3)) w.heap.size 3 .i64 (.slice (some ⟨w.heap.size, 0, none⟩) 1 1) [x] := by
  refine ⟨by simp, by simp, .inr ⟨w.heap.size, 1, #[.int .i64 x], rfl, Nat.le_refl _, heap_alloc_new w _, Nat.le_refl _, by unfold maxLen; omega, by simp, by simp⟩⟩

set_option maxRecDepth 100000 in
set_option maxHeartbeats 12800000 in
theorem law_codes (ao : Option Addr) (n cap : Nat) (zs : List Int) (w : World) (hr : IsRow .u8 w ao n cap zs) :
    Calls Try.prog 3 #[.slice ao n cap] w fun e w' => e = .returned (.bool true) ∧ Below w.heap.size w w' := by
  have hlen := hr.len.1
  by_cases hl : (1048576 : Int) < (n : Int)
  · have hd : decide ((1048576 : Int) < (n : Int)) = true := by simpa using hl
    clear hr
    go_enter Try.func3, Try.ntmps3
    go_wp2_with (go_at_call 7; refine (big_any _ _ _ _).mono ?_; rw [hd]; rintro e w' ⟨rfl, rfl⟩)
    go_ret
    exact ⟨rfl, Below.refl _ _⟩
  · have hd : decide ((1048576 : Int) < (n : Int)) = false := by simpa using hl
    have HC := hid (code_row hr (by omega))
    have hn : n ≤ 1048576 := by omega
    clear hr hl
    go_enter Try.func3, Try.ntmps3
    go_wp2_with (first | (go_at_call 7; refine (big_any _ _ _ _).mono ?_; rw [hd]; rintro e w' ⟨rfl, rfl⟩) | (go_at_call 8; fail) | fail)
    refine (draw_best ao n cap _ _ HC.out).mono ?_
    rintro e w1 ⟨fv, v, fs, rfl, hbb, hdr, hof, bo, hb1⟩
    have hR := best_right fs hbb
    generalize bC fs = cs at *
    generalize bS fs = ss at *
    obtain ⟨fa, fc, rfl⟩ := hof.shape
    have hrb : cs.length = 16 ∧ 1 ≤ ss.length ∧ ss.length ≤ 255 := by
      obtain ⟨⟨h1, _, h2, _⟩, h3, _⟩ := (right_iff cs ss).1 hR
      omega
    have cv1 := bo.cv
    obtain ⟨a0, c0, a1, c1, rfl, _, vv1⟩ := bo.cv
    have hA := (Below.refl w1.heap.size w1).alloc (Nat.le_refl _) (.cells #[.slice a0 cs.length c0, .slice a1 ss.length c1] 26)
    have HCV := hid (cv1.below hA)
    have HV := hid (vv1.below (Nat.le_refl _) hA)
    have HT := hid (Two.new w1 (.slice a0 cs.length c0) (.slice a1 ss.length c1) 26)
    have HB := hid (hb1.trans (hA.mono hb1.size))
    have HZ := hid (HC.out.2.1.below (Nat.le_refl _) HB.out)
    have HZW := hid HC.out.2.2
    have k0 : cs.length ≤ 1048576 := by omega
    have k1 : ss.length ≤ 1048576 := by omega
    have HOK := hid (fun q (h : CV q (.agg #[.slice a0 cs.length c0, .slice a1 ss.length c1]) cs ss) => impl_ok _ cs ss q k0 k1 h)
    rw [hR] at HOK
    obtain ⟨cd, hcd⟩ : ∃ cd : Nat → List Int, cd = fun p => bitsK (kp (keysTo cs 16) p) := ⟨_, rfl⟩
    have HCO := hid (fun p (hp : p < ss.length) q (h : CV q (.agg #[.slice a0 cs.length c0, .slice a1 ss.length c1]) cs ss) => (show Calls Try.prog 10 #[.agg #[.slice a0 cs.length c0, .slice a1 ss.length c1], .int .i64 (ss.getD p 0)] q fun e w' => ∃ v', e = .returned v' ∧ Own w' q.heap.size 3 .i64 v' (cd p) ∧ Below q.heap.size q w' from by
      have := impl_codeOf _ cs ss (ss.getD p 0) q k0 k1 h
      rw [code_at hR hp] at this
      rw [hcd]
      exact this))
    have HCN := hid (fun q (h : CV q (.agg #[.slice a0 cs.length c0, .slice a1 ss.length c1]) cs ss) => (show Calls Try.prog 10 #[.agg #[.slice a0 cs.length c0, .slice a1 ss.length c1], .int .i64 300] q fun e w' => ∃ v', e = .returned v' ∧ Own w' q.heap.size 3 .i64 v' [] ∧ Below q.heap.size q w' from by
      have := impl_codeOf _ cs ss 300 q k0 k1 h
      rw [code_none] at this
      exact this))
    have HLN := hid (fun p (hp : p < ss.length) => (show 1 ≤ (cd p).length ∧ (cd p).length ≤ 16 from by rw [hcd]; exact code_len hR hp))
    have HTW := hid (fun q p (hq : q < p) (hp : p < ss.length) => (show (cd q).length ≤ (cd p).length ∧ (cd p).take (cd q).length ≠ cd q from by rw [hcd]; exact code_two hR hq hp))
    have HSY := hid (fun p (hp : p < ss.length) xo c q (h : CV q (.agg #[.slice a0 cs.length c0, .slice a1 ss.length c1]) cs ss) (hx : View .i64 q xo (1 + (cd p).length) (1 :: cd p)) => (show Calls Try.prog 12 #[.agg #[.slice a0 cs.length c0, .slice a1 ss.length c1], .slice xo (1 + (cd p).length) c, .int .i64 1] q fun e w' => e = .returned (.tuple #[.int .i64 (ss.getD p 0), .int .i64 (1 + ((cd p).length : Int))]) ∧ Below q.heap.size q w' from by
      have hl : (1 :: cd p).length = 1 + (cd p).length := by rw [List.length_cons]; omega
      have h16 := (HLN.out p hp).2
      rw [← hl] at hx ⊢
      refine (impl_symAt _ cs ss (1 :: cd p) xo c 1 q k0 k1 (by rw [hl]; omega) h hx).mono ?_
      rintro e w' ⟨r0, r1, rfl, hs, hb⟩
      rw [hcd] at hs ⊢
      obtain ⟨rfl, rfl⟩ := code_sym hR hp hs
      exact ⟨rfl, hb⟩))
    have HM := hid (show 1 ≤ ss.length ∧ ss.length ≤ 255 from hrb.2)
    have HR := hid hR
    have hm1 : 1 ≤ (ss.length : Int) := by have := HM.out.1; omega
    have hm2 : (ss.length : Int) ≤ 255 := by have := HM.out.2; omega
    obtain ⟨q0, q1, q2, q3⟩ := HT.out.cells
    clear bo cv1 vv1 hA hb1 hbb hdr hof hrb hR hcd
    go_wp2_with (first | (go_at_call 9; fail) | fail)
    refine (HOK.out _ HCV.out).mono ?_
    generalize w1.alloc (.cells #[.slice a0 cs.length c0, .slice a1 ss.length c1] 26) = w2 at *
    generalize w1.heap.size = T at *
    rintro e w3 ⟨rfl, hb3⟩
    have HCV3 := hid (HCV.out.below hb3)
    have HT3 := hid (HT.out.below hb3 HT.out.lt)
    have HB3 := hid (HB.out.trans (hb3.mono HB.out.size))
    have HZ3 := hid (HZ.out.below (Nat.le_refl _) hb3)
    have HV3 := hid (HV.out.below (Nat.le_refl _) hb3)
    have hT3 := HT3.out.lt
    have HCO3 := hid (fun p hp q (hq : Below w3.heap.size w3 q) => HCO.out p hp q (HCV3.out.below hq))
    have HCN3 := hid (fun q (hq : Below w3.heap.size w3 q) => HCN.out q (HCV3.out.below hq))
    have HSY3 := hid (fun p hp xo c q (hq : Below w3.heap.size w3 q) => HSY.out p hp xo c q (HCV3.out.below hq))
    clear hb3 HCV HT HB HZ HV q0 q1 q2 q3 HOK HC HCO HCN HSY
    go_wp2_with fail
    go_loopw [5] (fun i wr => ∃ k : Nat, k ≤ ss.length ∧ i = .int .i64 k ∧ Hid (Below w3.heap.size w3 wr)) (fun i _ => ss.length - (intOf i).toNat)
    case atStart => exact ⟨0, by omega, rfl, hid (Below.refl _ _)⟩
    case round =>
      obtain ⟨k, hk, rfl, hb⟩ := hrel
      have TT := hid (HT3.out.below hb.out hT3)
      obtain ⟨q0, q1, q2, q3⟩ := TT.out.cells
      have hsr := hb.out.size
      by_cases hlt : k < ss.length
      · obtain ⟨g, off, rfl, hc3⟩ := HV3.out.2 k hlt
        have hlt' : (k : Int) < (ss.length : Int) := by omega
        have HX := hid (HCO3.out k hlt)
        have HLk := HLN.out k hlt
        have hl1 : 1 ≤ ((cd k).length : Int) := by omega
        have hl2 : ((cd k).length : Int) ≤ 16 := by omega
        have HSk := hid (HSY3.out k hlt)
        have HTk := hid (fun q hq => HTW.out q k hq hlt)
        generalize ss.getD k 0 = S at hc3 HX HSk
        have hc := (hb.out.cell (p := ⟨g, off + k, none⟩) (World.block_lt_of_cell? w3 _ hc3)).trans hc3
        have HC3 := hid hc3
        clear hc3
        go_wp2_with fail
        go_cut [6] from 29 to 97 (fun s wx => ∃ xg xc, s = .slice (some ⟨xg, 0, none⟩) (cd k).length xc ∧ (cd k).length ≤ xc ∧ Own wx wr.heap.size 3 .i64 s (cd k) ∧ Below wr.heap.size wr wx)
        case first =>
          go_region_with (go_at_call 10; refine (HX.out _ ?_).mono ?_; · first | exact hb.out | exact hb.out.drew
                          rintro e w8 ⟨y, rfl, hy, hb8⟩)
          all_goals
            have hc8 : Below wr.heap.size wr w8 := by first | exact hb8 | exact Below.trans (Below.refl _ _).drew hb8
            obtain ⟨xg, xc, rfl, hxc⟩ := own_at hy HLk.1
            have HY := hid hy
            go_wp2_with fail
            go_meet
            exact ⟨xg, xc, rfl, hxc, HY.out, hc8⟩
        case rest =>
          obtain ⟨xg, xc, rfl, hxc, hy, hb4⟩ := hcut
          generalize hwc : wc = w4 at *
          clear hwc
          have HB4 := hid (hb.out.trans (hb4.mono hsr))
          have HXV := hid (own_vw hy)
          have hs4 : w3.heap.size ≤ w4.heap.size := HB4.out.size
          have hxc' : ((cd k).length : Int) ≤ (xc : Int) := by omega
          have HY4 := hid hy
          obtain ⟨B4, hB4⟩ : ∃ B4 : Nat, B4 = wr.heap.size := ⟨_, rfl⟩
          rw [← hB4] at HY4
          clear hB4
          clear hb4 hy hc HX q0 q1 q2 q3 TT hsr hb hxc
          have TT4 := hid (HT3.out.below HB4.out hT3)
          obtain ⟨p0, p1, p2, p3⟩ := TT4.out.cells
          have hc1 : decide (((cd k).length : Int) < 1) = false := by simp; omega
          have hc2 : decide ((16 : Int) < ((cd k).length : Int)) = false := by simp; omega
          go_wp2_with fail
          go_loopw [7] (fun j wi => ∃ t : Nat, t ≤ k ∧ j = .int .i64 t ∧ Hid (Below w4.heap.size w4 wi)) (fun j _ => k - (intOf j).toNat)
          case atStart => exact ⟨0, by omega, rfl, hid (Below.refl _ _)⟩
          case round =>
            obtain ⟨t, ht, rfl, hb⟩ := hrel
            have HBr := hid (HB4.out.trans (hb.out.mono hs4))
            have TT := hid (HT3.out.below HBr.out hT3)
            have hsr := hb.out.size
            clear p0 p1 p2 p3
            obtain ⟨q0, q1, q2, q3⟩ := TT.out.cells
            by_cases hlt2 : t < k
            · have hlt3 : t < ss.length := by omega
              have hc := ((HV3.out.below (Nat.le_refl _) HBr.out).2 t hlt3)
              obtain ⟨g', off', e', hc⟩ := hc
              injection e' with e'
              injection e' with e1 e2 e3
              subst e1 e2
              have hlt4 : (t : Int) < (k : Int) := by omega
              have hlt5 : (t : Int) < (ss.length : Int) := by omega
              have HX := hid (HCO3.out t hlt3)
              have HLt := HLN.out t hlt3
              have HTt := HTk.out t hlt2
              generalize ss.getD t 0 = U at hc HX
              go_wp2_with fail
              go_cut [8] from 51 to 75 (fun s wx => ∃ yg yc, s = .slice (some ⟨yg, 0, none⟩) (cd t).length yc ∧ Own wx wr.heap.size 3 .i64 s (cd t) ∧ Below wr.heap.size wr wx)
              case first =>
                go_region_with (go_at_call 10; refine (HX.out _ ?_).mono ?_; · first | exact HBr.out | exact HBr.out.drew
                                rintro e w8 ⟨y, rfl, hy, hb8⟩)
                all_goals
                  have hc8 : Below wr.heap.size wr w8 := by first | exact hb8 | exact Below.trans (Below.refl _ _).drew hb8
                  obtain ⟨yg, yc, rfl, hyc⟩ := own_at hy HLt.1
                  have HY := hid hy
                  go_wp2_with fail
                  go_meet
                  exact ⟨yg, yc, rfl, HY.out, hc8⟩
              case rest =>
                obtain ⟨yg, yc, rfl, hy, hb5⟩ := hcut
                generalize hwc : wc = w5 at *
                clear hwc
                have HB5 := hid (hb.out.trans (hb5.mono hsr))
                have VX5 := view_take ((HXV.out.below (Nat.le_refl _) hb.out).below (Nat.le_refl _) hb5) (cd t).length HTt.1
                have HSM := hid (fun c1 c2 => same_any (some ⟨xg, 0, none⟩) (some ⟨yg, 0, none⟩) (cd t).length c1 c2 _ (cd t) w5 (by omega) VX5 (own_vw hy))
                rw [decide_eq_false HTt.2] at HSM
                have hgt : decide (((cd k).length : Int) < ((cd t).length : Int)) = false := by simp; omega
                have hle1 : ((cd t).length : Int) ≤ (xc : Int) := by omega
                have hle2 : (0 : Int) ≤ ((cd t).length : Int) := by omega
                clear hy hb5 hc HX q0 q1 q2 q3 TT VX5 HBr
                go_wp2_with (first | (go_at_call 11; fail) | fail)
                refine (HSM.out _ _).mono ?_
                rintro e w6 ⟨rfl, hb6⟩
                have HB6 := hid (HB5.out.trans (hb6.mono HB5.out.size))
                clear hb6
                go_wp2_with fail
                go_roundw
                case rel => exact ⟨t + 1, by omega, by go_num, HB6⟩
                case measure => simp [intOf]; omega
            · obtain rfl : t = k := by omega
              have hc := (HBr.out.cell (p := ⟨g, off + t, none⟩) (World.block_lt_of_cell? w3 _ HC3.out)).trans HC3.out
              have HYr := hid (show Own (wr.alloc (.cells #[.int .i64 1] 3)).drew B4 3 .i64 (.slice (some ⟨xg, 0, none⟩) (cd t).length xc) (cd t) from (HY4.out.below hb.out).below ((Below.refl _ _).alloc (Nat.le_refl _) _).drew)
              have HO1 := hid (show Own (wr.alloc (.cells #[.int .i64 1] 3)).drew wr.heap.size 3 .i64 (.slice (some ⟨wr.heap.size, 0, none⟩) 1 1) [1] from own_one wr 1)
              have TTA := hid (HT3.out.below (HBr.out.trans (((Below.refl wr.heap.size wr).alloc (Nat.le_refl _) (.cells #[.int .i64 1] 3)).mono HBr.out.size)) hT3)
              obtain ⟨r0, r1, r2, r3⟩ := TTA.out.cells
              go_wp2_with fail
              go_cut [9, 10] from 29 to 97 (fun p q wx => p = .int .i64 S ∧ q = .int .i64 (1 + ((cd t).length : Int)) ∧ Below wr.heap.size wr wx)
              case first =>
                go_region_law (first
                  | (refine step_appI (wr.alloc (.cells #[.int .i64 1] 3)).drew rfl (.tmp 78) (.tmp 79) 24 rfl wr.heap.size Try.underlying24 Try.info3 (.slice (some ⟨wr.heap.size, 0, none⟩) 1 1) [1] (by rfl) HO1.out B4 xg xc (cd t) (by rfl) HYr.out ?_ ?_; · simp; omega
                     intro v7 w7 ho7 hb7 hg7
                     obtain ⟨xo, c7, e7, hv7⟩ := ho7.view
                     have hl7 : ([1] ++ cd t).length = 1 + (cd t).length := by rw [List.length_append]; rfl
                     rw [hl7] at e7 hv7
                     subst e7
                     have hb17 : Below wr.heap.size wr w7 := Below.trans ((Below.refl _ _).alloc (Nat.le_refl _) _).drew hb7
                     have HB7 := hid (HBr.out.trans (hb17.mono HBr.out.size))
                     have HS7 := HSk.out xo c7 w7 HB7.out hv7
                     have HB17 := hid hb17
                     obtain ⟨s0, s1, s2, s3⟩ := (HT3.out.below HB7.out hT3).cells
                     clear ho7 hb7 hg7 hb17 hv7)
                  | (go_simp; go_at_call 12; refine HS7.mono ?_; rintro e w8 ⟨rfl, hb8⟩; have HB8 := hid (HB17.out.trans (hb8.mono HB17.out.size)); clear hb8))
                all_goals
                  go_wp2_with fail
                  go_meet
                  exact ⟨rfl, rfl, HB8.out⟩
              case rest =>
                obtain ⟨rfl, rfl, hb5⟩ := hcut
                generalize hwc : wc = w5 at *
                clear hwc
                have HB5 := hid (HBr.out.trans (hb5.mono HBr.out.size))
                have TT5 := hid (HT3.out.below HB5.out hT3)
                have hc5 := (HB5.out.cell (p := ⟨g, off + t, none⟩) (World.block_lt_of_cell? w3 _ HC3.out)).trans HC3.out
                clear hc hb5 q0 q1 q2 q3 TT
                obtain ⟨q0, q1, q2, q3⟩ := TT5.out.cells
                go_wp2_with fail
                go_roundw
                case rel => exact ⟨t + 1, by omega, by go_num, HB5⟩
                case measure => simp [intOf]; omega
      · obtain rfl : k = ss.length := by omega
        have B1 := hid (HB3.out.trans (hb.out.mono HB3.out.size))
        clear hlt hk HSY3 HTW HLN
        go_wp2_with fail
        have OE := hid (Own.empty wr 3 .i64 w3.heap.size hsr)
        have HB5 := hid (hb.out.trans (((Below.refl wr.heap.size wr).alloc (Nat.le_refl _) (.cells #[] 3)).mono hsr))
        have HPI := hid (fun (P : List Nat) (hP : ∀ p ∈ P, p < ss.length) (hl : P.length = 12) => putR_enc HR.out hP (by omega))
        have HGI := hid (fun (P : List Nat) (hP : ∀ p ∈ P, p < ss.length) (hl : P.length = 12) R F (h : GetR cs ss (encP (keysTo cs 16) P) (P.length : Int) R F) => getR_enc HR.out hP (by omega) h)
        have HGM := hid (fun (P : List Nat) (hP : ∀ p ∈ P, p < ss.length) (hl : P.length = 12) R F (h : GetR cs ss (encP (keysTo cs 16) P) ((P.length : Int) + 1) R F) => getR_more HR.out hP (by omega) h)
        clear q0 q1 q2 q3 TT hb B1
        go_loopw [11, 12] (fun l i wi => ∃ (k : Nat) (P : List Nat), k ≤ 12 ∧ i = .int .i64 k ∧ Hid (P.length = k ∧ ∀ p ∈ P, p < ss.length) ∧ Hid (Own wi w3.heap.size 3 .i64 l (symsP ss P)) ∧ Hid (Below w3.heap.size w3 wi)) (fun _ i _ => 12 - (intOf i).toNat)
        case atStart => exact ⟨0, [], by omega, rfl, hid ⟨rfl, fun p hp => absurd hp (by simp)⟩, OE, HB5⟩
        case round =>
          obtain ⟨k, P, hk, rfl, hP, ho, hb⟩ := hrel
          have TT := hid (HT3.out.below hb.out hT3)
          obtain ⟨q0, q1, q2, q3⟩ := TT.out.cells
          have hsr := hb.out.size
          by_cases hlt : k < 12
          · have hlt' : (k : Int) < 12 := by omega
            have hk2 : IntKind.i64.wrap ((k : Int) + 2) = (k : Int) + 2 := by rw [IntKind.wrap_i64]; omega
            have HAT := hid (fun q (hq : Below wr.heap.size wr q) => (show Calls Try.prog 13 #[.slice ao n cap, .int .i64 ((k : Int) + 2)] q fun e w' => ∃ x : Int, e = .returned (.int .i64 x) ∧ (0 ≤ x ∧ x ≤ 255) ∧ q = w' from by
              have := at_law ao n cap (k + 2) (zs.take n) q hn (by omega) ((HZ3.out.below (Nat.le_refl _) hb.out).below (Nat.le_refl _) hq) HZW.out
              rw [Int.natCast_add] at this
              exact this))
            obtain ⟨la, lc, hl⟩ := ho.out.shape
            have hll : (symsP ss P).length = k := by unfold symsP; rw [List.length_map]; exact hP.out.1
            rw [hll] at hl
            subst hl
            have HCE := hid (fun p (hp : p < ss.length) => (HV3.out.below (Nat.le_refl _) hb.out).2 p hp)
            have hnz : ¬ ss = [] := fun e => by
              have := HM.out.1
              rw [e] at this
              exact absurd this (by decide)
            go_wp2_with fail
            go_region_law (first
                | (go_simp; go_at_call 13; refine (HAT.out _ ?_).mono ?_; · first | exact Below.refl _ _ | exact (Below.refl _ _).drew
                   rintro e w7 ⟨x, rfl, hx, rfl⟩
                   obtain ⟨X, rfl⟩ := Int.eq_ofNat_of_zero_le hx.1
                   obtain ⟨p, hp⟩ : ∃ p : Nat, p = X % ss.length := ⟨_, rfl⟩
                   have hmod : (X : Int).tmod (ss.length : Int) = (p : Int) := by rw [hp, Int.natCast_emod]; exact Int.tmod_eq_emod_of_nonneg (by omega)
                   have hpl : p < ss.length := by rw [hp]; exact Nat.mod_lt _ HM.out.1
                   have hpl' : (p : Int) < (ss.length : Int) := by omega
                   have HPL := hid hpl
                   obtain ⟨pg, po, pe, hcp⟩ := HCE.out p hpl
                   subst pe
                   have HU := hid (own_one wr (ss.getD p 0))
                   generalize hU : ss.getD p 0 = U at hcp HU
                   have HUU := hid hU
                   clear hp hx hpl hU)
                | (refine step_appI _ rfl (.tmp 103) (.tmp 116) 24 rfl w3.heap.size Try.underlying24 Try.info3 (.slice la k lc) (symsP ss P) (by rfl) (ho.out.below ((Below.refl wr.heap.size wr).alloc (Nat.le_refl _) (.cells #[.int .i64 U] 3)).drew) wr.heap.size wr.heap.size 1 [U] (by rfl) HU.out ?_ ?_; · rw [hll]; simp; omega
                   intro v7 w7 ho7 hb7 hg7
                   have HO7 := hid ho7
                   have HB7 := hid hb7
                   clear ho7 hb7 hg7))
            all_goals
                have HB5 := hid (hb.out.trans (Below.trans ((((Below.refl wr.heap.size wr).alloc (Nat.le_refl _) (.cells #[.int .i64 U] 3)).drew).mono hsr) HB7.out))
                have HP5 := hid (show (P ++ [p]).length = k + 1 ∧ ∀ q ∈ P ++ [p], q < ss.length from ⟨by rw [List.length_append, hP.out.1]; rfl, fun q hq => by
                  rcases List.mem_append.1 hq with hq | hq
                  · exact hP.out.2 q hq
                  · rw [List.mem_singleton.1 hq]; exact HPL.out⟩)
                have HO5 := hid (show Own w7 w3.heap.size 3 .i64 v7 (symsP ss (P ++ [p])) from by
                  have e : symsP ss (P ++ [p]) = symsP ss P ++ [U] := by
                    unfold symsP
                    rw [List.map_append, ← HUU.out]
                    rfl
                  rw [e]
                  exact HO7.out)
                go_wp2_with fail
                go_roundw
                case rel => exact ⟨k + 1, P ++ [p], by omega, by go_num, HP5, HO5, HB5⟩
                case measure => simp [intOf]; omega
          · have hk12 : k = 12 := by omega
            have hPl : P.length = 12 := hP.out.1.trans hk12
            have HPP := HPI.out P hP.out.2 hPl
            have HGG := hid (HGI.out P hP.out.2 hPl)
            have HMM := hid (HGM.out P hP.out.2 hPl)
            rw [hPl] at HGG HMM
            have hEl : (encP (keysTo cs 16) P).length ≤ 1048576 := by
              have h1 := encP_len (K := keysTo cs 16) (by
                obtain ⟨⟨_, hok, _, hroom⟩, _, _⟩ := (right_iff cs ss).1 HR.out
                exact keysTo_ok cs hok hroom 16 (Nat.le_refl _)) (P := P) (fun p hp => by
                obtain ⟨⟨_, hok, _, hroom⟩, _, _⟩ := (right_iff cs ss).1 HR.out
                have := hP.out.2 p hp
                rw [keys_len cs ss HR.out]
                exact this)
              omega
            subst hk12
            have hXl : (symsP ss P).length = 12 := by unfold symsP; rw [List.length_map]; exact hPl
            obtain ⟨la, lc, hl⟩ := ho.out.shape
            rw [hXl] at hl
            subst hl
            have HX := hid (own_vw ho.out)
            rw [hXl] at HX
            generalize symsP ss P = X at *
            generalize encP (keysTo cs 16) P = EN at *
            have HPU := hid (impl_putSyms (.agg #[.slice a0 cs.length c0, .slice a1 ss.length c1]) cs ss la 12 lc X wr k0 k1 (by decide) (HCV3.out.below hb.out) HX.out)
            rw [HPP] at HPU
            have hbs := hb.out.size
            clear ho hP HPP
            go_wp2_with (first | (go_at_call 14; fail) | fail)
            refine HPU.out.mono ?_
            rintro e w5 ⟨v5, rfl, ho5, hb5⟩
            obtain ⟨ea, ec, rfl⟩ := ho5.shape
            have HB5 := hid (hb.out.trans (hb5.mono hbs))
            have HE5 := hid (own_vw ho5)
            have HX5 := hid (HX.out.below (Nat.le_refl _) hb5)
            have TT5 := hid (HT3.out.below HB5.out hT3)
            clear ho5 hb5 q0 q1 q2 q3 TT hb
            obtain ⟨q0, q1, q2, q3⟩ := TT5.out.cells
            have HG1 := hid (impl_getSyms (.agg #[.slice a0 cs.length c0, .slice a1 ss.length c1]) cs ss EN ea ec 12 w5 k0 k1 hEl (HCV3.out.below HB5.out) HE5.out)
            go_wp2_with (first | (go_at_call 15; fail) | fail)
            refine HG1.out.mono ?_
            rintro e w6 ⟨v6, R6, F6, rfl, hg6, ho6, hb6⟩
            obtain ⟨rfl, rfl⟩ := HGG.out _ _ hg6
            obtain ⟨ra, rc, rfl⟩ := ho6.shape
            have HB6 := hid (HB5.out.trans (hb6.mono HB5.out.size))
            have HE6 := hid (HE5.out.below (Nat.le_refl _) hb6)
            have HR6 := hid (own_vw ho6)
            have HX6 := hid (HX5.out.below (Nat.le_refl _) hb6)
            have TT6 := hid (HT3.out.below HB6.out hT3)
            clear ho6 hb6 q0 q1 q2 q3 TT5 hg6 HB5
            obtain ⟨q0, q1, q2, q3⟩ := TT6.out.cells
            have HG2 := hid (impl_getSyms (.agg #[.slice a0 cs.length c0, .slice a1 ss.length c1]) cs ss EN ea ec 13 w6 k0 k1 hEl (HCV3.out.below HB6.out) HE6.out)
            go_wp2_with (first | (go_at_call 15; fail) | fail)
            refine HG2.out.mono ?_
            rintro e w7 ⟨v7, R7, F7, rfl, hg7, ho7, hb7⟩
            obtain rfl := HMM.out _ _ hg7
            obtain ⟨sa, sc, rfl⟩ := ho7.shape
            have HB7 := hid (HB6.out.trans (hb7.mono HB6.out.size))
            have HR7 := hid (HR6.out.below (Nat.le_refl _) hb7)
            have HX7 := hid (HX6.out.below (Nat.le_refl _) hb7)
            have TT7 := hid (HT3.out.below HB7.out hT3)
            clear ho7 hb7 q0 q1 q2 q3 TT6 hg7 HB6
            obtain ⟨q0, q1, q2, q3⟩ := TT7.out.cells
            rw [hXl] at HR7
            have HSM := hid (same_yes2 ra la 12 rc lc _ w7 (by decide) HR7.out HX7.out)
            go_wp2_with (first | (go_at_call 11; fail) | fail)
            refine HSM.out.mono ?_
            rintro e w8 ⟨rfl, hb8⟩
            have HB8 := hid (HB7.out.trans (hb8.mono HB7.out.size))
            have TT8 := hid (HT3.out.below HB8.out hT3)
            clear hb8 q0 q1 q2 q3 TT7 HB7
            obtain ⟨q0, q1, q2, q3⟩ := TT8.out.cells
            have HN8 := hid (HCN3.out w8 HB8.out)
            go_wp2_with (first | (go_at_call 10; fail) | fail)
            refine HN8.out.mono ?_
            rintro e w9 ⟨v9, rfl, ho9, hb9⟩
            obtain ⟨na, nc, rfl⟩ := ho9.shape
            have HB9 := hid (HB8.out.trans (hb9.mono HB8.out.size))
            clear ho9 hb9
            go_wp2_with fail
            go_ret
            exact ⟨rfl, HB3.out.trans (HB9.out.mono HB3.out.size)⟩
end Go.Proofs.Ytmdmolofiblbmaa
