/- Contracts of the drawing of a block. -/
import Derived.Test.YtcodmkampihphaaDoorShift
import Derived.Test.YtcodmkampihphaaDoorList
import Derived.Deep.CutRange
namespace Go.Proofs.YtcodmkampihphaaDoor
open Go.RowKit
set_option linter.unusedVariables false

theorem coefTo_all (xs : List Int) (h : ∀ z ∈ xs, inC z = true) : ∀ n, n ≤ xs.length → coefTo xs n = true
  | 0, _ => rfl
  | n + 1, hn => by
    rw [coefTo, coefTo_all xs h n (by omega)]
    have : xs.getD n 0 ∈ xs := by simp [List.getD, show n < xs.length by omega]
    rw [h _ this]
    rfl
theorem Eff.below' {C : Nat} {w w' : World} (h : Eff C w w') (g : Nat) (hg : g < w.heap.size) (hne : g ≠ C) : w'.heap[g]? = w.heap[g]? := h.block g hg (fun e => hne (Option.some.inj e))
theorem Eff.two {C b : Nat} {w w' : World} {x y : Value} {t : TypeId} (h : Eff C w w') (ht : Two w b x y t) (hne : b ≠ C) : Two w' b x y t := (h.below' b ht.lt hne).trans ht
theorem pick4_bd (j : Nat) (hj : j < 4) : -1023 ≤ [1023, -1023, 0, 512].getD j (0 : Int) ∧ [1023, -1023, 0, 512].getD j (0 : Int) ≤ 1023 := by
  obtain rfl | rfl | rfl | rfl : j = 0 ∨ j = 1 ∨ j = 2 ∨ j = 3 := by omega
  all_goals decide

set_option maxRecDepth 100000 in
set_option maxHeartbeats 6400000 in
/-- The loop of a block's numbers, and what is behind it. -/
theorem block_any (w0 : World) (ao : Option Addr) (n cap C : Nat) (zs : List Int) (w : World) (hcode : Code w0 ao n zs) (hcur : Cur w0 ao n cap C w) :
    Calls Tryd.prog 43 #[.pointer (some ⟨C, 0, none⟩)] w fun e w' => ∃ v, e = .returned v ∧ (∃ d xs, blkOk d xs = true ∧ BOwn w' w.heap.size v d xs) ∧ Cur w0 ao n cap C w' ∧ Eff C w w' := by
  have HC := hid hcode
  have hClt := hcur.lt
  have hA0 := (Below.refl w.heap.size w).alloc (Nat.le_refl _) (.cells #[.int .i64 0, .slice none 0 0] 28)
  have HU0 := hid (hcur.below hA0)
  have HE0 := hid ((Eff.refl C w).ofBelow hA0)
  have HR0 := hid (Two.new w (.int .i64 0) (.slice none 0 0) 28)
  have hsz0 : (w.alloc (.cells #[.int .i64 0, .slice none 0 0] 28)).heap.size = w.heap.size + 1 := by simp
  clear hcode hcur hA0
  go_enter Tryd.func43, Tryd.ntmps43
  go_wp2_with fail
  refine (below_any w0 ao n cap C zs 200 _ HC.out HU0.out).mono ?_
  generalize w.alloc (.cells #[.int .i64 0, .slice none 0 0] 28) = w1 at *
  rintro e w2 ⟨x, rfl, ⟨hx0, hx1⟩, hc2, he2⟩
  have hx2 : x < 200 := by omega
  have HE2 := hid (HE0.out.trans he2)
  have HU2 := hid hc2
  have HR2 := hid (he2.two HR0.out (by omega))
  have hs2 : w.heap.size + 1 ≤ w2.heap.size := by rw [← hsz0]; exact he2.size
  clear hc2 he2 hx1 HR0 HE0 HU0
  obtain ⟨g, hg⟩ : ∃ g, g = w2.heap.size := ⟨_, rfl⟩
  have hA2 := (Below.refl w2.heap.size w2).alloc (Nat.le_refl _) (.cells #[.int .i64 (x - 100), .slice none 0 0] 28)
  have HU3 := hid (HU2.out.below hA2)
  have HE3 := hid (HE2.out.ofBelow (hA2.mono (by omega)))
  have HR3 := hid (HR2.out.below hA2 HR2.out.lt)
  have HG3 := hid (Two.new w2 (.int .i64 (x - 100)) (.slice none 0 0) 28)
  have hs3 : (w2.alloc (.cells #[.int .i64 (x - 100), .slice none 0 0] 28)).heap.size = g + 1 := by simp [hg]
  go_wp2_with fail
  refine (once_any w0 ao n cap C zs 8 _ HC.out HU3.out).mono ?_
  generalize w2.alloc (.cells #[.int .i64 (x - 100), .slice none 0 0] 28) = w3 at *
  rw [← hg] at HG3 ⊢
  clear hA2
  have hCg : C < g := by omega
  have hwg : w.heap.size < g := by omega
  rintro e w4 ⟨bb, rfl, hc4, he4⟩
  have HE4 := hid (HE3.out.trans he4)
  have HU4 := hid hc4
  have HR4 := hid (he4.two HR3.out (by omega))
  have HG4 := hid (he4.two HG3.out (by omega))
  have hs4 : g + 1 ≤ w4.heap.size := by rw [← hs3]; exact he4.size
  clear hc4 he4 HU3 HE3 HR3 HG3 hs3 hg hs2 hsz0 HU2 HE2 HR2
  cases bb with
  | true =>
    go_wp2_with fail
    refine (pick_any w0 ao n cap C zs w4.heap.size 4 _ [1023, -1023, 0, 512] _ HC.out (HU4.out.below ((Below.refl _ _).alloc (Nat.le_refl _) _)) (by decide) rfl (by decide) (by omega) ?_).mono ?_
    · intro j hj
      obtain rfl | rfl | rfl | rfl : j = 0 ∨ j = 1 ∨ j = 2 ∨ j = 3 := by omega
      all_goals simp
    · rintro e w5 ⟨j, hj, rfl, hc5, he5⟩
      have hbd := pick4_bd j hj
      generalize List.getD _ j (0 : Int) = Y at *
      obtain ⟨dd0, dd1⟩ := hbd
      have hA4 := (Below.refl w4.heap.size w4).alloc (Nat.le_refl _) (.cells #[.int .i64 1023, .int .i64 (-1023), .int .i64 0, .int .i64 512] 3)
      have HE5 := hid ((HE4.out.ofBelow (hA4.mono (by omega))).trans he5)
      have HR5 := hid (he5.two (HR4.out.below hA4 HR4.out.lt) (by omega))
      have HG5 := hid (he5.two (HG4.out.below hA4 HG4.out.lt) (by omega))
      have HU5 := hid hc5
      have hs5 : g + 1 ≤ w5.heap.size := Nat.le_trans hs4 (Nat.le_trans hA4.size he5.size)
      clear hc5 he5 HE4 HU4 HR4 HG4 hs4 hA4 hj
      obtain ⟨q1, q2, q3, q4⟩ := HG5.out.cells
      have HG7 := hid (HG5.out.set0 (.int .i64 Y))
      have HR7 := hid (HR5.out.other (show w.heap.size ≠ g by omega) (i := 0) (.int .i64 Y))
      have HU7 := hid (HU5.out.belowB (B := g) hCg ((Below.refl _ _).setCell (p := ⟨g, 0, none⟩) (Nat.le_refl _) (.int .i64 Y)))
      have HE7 := hid (HE5.out.ofBelow ((Below.refl _ _).setCell (p := ⟨g, 0, none⟩) (by show w.heap.size ≤ g; omega) (.int .i64 Y)))
      have hs7 : g + 1 ≤ (w5.setCell ⟨g, 0, none⟩ (.int .i64 Y)).heap.size := by simpa [World.setCell] using hs5
      clear HE5 HR5 HU5 hs5
      go_wp2_with fail
      refine (below_any w0 ao n cap C zs 30 _ HC.out HU7.out).mono ?_
      rintro e w6 ⟨y, rfl, ⟨hy0, hy1⟩, hc6, he6⟩
      have hy2 : y < 30 := by omega
      have HE6 := hid (HE7.out.trans he6)
      have HU6 := hid hc6
      have HR6 := hid (he6.two HR7.out (by omega))
      have HG6 := hid (he6.two HG7.out (by omega))
      have hs6 : g + 1 ≤ w6.heap.size := Nat.le_trans hs7 he6.size
      clear hc6 he6 hy1 HE7 HU7 HR7 HG7 hs7
      go_wp2_with fail
      go_loopw [5] (fun iv wr => ∃ (i : Nat) (v : Value) (xs : List Int), i ≤ 63 ∧ iv = .int .i64 i ∧ Hid (xs.length = i) ∧ Hid (∀ z ∈ xs, inC z = true) ∧ Hid (Two wr g (.int .i64 Y) v 28) ∧ Hid (Two wr w.heap.size (.int .i64 0) (.slice none 0 0) 28) ∧ Hid (Own wr (g + 1) 3 .i64 v xs) ∧ Hid (Cur w0 ao n cap C wr) ∧ Hid (Eff C w wr)) (fun iv _ => 63 - (intOf iv).toNat)
      case atStart => exact ⟨0, .slice none 0 0, [], by omega, rfl, rfl, fun z hz => by simp at hz, HG6.out, HR6.out, Own.nil _ _ _ _ hs6, HU6.out, HE6.out⟩
      case round =>
        obtain ⟨i, v, xs, hi, rfl, hxl, hxc, TGr, TRr, HOr, HCr, HEr⟩ := hrel
        clear HG6 HR6 HU6 HE6
        by_cases hlt : i < 63
        · have hlt' : (i : Int) < 63 := by omega
          have hy3 : ¬ (1 + y = 0) := by omega
          go_wp2_with fail
          go_cut [32] from 24 to 32 (fun s wx => (∃ b : Bool, s = .bool b) ∧ Cur w0 ao n cap C wx ∧ Eff C wr wx)
          case first =>
            go_region_with (first
              | (go_at_call 27; refine (below_any w0 ao n cap C zs 6 _ HC.out ?_).mono ?_; · first | exact HCr.out | exact HCr.out.below (Below.refl _ _).drew | exact HCr.out.below (Below.refl _ _).drew.drew
                 rintro e w7 ⟨z, rfl, ⟨hz0, hz1⟩, hc7, he7⟩
                 have hE7 : Eff C wr w7 := by first | exact he7 | exact Eff.trans (Eff.refl C wr).drew he7 | exact Eff.trans (Eff.refl C wr).drew.drew he7)
              | (go_at_call 44; refine (once_any w0 ao n cap C zs _ _ HC.out ?_).mono ?_; · first | exact hc7 | exact hc7.below (Below.refl _ _).drew
                 rintro e w9 ⟨b9, rfl, hc9, he9⟩
                 have hE9 : Eff C wr w9 := by first | exact hE7.trans he9 | exact hE7.trans (Eff.trans (Eff.refl C w7).drew he9)))
            all_goals
              go_wp2_with fail
              go_meet
              first | exact ⟨⟨_, rfl⟩, hc9, hE9⟩ | exact ⟨⟨_, rfl⟩, hc9.below (Below.refl _ _).drew, hE9.drew⟩
          case rest =>
            obtain ⟨⟨b9, rfl⟩, hc9, he9⟩ := hcut
            have TG9 := hid (he9.two TGr.out (by omega))
            have TR9 := hid (he9.two TRr.out (by omega))
            have HO9 := hid (Eff.own HOr.out he9 (by omega))
            have HC9 := hid hc9
            have HE9 := hid (HEr.out.trans he9)
            have hs9 : g + 1 ≤ wc.heap.size := HO9.out.1
            clear hc9 he9 TGr TRr HOr HCr HEr
            cases b9 with
            | false =>
              have hol := hid (hxl.out)
              have hol2 : xs.length < 1000000000000 := by rw [hol.out]; omega
              obtain ⟨q1, q2, q3, q4⟩ := TG9.out.cells
              go_wp2_with (at_builtin; refine wpList_push _ rfl _ _ 26 rfl _ 3 .i64 0 8 Tryd.underlying26 Tryd.info3 _ _ rfl HO9.out 0 rfl hol2 (by decide) ?_)
              intro v8 w8 ho8 hb8
              have TG8 := hid (TG9.out.below hb8 (by omega))
              have TR8 := hid (TR9.out.below hb8 (by omega))
              have HO8 := hid ho8
              have HC8 := hid (HC9.out.belowB (by omega) hb8)
              have HE8 := hid (HE9.out.ofBelow (hb8.mono (by omega)))
              clear ho8 hb8 q1 q2 q3 q4
              obtain ⟨q1, q2, q3, q4⟩ := TG8.out.cells
              obtain ⟨so8, sc8, hs8⟩ := HO8.out.shape
              subst hs8
              rw [show (xs ++ [(0 : Int)]).length = xs.length + 1 by simp] at HO8
              go_wp2_with fail
              go_roundw
              case rel =>
                refine ⟨i + 1, _, xs ++ [0], by omega, by go_num, by show _ = _; rw [List.length_append, hol.out]; rfl, ?_, TG8.out.set1 _, TR8.out.other (by omega) _, HO8.out.setCell_below (a := ⟨g, 1, none⟩) (by show g < g + 1; omega) _, HC8.out.belowB (B := g) hCg ((Below.refl _ _).setCell (p := ⟨g, 1, none⟩) (Nat.le_refl _) _), HE8.out.ofBelow ((Below.refl _ _).setCell (p := ⟨g, 1, none⟩) (by show w.heap.size ≤ g; omega) _)⟩
                intro z hz
                rw [List.mem_append] at hz
                rcases hz with hz | hz
                · exact hxc.out z hz
                · have hz2 : z = 0 := by simpa using hz
                  rw [hz2]
                  simp [inC] <;> omega
              case measure => simp [intOf]; omega
            | true =>
              go_wp2_with fail
              refine (below_any w0 ao n cap C zs 9 _ HC.out HC9.out).mono ?_
              rintro e w10 ⟨x10, rfl, ⟨hx10, hx11⟩, hc10, he10⟩
              have hx12 : x10 < 9 := by omega
              have TG10 := hid (he10.two TG9.out (by omega))
              have TR10 := hid (he10.two TR9.out (by omega))
              have HO10 := hid (Eff.own HO9.out he10 (by omega))
              have HC10 := hid hc10
              have HE10 := hid (HE9.out.trans he10)
              clear hc10 he10 TG9 TR9 HO9 HC9 HE9 hx11
              go_wp2_with fail
              refine (once_any w0 ao n cap C zs 10 _ HC.out HC10.out).mono ?_
              rintro e w11 ⟨b11, rfl, hc11, he11⟩
              have TG11 := hid (he11.two TG10.out (by omega))
              have TR11 := hid (he11.two TR10.out (by omega))
              have HO11 := hid (Eff.own HO10.out he11 (by omega))
              have HC11 := hid hc11
              have HE11 := hid (HE10.out.trans he11)
              have hs11 : g + 1 ≤ w11.heap.size := HO11.out.1
              clear hc11 he11 TG10 TR10 HO10 HC10 HE10
              cases b11 with
              | false =>
                have hol := hid (hxl.out)
                have hol2 : xs.length < 1000000000000 := by rw [hol.out]; omega
                obtain ⟨q1, q2, q3, q4⟩ := TG11.out.cells
                go_wp2_with (at_builtin; refine wpList_push _ rfl _ _ 26 rfl _ 3 .i64 0 8 Tryd.underlying26 Tryd.info3 _ _ rfl HO11.out (x10 - 4) rfl hol2 (by decide) ?_)
                intro v8 w8 ho8 hb8
                have TG8 := hid (TG11.out.below hb8 (by omega))
                have TR8 := hid (TR11.out.below hb8 (by omega))
                have HO8 := hid ho8
                have HC8 := hid (HC11.out.belowB (by omega) hb8)
                have HE8 := hid (HE11.out.ofBelow (hb8.mono (by omega)))
                clear ho8 hb8 q1 q2 q3 q4
                obtain ⟨q1, q2, q3, q4⟩ := TG8.out.cells
                obtain ⟨so8, sc8, hs8⟩ := HO8.out.shape
                subst hs8
                rw [show (xs ++ [((x10 - 4) : Int)]).length = xs.length + 1 by simp] at HO8
                go_wp2_with fail
                go_roundw
                case rel =>
                  refine ⟨i + 1, _, xs ++ [(x10 - 4)], by omega, by go_num, by show _ = _; rw [List.length_append, hol.out]; rfl, ?_, TG8.out.set1 _, TR8.out.other (by omega) _, HO8.out.setCell_below (a := ⟨g, 1, none⟩) (by show g < g + 1; omega) _, HC8.out.belowB (B := g) hCg ((Below.refl _ _).setCell (p := ⟨g, 1, none⟩) (Nat.le_refl _) _), HE8.out.ofBelow ((Below.refl _ _).setCell (p := ⟨g, 1, none⟩) (by show w.heap.size ≤ g; omega) _)⟩
                  intro z hz
                  rw [List.mem_append] at hz
                  rcases hz with hz | hz
                  · exact hxc.out z hz
                  · have hz2 : z = (x10 - 4) := by simpa using hz
                    rw [hz2]
                    simp [inC] <;> omega
                case measure => simp [intOf]; omega
              | true =>
                go_wp2_with fail
                refine (below_any w0 ao n cap C zs 2047 _ HC.out HC11.out).mono ?_
                rintro e w12 ⟨x13, rfl, ⟨hx13, hx14⟩, hc12, he12⟩
                have hx15 : x13 < 2047 := by omega
                have TG12 := hid (he12.two TG11.out (by omega))
                have TR12 := hid (he12.two TR11.out (by omega))
                have HO12 := hid (Eff.own HO11.out he12 (by omega))
                have HC12 := hid hc12
                have HE12 := hid (HE11.out.trans he12)
                clear hc12 he12 TG11 TR11 HO11 HC11 HE11 hx14
                have hol := hid (hxl.out)
                have hol2 : xs.length < 1000000000000 := by rw [hol.out]; omega
                obtain ⟨q1, q2, q3, q4⟩ := TG12.out.cells
                go_wp2_with (at_builtin; refine wpList_push _ rfl _ _ 26 rfl _ 3 .i64 0 8 Tryd.underlying26 Tryd.info3 _ _ rfl HO12.out (x13 - 1023) rfl hol2 (by decide) ?_)
                intro v8 w8 ho8 hb8
                have TG8 := hid (TG12.out.below hb8 (by omega))
                have TR8 := hid (TR12.out.below hb8 (by omega))
                have HO8 := hid ho8
                have HC8 := hid (HC12.out.belowB (by omega) hb8)
                have HE8 := hid (HE12.out.ofBelow (hb8.mono (by omega)))
                clear ho8 hb8 q1 q2 q3 q4
                obtain ⟨q1, q2, q3, q4⟩ := TG8.out.cells
                obtain ⟨so8, sc8, hs8⟩ := HO8.out.shape
                subst hs8
                rw [show (xs ++ [((x13 - 1023) : Int)]).length = xs.length + 1 by simp] at HO8
                go_wp2_with fail
                go_roundw
                case rel =>
                  refine ⟨i + 1, _, xs ++ [(x13 - 1023)], by omega, by go_num, by show _ = _; rw [List.length_append, hol.out]; rfl, ?_, TG8.out.set1 _, TR8.out.other (by omega) _, HO8.out.setCell_below (a := ⟨g, 1, none⟩) (by show g < g + 1; omega) _, HC8.out.belowB (B := g) hCg ((Below.refl _ _).setCell (p := ⟨g, 1, none⟩) (Nat.le_refl _) _), HE8.out.ofBelow ((Below.refl _ _).setCell (p := ⟨g, 1, none⟩) (by show w.heap.size ≤ g; omega) _)⟩
                  intro z hz
                  rw [List.mem_append] at hz
                  rcases hz with hz | hz
                  · exact hxc.out z hz
                  · have hz2 : z = (x13 - 1023) := by simpa using hz
                    rw [hz2]
                    simp [inC] <;> omega
                case measure => simp [intOf]; omega
        · obtain rfl : i = 63 := by omega
          have HBL := hid (show blkOk (Y) xs = true by
            unfold blkOk
            rw [decide_eq_true hxl.out, coefTo_all xs hxc.out 63 (by rw [hxl.out]; omega), show inC (Y) = true by simp [inC]; omega]
            rfl)
          obtain ⟨q1, q2, q3, q4⟩ := TGr.out.cells
          obtain ⟨q5, q6, q7, q8⟩ := TRr.out.cells
          obtain ⟨so, sc', hsv⟩ := HOr.out.shape
          subst hsv
          have hgR : g ≠ w.heap.size := by omega
          go_wp2_with fail
          refine bodyPost_ret (v := .agg #[.int .i64 (Y), .slice so xs.length sc']) (by simp [results, Tryd.results43, go_sem, q5, q6]) rfl ⟨_, rfl, ⟨_, xs, HBL.out, _, rfl, ?_⟩, ?_, ?_⟩
          · exact ((HOr.out.setCell_below (a := ⟨w.heap.size, 0, none⟩) (by show w.heap.size < g + 1; omega) _).setCell_below (a := ⟨w.heap.size, 1, none⟩) (by show w.heap.size < g + 1; omega) _).mono (by omega)
          · exact (HCr.out.belowB (B := w.heap.size) hClt ((Below.refl _ _).setCell (p := ⟨w.heap.size, 0, none⟩) (Nat.le_refl _) _)).belowB (B := w.heap.size) hClt ((Below.refl _ _).setCell (p := ⟨w.heap.size, 1, none⟩) (Nat.le_refl _) _)
          · exact (HEr.out.ofBelow ((Below.refl _ _).setCell (p := ⟨w.heap.size, 0, none⟩) (Nat.le_refl _) _)).ofBelow ((Below.refl _ _).setCell (p := ⟨w.heap.size, 1, none⟩) (Nat.le_refl _) _)
  | false =>
    have dd0 : -1023 ≤ x - 100 := by omega
    have dd1 : x - 100 ≤ 1023 := by omega
    go_wp2_with fail
    refine (below_any w0 ao n cap C zs 30 _ HC.out HU4.out).mono ?_
    rintro e w6 ⟨y, rfl, ⟨hy0, hy1⟩, hc6, he6⟩
    have hy2 : y < 30 := by omega
    have HE6 := hid (HE4.out.trans he6)
    have HU6 := hid hc6
    have HR6 := hid (he6.two HR4.out (by omega))
    have HG6 := hid (he6.two HG4.out (by omega))
    have hs6 : g + 1 ≤ w6.heap.size := Nat.le_trans hs4 he6.size
    clear hc6 he6 hy1 HE4 HU4 HR4 HG4 hs4
    go_wp2_with fail
    go_loopw [5] (fun iv wr => ∃ (i : Nat) (v : Value) (xs : List Int), i ≤ 63 ∧ iv = .int .i64 i ∧ Hid (xs.length = i) ∧ Hid (∀ z ∈ xs, inC z = true) ∧ Hid (Two wr g (.int .i64 (x - 100)) v 28) ∧ Hid (Two wr w.heap.size (.int .i64 0) (.slice none 0 0) 28) ∧ Hid (Own wr (g + 1) 3 .i64 v xs) ∧ Hid (Cur w0 ao n cap C wr) ∧ Hid (Eff C w wr)) (fun iv _ => 63 - (intOf iv).toNat)
    case atStart => exact ⟨0, .slice none 0 0, [], by omega, rfl, rfl, fun z hz => by simp at hz, HG6.out, HR6.out, Own.nil _ _ _ _ hs6, HU6.out, HE6.out⟩
    case round =>
      obtain ⟨i, v, xs, hi, rfl, hxl, hxc, TGr, TRr, HOr, HCr, HEr⟩ := hrel
      clear HG6 HR6 HU6 HE6
      by_cases hlt : i < 63
      · have hlt' : (i : Int) < 63 := by omega
        have hy3 : ¬ (1 + y = 0) := by omega
        go_wp2_with fail
        go_cut [32] from 24 to 32 (fun s wx => (∃ b : Bool, s = .bool b) ∧ Cur w0 ao n cap C wx ∧ Eff C wr wx)
        case first =>
          go_region_with (first
            | (go_at_call 27; refine (below_any w0 ao n cap C zs 6 _ HC.out ?_).mono ?_; · first | exact HCr.out | exact HCr.out.below (Below.refl _ _).drew | exact HCr.out.below (Below.refl _ _).drew.drew
               rintro e w7 ⟨z, rfl, ⟨hz0, hz1⟩, hc7, he7⟩
               have hE7 : Eff C wr w7 := by first | exact he7 | exact Eff.trans (Eff.refl C wr).drew he7 | exact Eff.trans (Eff.refl C wr).drew.drew he7)
            | (go_at_call 44; refine (once_any w0 ao n cap C zs _ _ HC.out ?_).mono ?_; · first | exact hc7 | exact hc7.below (Below.refl _ _).drew
               rintro e w9 ⟨b9, rfl, hc9, he9⟩
               have hE9 : Eff C wr w9 := by first | exact hE7.trans he9 | exact hE7.trans (Eff.trans (Eff.refl C w7).drew he9)))
          all_goals
            go_wp2_with fail
            go_meet
            first | exact ⟨⟨_, rfl⟩, hc9, hE9⟩ | exact ⟨⟨_, rfl⟩, hc9.below (Below.refl _ _).drew, hE9.drew⟩
        case rest =>
          obtain ⟨⟨b9, rfl⟩, hc9, he9⟩ := hcut
          have TG9 := hid (he9.two TGr.out (by omega))
          have TR9 := hid (he9.two TRr.out (by omega))
          have HO9 := hid (Eff.own HOr.out he9 (by omega))
          have HC9 := hid hc9
          have HE9 := hid (HEr.out.trans he9)
          have hs9 : g + 1 ≤ wc.heap.size := HO9.out.1
          clear hc9 he9 TGr TRr HOr HCr HEr
          cases b9 with
          | false =>
            have hol := hid (hxl.out)
            have hol2 : xs.length < 1000000000000 := by rw [hol.out]; omega
            obtain ⟨q1, q2, q3, q4⟩ := TG9.out.cells
            go_wp2_with (at_builtin; refine wpList_push _ rfl _ _ 26 rfl _ 3 .i64 0 8 Tryd.underlying26 Tryd.info3 _ _ rfl HO9.out 0 rfl hol2 (by decide) ?_)
            intro v8 w8 ho8 hb8
            have TG8 := hid (TG9.out.below hb8 (by omega))
            have TR8 := hid (TR9.out.below hb8 (by omega))
            have HO8 := hid ho8
            have HC8 := hid (HC9.out.belowB (by omega) hb8)
            have HE8 := hid (HE9.out.ofBelow (hb8.mono (by omega)))
            clear ho8 hb8 q1 q2 q3 q4
            obtain ⟨q1, q2, q3, q4⟩ := TG8.out.cells
            obtain ⟨so8, sc8, hs8⟩ := HO8.out.shape
            subst hs8
            rw [show (xs ++ [(0 : Int)]).length = xs.length + 1 by simp] at HO8
            go_wp2_with fail
            go_roundw
            case rel =>
              refine ⟨i + 1, _, xs ++ [0], by omega, by go_num, by show _ = _; rw [List.length_append, hol.out]; rfl, ?_, TG8.out.set1 _, TR8.out.other (by omega) _, HO8.out.setCell_below (a := ⟨g, 1, none⟩) (by show g < g + 1; omega) _, HC8.out.belowB (B := g) hCg ((Below.refl _ _).setCell (p := ⟨g, 1, none⟩) (Nat.le_refl _) _), HE8.out.ofBelow ((Below.refl _ _).setCell (p := ⟨g, 1, none⟩) (by show w.heap.size ≤ g; omega) _)⟩
              intro z hz
              rw [List.mem_append] at hz
              rcases hz with hz | hz
              · exact hxc.out z hz
              · have hz2 : z = 0 := by simpa using hz
                rw [hz2]
                simp [inC] <;> omega
            case measure => simp [intOf]; omega
          | true =>
            go_wp2_with fail
            refine (below_any w0 ao n cap C zs 9 _ HC.out HC9.out).mono ?_
            rintro e w10 ⟨x10, rfl, ⟨hx10, hx11⟩, hc10, he10⟩
            have hx12 : x10 < 9 := by omega
            have TG10 := hid (he10.two TG9.out (by omega))
            have TR10 := hid (he10.two TR9.out (by omega))
            have HO10 := hid (Eff.own HO9.out he10 (by omega))
            have HC10 := hid hc10
            have HE10 := hid (HE9.out.trans he10)
            clear hc10 he10 TG9 TR9 HO9 HC9 HE9 hx11
            go_wp2_with fail
            refine (once_any w0 ao n cap C zs 10 _ HC.out HC10.out).mono ?_
            rintro e w11 ⟨b11, rfl, hc11, he11⟩
            have TG11 := hid (he11.two TG10.out (by omega))
            have TR11 := hid (he11.two TR10.out (by omega))
            have HO11 := hid (Eff.own HO10.out he11 (by omega))
            have HC11 := hid hc11
            have HE11 := hid (HE10.out.trans he11)
            have hs11 : g + 1 ≤ w11.heap.size := HO11.out.1
            clear hc11 he11 TG10 TR10 HO10 HC10 HE10
            cases b11 with
            | false =>
              have hol := hid (hxl.out)
              have hol2 : xs.length < 1000000000000 := by rw [hol.out]; omega
              obtain ⟨q1, q2, q3, q4⟩ := TG11.out.cells
              go_wp2_with (at_builtin; refine wpList_push _ rfl _ _ 26 rfl _ 3 .i64 0 8 Tryd.underlying26 Tryd.info3 _ _ rfl HO11.out (x10 - 4) rfl hol2 (by decide) ?_)
              intro v8 w8 ho8 hb8
              have TG8 := hid (TG11.out.below hb8 (by omega))
              have TR8 := hid (TR11.out.below hb8 (by omega))
              have HO8 := hid ho8
              have HC8 := hid (HC11.out.belowB (by omega) hb8)
              have HE8 := hid (HE11.out.ofBelow (hb8.mono (by omega)))
              clear ho8 hb8 q1 q2 q3 q4
              obtain ⟨q1, q2, q3, q4⟩ := TG8.out.cells
              obtain ⟨so8, sc8, hs8⟩ := HO8.out.shape
              subst hs8
              rw [show (xs ++ [((x10 - 4) : Int)]).length = xs.length + 1 by simp] at HO8
              go_wp2_with fail
              go_roundw
              case rel =>
                refine ⟨i + 1, _, xs ++ [(x10 - 4)], by omega, by go_num, by show _ = _; rw [List.length_append, hol.out]; rfl, ?_, TG8.out.set1 _, TR8.out.other (by omega) _, HO8.out.setCell_below (a := ⟨g, 1, none⟩) (by show g < g + 1; omega) _, HC8.out.belowB (B := g) hCg ((Below.refl _ _).setCell (p := ⟨g, 1, none⟩) (Nat.le_refl _) _), HE8.out.ofBelow ((Below.refl _ _).setCell (p := ⟨g, 1, none⟩) (by show w.heap.size ≤ g; omega) _)⟩
                intro z hz
                rw [List.mem_append] at hz
                rcases hz with hz | hz
                · exact hxc.out z hz
                · have hz2 : z = (x10 - 4) := by simpa using hz
                  rw [hz2]
                  simp [inC] <;> omega
              case measure => simp [intOf]; omega
            | true =>
              go_wp2_with fail
              refine (below_any w0 ao n cap C zs 2047 _ HC.out HC11.out).mono ?_
              rintro e w12 ⟨x13, rfl, ⟨hx13, hx14⟩, hc12, he12⟩
              have hx15 : x13 < 2047 := by omega
              have TG12 := hid (he12.two TG11.out (by omega))
              have TR12 := hid (he12.two TR11.out (by omega))
              have HO12 := hid (Eff.own HO11.out he12 (by omega))
              have HC12 := hid hc12
              have HE12 := hid (HE11.out.trans he12)
              clear hc12 he12 TG11 TR11 HO11 HC11 HE11 hx14
              have hol := hid (hxl.out)
              have hol2 : xs.length < 1000000000000 := by rw [hol.out]; omega
              obtain ⟨q1, q2, q3, q4⟩ := TG12.out.cells
              go_wp2_with (at_builtin; refine wpList_push _ rfl _ _ 26 rfl _ 3 .i64 0 8 Tryd.underlying26 Tryd.info3 _ _ rfl HO12.out (x13 - 1023) rfl hol2 (by decide) ?_)
              intro v8 w8 ho8 hb8
              have TG8 := hid (TG12.out.below hb8 (by omega))
              have TR8 := hid (TR12.out.below hb8 (by omega))
              have HO8 := hid ho8
              have HC8 := hid (HC12.out.belowB (by omega) hb8)
              have HE8 := hid (HE12.out.ofBelow (hb8.mono (by omega)))
              clear ho8 hb8 q1 q2 q3 q4
              obtain ⟨q1, q2, q3, q4⟩ := TG8.out.cells
              obtain ⟨so8, sc8, hs8⟩ := HO8.out.shape
              subst hs8
              rw [show (xs ++ [((x13 - 1023) : Int)]).length = xs.length + 1 by simp] at HO8
              go_wp2_with fail
              go_roundw
              case rel =>
                refine ⟨i + 1, _, xs ++ [(x13 - 1023)], by omega, by go_num, by show _ = _; rw [List.length_append, hol.out]; rfl, ?_, TG8.out.set1 _, TR8.out.other (by omega) _, HO8.out.setCell_below (a := ⟨g, 1, none⟩) (by show g < g + 1; omega) _, HC8.out.belowB (B := g) hCg ((Below.refl _ _).setCell (p := ⟨g, 1, none⟩) (Nat.le_refl _) _), HE8.out.ofBelow ((Below.refl _ _).setCell (p := ⟨g, 1, none⟩) (by show w.heap.size ≤ g; omega) _)⟩
                intro z hz
                rw [List.mem_append] at hz
                rcases hz with hz | hz
                · exact hxc.out z hz
                · have hz2 : z = (x13 - 1023) := by simpa using hz
                  rw [hz2]
                  simp [inC] <;> omega
              case measure => simp [intOf]; omega
      · obtain rfl : i = 63 := by omega
        have HBL := hid (show blkOk ((x - 100)) xs = true by
          unfold blkOk
          rw [decide_eq_true hxl.out, coefTo_all xs hxc.out 63 (by rw [hxl.out]; omega), show inC ((x - 100)) = true by simp [inC]; omega]
          rfl)
        obtain ⟨q1, q2, q3, q4⟩ := TGr.out.cells
        obtain ⟨q5, q6, q7, q8⟩ := TRr.out.cells
        obtain ⟨so, sc', hsv⟩ := HOr.out.shape
        subst hsv
        have hgR : g ≠ w.heap.size := by omega
        go_wp2_with fail
        refine bodyPost_ret (v := .agg #[.int .i64 ((x - 100)), .slice so xs.length sc']) (by simp [results, Tryd.results43, go_sem, q5, q6]) rfl ⟨_, rfl, ⟨_, xs, HBL.out, _, rfl, ?_⟩, ?_, ?_⟩
        · exact ((HOr.out.setCell_below (a := ⟨w.heap.size, 0, none⟩) (by show w.heap.size < g + 1; omega) _).setCell_below (a := ⟨w.heap.size, 1, none⟩) (by show w.heap.size < g + 1; omega) _).mono (by omega)
        · exact (HCr.out.belowB (B := w.heap.size) hClt ((Below.refl _ _).setCell (p := ⟨w.heap.size, 0, none⟩) (Nat.le_refl _) _)).belowB (B := w.heap.size) hClt ((Below.refl _ _).setCell (p := ⟨w.heap.size, 1, none⟩) (Nat.le_refl _) _)
        · exact (HEr.out.ofBelow ((Below.refl _ _).setCell (p := ⟨w.heap.size, 0, none⟩) (Nat.le_refl _) _)).ofBelow ((Below.refl _ _).setCell (p := ⟨w.heap.size, 1, none⟩) (Nat.le_refl _) _)
end Go.Proofs.YtcodmkampihphaaDoor
