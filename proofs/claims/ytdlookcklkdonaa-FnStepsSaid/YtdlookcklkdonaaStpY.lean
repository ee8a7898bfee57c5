/- The drawing of steps for FromSteps. -/
import Derived.Test.YtdlookcklkdonaaStpX
namespace Go.Proofs.Ytdlookcklkdonaa
open Go.RowKit
set_option linter.unusedVariables false

theorem lens_set (S : List (Int × Int × List Int)) (i : Nat) (s : Int × Int × List Int) (hs : s.2.2.length ≤ 1048576) (h : S.length ≤ 63 ∧ ∀ j, j < S.length → (nthS S j).2.2.length ≤ 1048576) : (S.set i s).length ≤ 64 ∧ ∀ j, j < (S.set i s).length → (nthS (S.set i s) j).2.2.length ≤ 1048576 := by
  refine ⟨by simp; omega, fun j hj => ?_⟩
  have hj' : j < S.length := by simpa using hj
  rw [nthS_set S i j s hj']
  split
  · exact hs
  · exact h.2 j hj'

theorem ret_len {a : Value} {lo : Option Addr} {n m lc : Nat} (h : n = m) : Ending.returned (.tuple #[a, .slice lo n lc]) = .returned (.tuple #[a, .slice lo m lc]) := by rw [h]

set_option maxRecDepth 100000 in
set_option maxHeartbeats 1600000 in
theorem draw_fromSteps (ao : Option Addr) (n cap : Nat) (zs : List Int) (w : World) (hcode : Code w ao n zs) : Calls Try.prog 20 #[.slice ao n cap] w (DrawnS w) := by
  have HC := hid hcode
  clear hcode
  go_enter Try.func20, Try.ntmps20
  go_wp2_with fail
  refine (new_any ao n cap zs w HC.out).mono ?_
  rintro e w1 ⟨C, rfl, hc1, hb1⟩
  have HC1 := hid hc1
  have B1 := hid hb1
  have hCw := hc1.1
  clear hc1 hb1
  go_wp2_with fail
  refine (block_any w ao n cap C zs w1 HC.out HC1.out).mono ?_
  rintro e w2 ⟨v2, rfl, ⟨d, xs, hok, va, rfl, ho2⟩, hc2, he2⟩
  obtain ⟨ya, yc, rfl⟩ := ho2.shape
  have B2 := hid (B1.out.trans ((he2.below (Nat.le_of_lt HC1.out.lt)).mono hCw))
  have HC2 := hid hc2
  have HO2 := hid ho2
  have HOK := hid hok
  have hbl : xs.length ≤ 1048576 := by rw [blkOk_len hok]; decide
  clear hc2 he2 ho2 hok
  have hA2 := (Below.refl w2.heap.size w2).alloc (Nat.le_refl _) (.cells #[.int .i64 d, .slice ya xs.length yc] 38)
  have HC3 := hid (HC2.out.below hA2)
  have B3 := hid (B2.out.trans (hA2.mono B2.out.size))
  have HT3 := hid (Two.new w2 (.int .i64 d) (.slice ya xs.length yc) 38)
  have HO3 := hid (HO2.out.below hA2)
  have hs3 : (w2.alloc (.cells #[.int .i64 d, .slice ya xs.length yc] 38)).heap.size = w2.heap.size + 1 := by simp
  have hCw2 : C < w2.heap.size := HC2.out.lt
  have hww2 : w.heap.size ≤ w2.heap.size := B2.out.size
  clear hA2 HC2 B2 HO2 HC1 B1
  go_wp2_with fail
  generalize w2.alloc (.cells #[.int .i64 d, .slice ya xs.length yc] 38) = w3 at *
  obtain ⟨q1, q2, q3, q4⟩ := HT3.out.cells
  obtain ⟨b5, hb5⟩ : ∃ b5, b5 = w2.heap.size := ⟨_, rfl⟩
  rw [← hb5] at HT3 hs3 hCw2 hww2 q1 q2 q3 q4 ⊢
  clear hb5
  refine (spec_steps (.agg #[.int .i64 d, .slice ya xs.length yc]) d xs w3 hbl (BOwn.bv ⟨_, rfl, HO3.out⟩)).mono ?_
  rintro e w4 ⟨v4, rfl, ⟨vs, hot⟩, hb4⟩
  obtain ⟨lo, lc, rfl⟩ := hot.shape
  have HF := hid (stepsR_fine d xs HOK.out)
  have HT4 := hid (HT3.out.below hb4 HT3.out.lt)
  have HC4 := hid (HC3.out.below hb4)
  have B4 := hid (B3.out.trans (hb4.mono B3.out.size))
  have HOT := hid hot
  clear hot hb4 HT3 HC3 B3 HO3 q1 q2 q3 q4 hbl HOK
  generalize stepsR d xs = S at *
  have hlen := HF.out.1
  have HLL0 := hid (show S.length ≤ 63 ∧ ∀ j, j < S.length → (nthS S j).2.2.length ≤ 1048576 from ⟨hlen, fun j hj => Nat.le_trans (HF.out.2 j hj).2 (by decide)⟩)
  have hCb : C < w3.heap.size := by omega
  by_cases h0 : S.length = 0
  · have h0' : ¬ (0 : Int) < (S.length : Int) := by omega
    have HSB := hid HOT.out.srowB
    have HCx := hid HC4.out
    have HTx := hid HT4.out
    have HBx := hid B4.out
    have HLL := hid (show S.length ≤ 64 ∧ ∀ j, j < S.length → (nthS S j).2.2.length ≤ 1048576 from ⟨by omega, HLL0.out.2⟩)
    clear h0
    go_wp2_with fail
    refine (once_any w ao n cap C zs 15 _ HC.out HCx.out).mono ?_
    rintro e w9 ⟨b9, rfl, hc9, he9⟩
    have HS9 := hid (HSB.out.keep (he9.keep hCb))
    have HT9 := hid (he9.two HTx.out (by omega))
    have HB9 := hid (HBx.out.trans ((he9.below (Nat.le_of_lt HCx.out.lt)).mono hCw))
    clear hc9 he9
    obtain ⟨q1, q2, q3, q4⟩ := HT9.out.cells
    cases b9 with
    | false =>
      go_wp2_with fail
      go_ret2
      exact ⟨_, _, _, S, rfl, ⟨HS9.out.srow, HLL.out.1, HLL.out.2⟩, HB9.out⟩
    | true =>
      have HS10 := hid (HS9.out.keep (w' := w9.setCell ⟨b5, 0, none⟩ (.int .i64 1024)) (fun g hg _ => heap_setCell_other _ ⟨b5, 0, none⟩ g _ (fun e => by have e' : g = b5 := e; omega)))
      have HT10 := hid (HT9.out.set0 (.int .i64 1024))
      obtain ⟨r1, r2, r3, r4⟩ := HT10.out.cells
      go_wp2_with fail
      go_ret2
      exact ⟨_, _, _, S, rfl, ⟨HS10.out.srow, HLL.out.1, HLL.out.2⟩, HB9.out.setCell (p := ⟨b5, 0, none⟩) (by show w.heap.size ≤ b5; omega) _⟩
  · have h0' : (0 : Int) < (S.length : Int) := by omega
    obtain ⟨g, rfl⟩ : ∃ g, lo = some ⟨g, 0, none⟩ := by
      rcases HOT.out.2.2.1.2 with ⟨_, h⟩ | ⟨g, cap, cur, h, _⟩
      · omega
      · cases h; exact ⟨g, rfl⟩
    go_wp2_with fail
    refine (below_any w ao n cap C zs S.length w4 HC.out HC4.out).mono ?_
    rintro e w5 ⟨x, rfl, ⟨hx0, hx1⟩, hc5, he5⟩
    obtain ⟨i, rfl⟩ := Int.eq_ofNat_of_zero_le hx0
    have hi : i < S.length := by omega
    have HO5 := hid (HOT.out.keep he5.size (he5.keep hCb))
    have HT5 := hid (he5.two HT4.out (by omega))
    have B5 := hid (B4.out.trans ((he5.below (Nat.le_of_lt HC4.out.lt)).mono hCw))
    have HC5 := hid hc5
    clear hc5 he5 HOT HT4 B4 HC4 hx0 hx1 h0
    go_wp2_with fail
    refine (below_any w ao n cap C zs 9 w5 HC.out HC5.out).mono ?_
    rintro e w6 ⟨y, rfl, ⟨hy0, hy1⟩, hc6, he6⟩
    have HO6 := hid (HO5.out.keep he6.size (he6.keep hCb))
    have HT6 := hid (he6.two HT5.out (by omega))
    have B6 := hid (B5.out.trans ((he6.below (Nat.le_of_lt HC5.out.lt)).mono hCw))
    have HC6 := hid hc6
    clear hc6 he6 HO5 HT5 B5 HC5
    have hi' : (i : Int) < (S.length : Int) := by omega
    obtain ⟨cur, hg, hbg⟩ := HO6.out.row
    have hfz : ∀ m, w6.frozen? ⟨g, m, none⟩ = false := fun m => HO6.out.2.2.1.frozenAt m
    have hCg : C < g := by omega
    have hbb5 : b5 < w3.heap.size := by omega
    have hy2 : y = 0 ∨ y = 1 ∨ y = 2 ∨ y = 3 ∨ y = 4 ∨ 5 ≤ y := by omega
    rcases hy2 with rfl | rfl | rfl | rfl | rfl | hy5
    · have hA := (Below.refl w6.heap.size w6).alloc (Nat.le_refl _) (.cells #[.int .i64 (-1), .int .i64 16, .int .i64 15, .int .i64 0] 3)
      have hsx : (w6.alloc (.cells #[.int .i64 (-1), .int .i64 16, .int .i64 15, .int .i64 0] 3)).heap.size = w6.heap.size + 1 := by simp
      have HCa := hid (HC6.out.below hA)
      have HOa := hid (HO6.out.below hA)
      have HTa := hid (HT6.out.below hA HT6.out.lt)
      have Ba := hid (B6.out.trans (hA.mono B6.out.size))
      clear hg hfz hA
      go_wp2_with fail
      refine (pick_any w ao n cap C zs w6.heap.size 4 _ [-1, 16, 15, 0] _ HC.out HCa.out (by decide) rfl (by decide) (by have := HC6.out.lt; omega) ?_).mono ?_
      · intro j hj
        obtain rfl | rfl | rfl | rfl : j = 0 ∨ j = 1 ∨ j = 2 ∨ j = 3 := by omega
        all_goals simp
      · generalize w6.alloc (.cells #[.int .i64 (-1), .int .i64 16, .int .i64 15, .int .i64 0] 3) = wA at *
        rintro e w7 ⟨j, hj, rfl, hc7, he7⟩
        generalize List.getD _ j (0 : Int) = Y at *
        have HO7 := hid (HOa.out.keep he7.size (he7.keep hCb))
        have HT7 := hid (he7.two HTa.out (by omega))
        have B7 := hid (Ba.out.trans ((he7.below (Nat.le_of_lt HCa.out.lt)).mono hCw))
        have HC7 := hid hc7
        clear hc7 he7 HOa HTa Ba HCa HO6 HT6 B6 HC6
        obtain ⟨b', off', a', c', heq, k0, k1, k2, _⟩ := HO7.out.srow i hi
        cases heq
        have f0 : w7.frozen? ⟨g, i * 3, none⟩ = false := HO7.out.2.2.1.frozenAt _
        rw [Nat.zero_add] at k0
        go_wp2_with fail
        have hadr : w7.setCell ⟨g, i * 3, none⟩ (.int .i64 Y) = w7.setCell ⟨g, i * 3 + 0, none⟩ (.int .i64 Y) := by rw [Nat.add_zero]
        have HSB := hid (HO7.out.put i 0 hi (by decide) (.int .i64 Y) (Y, (nthS S i).2.1, (nthS S i).2.2) (.inl ⟨rfl, rfl⟩) (.inr ⟨by decide, rfl⟩) (.inr ⟨by decide, rfl⟩))
        rw [← hadr] at HSB
        have hbw : Below g w7 (w7.setCell ⟨g, i * 3, none⟩ (.int .i64 Y)) := (Below.refl _ _).setCell (p := ⟨g, i * 3, none⟩) (Nat.le_refl _) _
        have HCx := hid (HC7.out.belowB hCg hbw)
        have HTx := hid (HT7.out.below hbw (by omega))
        have HBx := hid (B7.out.trans (hbw.mono (by omega)))
        have HLL := hid (lens_set S i (Y, (nthS S i).2.1, (nthS S i).2.2) (HLL0.out.2 i hi) HLL0.out)
        clear hbw k0 k1 k2 f0 hadr
        generalize w7.setCell ⟨g, i * 3, none⟩ (.int .i64 Y) = w8 at *
        go_wp2_with fail
        refine (once_any w ao n cap C zs 15 _ HC.out HCx.out).mono ?_
        rintro e w9 ⟨b9, rfl, hc9, he9⟩
        have HS9 := hid (HSB.out.keep (he9.keep hCb))
        have HT9 := hid (he9.two HTx.out (by omega))
        have HB9 := hid (HBx.out.trans ((he9.below (Nat.le_of_lt HCx.out.lt)).mono hCw))
        clear hc9 he9
        obtain ⟨q1, q2, q3, q4⟩ := HT9.out.cells
        cases b9 with
        | false =>
          go_wp2_with fail
          go_ret2
          exact ⟨_, _, _, _, ret_len (List.length_set ..).symm, ⟨HS9.out.srow, HLL.out.1, HLL.out.2⟩, HB9.out⟩
        | true =>
          have HS10 := hid (HS9.out.keep (w' := w9.setCell ⟨b5, 0, none⟩ (.int .i64 1024)) (fun g hg _ => heap_setCell_other _ ⟨b5, 0, none⟩ g _ (fun e => by have e' : g = b5 := e; omega)))
          have HT10 := hid (HT9.out.set0 (.int .i64 1024))
          obtain ⟨r1, r2, r3, r4⟩ := HT10.out.cells
          go_wp2_with fail
          go_ret2
          exact ⟨_, _, _, _, ret_len (List.length_set ..).symm, ⟨HS10.out.srow, HLL.out.1, HLL.out.2⟩, HB9.out.setCell (p := ⟨b5, 0, none⟩) (by show w.heap.size ≤ b5; omega) _⟩
    · go_wp2_with fail
      refine (below_any w ao n cap C zs 13 w6 HC.out HC6.out).mono ?_
      rintro e w7 ⟨Y, rfl, _, hc7, he7⟩
      have HO7 := hid (HO6.out.keep he7.size (he7.keep hCb))
      have HT7 := hid (he7.two HT6.out (by omega))
      have B7 := hid (B6.out.trans ((he7.below (Nat.le_of_lt HC6.out.lt)).mono hCw))
      have HC7 := hid hc7
      clear hc7 he7 HO6 HT6 B6 HC6 hg hfz
      obtain ⟨b', off', a', c', heq, k0, k1, k2, _⟩ := HO7.out.srow i hi
      cases heq
      have f0 : w7.frozen? ⟨g, i * 3 + 1, none⟩ = false := HO7.out.2.2.1.frozenAt _
      rw [Nat.zero_add] at k1
      go_wp2_with fail
      have hadr : w7.setCell ⟨g, i * 3 + 1, none⟩ (.int .i64 Y) = w7.setCell ⟨g, i * 3 + 1, none⟩ (.int .i64 Y) := rfl
      have HSB := hid (HO7.out.put i 1 hi (by decide) (.int .i64 Y) ((nthS S i).1, Y, (nthS S i).2.2) (.inr ⟨by decide, rfl⟩) (.inl ⟨rfl, rfl⟩) (.inr ⟨by decide, rfl⟩))
      rw [← hadr] at HSB
      have hbw : Below g w7 (w7.setCell ⟨g, i * 3 + 1, none⟩ (.int .i64 Y)) := (Below.refl _ _).setCell (p := ⟨g, i * 3 + 1, none⟩) (Nat.le_refl _) _
      have HCx := hid (HC7.out.belowB hCg hbw)
      have HTx := hid (HT7.out.below hbw (by omega))
      have HBx := hid (B7.out.trans (hbw.mono (by omega)))
      have HLL := hid (lens_set S i ((nthS S i).1, Y, (nthS S i).2.2) (HLL0.out.2 i hi) HLL0.out)
      clear hbw k0 k1 k2 f0 hadr
      generalize w7.setCell ⟨g, i * 3 + 1, none⟩ (.int .i64 Y) = w8 at *
      go_wp2_with fail
      refine (once_any w ao n cap C zs 15 _ HC.out HCx.out).mono ?_
      rintro e w9 ⟨b9, rfl, hc9, he9⟩
      have HS9 := hid (HSB.out.keep (he9.keep hCb))
      have HT9 := hid (he9.two HTx.out (by omega))
      have HB9 := hid (HBx.out.trans ((he9.below (Nat.le_of_lt HCx.out.lt)).mono hCw))
      clear hc9 he9
      obtain ⟨q1, q2, q3, q4⟩ := HT9.out.cells
      cases b9 with
      | false =>
        go_wp2_with fail
        go_ret2
        exact ⟨_, _, _, _, ret_len (List.length_set ..).symm, ⟨HS9.out.srow, HLL.out.1, HLL.out.2⟩, HB9.out⟩
      | true =>
        have HS10 := hid (HS9.out.keep (w' := w9.setCell ⟨b5, 0, none⟩ (.int .i64 1024)) (fun g hg _ => heap_setCell_other _ ⟨b5, 0, none⟩ g _ (fun e => by have e' : g = b5 := e; omega)))
        have HT10 := hid (HT9.out.set0 (.int .i64 1024))
        obtain ⟨r1, r2, r3, r4⟩ := HT10.out.cells
        go_wp2_with fail
        go_ret2
        exact ⟨_, _, _, _, ret_len (List.length_set ..).symm, ⟨HS10.out.srow, HLL.out.1, HLL.out.2⟩, HB9.out.setCell (p := ⟨b5, 0, none⟩) (by show w.heap.size ≤ b5; omega) _⟩
    · go_wp2_with (at_builtin; refine wpList_pushS w6 w6.heap.size rfl rfl _ _ 35 rfl w3.heap.size Try.underlying35 Try.info65 _ S vs (by rfl) HO6.out 0 0 none 0 0 [] (Own.nil _ _ _ _ HO6.out.1) (fun _ _ _ _ _ _ _ _ _ h => by cases h) (by rfl) (by omega) ?_)
      intro v7 w7 ho7 hb7
      rw [← hs3] at ho7 hb7
      obtain ⟨lo7, lc7, rfl⟩ := ho7.shape
      have HSB := hid ho7.srowB
      have HCx := hid (HC6.out.belowB hCb hb7)
      have HTx := hid (HT6.out.below hb7 hbb5)
      have HBx := hid (B6.out.trans (hb7.mono (by omega)))
      have HLL := hid (show (S ++ [((0 : Int), (0 : Int), ([] : List Int))]).length ≤ 64 ∧ ∀ j, j < (S ++ [((0 : Int), (0 : Int), ([] : List Int))]).length → (nthS (S ++ [((0 : Int), (0 : Int), ([] : List Int))]) j).2.2.length ≤ 1048576 from ⟨by simp; omega, fun j hj => by
        by_cases e : j < S.length
        · rw [nthS_left S _ j e]; exact HLL0.out.2 j e
        · have : j = S.length := by simp at hj; omega
          subst this
          rw [nthS_last]; decide⟩)
      clear ho7 hb7 hg hfz
      go_wp2_with fail
      refine (once_any w ao n cap C zs 15 _ HC.out HCx.out).mono ?_
      rintro e w9 ⟨b9, rfl, hc9, he9⟩
      have HS9 := hid (HSB.out.keep (he9.keep hCb))
      have HT9 := hid (he9.two HTx.out (by omega))
      have HB9 := hid (HBx.out.trans ((he9.below (Nat.le_of_lt HCx.out.lt)).mono hCw))
      clear hc9 he9
      obtain ⟨q1, q2, q3, q4⟩ := HT9.out.cells
      cases b9 with
      | false =>
        go_wp2_with fail
        go_ret2
        exact ⟨_, _, _, _, ret_len (by simp), ⟨HS9.out.srow, HLL.out.1, HLL.out.2⟩, HB9.out⟩
      | true =>
        have HS10 := hid (HS9.out.keep (w' := w9.setCell ⟨b5, 0, none⟩ (.int .i64 1024)) (fun g hg _ => heap_setCell_other _ ⟨b5, 0, none⟩ g _ (fun e => by have e' : g = b5 := e; omega)))
        have HT10 := hid (HT9.out.set0 (.int .i64 1024))
        obtain ⟨r1, r2, r3, r4⟩ := HT10.out.cells
        go_wp2_with fail
        go_ret2
        exact ⟨_, _, _, _, ret_len (by simp), ⟨HS10.out.srow, HLL.out.1, HLL.out.2⟩, HB9.out.setCell (p := ⟨b5, 0, none⟩) (by show w.heap.size ≤ b5; omega) _⟩
    · have hcap : (i : Int) ≤ (lc : Int) := by
        rcases HO6.out.2.2.1.2 with ⟨h, _⟩ | ⟨g', cap', cur', h, _, _, h2, _⟩
        · cases h
        · cases h; omega
      go_wp2_with fail
      have HSB := hid (HO6.out.srowB.take i)
      have HCx := hid HC6.out
      have HTx := hid HT6.out
      have HBx := hid B6.out
      have HLL := hid (show (S.take i).length ≤ 64 ∧ ∀ j, j < (S.take i).length → (nthS (S.take i) j).2.2.length ≤ 1048576 from ⟨by simp; omega, fun j hj => by
        have hj' : j < S.length ∧ j < i := by simp at hj; omega
        have e : nthS (S.take i) j = nthS S j := by
          simp only [nthS, List.getD]
          rw [List.getElem?_take, if_pos hj'.2]
        rw [e]
        exact HLL0.out.2 j hj'.1⟩)
      go_wp2_with fail
      refine (once_any w ao n cap C zs 15 _ HC.out HCx.out).mono ?_
      rintro e w9 ⟨b9, rfl, hc9, he9⟩
      have HS9 := hid (HSB.out.keep (he9.keep hCb))
      have HT9 := hid (he9.two HTx.out (by omega))
      have HB9 := hid (HBx.out.trans ((he9.below (Nat.le_of_lt HCx.out.lt)).mono hCw))
      clear hc9 he9
      obtain ⟨q1, q2, q3, q4⟩ := HT9.out.cells
      cases b9 with
      | false =>
        go_wp2_with fail
        go_ret2
        exact ⟨_, _, _, (S.take i), ret_len (by simp; omega), ⟨HS9.out.srow, HLL.out.1, HLL.out.2⟩, HB9.out⟩
      | true =>
        have HS10 := hid (HS9.out.keep (w' := w9.setCell ⟨b5, 0, none⟩ (.int .i64 1024)) (fun g hg _ => heap_setCell_other _ ⟨b5, 0, none⟩ g _ (fun e => by have e' : g = b5 := e; omega)))
        have HT10 := hid (HT9.out.set0 (.int .i64 1024))
        obtain ⟨r1, r2, r3, r4⟩ := HT10.out.cells
        go_wp2_with fail
        go_ret2
        exact ⟨_, _, _, (S.take i), ret_len (by simp; omega), ⟨HS10.out.srow, HLL.out.1, HLL.out.2⟩, HB9.out.setCell (p := ⟨b5, 0, none⟩) (by show w.heap.size ≤ b5; omega) _⟩
    · obtain ⟨b', off', a', c', heq, k0, k1, k2, _⟩ := HO6.out.srow i hi
      cases heq
      obtain ⟨⟨hz0, hz1⟩, _⟩ := HF.out.2 i hi
      obtain ⟨m, hm⟩ := Int.eq_ofNat_of_zero_le hz0
      rw [hm] at k1
      rw [Nat.zero_add] at k1
      have hm2 : m ≤ 11 := by omega
      go_wp2_with fail
      refine (list_any w ao n cap C zs m w6 (by omega) HC.out HC6.out).mono ?_
      rintro e w7 ⟨v7, rfl, zz, hzl, ho7, hc7, he7⟩
      obtain ⟨za, zc, rfl⟩ := ho7.shape
      have HO7 := hid (HO6.out.keep he7.size (he7.keep hCb))
      have HT7 := hid (he7.two HT6.out (by omega))
      have B7 := hid (B6.out.trans ((he7.below (Nat.le_of_lt HC6.out.lt)).mono hCw))
      have HC7 := hid hc7
      have HZ7 := hid (ho7.mono HO6.out.1)
      have hzl2 : zz.length ≤ 1048576 := by omega
      clear hc7 he7 ho7 HO6 HT6 B6 HC6 hg hfz k0 k1 k2 hzl hm
      obtain ⟨b', off', a', c', heq, k0, k1, k2, _⟩ := HO7.out.srow i hi
      cases heq
      have f0 : w7.frozen? ⟨g, i * 3 + 2, none⟩ = false := HO7.out.2.2.1.frozenAt _
      rw [Nat.zero_add] at k2
      go_wp2_with fail
      have hadr : w7.setCell ⟨g, i * 3 + 2, none⟩ (.slice za zz.length zc) = w7.setCell ⟨g, i * 3 + 2, none⟩ (.slice za zz.length zc) := rfl
      have HSB := hid (HO7.out.put i 2 hi (by decide) (.slice za zz.length zc) ((nthS S i).1, (nthS S i).2.1, zz) (.inr ⟨by decide, rfl⟩) (.inr ⟨by decide, rfl⟩) (.inl ⟨rfl, HZ7.out⟩))
      rw [← hadr] at HSB
      have hbw : Below g w7 (w7.setCell ⟨g, i * 3 + 2, none⟩ (.slice za zz.length zc)) := (Below.refl _ _).setCell (p := ⟨g, i * 3 + 2, none⟩) (Nat.le_refl _) _
      have HCx := hid (HC7.out.belowB hCg hbw)
      have HTx := hid (HT7.out.below hbw (by omega))
      have HBx := hid (B7.out.trans (hbw.mono (by omega)))
      have HLL := hid (lens_set S i ((nthS S i).1, (nthS S i).2.1, zz) hzl2 HLL0.out)
      clear hbw k0 k1 k2 f0 hadr
      generalize w7.setCell ⟨g, i * 3 + 2, none⟩ (.slice za zz.length zc) = w8 at *
      go_wp2_with fail
      refine (once_any w ao n cap C zs 15 _ HC.out HCx.out).mono ?_
      rintro e w9 ⟨b9, rfl, hc9, he9⟩
      have HS9 := hid (HSB.out.keep (he9.keep hCb))
      have HT9 := hid (he9.two HTx.out (by omega))
      have HB9 := hid (HBx.out.trans ((he9.below (Nat.le_of_lt HCx.out.lt)).mono hCw))
      clear hc9 he9
      obtain ⟨q1, q2, q3, q4⟩ := HT9.out.cells
      cases b9 with
      | false =>
        go_wp2_with fail
        go_ret2
        exact ⟨_, _, _, _, ret_len (List.length_set ..).symm, ⟨HS9.out.srow, HLL.out.1, HLL.out.2⟩, HB9.out⟩
      | true =>
        have HS10 := hid (HS9.out.keep (w' := w9.setCell ⟨b5, 0, none⟩ (.int .i64 1024)) (fun g hg _ => heap_setCell_other _ ⟨b5, 0, none⟩ g _ (fun e => by have e' : g = b5 := e; omega)))
        have HT10 := hid (HT9.out.set0 (.int .i64 1024))
        obtain ⟨r1, r2, r3, r4⟩ := HT10.out.cells
        go_wp2_with fail
        go_ret2
        exact ⟨_, _, _, _, ret_len (List.length_set ..).symm, ⟨HS10.out.srow, HLL.out.1, HLL.out.2⟩, HB9.out.setCell (p := ⟨b5, 0, none⟩) (by show w.heap.size ≤ b5; omega) _⟩
    · have n0 : ¬ y = 0 := by omega
      have n1 : ¬ y = 1 := by omega
      have n2 : ¬ y = 2 := by omega
      have n3 : ¬ y = 3 := by omega
      have n4 : ¬ y = 4 := by omega
      have HSB := hid HO6.out.srowB
      have HCx := hid HC6.out
      have HTx := hid HT6.out
      have HBx := hid B6.out
      have HLL := hid (show S.length ≤ 64 ∧ ∀ j, j < S.length → (nthS S j).2.2.length ≤ 1048576 from ⟨by omega, HLL0.out.2⟩)
      go_wp2_with fail
      refine (once_any w ao n cap C zs 15 _ HC.out HCx.out).mono ?_
      rintro e w9 ⟨b9, rfl, hc9, he9⟩
      have HS9 := hid (HSB.out.keep (he9.keep hCb))
      have HT9 := hid (he9.two HTx.out (by omega))
      have HB9 := hid (HBx.out.trans ((he9.below (Nat.le_of_lt HCx.out.lt)).mono hCw))
      clear hc9 he9
      obtain ⟨q1, q2, q3, q4⟩ := HT9.out.cells
      cases b9 with
      | false =>
        go_wp2_with fail
        go_ret2
        exact ⟨_, _, _, S, rfl, ⟨HS9.out.srow, HLL.out.1, HLL.out.2⟩, HB9.out⟩
      | true =>
        have HS10 := hid (HS9.out.keep (w' := w9.setCell ⟨b5, 0, none⟩ (.int .i64 1024)) (fun g hg _ => heap_setCell_other _ ⟨b5, 0, none⟩ g _ (fun e => by have e' : g = b5 := e; omega)))
        have HT10 := hid (HT9.out.set0 (.int .i64 1024))
        obtain ⟨r1, r2, r3, r4⟩ := HT10.out.cells
        go_wp2_with fail
        go_ret2
        exact ⟨_, _, _, S, rfl, ⟨HS10.out.srow, HLL.out.1, HLL.out.2⟩, HB9.out.setCell (p := ⟨b5, 0, none⟩) (by show w.heap.size ≤ b5; omega) _⟩
end Go.Proofs.Ytdlookcklkdonaa
