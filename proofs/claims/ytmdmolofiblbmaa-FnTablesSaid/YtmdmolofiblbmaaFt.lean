/- The law FnTables. -/
import Derived.Test.YtmdmolofiblbmaaFx
import Derived.Test.YtmdmolofiblbmaaDc
namespace Go.Proofs.Ytmdmolofiblbmaa
open Go.RowKit
set_option linter.unusedVariables false

theorem big_any (ao : Option Addr) (n cap : Nat) (w : World) : Calls Try.prog 7 #[.slice ao n cap] w fun e w' => e = .returned (.bool (decide ((1048576 : Int) < (n : Int)))) ∧ w = w' := by
  go_enter Try.func7, Try.ntmps7
  go_wp2
  go_ret
  exact ⟨rfl, rfl⟩

set_option maxHeartbeats 800000 in
theorem same_yes (ao bo : Option Addr) (n cap cap' : Nat) (xs : List Int) (w : World) (hn : n ≤ 4194304) (ha : View .i64 w ao n xs) (hb : View .i64 w bo n xs) :
    Calls Try.prog 11 #[.slice ao n cap, .slice bo n cap'] w fun e w' => e = .returned (.bool true) ∧ Below w.heap.size w w' := by
  have HA := hid ha
  have HB := hid hb
  clear ha hb
  go_enter Try.func11, Try.ntmps11
  go_wp2
  go_loopw [5] (fun i wr => ∃ k : Nat, k ≤ n ∧ i = .int .i64 k ∧ ∃ q, wr = w.drewN q) (fun i _ => n - (intOf i).toNat)
  case atStart => exact ⟨0, by omega, rfl, 0, rfl⟩
  case round =>
    obtain ⟨k, hk, rfl, q, rfl⟩ := hrel
    by_cases hlt : k < n
    · obtain ⟨b, off, rfl, hc⟩ := HA.out.2 k hlt
      obtain ⟨b', off', rfl, hc'⟩ := HB.out.2 k hlt
      have hlt' : (k : Int) < (n : Int) := by omega
      generalize xs.getD k 0 = X at *
      go_wp2
      go_quiet (fail)
      go_wp2
      go_roundw
      case rel => exact ⟨k + 1, by omega, by go_num, _, rfl⟩
      case measure => simp [intOf]; omega
    · obtain rfl : k = n := by omega
      go_wp2
      go_ret
      exact ⟨rfl, below_drewN w q⟩

theorem toList_loop (bs : ByteArray) : ∀ k i r, bs.size - i = k → ByteArray.toList.loop bs i r = r.reverse ++ bs.data.toList.drop i := by
  intro k
  induction k with
  | zero =>
    intro i r h
    rw [ByteArray.toList.loop]
    have : ¬ i < bs.size := by omega
    rw [if_neg this, List.drop_of_length_le (by have : bs.data.size = bs.size := rfl; simp; omega)]
    simp
  | succ k ih =>
    intro i r h
    rw [ByteArray.toList.loop]
    have hi : i < bs.size := by omega
    rw [if_pos hi, ih (i + 1) _ (by omega)]
    have hd : i < bs.data.toList.length := by have : bs.data.size = bs.size := rfl; simp; omega
    rw [List.drop_eq_getElem_cons hd]
    have hd' : i < bs.data.size := hi
    have : bs.get! i = bs.data.toList[i] := by
      unfold ByteArray.get!
      simp
      exact getElem!_pos bs.data i hd'
    simp [this]
theorem not_empty {X : ByteArray} (h : X.size ≠ 0) : X.toList.isEmpty = false := by
  cases hc : X.toList with
  | nil =>
    have h1 := toList_loop X X.size 0 [] (by omega)
    have h2 : X.toList = X.data.toList := by
      unfold ByteArray.toList
      rw [h1]
      simp
    rw [h2] at hc
    exact absurd (show X.size = 0 from by rw [← ByteArray.size_data, ← Array.length_toList, hc]; rfl) h
  | cons a b => rfl

set_option maxHeartbeats 800000 in
theorem draw_put (ao : Option Addr) (n cap : Nat) (zs : List Int) (w : World) (hcode : Code w ao n zs) :
    Calls Try.prog 21 #[.slice ao n cap] w fun e w' => ∃ v cs ss, e = .returned v ∧ BO w' w.heap.size v cs ss ∧ cs.length ≤ 16 ∧ ss.length ≤ 4097 ∧ Below w.heap.size w w' := by
  have hA0 := (Below.refl w.heap.size w).alloc (Nat.le_refl _) (.cells #[.slice none 0 0, .slice none 0 0] 26)
  have hT0 := Two.new w (.slice none 0 0) (.slice none 0 0) 26
  have hC0 : Code (w.alloc (.cells #[.slice none 0 0, .slice none 0 0] 26)) ao n zs := ⟨hcode.1, hcode.2.1.below (Nat.le_refl _) hA0, hcode.2.2⟩
  have HN := hid (new_any ao n cap zs _ hC0)
  have HA0 := hid hA0
  have HT0 := hid hT0
  have HC0 := hid hC0
  have hs0 : (w.alloc (.cells #[.slice none 0 0, .slice none 0 0] 26)).heap.size = w.heap.size + 1 := by simp
  clear hA0 hT0 hC0 hcode
  go_enter Try.func21, Try.ntmps21
  go_wp2_with (first | (go_at_call 31; fail) | fail)
  refine HN.out.mono ?_
  rintro e w1 ⟨C, rfl, hc1, hb1⟩
  have HD := hid (draw_codes (w.alloc (.cells #[.slice none 0 0, .slice none 0 0] 26)) ao n cap C zs w1 HC0.out hc1)
  have HT1 := hid (HT0.out.below hb1 (by omega))
  have HB1 := hid (HA0.out.trans (hb1.mono (by omega)))
  have hC := hc1.1
  have HW1 := hid (show w.heap.size + 1 ≤ w1.heap.size from by have := hb1.size; omega)
  clear hc1 hb1 HN HT0 HA0
  go_wp2_with (first | (go_at_call 48; fail) | fail)
  refine HD.out.mono ?_
  rintro e w2 ⟨v, cs, ss, rfl, bo, h16, h97, hc2, he2⟩
  obtain ⟨cv, sv, rfl, o1, o2, ap⟩ := bo
  obtain ⟨a1, c1, rfl⟩ := o1.shape
  obtain ⟨a2, c2, rfl⟩ := o2.shape
  have hw1 := HW1.out
  have hT2 : Two w2 w.heap.size (.slice none 0 0) (.slice none 0 0) 26 := (he2.block _ HT1.out.lt (fun e => by have := Option.some.inj e; omega)).trans HT1.out
  obtain ⟨q0, q1, q2, q3⟩ := hT2.cells
  have HF := hid (show BO ((w2.setCell ⟨w.heap.size, 0, none⟩ (.slice a1 cs.length c1)).setCell ⟨w.heap.size, 1, none⟩ (.slice a2 ss.length c2)) w.heap.size (.agg #[.slice a1 cs.length c1, .slice a2 ss.length c2]) cs ss ∧ Below w.heap.size w ((w2.setCell ⟨w.heap.size, 0, none⟩ (.slice a1 cs.length c1)).setCell ⟨w.heap.size, 1, none⟩ (.slice a2 ss.length c2)) from by
    refine ⟨⟨_, _, rfl, ((o1.setCell_below (a := ⟨w.heap.size, 0, none⟩) (by show w.heap.size < w1.heap.size; omega) _).setCell_below (a := ⟨w.heap.size, 1, none⟩) (by show w.heap.size < w1.heap.size; omega) _).mono (by omega), ((o2.setCell_below (a := ⟨w.heap.size, 0, none⟩) (by show w.heap.size < w1.heap.size; omega) _).setCell_below (a := ⟨w.heap.size, 1, none⟩) (by show w.heap.size < w1.heap.size; omega) _).mono (by omega), ap⟩, ?_⟩
    have hb2 : Below w.heap.size w w2 := HB1.out.trans ⟨he2.os, he2.tape, he2.output, he2.size, fun k hk => he2.block k (by omega) (fun e => by have := Option.some.inj e; omega)⟩
    exact (hb2.setCell (p := ⟨w.heap.size, 0, none⟩) (Nat.le_refl _) _).setCell (p := ⟨w.heap.size, 1, none⟩) (Nat.le_refl _) _)
  have HL := hid (show cs.length ≤ 16 ∧ ss.length ≤ 4097 from ⟨h16, h97⟩)
  clear o1 o2 ap h16 h97 hc2 he2 hT2 HD HT1 HB1
  go_wp2_with fail
  exact bodyPost_ret (v := .agg #[.slice a1 cs.length c1, .slice a2 ss.length c2]) (by simp [results, Try.results21, go_sem, q0, q1]) rfl ⟨_, cs, ss, rfl, HF.out.1, HL.out.1, HL.out.2, HF.out.2⟩

theorem code_row {ao : Option Addr} {n cap : Nat} {zs : List Int} {w : World} (h : IsRow .u8 w ao n cap zs) (hn : n ≤ 1048576) : Code w ao n (zs.take n) := ⟨hn, h.view, h.wf⟩

set_option maxRecDepth 100000 in
set_option maxHeartbeats 1600000 in
theorem law_tables (ao : Option Addr) (n cap : Nat) (zs : List Int) (w : World) (hr : IsRow .u8 w ao n cap zs) :
    Calls Try.prog 5 #[.slice ao n cap] w fun e w' => e = .returned (.bool true) ∧ Below w.heap.size w w' := by
  have hlen := hr.len.1
  by_cases hl : (1048576 : Int) < (n : Int)
  · have hd : decide ((1048576 : Int) < (n : Int)) = true := by simpa using hl
    clear hr
    go_enter Try.func5, Try.ntmps5
    go_wp2_with (go_at_call 7; refine (big_any _ _ _ _).mono ?_; rw [hd]; rintro e w' ⟨rfl, rfl⟩)
    go_ret
    exact ⟨rfl, Below.refl _ _⟩
  · have hd : decide ((1048576 : Int) < (n : Int)) = false := by simpa using hl
    have HC := hid (code_row hr (by omega))
    clear hr hl
    go_enter Try.func5, Try.ntmps5
    go_wp2_with (first | (go_at_call 7; refine (big_any _ _ _ _).mono ?_; rw [hd]; rintro e w' ⟨rfl, rfl⟩) | (go_at_call 21; fail) | fail)
    refine (draw_put ao n cap _ _ HC.out).mono ?_
    rintro e w1 ⟨v, cs, ss, rfl, bo, h16, h97, hb1⟩
    have cv1 := bo.cv
    obtain ⟨a0, c0, a1, c1, rfl, _, _⟩ := bo.cv
    have hA := (Below.refl w1.heap.size w1).alloc (Nat.le_refl _) (.cells #[.slice a0 cs.length c0, .slice a1 ss.length c1] 26)
    have HCV := hid (cv1.below hA)
    have HT := hid (Two.new w1 (.slice a0 cs.length c0) (.slice a1 ss.length c1) 26)
    have HB := hid (hb1.trans (hA.mono hb1.size))
    have k0 : cs.length ≤ 1048576 := by omega
    have k1 : ss.length ≤ 1048576 := by omega
    have HL := hid (show cs.length ≤ 16 ∧ ss.length ≤ 4097 from ⟨h16, h97⟩)
    have HP := hid (impl_putCodes _ cs ss _ k0 k1 HCV.out)
    have HQ := hid (fun q (h : CV q (.agg #[.slice a0 cs.length c0, .slice a1 ss.length c1]) cs ss) => spec_putCodes _ cs ss q k0 k1 h)
    have HO := hid (fun q (h : CV q (.agg #[.slice a0 cs.length c0, .slice a1 ss.length c1]) cs ss) => impl_ok _ cs ss q k0 k1 h)
    obtain ⟨q0, q1, q2, q3⟩ := HT.out.cells
    clear bo cv1 hA hb1 h16 h97
    go_wp2_with (first | (go_at_call 22; fail) | fail)
    refine HP.out.mono ?_
    generalize w1.alloc (.cells #[.slice a0 cs.length c0, .slice a1 ss.length c1] 26) = w2 at *
    generalize w1.heap.size = K at *
    rintro e w3 ⟨rfl, hb3⟩
    have HCV3 := hid (HCV.out.below hb3)
    have HT3 := hid (HT.out.below hb3 HT.out.lt)
    have HB3 := hid (HB.out.trans (hb3.mono HB.out.size))
    have HP3 := hid (HQ.out _ HCV3.out)
    clear hb3 HCV HT HB HP q0 q1 q2 q3
    obtain ⟨q0, q1, q2, q3⟩ := HT3.out.cells
    cases hR : rightC cs ss with
    | false =>
      have HO3 := HO
      rw [hR] at HP3 HO3
      go_wp2_with (first | (go_at_call 23; fail) | fail)
      refine HP3.out.mono ?_
      rintro e w4 ⟨rfl, hb4⟩
      have HCV4 := hid (HCV3.out.below hb4)
      have HB4 := hid (HB3.out.trans (hb4.mono HB3.out.size))
      have HT4 := hid (HT3.out.below hb4 HT3.out.lt)
      clear hb4 HCV3 HT3 HB3 q0 q1 q2 q3
      obtain ⟨q0, q1, q2, q3⟩ := HT4.out.cells
      go_wp2_with (first | (go_at_call 9; fail) | fail)
      refine (HO3.out _ HCV4.out).mono ?_
      rintro e w5 ⟨rfl, hb5⟩
      have HB5 := hid (HB4.out.trans (hb5.mono HB4.out.size))
      clear hb5
      go_wp2_with fail
      go_ret
      exact ⟨rfl, HB5.out⟩
    | true =>
      have hsz : (strOfNums (cs ++ ss)).size = cs.length + ss.length := by rw [strOfNums_size, List.length_append]
      have hrb := right_byt hR
      have G1 : getR (⟨#[120, 121]⟩ ++ strOfNums (cs ++ ss) ++ ⟨#[122]⟩) 2 = some (cs, ss) := by
        have h := get_back cs ss [120, 121] [122] hR (by intro j hj; match j, hj with | 0, _ => decide | 1, _ => decide) (by intro j hj; match j, hj with | 0, _ => decide)
        rw [← strOfNums_append, ← List.append_assoc, ← strOfNums_append, ← ByteArray.append_assoc] at h
        exact h
      have G2 := get_cut cs ss hR
      rw [hR] at HP3
      have HR16 := hid (show cs.length = 16 ∧ 1 ≤ ss.length ∧ ss.length ≤ 255 from ⟨hrb.1, hrb.2.2.2.1, hrb.2.2.2.2⟩)
      rw [if_pos rfl] at HP3
      rw [if_pos rfl]
      obtain ⟨T, hT⟩ : ∃ T, T = strOfNums (cs ++ ss) := ⟨_, rfl⟩
      rw [← hT] at HP3 hsz G1 G2 ⊢
      obtain ⟨Z, hZ⟩ : ∃ Z, T.size = Z := ⟨_, rfl⟩
      obtain ⟨X1, hX1⟩ : ∃ X1, (⟨#[120, 121]⟩ : ByteArray) ++ T = X1 := ⟨_, rfl⟩
      have hs1 : X1.size = 2 + Z := by rw [← hX1, ByteArray.size_append, hZ]; rfl
      obtain ⟨X2, hX2⟩ : ∃ X2, X1 ++ (⟨#[122]⟩ : ByteArray) = X2 := ⟨_, rfl⟩
      have hs2 : X2.size = 2 + Z + 1 := by rw [← hX2, ByteArray.size_append, hs1]; rfl
      rw [hX1, hX2] at G1
      obtain ⟨U, hU⟩ : ∃ U, T.extract 0 (Z - 1) = U := ⟨_, rfl⟩
      have hsu : U.size ≤ 1048576 := by rw [← hU, ByteArray.size_extract]; have := HR16.out; omega
      rw [← hsz, hZ, hU] at G2
      have HSZ := hid (show Z = cs.length + ss.length from by rw [← hZ]; exact hsz)
      have hZ1 : (17 : Int) ≤ (Z : Int) := by have := HR16.out; have := HSZ.out; omega
      have hZ2 : (Z : Int) ≤ 271 := by have := HR16.out; have := HSZ.out; omega
      have HG1 := hid (fun q => impl_getCodes X2 2 q (by have := HR16.out; have := HSZ.out; omega) (by decide))
      have HG2 := hid (fun q => impl_getCodes U 0 q hsu (by decide))
      rw [G1] at HG1
      rw [G2] at HG2
      have t1 : (T.toList == T.toList) = true := by simp
      have t2 : (T.toList != T.toList) = false := by simp
      have t3 : T.toList.isEmpty = false := not_empty (by rw [hZ]; omega)
      have t4 : ¬ 9223372036854775807 < (⟨#[120, 121]⟩ : ByteArray).size + T.size := by
        rw [hZ]
        show ¬ 9223372036854775807 < 2 + Z
        omega
      have t5 : ¬ 9223372036854775807 < X1.size + (⟨#[122]⟩ : ByteArray).size := by
        rw [hs1]
        show ¬ 9223372036854775807 < 2 + Z + 1
        omega
      clear hT hsz G1 G2 hrb hR HQ HO hs1 hs2 hsu
      go_wp2_with (first | (go_at_call 23; refine HP3.out.mono ?_; rintro e w4 ⟨rfl, hb4⟩; have HCV4 := hid (HCV3.out.below hb4); have HB4 := hid (HB3.out.trans (hb4.mono HB3.out.size)); have HT4 := hid (HT3.out.below hb4 HT3.out.lt); clear hb4) | fail)
      refine (HG1.out w4).mono ?_
      rintro e w5 h5
      obtain ⟨v5, rfl, ho5, hb5⟩ : ∃ v, e = .returned (.tuple #[v, .int .i64 (2 + 16 + (ss.length : Int))]) ∧ COwn w5 w4.heap.size v cs ss ∧ Below w4.heap.size w4 w5 := h5
      obtain ⟨d0, e0, d1, e1, rfl, _, _⟩ := ho5.cv
      have hA5 := (Below.refl w5.heap.size w5).alloc (Nat.le_refl _) (.cells #[.slice d0 cs.length e0, .slice d1 ss.length e1] 26)
      have HD5 := hid (Two.new w5 (.slice d0 cs.length e0) (.slice d1 ss.length e1) 26)
      have HC5 := hid ((HCV4.out.below hb5).below hA5)
      have HE5 := hid (ho5.cv.below hA5)
      have HT5 := hid ((HT4.out.below hb5 HT4.out.lt).below hA5 (HT4.out.below hb5 HT4.out.lt).lt)
      have HB5 := hid ((HB4.out.trans (hb5.mono HB4.out.size)).trans (hA5.mono (HB4.out.trans (hb5.mono HB4.out.size)).size))
      have hzz : (2 : Int) + 16 + (ss.length : Int) = 2 + (Z : Int) := by have := HR16.out; have := HSZ.out; omega
      clear ho5 hb5 hA5 HCV3 HT3 HB3 HCV4 HB4 HT4 q0 q1 q2 q3 t4 t5
      have hzn : ((Z : Int) - 1).toNat = Z - 1 := by omega
      go_wp2_with fail
      have hzb : ((18 : Int) + (ss.length : Int) == 2 + (Z : Int)) = true := by simp; omega
      refine (HG2.out _).mono ?_
      generalize w5.alloc (.cells #[.slice d0 cs.length e0, .slice d1 ss.length e1] 26) = w6 at *
      generalize w5.heap.size = M at *
      rintro e w7 h7
      obtain ⟨v7, rfl, ho7, hb7⟩ : ∃ v, e = .returned (.tuple #[v, .int .i64 (-1)]) ∧ COwn w7 w6.heap.size v [] [] ∧ Below w6.heap.size w6 w7 := h7
      obtain ⟨f0, g0, f1, g1, rfl, _, _⟩ := ho7.cv
      have hA7 := (Below.refl w7.heap.size w7).alloc (Nat.le_refl _) (.cells #[.slice f0 0 g0, .slice f1 0 g1] 26)
      have hb8 := hb7.trans (hA7.mono hb7.size)
      have HD7 := hid (HD5.out.below hb8 HD5.out.lt)
      have HC7 := hid (HC5.out.below hb8)
      have HE7 := hid (HE5.out.below hb8)
      have HT7 := hid (HT5.out.below hb8 HT5.out.lt)
      have HB7 := hid (HB5.out.trans (hb8.mono HB5.out.size))
      clear ho7 hb7 hb8 hA7 HD5 HC5 HE5 HT5 HB5
      obtain ⟨q0, q1, q2, q3⟩ := HT7.out.cells
      obtain ⟨p0, p1, p2, p3⟩ := HD7.out.cells
      have HS1 := hid (fun (q : World) (hq : Below (w7.alloc (.cells #[.slice f0 0 g0, .slice f1 0 g1] 26)).heap.size (w7.alloc (.cells #[.slice f0 0 g0, .slice f1 0 g1] 26)) q) => same_yes d0 a0 cs.length e0 c0 cs q (by have := HR16.out; omega) (by obtain ⟨_, _, _, _, e, v, _⟩ := (HE7.out.below hq); cases e; exact v) (by obtain ⟨_, _, _, _, e, v, _⟩ := (HC7.out.below hq); cases e; exact v))
      have HS2 := hid (fun (q : World) (hq : Below (w7.alloc (.cells #[.slice f0 0 g0, .slice f1 0 g1] 26)).heap.size (w7.alloc (.cells #[.slice f0 0 g0, .slice f1 0 g1] 26)) q) => same_yes d1 a1 ss.length e1 c1 ss q (by have := HR16.out; omega) (by obtain ⟨_, _, _, _, e, _, v⟩ := (HE7.out.below hq); cases e; exact v) (by obtain ⟨_, _, _, _, e, _, v⟩ := (HC7.out.below hq); cases e; exact v))
      go_wp2_with (first | (go_at_call 11; fail) | fail)
      refine (HS1.out _ (Below.refl _ _)).mono ?_
      rintro e w9 ⟨rfl, hb9⟩
      have HB9 := hid (HB7.out.trans (hb9.mono HB7.out.size))
      have HS9 := hid (HS2.out _ hb9)
      have HT9 := hid (HT7.out.below hb9 HT7.out.lt)
      have HD9 := hid (HD7.out.below hb9 HD7.out.lt)
      clear q0 q1 q2 q3 p0 p1 p2 p3 hb9
      obtain ⟨q0, q1, q2, q3⟩ := HT9.out.cells
      obtain ⟨p0, p1, p2, p3⟩ := HD9.out.cells
      go_wp2_with (first | (go_at_call 11; fail) | fail)
      refine HS9.out.mono ?_
      rintro e w10 ⟨rfl, hb10⟩
      have HB10 := hid (HB9.out.trans (hb10.mono HB9.out.size))
      clear hb10
      go_wp2_with fail
      go_ret
      exact ⟨rfl, HB10.out⟩
end Go.Proofs.Ytmdmolofiblbmaa
