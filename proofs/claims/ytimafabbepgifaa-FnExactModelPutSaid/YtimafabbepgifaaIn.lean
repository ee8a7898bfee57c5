/- The contract of the program's ModelPut, where it is false, and the whole of it. -/
import Derived.Test.YtimafabbepgifaaIm
namespace Go.Proofs.Ytimafabbepgifaa
open Go.RowKit
set_option linter.unusedVariables false

theorem okM_len {ch : List Int} (h : okM ch = true) : ch.length ≤ 1200 := (of_decide_eq_true h).1

set_option maxRecDepth 100000 in
set_option maxHeartbeats 3200000 in
theorem impl_mput_no (lo hi : Int) (s : ByteArray) (v : Value) (ch : List Int) (B x : Int) (w : World) (hx0 : -9223372036854775808 ≤ x) (hx1 : x ≤ 9223372036854775807) (hn : ch.length ≤ 1048576) (hs : s.size ≤ 1048576) (hno : okMP s ch B x = false) (hv : Vp w v ch) :
    Calls Try.prog 10 #[cV lo hi s, .agg #[v], .int .i64 B, .int .i64 x] w fun e w' => ∃ v', e = .returned (.tuple #[cV lo hi s, .agg #[v'], .bool false]) ∧ Own w' w.heap.size 3 .i64 v' ch ∧ Below w.heap.size w w' := by
  have HCM := hid (fun q hq => copy_model v ch q hn (hv.below (Nat.le_refl _) hq))
  have HMO := hid (fun q (hq : Below w.heap.size w q) => impl_modelOk v ch q (hv.below (Nat.le_refl _) hq).vw)
  have HHB := hid (fun q (hq : Below w.heap.size w q) => has_base v ch B q hn (hv.below (Nat.le_refl _) hq).vw)
  have HSI := hid (fun q => impl_size x q hx0 hx1)
  have HRM := hid (fun q => has_room s.size q)
  have HNO := hid (of_decide_eq_false hno)
  obtain ⟨ao, cap, rfl, hv1, hv2, hv3⟩ := hv
  unfold cV at *
  generalize sz x = SZ at *
  clear hv1 hv2 hv3 hno
  obtain ⟨n0, n1, n2, n3, n4⟩ := new_four w [.int .u32 lo, .int .u32 hi, .string s] [.slice ao ch.length cap] [.int .u32 0, .int .u32 0, .string ⟨#[]⟩] [.slice none 0 0] 32 27 32 27
  have N0 := hid n0
  have N1 := hid n1
  have N2 := hid n2
  have N3 := hid n3
  have N4 := hid n4
  clear n0 n1 n2 n3 n4
  generalize hCL : ch.length = CL at *
  have HCL := hid hCL
  clear hCL
  generalize okM ch = OM at *
  go_enter Try.func10, Try.ntmps10
  go_wp2_with fail
  refine (HCM.out _ N4.out).mono ?_
  generalize (((w.alloc (.cells #[.int .u32 lo, .int .u32 hi, .string s] 32)).alloc (.cells #[.slice ao CL cap] 27)).alloc (.cells #[.int .u32 0, .int .u32 0, .string ⟨#[]⟩] 32)).alloc (.cells #[.slice none 0 0] 27) = w0 at *
  rintro e w1 ⟨v1, rfl, ho1, hb1⟩
  obtain ⟨ga, gc, rfl⟩ := ho1.shape
  have hw04 : w.heap.size + 1 + 1 + 1 < w0.heap.size := N3.out.lt
  have NA := hid ((Below.refl w1.heap.size w1).alloc (Nat.le_refl _) (.cells #[.slice ga ch.length gc] 27))
  have C1 := hid (hb1.trans (NA.out.mono hb1.size))
  have A1 := hid (N1.out.below C1.out N1.out.lt)
  have A4 := hid (N4.out.trans (C1.out.mono N4.out.size))
  have BS : Hid (Bs (w1.alloc (.cells #[.slice ga ch.length gc] 27)) [(w.heap.size, [.int .u32 lo, .int .u32 hi, .string s], 32), (w.heap.size + 1, [.slice ao CL cap], 27), (w.heap.size + 1 + 1, [.int .u32 0, .int .u32 0, .string ⟨#[]⟩], 32), (w.heap.size + 1 + 1 + 1, [.slice none 0 0], 27), (w1.heap.size, [.slice ga ch.length gc], 27)]) := by
    intro x hx
    simp only [List.mem_cons, List.not_mem_nil, or_false] at hx
    rcases hx with rfl | rfl | rfl | rfl | rfl
    · exact N0.out.below C1.out N0.out.lt
    · exact N1.out.below C1.out N1.out.lt
    · exact N2.out.below C1.out N2.out.lt
    · exact N3.out.below C1.out N3.out.lt
    · exact Blk.new w1 [.slice ga ch.length gc] 27
  have OA := hid ((ho1.lower (base' := w.heap.size + 1 + 1 + 1 + 1) (by omega)).alloc (.cells #[.slice ga ch.length gc] 27))
  have m1 := (N1.out.below hb1 N1.out.lt).cell (i := 0) rfl
  have hltm : w.heap.size + 1 < w1.heap.size := by have := hb1.size; omega
  have hnem : ¬ w.heap.size + 1 = w1.heap.size := Nat.ne_of_lt hltm
  have m1' := A1.out.cell (i := 0) rfl
  have hb1s := hid (show w0.heap.size ≤ w1.heap.size from hb1.size)
  clear ho1 hb1 N0 N1 N2 N3 N4 NA C1
  have HAB := hid (show w.heap.size + 1 + 1 + 1 < w1.heap.size by have := hb1s.out; omega)
  cases OM with
  | false =>
    go_wp2_with fail
    refine (HMO.out _ A4.out).mono ?_
    generalize w1.alloc (.cells #[.slice ga ch.length gc] 27) = w2 at *
    generalize w1.heap.size = AB at *
    clear m1 hltm hnem m1' A1 hw04
    rintro e w3 ⟨rfl, hb3⟩
    have BS3 := hid (BS.out.below hb3)
    have A3 := hid (A4.out.trans (hb3.mono A4.out.size))
    have O3 := hid (OA.out.below hb3)
    clear hb3 BS A4 OA
    have c0 := (BS3.out.get (b := w.heap.size) (l := [.int .u32 lo, .int .u32 hi, .string s]) (t := 32) (by simp)).cell (i := 0) rfl
    have c1 := (BS3.out.get (b := w.heap.size) (l := [.int .u32 lo, .int .u32 hi, .string s]) (t := 32) (by simp)).cell (i := 1) rfl
    have c2 := (BS3.out.get (b := w.heap.size) (l := [.int .u32 lo, .int .u32 hi, .string s]) (t := 32) (by simp)).cell (i := 2) rfl
    have r0 := (BS3.out.get (b := w.heap.size + 1 + 1) (l := [.int .u32 0, .int .u32 0, .string ⟨#[]⟩]) (t := 32) (by simp)).cell (i := 0) rfl
    have r1 := (BS3.out.get (b := w.heap.size + 1 + 1) (l := [.int .u32 0, .int .u32 0, .string ⟨#[]⟩]) (t := 32) (by simp)).cell (i := 1) rfl
    have r2 := (BS3.out.get (b := w.heap.size + 1 + 1) (l := [.int .u32 0, .int .u32 0, .string ⟨#[]⟩]) (t := 32) (by simp)).cell (i := 2) rfl
    have y0 := (BS3.out.get (b := w.heap.size + 1 + 1) (l := [.int .u32 0, .int .u32 0, .string ⟨#[]⟩]) (t := 32) (by simp)).free 0
    have y1 := (BS3.out.get (b := w.heap.size + 1 + 1) (l := [.int .u32 0, .int .u32 0, .string ⟨#[]⟩]) (t := 32) (by simp)).free 1
    have y2 := (BS3.out.get (b := w.heap.size + 1 + 1) (l := [.int .u32 0, .int .u32 0, .string ⟨#[]⟩]) (t := 32) (by simp)).free 2
    have m0 := (BS3.out.get (b := w.heap.size + 1 + 1 + 1) (l := [.slice none 0 0]) (t := 27) (by simp)).cell (i := 0) rfl
    have z0 := (BS3.out.get (b := w.heap.size + 1 + 1 + 1) (l := [.slice none 0 0]) (t := 27) (by simp)).free 0
    have a8 := (BS3.out.get (b := AB) (l := [.slice ga ch.length gc]) (t := 27) (by simp)).cell (i := 0) rfl
    have hx2 : ¬ AB = w.heap.size + 1 + 1 := by have := HAB.out; omega
    have hx3 : ¬ AB = w.heap.size + 1 + 1 + 1 := by have := HAB.out; omega
    have hx2' : ¬ w.heap.size + 1 + 1 = AB := fun e => hx2 e.symm
    have hx3' : ¬ w.heap.size + 1 + 1 + 1 = AB := fun e => hx3 e.symm
    go_wp2_with fail
    go_region
    all_goals
      go_wp2_with fail
      refine bodyPost_ret (v := .tuple #[.agg #[.int .u32 lo, .int .u32 hi, .string s], .agg #[.slice ga ch.length gc], .bool false]) (by simp [results, Try.results10, go_sem, r0, r1, r2, m0]) rfl ?_
      refine ⟨_, rfl, ?_, ?_⟩
      · exact ((((O3.out.setCell_below (a := ⟨w.heap.size + 1 + 1, 0, none⟩) (by show w.heap.size + 1 + 1 < w.heap.size + 1 + 1 + 1 + 1; omega) _).setCell_below (a := ⟨w.heap.size + 1 + 1, 1, none⟩) (by show w.heap.size + 1 + 1 < w.heap.size + 1 + 1 + 1 + 1; omega) _).setCell_below (a := ⟨w.heap.size + 1 + 1, 2, none⟩) (by show w.heap.size + 1 + 1 < w.heap.size + 1 + 1 + 1 + 1; omega) _).setCell_below (a := ⟨w.heap.size + 1 + 1 + 1, 0, none⟩) (by show w.heap.size + 1 + 1 + 1 < w.heap.size + 1 + 1 + 1 + 1; omega) _).lower (by omega)
      · exact belowN ((((A3.out.setCell (p := ⟨w.heap.size + 1 + 1, 0, none⟩) (by show w.heap.size ≤ w.heap.size + 1 + 1; omega) _).setCell (p := ⟨w.heap.size + 1 + 1, 1, none⟩) (by show w.heap.size ≤ w.heap.size + 1 + 1; omega) _).setCell (p := ⟨w.heap.size + 1 + 1, 2, none⟩) (by show w.heap.size ≤ w.heap.size + 1 + 1; omega) _).setCell (p := ⟨w.heap.size + 1 + 1 + 1, 0, none⟩) (by show w.heap.size ≤ w.heap.size + 1 + 1 + 1; omega) _) 1
  | true =>
    by_cases hB : 0 ≤ B ∧ B ≤ (CL : Int) - 24
    · rw [decide_eq_true hB] at HHB
      by_cases hS : SZ < 0
      · clear hB
        go_wp2_with fail
        refine (HMO.out _ A4.out).mono ?_
        generalize w1.alloc (.cells #[.slice ga ch.length gc] 27) = w2 at *
        generalize w1.heap.size = AB at *
        clear m1 hltm hnem m1' A1 hw04
        rintro e w3 ⟨rfl, hb3⟩
        have BS3 := hid (BS.out.below hb3)
        have A3 := hid (A4.out.trans (hb3.mono A4.out.size))
        have O3 := hid (OA.out.below hb3)
        clear hb3 BS A4 OA
        have m3 := (BS3.out.get (b := w.heap.size + 1) (l := [.slice ao CL cap]) (t := 27) (by simp)).cell (i := 0) rfl
        go_wp2_with fail
        refine (HHB.out _ A3.out).mono ?_
        rintro e w4 ⟨rfl, hb4⟩
        have BS4 := hid (BS3.out.below hb4)
        have A5 := hid (A3.out.trans (hb4.mono A3.out.size))
        have O4 := hid (O3.out.below hb4)
        clear hb4 BS3 A3 O3 m3
        go_wp2_with fail
        refine (HSI.out _).mono ?_
        rintro e w5 ⟨rfl, rfl⟩
        have c0 := (BS4.out.get (b := w.heap.size) (l := [.int .u32 lo, .int .u32 hi, .string s]) (t := 32) (by simp)).cell (i := 0) rfl
        have c1 := (BS4.out.get (b := w.heap.size) (l := [.int .u32 lo, .int .u32 hi, .string s]) (t := 32) (by simp)).cell (i := 1) rfl
        have c2 := (BS4.out.get (b := w.heap.size) (l := [.int .u32 lo, .int .u32 hi, .string s]) (t := 32) (by simp)).cell (i := 2) rfl
        have r0 := (BS4.out.get (b := w.heap.size + 1 + 1) (l := [.int .u32 0, .int .u32 0, .string ⟨#[]⟩]) (t := 32) (by simp)).cell (i := 0) rfl
        have r1 := (BS4.out.get (b := w.heap.size + 1 + 1) (l := [.int .u32 0, .int .u32 0, .string ⟨#[]⟩]) (t := 32) (by simp)).cell (i := 1) rfl
        have r2 := (BS4.out.get (b := w.heap.size + 1 + 1) (l := [.int .u32 0, .int .u32 0, .string ⟨#[]⟩]) (t := 32) (by simp)).cell (i := 2) rfl
        have y0 := (BS4.out.get (b := w.heap.size + 1 + 1) (l := [.int .u32 0, .int .u32 0, .string ⟨#[]⟩]) (t := 32) (by simp)).free 0
        have y1 := (BS4.out.get (b := w.heap.size + 1 + 1) (l := [.int .u32 0, .int .u32 0, .string ⟨#[]⟩]) (t := 32) (by simp)).free 1
        have y2 := (BS4.out.get (b := w.heap.size + 1 + 1) (l := [.int .u32 0, .int .u32 0, .string ⟨#[]⟩]) (t := 32) (by simp)).free 2
        have m0 := (BS4.out.get (b := w.heap.size + 1 + 1 + 1) (l := [.slice none 0 0]) (t := 27) (by simp)).cell (i := 0) rfl
        have z0 := (BS4.out.get (b := w.heap.size + 1 + 1 + 1) (l := [.slice none 0 0]) (t := 27) (by simp)).free 0
        have a8 := (BS4.out.get (b := AB) (l := [.slice ga ch.length gc]) (t := 27) (by simp)).cell (i := 0) rfl
        have hx2 : ¬ AB = w.heap.size + 1 + 1 := by have := HAB.out; omega
        have hx3 : ¬ AB = w.heap.size + 1 + 1 + 1 := by have := HAB.out; omega
        have hx2' : ¬ w.heap.size + 1 + 1 = AB := fun e => hx2 e.symm
        have hx3' : ¬ w.heap.size + 1 + 1 + 1 = AB := fun e => hx3 e.symm
        go_wp2_with fail
        go_region
        all_goals
          go_wp2_with fail
          refine bodyPost_ret (v := .tuple #[.agg #[.int .u32 lo, .int .u32 hi, .string s], .agg #[.slice ga ch.length gc], .bool false]) (by simp [results, Try.results10, go_sem, r0, r1, r2, m0]) rfl ?_
          refine ⟨_, rfl, ?_, ?_⟩
          · exact ((((O4.out.setCell_below (a := ⟨w.heap.size + 1 + 1, 0, none⟩) (by show w.heap.size + 1 + 1 < w.heap.size + 1 + 1 + 1 + 1; omega) _).setCell_below (a := ⟨w.heap.size + 1 + 1, 1, none⟩) (by show w.heap.size + 1 + 1 < w.heap.size + 1 + 1 + 1 + 1; omega) _).setCell_below (a := ⟨w.heap.size + 1 + 1, 2, none⟩) (by show w.heap.size + 1 + 1 < w.heap.size + 1 + 1 + 1 + 1; omega) _).setCell_below (a := ⟨w.heap.size + 1 + 1 + 1, 0, none⟩) (by show w.heap.size + 1 + 1 + 1 < w.heap.size + 1 + 1 + 1 + 1; omega) _).lower (by omega)
          · exact belowN ((((A5.out.setCell (p := ⟨w.heap.size + 1 + 1, 0, none⟩) (by show w.heap.size ≤ w.heap.size + 1 + 1; omega) _).setCell (p := ⟨w.heap.size + 1 + 1, 1, none⟩) (by show w.heap.size ≤ w.heap.size + 1 + 1; omega) _).setCell (p := ⟨w.heap.size + 1 + 1, 2, none⟩) (by show w.heap.size ≤ w.heap.size + 1 + 1; omega) _).setCell (p := ⟨w.heap.size + 1 + 1 + 1, 0, none⟩) (by show w.heap.size ≤ w.heap.size + 1 + 1 + 1; omega) _) 1
      · have hSS : (59800 : Int) < (s.size : Int) := by
          have : ¬ s.size ≤ 59800 := fun h => HNO.out ⟨rfl, hB, by omega, h⟩
          omega
        clear hB
        go_wp2_with fail
        refine (HMO.out _ A4.out).mono ?_
        generalize w1.alloc (.cells #[.slice ga ch.length gc] 27) = w2 at *
        generalize w1.heap.size = AB at *
        clear m1 hltm hnem m1' A1 hw04
        rintro e w3 ⟨rfl, hb3⟩
        have BS3 := hid (BS.out.below hb3)
        have A3 := hid (A4.out.trans (hb3.mono A4.out.size))
        have O3 := hid (OA.out.below hb3)
        clear hb3 BS A4 OA
        have m3 := (BS3.out.get (b := w.heap.size + 1) (l := [.slice ao CL cap]) (t := 27) (by simp)).cell (i := 0) rfl
        go_wp2_with fail
        refine (HHB.out _ A3.out).mono ?_
        rintro e w4 ⟨rfl, hb4⟩
        have BS4 := hid (BS3.out.below hb4)
        have A5 := hid (A3.out.trans (hb4.mono A3.out.size))
        have O4 := hid (O3.out.below hb4)
        clear hb4 BS3 A3 O3 m3
        have c9 := (BS4.out.get (b := w.heap.size) (l := [.int .u32 lo, .int .u32 hi, .string s]) (t := 32) (by simp)).cell (i := 2) rfl
        go_wp2_with fail
        refine (HSI.out _).mono ?_
        rintro e w5 ⟨rfl, rfl⟩
        rw [decide_eq_false (show ¬ s.size ≤ 59800 by omega)] at HRM
        go_wp2_with fail
        refine (HRM.out _).mono ?_
        rintro e w5 ⟨rfl, rfl⟩
        have c0 := (BS4.out.get (b := w.heap.size) (l := [.int .u32 lo, .int .u32 hi, .string s]) (t := 32) (by simp)).cell (i := 0) rfl
        have c1 := (BS4.out.get (b := w.heap.size) (l := [.int .u32 lo, .int .u32 hi, .string s]) (t := 32) (by simp)).cell (i := 1) rfl
        have c2 := (BS4.out.get (b := w.heap.size) (l := [.int .u32 lo, .int .u32 hi, .string s]) (t := 32) (by simp)).cell (i := 2) rfl
        have r0 := (BS4.out.get (b := w.heap.size + 1 + 1) (l := [.int .u32 0, .int .u32 0, .string ⟨#[]⟩]) (t := 32) (by simp)).cell (i := 0) rfl
        have r1 := (BS4.out.get (b := w.heap.size + 1 + 1) (l := [.int .u32 0, .int .u32 0, .string ⟨#[]⟩]) (t := 32) (by simp)).cell (i := 1) rfl
        have r2 := (BS4.out.get (b := w.heap.size + 1 + 1) (l := [.int .u32 0, .int .u32 0, .string ⟨#[]⟩]) (t := 32) (by simp)).cell (i := 2) rfl
        have y0 := (BS4.out.get (b := w.heap.size + 1 + 1) (l := [.int .u32 0, .int .u32 0, .string ⟨#[]⟩]) (t := 32) (by simp)).free 0
        have y1 := (BS4.out.get (b := w.heap.size + 1 + 1) (l := [.int .u32 0, .int .u32 0, .string ⟨#[]⟩]) (t := 32) (by simp)).free 1
        have y2 := (BS4.out.get (b := w.heap.size + 1 + 1) (l := [.int .u32 0, .int .u32 0, .string ⟨#[]⟩]) (t := 32) (by simp)).free 2
        have m0 := (BS4.out.get (b := w.heap.size + 1 + 1 + 1) (l := [.slice none 0 0]) (t := 27) (by simp)).cell (i := 0) rfl
        have z0 := (BS4.out.get (b := w.heap.size + 1 + 1 + 1) (l := [.slice none 0 0]) (t := 27) (by simp)).free 0
        have a8 := (BS4.out.get (b := AB) (l := [.slice ga ch.length gc]) (t := 27) (by simp)).cell (i := 0) rfl
        have hx2 : ¬ AB = w.heap.size + 1 + 1 := by have := HAB.out; omega
        have hx3 : ¬ AB = w.heap.size + 1 + 1 + 1 := by have := HAB.out; omega
        have hx2' : ¬ w.heap.size + 1 + 1 = AB := fun e => hx2 e.symm
        have hx3' : ¬ w.heap.size + 1 + 1 + 1 = AB := fun e => hx3 e.symm
        go_wp2_with fail
        go_region
        all_goals
          go_wp2_with fail
          refine bodyPost_ret (v := .tuple #[.agg #[.int .u32 lo, .int .u32 hi, .string s], .agg #[.slice ga ch.length gc], .bool false]) (by simp [results, Try.results10, go_sem, r0, r1, r2, m0]) rfl ?_
          refine ⟨_, rfl, ?_, ?_⟩
          · exact ((((O4.out.setCell_below (a := ⟨w.heap.size + 1 + 1, 0, none⟩) (by show w.heap.size + 1 + 1 < w.heap.size + 1 + 1 + 1 + 1; omega) _).setCell_below (a := ⟨w.heap.size + 1 + 1, 1, none⟩) (by show w.heap.size + 1 + 1 < w.heap.size + 1 + 1 + 1 + 1; omega) _).setCell_below (a := ⟨w.heap.size + 1 + 1, 2, none⟩) (by show w.heap.size + 1 + 1 < w.heap.size + 1 + 1 + 1 + 1; omega) _).setCell_below (a := ⟨w.heap.size + 1 + 1 + 1, 0, none⟩) (by show w.heap.size + 1 + 1 + 1 < w.heap.size + 1 + 1 + 1 + 1; omega) _).lower (by omega)
          · exact belowN ((((A5.out.setCell (p := ⟨w.heap.size + 1 + 1, 0, none⟩) (by show w.heap.size ≤ w.heap.size + 1 + 1; omega) _).setCell (p := ⟨w.heap.size + 1 + 1, 1, none⟩) (by show w.heap.size ≤ w.heap.size + 1 + 1; omega) _).setCell (p := ⟨w.heap.size + 1 + 1, 2, none⟩) (by show w.heap.size ≤ w.heap.size + 1 + 1; omega) _).setCell (p := ⟨w.heap.size + 1 + 1 + 1, 0, none⟩) (by show w.heap.size ≤ w.heap.size + 1 + 1 + 1; omega) _) 1
    · rw [decide_eq_false hB] at HHB
      clear hB
      go_wp2_with fail
      refine (HMO.out _ A4.out).mono ?_
      generalize w1.alloc (.cells #[.slice ga ch.length gc] 27) = w2 at *
      generalize w1.heap.size = AB at *
      clear m1 hltm hnem m1' A1 hw04
      rintro e w3 ⟨rfl, hb3⟩
      have BS3 := hid (BS.out.below hb3)
      have A3 := hid (A4.out.trans (hb3.mono A4.out.size))
      have O3 := hid (OA.out.below hb3)
      clear hb3 BS A4 OA
      have m3 := (BS3.out.get (b := w.heap.size + 1) (l := [.slice ao CL cap]) (t := 27) (by simp)).cell (i := 0) rfl
      go_wp2_with fail
      refine (HHB.out _ A3.out).mono ?_
      rintro e w4 ⟨rfl, hb4⟩
      have BS4 := hid (BS3.out.below hb4)
      have A5 := hid (A3.out.trans (hb4.mono A3.out.size))
      have O4 := hid (O3.out.below hb4)
      clear hb4 BS3 A3 O3 m3
      have c0 := (BS4.out.get (b := w.heap.size) (l := [.int .u32 lo, .int .u32 hi, .string s]) (t := 32) (by simp)).cell (i := 0) rfl
      have c1 := (BS4.out.get (b := w.heap.size) (l := [.int .u32 lo, .int .u32 hi, .string s]) (t := 32) (by simp)).cell (i := 1) rfl
      have c2 := (BS4.out.get (b := w.heap.size) (l := [.int .u32 lo, .int .u32 hi, .string s]) (t := 32) (by simp)).cell (i := 2) rfl
      have r0 := (BS4.out.get (b := w.heap.size + 1 + 1) (l := [.int .u32 0, .int .u32 0, .string ⟨#[]⟩]) (t := 32) (by simp)).cell (i := 0) rfl
      have r1 := (BS4.out.get (b := w.heap.size + 1 + 1) (l := [.int .u32 0, .int .u32 0, .string ⟨#[]⟩]) (t := 32) (by simp)).cell (i := 1) rfl
      have r2 := (BS4.out.get (b := w.heap.size + 1 + 1) (l := [.int .u32 0, .int .u32 0, .string ⟨#[]⟩]) (t := 32) (by simp)).cell (i := 2) rfl
      have y0 := (BS4.out.get (b := w.heap.size + 1 + 1) (l := [.int .u32 0, .int .u32 0, .string ⟨#[]⟩]) (t := 32) (by simp)).free 0
      have y1 := (BS4.out.get (b := w.heap.size + 1 + 1) (l := [.int .u32 0, .int .u32 0, .string ⟨#[]⟩]) (t := 32) (by simp)).free 1
      have y2 := (BS4.out.get (b := w.heap.size + 1 + 1) (l := [.int .u32 0, .int .u32 0, .string ⟨#[]⟩]) (t := 32) (by simp)).free 2
      have m0 := (BS4.out.get (b := w.heap.size + 1 + 1 + 1) (l := [.slice none 0 0]) (t := 27) (by simp)).cell (i := 0) rfl
      have z0 := (BS4.out.get (b := w.heap.size + 1 + 1 + 1) (l := [.slice none 0 0]) (t := 27) (by simp)).free 0
      have a8 := (BS4.out.get (b := AB) (l := [.slice ga ch.length gc]) (t := 27) (by simp)).cell (i := 0) rfl
      have hx2 : ¬ AB = w.heap.size + 1 + 1 := by have := HAB.out; omega
      have hx3 : ¬ AB = w.heap.size + 1 + 1 + 1 := by have := HAB.out; omega
      have hx2' : ¬ w.heap.size + 1 + 1 = AB := fun e => hx2 e.symm
      have hx3' : ¬ w.heap.size + 1 + 1 + 1 = AB := fun e => hx3 e.symm
      go_wp2_with fail
      go_region
      all_goals
        go_wp2_with fail
        refine bodyPost_ret (v := .tuple #[.agg #[.int .u32 lo, .int .u32 hi, .string s], .agg #[.slice ga ch.length gc], .bool false]) (by simp [results, Try.results10, go_sem, r0, r1, r2, m0]) rfl ?_
        refine ⟨_, rfl, ?_, ?_⟩
        · exact ((((O4.out.setCell_below (a := ⟨w.heap.size + 1 + 1, 0, none⟩) (by show w.heap.size + 1 + 1 < w.heap.size + 1 + 1 + 1 + 1; omega) _).setCell_below (a := ⟨w.heap.size + 1 + 1, 1, none⟩) (by show w.heap.size + 1 + 1 < w.heap.size + 1 + 1 + 1 + 1; omega) _).setCell_below (a := ⟨w.heap.size + 1 + 1, 2, none⟩) (by show w.heap.size + 1 + 1 < w.heap.size + 1 + 1 + 1 + 1; omega) _).setCell_below (a := ⟨w.heap.size + 1 + 1 + 1, 0, none⟩) (by show w.heap.size + 1 + 1 + 1 < w.heap.size + 1 + 1 + 1 + 1; omega) _).lower (by omega)
        · exact belowN ((((A5.out.setCell (p := ⟨w.heap.size + 1 + 1, 0, none⟩) (by show w.heap.size ≤ w.heap.size + 1 + 1; omega) _).setCell (p := ⟨w.heap.size + 1 + 1, 1, none⟩) (by show w.heap.size ≤ w.heap.size + 1 + 1; omega) _).setCell (p := ⟨w.heap.size + 1 + 1, 2, none⟩) (by show w.heap.size ≤ w.heap.size + 1 + 1; omega) _).setCell (p := ⟨w.heap.size + 1 + 1 + 1, 0, none⟩) (by show w.heap.size ≤ w.heap.size + 1 + 1 + 1; omega) _) 1

/-- What ModelPut of both sides answers. -/
def mpV (lo hi : Int) (s : ByteArray) (ch : List Int) (B x : Int) : Value := cV (mpS lo hi s ch B x).lo (mpS lo hi s ch B x).hi (s ++ strOfNums (mpS lo hi s ch B x).o)
theorem impl_mput (lo hi : Int) (s : ByteArray) (v : Value) (ch : List Int) (B x : Int) (w : World) (hl : W32 lo) (hh : W32 hi) (hx0 : -9223372036854775808 ≤ x) (hx1 : x ≤ 9223372036854775807) (hn : ch.length ≤ 1048576) (hs : s.size ≤ 1048576) (hv : Vp w v ch) :
    Calls Try.prog 10 #[cV lo hi s, .agg #[v], .int .i64 B, .int .i64 x] w fun e w' => ∃ v', e = .returned (.tuple #[mpV lo hi s ch B x, .agg #[v'], .bool (okMP s ch B x)]) ∧ Own w' w.heap.size 3 .i64 v' (mpS lo hi s ch B x).ch ∧ Below w.heap.size w w' := by
  unfold mpV mpS
  by_cases h : okMP s ch B x = true
  · rw [h, if_pos rfl]
    obtain ⟨h1, h2, h3, h4⟩ := of_decide_eq_true h
    obtain ⟨k, rfl⟩ := Int.eq_ofNat_of_zero_le h2.1
    exact impl_mput_yes lo hi s v ch k x w hl hh hx0 hx1 h1 (by omega) h3 h4 hv
  · have h' : okMP s ch B x = false := by simpa using h
    have e0 : s ++ strOfNums [] = s := by
      obtain ⟨d⟩ := s
      apply ByteArray.ext
      simp [strOfNums]
    rw [h', if_neg (by decide)]
    simp only
    rw [e0]
    exact impl_mput_no lo hi s v ch B x w hx0 hx1 hn hs h' hv
end Go.Proofs.Ytimafabbepgifaa
