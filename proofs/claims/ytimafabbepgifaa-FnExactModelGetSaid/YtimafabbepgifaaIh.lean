/- The contract of the program's ModelGet where the model or the base is not right. -/
import Derived.Test.YtimafabbepgifaaIg
namespace Go.Proofs.Ytimafabbepgifaa
open Go.RowKit
set_option linter.unusedVariables false

set_option maxRecDepth 100000 in
set_option maxHeartbeats 3200000 in
theorem impl_mget_no (lo hi co : Int) (t : ByteArray) (i : Int) (v : Value) (ch : List Int) (B : Int) (w : World) (hn : ch.length ≤ 1048576) (hno : ¬ (okM ch = true ∧ (0 ≤ B ∧ B ≤ (ch.length : Int) - 24))) (hv : Vp w v ch) :
    Calls Try.prog 14 #[rV lo hi co t i, .agg #[v], .int .i64 B] w fun e w' => ∃ v', e = .returned (.tuple #[rV lo hi co t i, .agg #[v'], .int .i64 0, .bool false]) ∧ Own w' w.heap.size 3 .i64 v' ch ∧ Below w.heap.size w w' := by
  have HCM := hid (fun q hq => copy_model v ch q hn (hv.below (Nat.le_refl _) hq))
  have HMO := hid (fun q (hq : Below w.heap.size w q) => impl_modelOk v ch q (hv.below (Nat.le_refl _) hq).vw)
  have HHB := hid (fun q (hq : Below w.heap.size w q) => has_base v ch B q hn (hv.below (Nat.le_refl _) hq).vw)
  have HNO := hid hno
  clear hno
  obtain ⟨ao, cap, rfl, hv1, hv2, hv3⟩ := hv
  unfold rV at *
  clear hv1 hv2 hv3
  obtain ⟨n0, n1, n2, n3, n4⟩ := new_four w [.int .u32 lo, .int .u32 hi, .int .u32 co, .string t, .int .i64 i] [.slice ao ch.length cap] [.int .u32 0, .int .u32 0, .int .u32 0, .string ⟨#[]⟩, .int .i64 0] [.slice none 0 0] 38 27 38 27
  have N4 := hid n4
  have BS0 : Hid (Bs ((((w.alloc (.cells #[.int .u32 lo, .int .u32 hi, .int .u32 co, .string t, .int .i64 i] 38)).alloc (.cells #[.slice ao ch.length cap] 27)).alloc (.cells #[.int .u32 0, .int .u32 0, .int .u32 0, .string ⟨#[]⟩, .int .i64 0] 38)).alloc (.cells #[.slice none 0 0] 27)) [(w.heap.size, [.int .u32 lo, .int .u32 hi, .int .u32 co, .string t, .int .i64 i], 38), (w.heap.size + 1, [.slice ao ch.length cap], 27), (w.heap.size + 1 + 1, [.int .u32 0, .int .u32 0, .int .u32 0, .string ⟨#[]⟩, .int .i64 0], 38), (w.heap.size + 1 + 1 + 1, [.slice none 0 0], 27)]) := by
    intro y hy
    simp only [List.mem_cons, List.not_mem_nil, or_false] at hy
    rcases hy with rfl | rfl | rfl | rfl
    · exact n0
    · exact n1
    · exact n2
    · exact n3
  have hw0 := hid n3.lt
  clear n0 n1 n2 n3 n4
  generalize hCL : ch.length = CL at *
  have HCL := hid hCL
  clear hCL
  generalize okM ch = OM at *
  go_enter Try.func14, Try.ntmps14
  go_wp2_with fail
  refine (HMO.out _ N4.out).mono ?_
  generalize (((w.alloc (.cells #[.int .u32 lo, .int .u32 hi, .int .u32 co, .string t, .int .i64 i] 38)).alloc (.cells #[.slice ao CL cap] 27)).alloc (.cells #[.int .u32 0, .int .u32 0, .int .u32 0, .string ⟨#[]⟩, .int .i64 0] 38)).alloc (.cells #[.slice none 0 0] 27) = w0 at *
  rintro e w1 ⟨rfl, hb1⟩
  have BS1 := hid (BS0.out.below hb1)
  have A1 := hid (N4.out.trans (hb1.mono N4.out.size))
  clear hb1 BS0 N4 hw0
  cases OM with
  | false =>
    have DX := hid (below_drewN w1 1)
    have hs4 := hid (BS1.out.get (b := w.heap.size + 1 + 1 + 1) (l := [.slice none 0 0]) (t := 27) (by simp)).lt
    have BD := hid (belowN A1.out 1)
    have c0 := (BS1.out.get (b := w.heap.size) (l := [.int .u32 lo, .int .u32 hi, .int .u32 co, .string t, .int .i64 i]) (t := 38) (by simp)).cell (i := 0) rfl
    have c1 := (BS1.out.get (b := w.heap.size) (l := [.int .u32 lo, .int .u32 hi, .int .u32 co, .string t, .int .i64 i]) (t := 38) (by simp)).cell (i := 1) rfl
    have c2 := (BS1.out.get (b := w.heap.size) (l := [.int .u32 lo, .int .u32 hi, .int .u32 co, .string t, .int .i64 i]) (t := 38) (by simp)).cell (i := 2) rfl
    have c3 := (BS1.out.get (b := w.heap.size) (l := [.int .u32 lo, .int .u32 hi, .int .u32 co, .string t, .int .i64 i]) (t := 38) (by simp)).cell (i := 3) rfl
    have c4 := (BS1.out.get (b := w.heap.size) (l := [.int .u32 lo, .int .u32 hi, .int .u32 co, .string t, .int .i64 i]) (t := 38) (by simp)).cell (i := 4) rfl
    have mX := (BS1.out.get (b := w.heap.size + 1) (l := [.slice ao CL cap]) (t := 27) (by simp)).cell (i := 0) rfl
    go_wp2_with fail
    go_region_with (go_at_call 35; refine (HCM.out w1.drew BD.out).mono ?_; rintro e wy ⟨vy, rfl, hoy, hby⟩; obtain ⟨ya, yc, rfl⟩ := hoy.shape; have Ey := hid (DX.out.trans hby); have BSy := hid (BS1.out.below Ey.out); have r0 := (BSy.out.get (b := w.heap.size + 1 + 1) (l := [.int .u32 0, .int .u32 0, .int .u32 0, .string ⟨#[]⟩, .int .i64 0]) (t := 38) (by simp)).cell (i := 0) rfl; have y0 := (BSy.out.get (b := w.heap.size + 1 + 1) (l := [.int .u32 0, .int .u32 0, .int .u32 0, .string ⟨#[]⟩, .int .i64 0]) (t := 38) (by simp)).free 0; have x0 := (BSy.out.get (b := w.heap.size) (l := [.int .u32 lo, .int .u32 hi, .int .u32 co, .string t, .int .i64 i]) (t := 38) (by simp)).cell (i := 0) rfl; have r1 := (BSy.out.get (b := w.heap.size + 1 + 1) (l := [.int .u32 0, .int .u32 0, .int .u32 0, .string ⟨#[]⟩, .int .i64 0]) (t := 38) (by simp)).cell (i := 1) rfl; have y1 := (BSy.out.get (b := w.heap.size + 1 + 1) (l := [.int .u32 0, .int .u32 0, .int .u32 0, .string ⟨#[]⟩, .int .i64 0]) (t := 38) (by simp)).free 1; have x1 := (BSy.out.get (b := w.heap.size) (l := [.int .u32 lo, .int .u32 hi, .int .u32 co, .string t, .int .i64 i]) (t := 38) (by simp)).cell (i := 1) rfl; have r2 := (BSy.out.get (b := w.heap.size + 1 + 1) (l := [.int .u32 0, .int .u32 0, .int .u32 0, .string ⟨#[]⟩, .int .i64 0]) (t := 38) (by simp)).cell (i := 2) rfl; have y2 := (BSy.out.get (b := w.heap.size + 1 + 1) (l := [.int .u32 0, .int .u32 0, .int .u32 0, .string ⟨#[]⟩, .int .i64 0]) (t := 38) (by simp)).free 2; have x2 := (BSy.out.get (b := w.heap.size) (l := [.int .u32 lo, .int .u32 hi, .int .u32 co, .string t, .int .i64 i]) (t := 38) (by simp)).cell (i := 2) rfl; have r3 := (BSy.out.get (b := w.heap.size + 1 + 1) (l := [.int .u32 0, .int .u32 0, .int .u32 0, .string ⟨#[]⟩, .int .i64 0]) (t := 38) (by simp)).cell (i := 3) rfl; have y3 := (BSy.out.get (b := w.heap.size + 1 + 1) (l := [.int .u32 0, .int .u32 0, .int .u32 0, .string ⟨#[]⟩, .int .i64 0]) (t := 38) (by simp)).free 3; have x3 := (BSy.out.get (b := w.heap.size) (l := [.int .u32 lo, .int .u32 hi, .int .u32 co, .string t, .int .i64 i]) (t := 38) (by simp)).cell (i := 3) rfl; have r4 := (BSy.out.get (b := w.heap.size + 1 + 1) (l := [.int .u32 0, .int .u32 0, .int .u32 0, .string ⟨#[]⟩, .int .i64 0]) (t := 38) (by simp)).cell (i := 4) rfl; have y4 := (BSy.out.get (b := w.heap.size + 1 + 1) (l := [.int .u32 0, .int .u32 0, .int .u32 0, .string ⟨#[]⟩, .int .i64 0]) (t := 38) (by simp)).free 4; have x4 := (BSy.out.get (b := w.heap.size) (l := [.int .u32 lo, .int .u32 hi, .int .u32 co, .string t, .int .i64 i]) (t := 38) (by simp)).cell (i := 4) rfl; have m0 := (BSy.out.get (b := w.heap.size + 1 + 1 + 1) (l := [.slice none 0 0]) (t := 27) (by simp)).cell (i := 0) rfl; have z0 := (BSy.out.get (b := w.heap.size + 1 + 1 + 1) (l := [.slice none 0 0]) (t := 27) (by simp)).free 0)
    all_goals
      have Oy := hid (hoy.lower (base' := w.heap.size + 1 + 1 + 1 + 1) hs4.out)
      have Ay := hid (A1.out.trans (Ey.out.mono A1.out.size))
      clear hoy hby Ey DX BD
      go_wp2_with fail
      refine bodyPost_ret (v := .tuple #[.agg #[.int .u32 lo, .int .u32 hi, .int .u32 co, .string t, .int .i64 i], .agg #[.slice ya ch.length yc], .int .i64 0, .bool false]) (by simp [results, Try.results14, go_sem, r0, r1, r2, r3, r4, m0]) rfl ?_
      refine ⟨_, rfl, ?_, ?_⟩
      · exact ((((((Oy.out.setCell_below (a := ⟨w.heap.size + 1 + 1, 0, none⟩) (by show w.heap.size + 1 + 1 < w.heap.size + 1 + 1 + 1 + 1; omega) _).setCell_below (a := ⟨w.heap.size + 1 + 1, 1, none⟩) (by show w.heap.size + 1 + 1 < w.heap.size + 1 + 1 + 1 + 1; omega) _).setCell_below (a := ⟨w.heap.size + 1 + 1, 2, none⟩) (by show w.heap.size + 1 + 1 < w.heap.size + 1 + 1 + 1 + 1; omega) _).setCell_below (a := ⟨w.heap.size + 1 + 1, 3, none⟩) (by show w.heap.size + 1 + 1 < w.heap.size + 1 + 1 + 1 + 1; omega) _).setCell_below (a := ⟨w.heap.size + 1 + 1, 4, none⟩) (by show w.heap.size + 1 + 1 < w.heap.size + 1 + 1 + 1 + 1; omega) _).setCell_below (a := ⟨w.heap.size + 1 + 1 + 1, 0, none⟩) (by show w.heap.size + 1 + 1 + 1 < w.heap.size + 1 + 1 + 1 + 1; omega) _).lower (by omega)
      · exact ((((((Ay.out.setCell (p := ⟨w.heap.size + 1 + 1, 0, none⟩) (by show w.heap.size ≤ w.heap.size + 1 + 1; omega) _).setCell (p := ⟨w.heap.size + 1 + 1, 1, none⟩) (by show w.heap.size ≤ w.heap.size + 1 + 1; omega) _).setCell (p := ⟨w.heap.size + 1 + 1, 2, none⟩) (by show w.heap.size ≤ w.heap.size + 1 + 1; omega) _).setCell (p := ⟨w.heap.size + 1 + 1, 3, none⟩) (by show w.heap.size ≤ w.heap.size + 1 + 1; omega) _).setCell (p := ⟨w.heap.size + 1 + 1, 4, none⟩) (by show w.heap.size ≤ w.heap.size + 1 + 1; omega) _).setCell (p := ⟨w.heap.size + 1 + 1 + 1, 0, none⟩) (by show w.heap.size ≤ w.heap.size + 1 + 1 + 1; omega) _)
  | true =>
    have hB : ¬ (0 ≤ B ∧ B ≤ (CL : Int) - 24) := fun h => HNO.out ⟨rfl, h⟩
    rw [decide_eq_false hB] at HHB
    have m1 := (BS1.out.get (b := w.heap.size + 1) (l := [.slice ao CL cap]) (t := 27) (by simp)).cell (i := 0) rfl
    clear hB HNO
    go_wp2_with fail
    refine (HHB.out _ A1.out).mono ?_
    rintro e w2 ⟨rfl, hb2⟩
    have BS2 := hid (BS1.out.below hb2)
    have A2 := hid (A1.out.trans (hb2.mono A1.out.size))
    clear hb2 BS1 A1 m1
    have DX := hid (below_drewN w2 1)
    have hs4 := hid (BS2.out.get (b := w.heap.size + 1 + 1 + 1) (l := [.slice none 0 0]) (t := 27) (by simp)).lt
    have BD := hid (belowN A2.out 1)
    have c0 := (BS2.out.get (b := w.heap.size) (l := [.int .u32 lo, .int .u32 hi, .int .u32 co, .string t, .int .i64 i]) (t := 38) (by simp)).cell (i := 0) rfl
    have c1 := (BS2.out.get (b := w.heap.size) (l := [.int .u32 lo, .int .u32 hi, .int .u32 co, .string t, .int .i64 i]) (t := 38) (by simp)).cell (i := 1) rfl
    have c2 := (BS2.out.get (b := w.heap.size) (l := [.int .u32 lo, .int .u32 hi, .int .u32 co, .string t, .int .i64 i]) (t := 38) (by simp)).cell (i := 2) rfl
    have c3 := (BS2.out.get (b := w.heap.size) (l := [.int .u32 lo, .int .u32 hi, .int .u32 co, .string t, .int .i64 i]) (t := 38) (by simp)).cell (i := 3) rfl
    have c4 := (BS2.out.get (b := w.heap.size) (l := [.int .u32 lo, .int .u32 hi, .int .u32 co, .string t, .int .i64 i]) (t := 38) (by simp)).cell (i := 4) rfl
    have mX := (BS2.out.get (b := w.heap.size + 1) (l := [.slice ao CL cap]) (t := 27) (by simp)).cell (i := 0) rfl
    go_wp2_with fail
    go_region_with (go_at_call 35; refine (HCM.out w2.drew BD.out).mono ?_; rintro e wy ⟨vy, rfl, hoy, hby⟩; obtain ⟨ya, yc, rfl⟩ := hoy.shape; have Ey := hid (DX.out.trans hby); have BSy := hid (BS2.out.below Ey.out); have r0 := (BSy.out.get (b := w.heap.size + 1 + 1) (l := [.int .u32 0, .int .u32 0, .int .u32 0, .string ⟨#[]⟩, .int .i64 0]) (t := 38) (by simp)).cell (i := 0) rfl; have y0 := (BSy.out.get (b := w.heap.size + 1 + 1) (l := [.int .u32 0, .int .u32 0, .int .u32 0, .string ⟨#[]⟩, .int .i64 0]) (t := 38) (by simp)).free 0; have x0 := (BSy.out.get (b := w.heap.size) (l := [.int .u32 lo, .int .u32 hi, .int .u32 co, .string t, .int .i64 i]) (t := 38) (by simp)).cell (i := 0) rfl; have r1 := (BSy.out.get (b := w.heap.size + 1 + 1) (l := [.int .u32 0, .int .u32 0, .int .u32 0, .string ⟨#[]⟩, .int .i64 0]) (t := 38) (by simp)).cell (i := 1) rfl; have y1 := (BSy.out.get (b := w.heap.size + 1 + 1) (l := [.int .u32 0, .int .u32 0, .int .u32 0, .string ⟨#[]⟩, .int .i64 0]) (t := 38) (by simp)).free 1; have x1 := (BSy.out.get (b := w.heap.size) (l := [.int .u32 lo, .int .u32 hi, .int .u32 co, .string t, .int .i64 i]) (t := 38) (by simp)).cell (i := 1) rfl; have r2 := (BSy.out.get (b := w.heap.size + 1 + 1) (l := [.int .u32 0, .int .u32 0, .int .u32 0, .string ⟨#[]⟩, .int .i64 0]) (t := 38) (by simp)).cell (i := 2) rfl; have y2 := (BSy.out.get (b := w.heap.size + 1 + 1) (l := [.int .u32 0, .int .u32 0, .int .u32 0, .string ⟨#[]⟩, .int .i64 0]) (t := 38) (by simp)).free 2; have x2 := (BSy.out.get (b := w.heap.size) (l := [.int .u32 lo, .int .u32 hi, .int .u32 co, .string t, .int .i64 i]) (t := 38) (by simp)).cell (i := 2) rfl; have r3 := (BSy.out.get (b := w.heap.size + 1 + 1) (l := [.int .u32 0, .int .u32 0, .int .u32 0, .string ⟨#[]⟩, .int .i64 0]) (t := 38) (by simp)).cell (i := 3) rfl; have y3 := (BSy.out.get (b := w.heap.size + 1 + 1) (l := [.int .u32 0, .int .u32 0, .int .u32 0, .string ⟨#[]⟩, .int .i64 0]) (t := 38) (by simp)).free 3; have x3 := (BSy.out.get (b := w.heap.size) (l := [.int .u32 lo, .int .u32 hi, .int .u32 co, .string t, .int .i64 i]) (t := 38) (by simp)).cell (i := 3) rfl; have r4 := (BSy.out.get (b := w.heap.size + 1 + 1) (l := [.int .u32 0, .int .u32 0, .int .u32 0, .string ⟨#[]⟩, .int .i64 0]) (t := 38) (by simp)).cell (i := 4) rfl; have y4 := (BSy.out.get (b := w.heap.size + 1 + 1) (l := [.int .u32 0, .int .u32 0, .int .u32 0, .string ⟨#[]⟩, .int .i64 0]) (t := 38) (by simp)).free 4; have x4 := (BSy.out.get (b := w.heap.size) (l := [.int .u32 lo, .int .u32 hi, .int .u32 co, .string t, .int .i64 i]) (t := 38) (by simp)).cell (i := 4) rfl; have m0 := (BSy.out.get (b := w.heap.size + 1 + 1 + 1) (l := [.slice none 0 0]) (t := 27) (by simp)).cell (i := 0) rfl; have z0 := (BSy.out.get (b := w.heap.size + 1 + 1 + 1) (l := [.slice none 0 0]) (t := 27) (by simp)).free 0)
    all_goals
      have Oy := hid (hoy.lower (base' := w.heap.size + 1 + 1 + 1 + 1) hs4.out)
      have Ay := hid (A2.out.trans (Ey.out.mono A2.out.size))
      clear hoy hby Ey DX BD
      go_wp2_with fail
      refine bodyPost_ret (v := .tuple #[.agg #[.int .u32 lo, .int .u32 hi, .int .u32 co, .string t, .int .i64 i], .agg #[.slice ya ch.length yc], .int .i64 0, .bool false]) (by simp [results, Try.results14, go_sem, r0, r1, r2, r3, r4, m0]) rfl ?_
      refine ⟨_, rfl, ?_, ?_⟩
      · exact ((((((Oy.out.setCell_below (a := ⟨w.heap.size + 1 + 1, 0, none⟩) (by show w.heap.size + 1 + 1 < w.heap.size + 1 + 1 + 1 + 1; omega) _).setCell_below (a := ⟨w.heap.size + 1 + 1, 1, none⟩) (by show w.heap.size + 1 + 1 < w.heap.size + 1 + 1 + 1 + 1; omega) _).setCell_below (a := ⟨w.heap.size + 1 + 1, 2, none⟩) (by show w.heap.size + 1 + 1 < w.heap.size + 1 + 1 + 1 + 1; omega) _).setCell_below (a := ⟨w.heap.size + 1 + 1, 3, none⟩) (by show w.heap.size + 1 + 1 < w.heap.size + 1 + 1 + 1 + 1; omega) _).setCell_below (a := ⟨w.heap.size + 1 + 1, 4, none⟩) (by show w.heap.size + 1 + 1 < w.heap.size + 1 + 1 + 1 + 1; omega) _).setCell_below (a := ⟨w.heap.size + 1 + 1 + 1, 0, none⟩) (by show w.heap.size + 1 + 1 + 1 < w.heap.size + 1 + 1 + 1 + 1; omega) _).lower (by omega)
      · exact ((((((Ay.out.setCell (p := ⟨w.heap.size + 1 + 1, 0, none⟩) (by show w.heap.size ≤ w.heap.size + 1 + 1; omega) _).setCell (p := ⟨w.heap.size + 1 + 1, 1, none⟩) (by show w.heap.size ≤ w.heap.size + 1 + 1; omega) _).setCell (p := ⟨w.heap.size + 1 + 1, 2, none⟩) (by show w.heap.size ≤ w.heap.size + 1 + 1; omega) _).setCell (p := ⟨w.heap.size + 1 + 1, 3, none⟩) (by show w.heap.size ≤ w.heap.size + 1 + 1; omega) _).setCell (p := ⟨w.heap.size + 1 + 1, 4, none⟩) (by show w.heap.size ≤ w.heap.size + 1 + 1; omega) _).setCell (p := ⟨w.heap.size + 1 + 1 + 1, 0, none⟩) (by show w.heap.size ≤ w.heap.size + 1 + 1 + 1; omega) _)
end Go.Proofs.Ytimafabbepgifaa
