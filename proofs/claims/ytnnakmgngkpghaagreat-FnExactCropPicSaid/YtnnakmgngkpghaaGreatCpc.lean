/- copyCodes of the program, l05CopyCodes of the specification. -/
import Derived.Test.YtnnakmgngkpghaaGreatCln
namespace Go.Proofs.YtnnakmgngkpghaaGreat
open Go.RowKit Go.Maps
set_option linter.unusedVariables false

set_option maxRecDepth 20000 in
set_option maxHeartbeats 1600000 in
theorem copyCodes_any (v0 v1 : Value) (cs ss : List Int) (w : World) (h0 : cs.length ≤ 1048576) (h1 : ss.length ≤ 1048576) (u0 : Vp w v0 cs) (u1 : Vp w v1 ss) :
    Calls Tryz.prog 82 #[.agg #[v0, v1]] w fun e w' => ∃ x0 x1, e = .returned (.agg #[x0, x1]) ∧ Own w' w.heap.size 3 .i64 x0 cs ∧ Own w' w.heap.size 3 .i64 x1 ss ∧ Below w.heap.size w w' := by
  have HC0 := hid (fun q (hq : Below w.heap.size w q) => clone_any v0 cs q h0 (u0.below hq))
  have HC1 := hid (fun q (hq : Below w.heap.size w q) => clone_any v1 ss q h1 (u1.below hq))
  obtain ⟨a0, c0, rfl, _, _⟩ := u0
  obtain ⟨a1, c1, rfl, _, _⟩ := u1
  have hA := (Below.refl w.heap.size w).alloc (Nat.le_refl _) (.cells #[.slice a0 cs.length c0, .slice a1 ss.length c1] 31)
  have hA2 := hA.alloc (by simp) (.cells #[.slice none 0 0, .slice none 0 0] 31)
  have t1 := (Two.new w (.slice a0 cs.length c0) (.slice a1 ss.length c1) 31).alloc (.cells #[.slice none 0 0, .slice none 0 0] 31)
  have t2 := Two.new (w.alloc (.cells #[.slice a0 cs.length c0, .slice a1 ss.length c1] 31)) (.slice none 0 0) (.slice none 0 0) 31
  have hs : (w.alloc (.cells #[.slice a0 cs.length c0, .slice a1 ss.length c1] 31)).heap.size = w.heap.size + 1 := by simp
  rw [hs] at t2
  have T1 := hid t1
  have T2 := hid t2
  have HB := hid hA2
  clear hA hA2 t1 t2 hs
  go_enter Tryz.func82, Tryz.ntmps82
  go_wp2_with fail
  generalize hwa : (w.alloc (.cells #[.slice a0 cs.length c0, .slice a1 ss.length c1] 31)).alloc (.cells #[.slice none 0 0, .slice none 0 0] 31) = wa at *
  clear hwa
  have h12 : w.heap.size + 1 < wa.heap.size := T2.out.lt
  obtain ⟨q0, q1, q2, q3⟩ := T1.out.cells
  obtain ⟨r0, r1, r2, r3⟩ := T2.out.cells
  have HX := hid (show Below wa.heap.size wa wa from Below.refl _ _)
  have hlt2 := HB.out.size
  go_region_with (first
    | (go_at_call 85; refine (HC0.out _ ?_).mono ?_; · first | exact HB.out.trans (HX.out.mono hlt2) | exact (HB.out.trans (HX.out.mono hlt2)).drew | exact (HB.out.trans (HX.out.mono hlt2)).drew.drew
       rintro e wx ⟨y0, rfl, hy0, hbx⟩
       have hX2 : Below wa.heap.size wa wx := by first | exact HX.out.trans (hbx.mono HX.out.size) | exact HX.out.drew.trans (hbx.mono HX.out.size) | exact HX.out.drew.drew.trans (hbx.mono HX.out.size)
       obtain ⟨ya, yc, rfl⟩ := hy0.shape
       have HY0 := hid (hy0.mono (show wa.heap.size ≤ _ from HX.out.size))
       try (have HY1 := hid (show Own wx _ 3 .i64 _ _ from by first | exact HY1.out.below hbx | exact HY1.out.below (Below.trans (Below.refl _ _).drew hbx)))
       have TX1 := hid (T1.out.below hX2 (by omega))
       have TX2 := hid (T2.out.below hX2 h12)
       obtain ⟨q0, q1, q2, q3⟩ := TX1.out.cells
       obtain ⟨r0, r1, r2, r3⟩ := TX2.out.cells
       have HX := hid hX2
       clear hy0 hbx hX2)
    | (go_at_call 85; refine (HC1.out _ ?_).mono ?_; · first | exact HB.out.trans (HX.out.mono hlt2) | exact (HB.out.trans (HX.out.mono hlt2)).drew | exact (HB.out.trans (HX.out.mono hlt2)).drew.drew
       rintro e wx ⟨y0, rfl, hy0, hbx⟩
       have hX2 : Below wa.heap.size wa wx := by first | exact HX.out.trans (hbx.mono HX.out.size) | exact HX.out.drew.trans (hbx.mono HX.out.size) | exact HX.out.drew.drew.trans (hbx.mono HX.out.size)
       obtain ⟨yb, yd, rfl⟩ := hy0.shape
       have HY1 := hid (hy0.mono (show wa.heap.size ≤ _ from HX.out.size))
       try (have HY0 := hid (show Own wx _ 3 .i64 _ _ from by first | exact HY0.out.below hbx | exact HY0.out.below (Below.trans (Below.refl _ _).drew hbx)))
       have TX1 := hid (T1.out.below hX2 (by omega))
       have TX2 := hid (T2.out.below hX2 h12)
       obtain ⟨q0, q1, q2, q3⟩ := TX1.out.cells
       obtain ⟨r0, r1, r2, r3⟩ := TX2.out.cells
       have HX := hid hX2
       clear hy0 hbx hX2))
  all_goals
    have hE0 := (HY0.out.setCell_below (a := ⟨w.heap.size + 1, 0, none⟩) h12 (.slice ya cs.length yc)).setCell_below (a := ⟨w.heap.size + 1, 1, none⟩) h12 (.slice yb ss.length yd)
    have hE1 := (HY1.out.setCell_below (a := ⟨w.heap.size + 1, 0, none⟩) h12 (.slice ya cs.length yc)).setCell_below (a := ⟨w.heap.size + 1, 1, none⟩) h12 (.slice yb ss.length yd)
    have hEB := ((HB.out.trans (HX.out.mono hlt2)).setCell (p := ⟨w.heap.size + 1, 0, none⟩) (Nat.le_succ _) (.slice ya cs.length yc)).setCell (p := ⟨w.heap.size + 1, 1, none⟩) (Nat.le_succ _) (.slice yb ss.length yd)
    obtain ⟨s0, s1, s2, s3⟩ := ((TX2.out.set0 (.slice ya cs.length yc)).set1 (.slice yb ss.length yd)).cells
    have HE := hid (show _ ∧ _ ∧ _ from ⟨hE0.mono hlt2, hE1.mono hlt2, hEB⟩)
    clear hE0 hE1 hEB
    go_wp2_with fail
    exact bodyPost_ret (v := .agg #[.slice ya cs.length yc, .slice yb ss.length yd]) (by simp [results, Tryz.results82, go_sem, s0, s1]) rfl ⟨_, _, rfl, HE.out.1, HE.out.2.1, by first | exact HE.out.2.2 | exact HE.out.2.2.drew⟩
end Go.Proofs.YtnnakmgngkpghaaGreat
