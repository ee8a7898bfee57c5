/- SumBlock of both sides at every state and text; copies and comparisons of arrays of words. -/
import Derived.Test.YtkeabkedbbjccaaDoorBi
import Derived.Test.YtkeabkedbbjccaaDoorBs
namespace Go.Proofs.YtkeabkedbbjccaaDoor
open Go.RowKit
set_option linter.unusedVariables false

set_option maxRecDepth 100000 in
set_option maxHeartbeats 800000 in
theorem impl_block_no (a b c d e f g h : Int) (s : ByteArray) (hs : ¬ s.size = 64) (hm : s.size ≤ 1048576) (w : World) :
    Calls Tryd.prog 12 #[.agg #[.int .u32 a, .int .u32 b, .int .u32 c, .int .u32 d, .int .u32 e, .int .u32 f, .int .u32 g, .int .u32 h], .string s] w fun e1 w' => e1 = .returned (arr [a, b, c, d, e, f, g, h]) ∧ Below w.heap.size w w' := by
  have h1 : ((s.size : Int) == 64) = false := by simp; omega
  clear hs hm
  go_enter Tryd.func12, Tryd.ntmps12
  go_wp2_with fail
  refine bodyPost_ret (v := arr [a, b, c, d, e, f, g, h]) (by simp [results, Tryd.results12, go_sem, arr]) rfl ⟨rfl, ?_⟩
  first
  | exact ((Below.refl w.heap.size w).alloc (Nat.le_refl _) _).alloc (by simp) _
  | exact below_set8 (((Below.refl w.heap.size w).alloc (Nat.le_refl _) _).alloc (by simp) _) (Nat.le_succ _) _ _ _ _ _ _ _ _
theorem impl_block (S : List Int) (hS : St8 S) (s : ByteArray) (hm : s.size ≤ 1048576) (w : World) (hw : ConstsAt w) :
    Calls Tryd.prog 12 #[arr S, .string s] w fun e1 w' => e1 = .returned (arr (blockR S s)) ∧ Below w.heap.size w w' := by
  obtain ⟨a, b, c, d, e, f, g, h, rfl⟩ := eight hS.1
  unfold blockR
  by_cases hs : s.size = 64
  · rw [if_pos hs]
    exact impl_block_yes a b c d e f g h hS s hs w hw
  · rw [if_neg hs]
    exact impl_block_no a b c d e f g h s hs hm w

set_option maxRecDepth 100000 in
set_option maxHeartbeats 800000 in
theorem spec_block_no (a b c d e f g h : Int) (s : ByteArray) (hs : ¬ s.size = 64) (hm : s.size ≤ 1048576) (w : World) :
    Calls Tryd.prog 21 #[.agg #[.int .u32 a, .int .u32 b, .int .u32 c, .int .u32 d, .int .u32 e, .int .u32 f, .int .u32 g, .int .u32 h], .string s] w fun e1 w' => e1 = .returned (arr [a, b, c, d, e, f, g, h]) ∧ Below w.heap.size w w' := by
  have h1 : ((s.size : Int) == 64) = false := by simp; omega
  clear hs hm
  go_enter Tryd.func21, Tryd.ntmps21
  go_wp2_with fail
  refine bodyPost_ret (v := arr [a, b, c, d, e, f, g, h]) (by simp [results, Tryd.results21, go_sem, arr]) rfl ⟨rfl, ?_⟩
  first
  | exact ((Below.refl w.heap.size w).alloc (Nat.le_refl _) _).alloc (by simp) _
  | exact below_set8 (((Below.refl w.heap.size w).alloc (Nat.le_refl _) _).alloc (by simp) _) (Nat.le_succ _) _ _ _ _ _ _ _ _
theorem spec_block (S : List Int) (hS : St8 S) (s : ByteArray) (hm : s.size ≤ 1048576) (w : World) :
    Calls Tryd.prog 21 #[arr S, .string s] w fun e1 w' => e1 = .returned (arr (blockR S s)) ∧ Below w.heap.size w w' := by
  obtain ⟨a, b, c, d, e, f, g, h, rfl⟩ := eight hS.1
  unfold blockR
  by_cases hs : s.size = 64
  · rw [if_pos hs]
    exact spec_block_yes a b c d e f g h hS s hs w
  · rw [if_neg hs]
    exact spec_block_no a b c d e f g h s hs hm w

/-- The first k words of L, the others 0. -/
def cpTo (L : List Int) : Nat → List Int
  | 0 => [0, 0, 0, 0, 0, 0, 0, 0]
  | k + 1 => (cpTo L k).set k (L.getD k 0)
theorem cpTo_len (L : List Int) : ∀ k, (cpTo L k).length = 8
  | 0 => rfl
  | k + 1 => by rw [cpTo, List.length_set, cpTo_len L k]
theorem cpTo_8 (a b c d e f g h : Int) : cpTo [a, b, c, d, e, f, g, h] 8 = [a, b, c, d, e, f, g, h] := rfl

set_option maxRecDepth 100000 in
set_option maxHeartbeats 1600000 in
theorem to_arr8 (a b c d e f g h : Int) (hS : St8 [a, b, c, d, e, f, g, h]) (w : World) :
    Calls Tryd.prog 22 #[.agg #[.int .u32 a, .int .u32 b, .int .u32 c, .int .u32 d, .int .u32 e, .int .u32 f, .int .u32 g, .int .u32 h]] w fun e1 w' => e1 = .returned (arr [a, b, c, d, e, f, g, h]) ∧ Below w.heap.size w w' := by
  have HC8 := hid (cpTo_8 a b c d e f g h)
  have HST := hid hS
  clear hS
  go_enter Tryd.func22, Tryd.ntmps22
  go_wp2_with fail
  have B0 := hid ((((Below.refl w.heap.size w).alloc (Nat.le_refl _) (.cells #[.int .u32 a, .int .u32 b, .int .u32 c, .int .u32 d, .int .u32 e, .int .u32 f, .int .u32 g, .int .u32 h] 28)).alloc (by simp) (.cells #[.int .u32 0, .int .u32 0, .int .u32 0, .int .u32 0, .int .u32 0, .int .u32 0, .int .u32 0, .int .u32 0] 28)).alloc (by simp; omega) (.cells #[.int .u32 0, .int .u32 0, .int .u32 0, .int .u32 0, .int .u32 0, .int .u32 0, .int .u32 0, .int .u32 0] 28))
  have P0 := hid (((Blk.new w [.int .u32 a, .int .u32 b, .int .u32 c, .int .u32 d, .int .u32 e, .int .u32 f, .int .u32 g, .int .u32 h] 28).below ((Below.refl (w.heap.size + 1) _).alloc (by simp) (.cells #[.int .u32 0, .int .u32 0, .int .u32 0, .int .u32 0, .int .u32 0, .int .u32 0, .int .u32 0, .int .u32 0] 28)) (by simp)).below ((Below.refl (w.heap.size + 1) _).alloc (by simp) (.cells #[.int .u32 0, .int .u32 0, .int .u32 0, .int .u32 0, .int .u32 0, .int .u32 0, .int .u32 0, .int .u32 0] 28)) (by simp))
  have Q0 : Hid (Blk (((w.alloc (.cells #[.int .u32 a, .int .u32 b, .int .u32 c, .int .u32 d, .int .u32 e, .int .u32 f, .int .u32 g, .int .u32 h] 28)).alloc (.cells #[.int .u32 0, .int .u32 0, .int .u32 0, .int .u32 0, .int .u32 0, .int .u32 0, .int .u32 0, .int .u32 0] 28)).alloc (.cells #[.int .u32 0, .int .u32 0, .int .u32 0, .int .u32 0, .int .u32 0, .int .u32 0, .int .u32 0, .int .u32 0] 28)) (w.heap.size + 1) [.int .u32 0, .int .u32 0, .int .u32 0, .int .u32 0, .int .u32 0, .int .u32 0, .int .u32 0, .int .u32 0] 28) := by
    have := (Blk.new (w.alloc (.cells #[.int .u32 a, .int .u32 b, .int .u32 c, .int .u32 d, .int .u32 e, .int .u32 f, .int .u32 g, .int .u32 h] 28)) [.int .u32 0, .int .u32 0, .int .u32 0, .int .u32 0, .int .u32 0, .int .u32 0, .int .u32 0, .int .u32 0] 28).below ((Below.refl (w.heap.size + 2) _).alloc (by simp) (.cells #[.int .u32 0, .int .u32 0, .int .u32 0, .int .u32 0, .int .u32 0, .int .u32 0, .int .u32 0, .int .u32 0] 28)) (by simp)
    rw [show (w.alloc (.cells #[.int .u32 a, .int .u32 b, .int .u32 c, .int .u32 d, .int .u32 e, .int .u32 f, .int .u32 g, .int .u32 h] 28)).heap.size = w.heap.size + 1 by simp] at this
    exact this
  have O0 : Hid (Blk (((w.alloc (.cells #[.int .u32 a, .int .u32 b, .int .u32 c, .int .u32 d, .int .u32 e, .int .u32 f, .int .u32 g, .int .u32 h] 28)).alloc (.cells #[.int .u32 0, .int .u32 0, .int .u32 0, .int .u32 0, .int .u32 0, .int .u32 0, .int .u32 0, .int .u32 0] 28)).alloc (.cells #[.int .u32 0, .int .u32 0, .int .u32 0, .int .u32 0, .int .u32 0, .int .u32 0, .int .u32 0, .int .u32 0] 28)) (w.heap.size + 1 + 1) ((cpTo [a, b, c, d, e, f, g, h] 0).map (Value.int .u32)) 28) := by
    have := Blk.new ((w.alloc (.cells #[.int .u32 a, .int .u32 b, .int .u32 c, .int .u32 d, .int .u32 e, .int .u32 f, .int .u32 g, .int .u32 h] 28)).alloc (.cells #[.int .u32 0, .int .u32 0, .int .u32 0, .int .u32 0, .int .u32 0, .int .u32 0, .int .u32 0, .int .u32 0] 28)) [.int .u32 0, .int .u32 0, .int .u32 0, .int .u32 0, .int .u32 0, .int .u32 0, .int .u32 0, .int .u32 0] 28
    rw [show ((w.alloc (.cells #[.int .u32 a, .int .u32 b, .int .u32 c, .int .u32 d, .int .u32 e, .int .u32 f, .int .u32 g, .int .u32 h] 28)).alloc (.cells #[.int .u32 0, .int .u32 0, .int .u32 0, .int .u32 0, .int .u32 0, .int .u32 0, .int .u32 0, .int .u32 0] 28)).heap.size = w.heap.size + 1 + 1 by simp] at this
    exact this
  generalize (((w.alloc (.cells #[.int .u32 a, .int .u32 b, .int .u32 c, .int .u32 d, .int .u32 e, .int .u32 f, .int .u32 g, .int .u32 h] 28)).alloc (.cells #[.int .u32 0, .int .u32 0, .int .u32 0, .int .u32 0, .int .u32 0, .int .u32 0, .int .u32 0, .int .u32 0] 28)).alloc (.cells #[.int .u32 0, .int .u32 0, .int .u32 0, .int .u32 0, .int .u32 0, .int .u32 0, .int .u32 0, .int .u32 0] 28)) = wa at *
  have PM : Hid (Blk wa w.heap.size ([a, b, c, d, e, f, g, h].map (Value.int .u32)) 28) := P0.out
  have HL8 : Hid ([a, b, c, d, e, f, g, h].length = 8) := rfl
  generalize hYY : [a, b, c, d, e, f, g, h] = YY at *
  have HYY := hid hYY
  clear hYY P0
  have hs2 := hid O0.out.lt
  go_loopw [4] (fun i wr => ∃ k : Nat, k ≤ 8 ∧ i = .int .i64 k ∧ Hid (Blk wr (w.heap.size + 1 + 1) ((cpTo YY k).map (Value.int .u32)) 28) ∧ Hid (Below (w.heap.size + 1 + 1) wa wr)) (fun i _ => 8 - (intOf i).toNat)
  case atStart => exact ⟨0, by omega, rfl, O0.out, Below.refl _ _⟩
  case round =>
    clear O0
    obtain ⟨k, hk, rfl, hblk, hb⟩ := hrel
    by_cases hlt : k < 8
    · have hlt' : (k : Int) < 8 := by omega
      have cx := hblk.out.cell (map_at (L := cpTo YY k) (k := k) (by rw [cpTo_len]; exact hlt))
      have zx := hblk.out.free k
      have cy : wr.cell? ⟨w.heap.size, k, none⟩ = some (.int .u32 (YY.getD k 0)) := (hb.out.cell (p := ⟨w.heap.size, k, none⟩) (by show w.heap.size < w.heap.size + 1 + 1; omega)).trans (PM.out.cell (map_at (by rw [HL8.out]; exact hlt)))
      have HN : Hid (cpTo YY (k + 1) = (cpTo YY k).set k (YY.getD k 0)) := rfl
      have HL := hid hlt
      generalize (cpTo YY k).getD k 0 = X at *
      generalize YY.getD k 0 = Y at *
      clear hlt hk
      go_wp2_with fail
      go_roundw
      case rel => exact ⟨k + 1, by omega, by go_num, by rw [HN.out, List.map_set]; exact hblk.out.set k _, hb.out.setCell (p := ⟨w.heap.size + 1 + 1, k, none⟩) (Nat.le_refl _) _⟩
      case measure => simp [intOf]; omega
    · obtain rfl : k = 8 := by omega
      have hl8 := cpTo_len YY 8
      generalize hZZ : cpTo YY 8 = ZZ at *
      obtain ⟨x0, x1, x2, x3, x4, x5, x6, x7, rfl⟩ := eight hl8
      have HZZ := hid hZZ
      clear hZZ
      have BX : Hid (Blk wr (w.heap.size + 1 + 1) [.int .u32 x0, .int .u32 x1, .int .u32 x2, .int .u32 x3, .int .u32 x4, .int .u32 x5, .int .u32 x6, .int .u32 x7] 28) := hblk.out
      have QX := hid (Q0.out.below hb.out (by omega))
      have BB := hid (B0.out.trans (hb.out.mono (by omega)))
      have c0 := BX.out.cell (i := 0) rfl
      have q0 := QX.out.cell (i := 0) rfl
      have f0 := QX.out.free 0
      have c1 := BX.out.cell (i := 1) rfl
      have q1 := QX.out.cell (i := 1) rfl
      have f1 := QX.out.free 1
      have c2 := BX.out.cell (i := 2) rfl
      have q2 := QX.out.cell (i := 2) rfl
      have f2 := QX.out.free 2
      have c3 := BX.out.cell (i := 3) rfl
      have q3 := QX.out.cell (i := 3) rfl
      have f3 := QX.out.free 3
      have c4 := BX.out.cell (i := 4) rfl
      have q4 := QX.out.cell (i := 4) rfl
      have f4 := QX.out.free 4
      have c5 := BX.out.cell (i := 5) rfl
      have q5 := QX.out.cell (i := 5) rfl
      have f5 := QX.out.free 5
      have c6 := BX.out.cell (i := 6) rfl
      have q6 := QX.out.cell (i := 6) rfl
      have f6 := QX.out.free 6
      have c7 := BX.out.cell (i := 7) rfl
      have q7 := QX.out.cell (i := 7) rfl
      have f7 := QX.out.free 7
      clear hblk hlt hk
      go_wp2_with fail
      refine bodyPost_ret (v := arr [x0, x1, x2, x3, x4, x5, x6, x7]) (by simp [results, Tryd.results22, go_sem, arr, *]) rfl ⟨by rw [HYY.out, ← HC8.out, ← HZZ.out], ?_⟩
      exact below_set8 BB.out (Nat.le_succ _) _ _ _ _ _ _ _ _

set_option maxRecDepth 100000 in
set_option maxHeartbeats 1600000 in
theorem eq_arr8 (a b c d e f g h : Int) (w : World) :
    Calls Tryd.prog 23 #[.agg #[.int .u32 a, .int .u32 b, .int .u32 c, .int .u32 d, .int .u32 e, .int .u32 f, .int .u32 g, .int .u32 h], .agg #[.int .u32 a, .int .u32 b, .int .u32 c, .int .u32 d, .int .u32 e, .int .u32 f, .int .u32 g, .int .u32 h]] w fun e1 w' => e1 = .returned (.bool true) ∧ Below w.heap.size w w' := by
  go_enter Tryd.func23, Tryd.ntmps23
  go_wp2_with fail
  have B0 := hid (((Below.refl w.heap.size w).alloc (Nat.le_refl _) (.cells #[.int .u32 a, .int .u32 b, .int .u32 c, .int .u32 d, .int .u32 e, .int .u32 f, .int .u32 g, .int .u32 h] 28)).alloc (by simp) (.cells #[.int .u32 a, .int .u32 b, .int .u32 c, .int .u32 d, .int .u32 e, .int .u32 f, .int .u32 g, .int .u32 h] 28))
  have P0 := hid ((Blk.new w [.int .u32 a, .int .u32 b, .int .u32 c, .int .u32 d, .int .u32 e, .int .u32 f, .int .u32 g, .int .u32 h] 28).below ((Below.refl (w.heap.size + 1) _).alloc (by simp) (.cells #[.int .u32 a, .int .u32 b, .int .u32 c, .int .u32 d, .int .u32 e, .int .u32 f, .int .u32 g, .int .u32 h] 28)) (by simp))
  have Q0 : Hid (Blk ((w.alloc (.cells #[.int .u32 a, .int .u32 b, .int .u32 c, .int .u32 d, .int .u32 e, .int .u32 f, .int .u32 g, .int .u32 h] 28)).alloc (.cells #[.int .u32 a, .int .u32 b, .int .u32 c, .int .u32 d, .int .u32 e, .int .u32 f, .int .u32 g, .int .u32 h] 28)) (w.heap.size + 1) ([a, b, c, d, e, f, g, h].map (Value.int .u32)) 28) := by
    have := Blk.new (w.alloc (.cells #[.int .u32 a, .int .u32 b, .int .u32 c, .int .u32 d, .int .u32 e, .int .u32 f, .int .u32 g, .int .u32 h] 28)) [.int .u32 a, .int .u32 b, .int .u32 c, .int .u32 d, .int .u32 e, .int .u32 f, .int .u32 g, .int .u32 h] 28
    rw [show (w.alloc (.cells #[.int .u32 a, .int .u32 b, .int .u32 c, .int .u32 d, .int .u32 e, .int .u32 f, .int .u32 g, .int .u32 h] 28)).heap.size = w.heap.size + 1 by simp] at this
    exact this
  generalize ((w.alloc (.cells #[.int .u32 a, .int .u32 b, .int .u32 c, .int .u32 d, .int .u32 e, .int .u32 f, .int .u32 g, .int .u32 h] 28)).alloc (.cells #[.int .u32 a, .int .u32 b, .int .u32 c, .int .u32 d, .int .u32 e, .int .u32 f, .int .u32 g, .int .u32 h] 28)) = wa at *
  have PM : Hid (Blk wa w.heap.size ([a, b, c, d, e, f, g, h].map (Value.int .u32)) 28) := P0.out
  have HL8 : Hid ([a, b, c, d, e, f, g, h].length = 8) := rfl
  generalize hYY : [a, b, c, d, e, f, g, h] = YY at *
  clear hYY P0
  go_loopw [5] (fun i wr => ∃ k : Nat, k ≤ 8 ∧ i = .int .i64 k ∧ ∃ q, wr = wa.drewN q) (fun i _ => 8 - (intOf i).toNat)
  case atStart => exact ⟨0, by omega, rfl, 0, rfl⟩
  case round =>
    obtain ⟨k, hk, rfl, q, rfl⟩ := hrel
    by_cases hlt : k < 8
    · have hlt' : (k : Int) < 8 := by omega
      have cx : wa.cell? ⟨w.heap.size, k, none⟩ = some (.int .u32 (YY.getD k 0)) := PM.out.cell (map_at (by rw [HL8.out]; exact hlt))
      have cy : wa.cell? ⟨w.heap.size + 1, k, none⟩ = some (.int .u32 (YY.getD k 0)) := Q0.out.cell (map_at (by rw [HL8.out]; exact hlt))
      generalize YY.getD k 0 = Y at *
      go_wp2_with fail
      go_quiet (fail)
      go_wp2_with fail
      go_roundw
      case rel => exact ⟨k + 1, by omega, by go_num, _, rfl⟩
      case measure => simp [intOf]; omega
    · obtain rfl : k = 8 := by omega
      go_wp2_with fail
      go_ret
      exact ⟨rfl, belowN B0.out _⟩
end Go.Proofs.YtkeabkedbbjccaaDoor
