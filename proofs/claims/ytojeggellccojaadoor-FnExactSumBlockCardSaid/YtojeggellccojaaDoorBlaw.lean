/- The law FnExactSumBlock walked. -/
import Derived.Test.YtojeggellccojaaDoorBb
namespace Go.Proofs.YtojeggellccojaaDoor
open Go.RowKit
set_option linter.unusedVariables false

theorem to_arr (S : List Int) (hS : St8 S) (w : World) :
    Calls Tryd.prog 22 #[arr S] w fun e1 w' => e1 = .returned (arr S) ∧ Below w.heap.size w w' := by
  obtain ⟨a, b, c, d, e, f, g, h, rfl⟩ := eight hS.1
  exact to_arr8 a b c d e f g h hS w

set_option maxRecDepth 100000 in
set_option maxHeartbeats 1600000 in
theorem law_block (a b c d e f g h : Int) (hS : St8 [a, b, c, d, e, f, g, h]) (s : ByteArray) (w : World) (hm : s.size ≤ 9223372036854775807) (hw : ConstsAt w) :
    Calls Tryd.prog 5 #[.agg #[.int .u32 a, .int .u32 b, .int .u32 c, .int .u32 d, .int .u32 e, .int .u32 f, .int .u32 g, .int .u32 h], .string s] w fun e1 w' => e1 = .returned (.bool true) ∧ Below w.heap.size w w' := by
  by_cases hl : (1048576 : Int) < (s.size : Int)
  · clear hm hw hS
    go_enter Tryd.func5, Tryd.ntmps5
    go_wp2_with fail
    go_ret
    exact ⟨rfl, (Below.refl _ _).alloc (Nat.le_refl _) _⟩
  · have hs : s.size ≤ 1048576 := by omega
    have hd : decide ((1048576 : Int) < (s.size : Int)) = false := decide_eq_false hl
    have HI := hid (fun q hq => impl_block [a, b, c, d, e, f, g, h] hS s hs q hq)
    have HP := hid (fun q => spec_block [a, b, c, d, e, f, g, h] hS s hs q)
    have HT : Hid (∀ q, Calls Tryd.prog 22 #[.agg #[.int .u32 a, .int .u32 b, .int .u32 c, .int .u32 d, .int .u32 e, .int .u32 f, .int .u32 g, .int .u32 h]] q fun e1 w' => e1 = .returned (arr [a, b, c, d, e, f, g, h]) ∧ Below q.heap.size q w') := fun q => to_arr [a, b, c, d, e, f, g, h] hS q
    have h8 := (hS.block s).1
    generalize blockR [a, b, c, d, e, f, g, h] s = R at *
    obtain ⟨x0, x1, x2, x3, x4, x5, x6, x7, rfl⟩ := eight h8
    have HQ := hid (fun q => eq_arr8 x0 x1 x2 x3 x4 x5 x6 x7 q)
    have HW := hid hw
    clear hl hs hm hS h8 hw
    unfold arr at HI HP HT
    simp only [List.map_cons, List.map_nil] at HI HP HT
    go_enter Tryd.func5, Tryd.ntmps5
    go_wp2_with fail
    have B0 := hid ((Below.refl w.heap.size w).alloc (Nat.le_refl _) (.cells #[.int .u32 a, .int .u32 b, .int .u32 c, .int .u32 d, .int .u32 e, .int .u32 f, .int .u32 g, .int .u32 h] 28))
    have P0 := hid (Blk.new w [.int .u32 a, .int .u32 b, .int .u32 c, .int .u32 d, .int .u32 e, .int .u32 f, .int .u32 g, .int .u32 h] 28)
    generalize w.alloc (.cells #[.int .u32 a, .int .u32 b, .int .u32 c, .int .u32 d, .int .u32 e, .int .u32 f, .int .u32 g, .int .u32 h] 28) = wa at *
    refine (HT.out _).mono ?_
    rintro e1 w1 ⟨rfl, hb1⟩
    have B1 := hid (B0.out.trans (hb1.mono B0.out.size))
    have P1 := hid (P0.out.below hb1 P0.out.lt)
    clear hb1 B0 P0
    go_wp2_with fail
    refine (HP.out _).mono ?_
    rintro e1 w2 ⟨rfl, hb2⟩
    have B2 := hid (B1.out.trans (hb2.mono B1.out.size))
    have P2 := hid (P1.out.below hb2 P1.out.lt)
    clear hb2 B1 P1
    have hlt2 := P2.out.lt
    have p0 := P2.out.cell (i := 0) rfl
    have p1 := P2.out.cell (i := 1) rfl
    have p2 := P2.out.cell (i := 2) rfl
    have p3 := P2.out.cell (i := 3) rfl
    have p4 := P2.out.cell (i := 4) rfl
    have p5 := P2.out.cell (i := 5) rfl
    have p6 := P2.out.cell (i := 6) rfl
    have p7 := P2.out.cell (i := 7) rfl
    go_wp2_with fail
    have B3 := hid (B2.out.alloc B2.out.size (.cells #[.int .u32 x0, .int .u32 x1, .int .u32 x2, .int .u32 x3, .int .u32 x4, .int .u32 x5, .int .u32 x6, .int .u32 x7] 28))
    have R3 := hid (Blk.new w2 [.int .u32 x0, .int .u32 x1, .int .u32 x2, .int .u32 x3, .int .u32 x4, .int .u32 x5, .int .u32 x6, .int .u32 x7] 28)
    clear B2 P2 p0 p1 p2 p3 p4 p5 p6 p7
    generalize w2.alloc (.cells #[.int .u32 x0, .int .u32 x1, .int .u32 x2, .int .u32 x3, .int .u32 x4, .int .u32 x5, .int .u32 x6, .int .u32 x7] 28) = w3 at *
    refine (HT.out _).mono ?_
    rintro e1 w4 ⟨rfl, hb4⟩
    have B4 := hid (B3.out.trans (hb4.mono B3.out.size))
    have R4 := hid (R3.out.below hb4 R3.out.lt)
    clear hb4 B3 R3
    go_wp2_with fail
    refine (HI.out _ (HW.out.below (Nat.le_refl _) B4.out)).mono ?_
    rintro e1 w5 ⟨rfl, hb5⟩
    have B5 := hid (B4.out.trans (hb5.mono B4.out.size))
    have R5 := hid (R4.out.below hb5 R4.out.lt)
    clear hb5 B4 R4
    have hlt5 := R5.out.lt
    have p0 := R5.out.cell (i := 0) rfl
    have p1 := R5.out.cell (i := 1) rfl
    have p2 := R5.out.cell (i := 2) rfl
    have p3 := R5.out.cell (i := 3) rfl
    have p4 := R5.out.cell (i := 4) rfl
    have p5 := R5.out.cell (i := 5) rfl
    have p6 := R5.out.cell (i := 6) rfl
    have p7 := R5.out.cell (i := 7) rfl
    go_wp2_with fail
    refine (HQ.out _).mono ?_
    rintro e1 w6 ⟨rfl, hb6⟩
    have B6 := hid ((B5.out.alloc B5.out.size (.cells #[.int .u32 x0, .int .u32 x1, .int .u32 x2, .int .u32 x3, .int .u32 x4, .int .u32 x5, .int .u32 x6, .int .u32 x7] 28)).trans (hb6.mono (Nat.le_trans B5.out.size (by simp))))
    clear hb6 B5 R5 p0 p1 p2 p3 p4 p5 p6 p7
    go_wp2_with fail
    go_ret
    exact ⟨rfl, B6.out⟩
end Go.Proofs.YtojeggellccojaaDoor
