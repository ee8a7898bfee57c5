/- Sum of the program. -/
import Derived.Test.YtkeabkedbbjccaaDoorSp
import Derived.Test.YtkeabkedbbjccaaDoorPa
namespace Go.Proofs.YtkeabkedbbjccaaDoor
open Go.RowKit
set_option linter.unusedVariables false

set_option maxRecDepth 100000 in
set_option maxHeartbeats 3200000 in
theorem impl_sum_yes (s : ByteArray) (hs : s.size ≤ 60000) (w : World) (hw : ConstsAt w) (hw2 : StartsAt w) :
    Calls Tryd.prog 14 #[.string s] w fun e1 w' => e1 = .returned (.string (sumP s)) ∧ Below w.heap.size w w' := by
  have HPAD := hid (fun q => impl_pad_yes s hs q)
  have HSUM : Hid (sumP s = outTo (blocks (padP s) ((padP s).size / 64)) 8) := rfl
  have hpm := padP_mod s
  have hps : (padP s).size ≤ 60100 := by rw [padP_size]; unfold padZ; omega
  have hd : decide ((60000 : Int) < (s.size : Int)) = false := decide_eq_false (by omega)
  have HC := hid (fun q (hq : Below w.heap.size w q) => hw.below (Nat.le_refl _) hq)
  have HS2 := hid (fun q (hq : Below w.heap.size w q) => hw2.below (Nat.le_refl _) hq)
  generalize padP s = P at *
  clear hs hw hw2
  go_enter Tryd.func14, Tryd.ntmps14
  go_wp2_with fail
  have B0 : Hid (Below w.heap.size w (w.alloc (.cells #[.int .u32 0, .int .u32 0, .int .u32 0, .int .u32 0, .int .u32 0, .int .u32 0, .int .u32 0, .int .u32 0] 28))) := (Below.refl _ _).alloc (Nat.le_refl _) _
  have N0 : Hid (Blk (w.alloc (.cells #[.int .u32 0, .int .u32 0, .int .u32 0, .int .u32 0, .int .u32 0, .int .u32 0, .int .u32 0, .int .u32 0] 28)) w.heap.size ((stTo 0).map (Value.int .u32)) 28) := Blk.new w [.int .u32 0, .int .u32 0, .int .u32 0, .int .u32 0, .int .u32 0, .int .u32 0, .int .u32 0, .int .u32 0] 28
  generalize w.alloc (.cells #[.int .u32 0, .int .u32 0, .int .u32 0, .int .u32 0, .int .u32 0, .int .u32 0, .int .u32 0, .int .u32 0] 28) = w0 at *
  go_loopw [13] (fun i wr => ∃ k : Nat, k ≤ 8 ∧ i = .int .i64 k ∧ Hid (Blk wr w.heap.size ((stTo k).map (Value.int .u32)) 28) ∧ Hid (Below w.heap.size w wr)) (fun i _ => 8 - (intOf i).toNat)
  case atStart => exact ⟨0, by omega, rfl, N0.out, B0.out⟩
  case round =>
    clear N0 B0
    obtain ⟨k, hk, rfl, hblk, hb⟩ := hrel
    by_cases hlt : k < 8
    · have hlt' : (k : Int) < 8 := by omega
      have HST := hid (impl_start k wr (HS2.out _ hb.out))
      have cx := hblk.out.cell (map_at (L := stTo k) (k := k) (by rw [stTo_len]; exact hlt))
      have zx := hblk.out.free k
      have HN : Hid (stTo (k + 1) = (stTo k).set k (sc k)) := rfl
      have HL := hid hlt
      generalize (stTo k).getD k 0 = X at *
      generalize sc (k : Int) = Y at *
      clear hlt hk
      go_wp2_with fail
      refine HST.out.mono ?_
      rintro e1 w2 ⟨rfl, rfl⟩
      go_wp2_with fail
      go_roundw
      case rel => exact ⟨k + 1, by omega, by go_num, by rw [HN.out, List.map_set]; exact hblk.out.set k _, hb.out.setCell (p := ⟨w.heap.size, k, none⟩) (Nat.le_refl _) _⟩
      case measure => simp [intOf]; omega
    · obtain rfl : k = 8 := by omega
      rw [stTo_8] at hblk
      clear hlt hk
      go_wp2_with fail
      refine (HPAD.out wr).mono ?_
      rintro e1 w1 ⟨rfl, hb1⟩
      have N1 : Hid (Blk w1 w.heap.size ((blocks P 0).map (Value.int .u32)) 28) := hblk.out.below hb1 hblk.out.lt
      have B1 := hid (hb.out.trans (hb1.mono hb.out.size))
      clear hblk hb hb1
      have E0 : P = P.extract (64 * 0) P.size := by simp
      have E0H := hid E0
      clear E0
      go_wp2_with fail
      go_loopw [5] (fun v wr => ∃ k : Nat, 64 * k ≤ P.size ∧ v = .string (P.extract (64 * k) P.size) ∧ Hid (Blk wr w.heap.size ((blocks P k).map (Value.int .u32)) 28) ∧ Hid (Below w.heap.size w wr)) (fun v _ => strLen' v)
      case atStart => exact ⟨0, by omega, by rw [← E0H.out], N1.out, B1.out⟩
      case round =>
        clear N1 B1 E0H
        obtain ⟨k, hk, rfl, hblk, hb⟩ := hrel
        have HRS := hid (rest_size P k)
        by_cases hlt : 64 * k < P.size
        · have h64 : 64 * k + 64 ≤ P.size := by omega
          have hne := some_bytes (t := P.extract (64 * k) P.size) (by rw [rest_size]; omega)
          have hle : (64 : Int) ≤ ((P.extract (64 * k) P.size).size : Int) := by rw [rest_size]; omega
          have hH := rest_head P k h64
          have hT := rest_tail P k h64
          have HT := hid hT
          have HN : Hid (blocks P (k + 1) = blockR (blocks P k) (blk P k)) := rfl
          have h8 := blocks_8 P k
          have HBL := hid (fun q hq => impl_block (blocks P k) h8 (blk P k) (by rw [blk_size P k h64]; omega) q hq)
          have h8n := blocks_8 P (k + 1)
          have HKK := hid hlt
          have HBS := hid (blk_size P k h64)
          generalize hRN : blocks P (k + 1) = RN at *
          have HRN := hid hRN
          rw [← HN.out] at HBL
          generalize hRk : blocks P k = Rk at *
          clear hRk hRN hT HN
          generalize hRR : P.extract (64 * k) P.size = R at *
          have HRR := hid hRR
          generalize blk P k = K at *
          obtain ⟨x0, x1, x2, x3, x4, x5, x6, x7, rfl⟩ := eight h8.1
          obtain ⟨y0, y1, y2, y3, y4, y5, y6, y7, rfl⟩ := eight h8n.1
          have BX : Hid (Blk wr w.heap.size [.int .u32 x0, .int .u32 x1, .int .u32 x2, .int .u32 x3, .int .u32 x4, .int .u32 x5, .int .u32 x6, .int .u32 x7] 28) := hblk.out
          have HIB : Hid (∀ q, ConstsAt q → Calls Tryd.prog 12 #[.agg #[.int .u32 x0, .int .u32 x1, .int .u32 x2, .int .u32 x3, .int .u32 x4, .int .u32 x5, .int .u32 x6, .int .u32 x7], .string K] q fun e1 w' => e1 = .returned (arr [y0, y1, y2, y3, y4, y5, y6, y7]) ∧ Below q.heap.size q w') := HBL.out
          unfold arr at HIB
          simp only [List.map_cons, List.map_nil] at HIB
          have CW := hid (HC.out wr hb.out)
          clear hRR hblk HBL h8 h8n hlt hk h64
          have c0 := BX.out.cell (i := 0) rfl
          have c1 := BX.out.cell (i := 1) rfl
          have c2 := BX.out.cell (i := 2) rfl
          have c3 := BX.out.cell (i := 3) rfl
          have c4 := BX.out.cell (i := 4) rfl
          have c5 := BX.out.cell (i := 5) rfl
          have c6 := BX.out.cell (i := 6) rfl
          have c7 := BX.out.cell (i := 7) rfl
          go_wp2_with fail
          go_region_with (go_at_call 12; refine (HIB.out wr.drew CW.out).mono ?_; rintro e1 w3 ⟨rfl, hb3⟩; have E3 := hid (Below.trans (below_drewN wr 1) hb3); have LX := hid (BX.out.below E3.out BX.out.lt); have l0 := LX.out.cell (i := 0) rfl; have z0 := LX.out.free 0; have l1 := LX.out.cell (i := 1) rfl; have z1 := LX.out.free 1; have l2 := LX.out.cell (i := 2) rfl; have z2 := LX.out.free 2; have l3 := LX.out.cell (i := 3) rfl; have z3 := LX.out.free 3; have l4 := LX.out.cell (i := 4) rfl; have z4 := LX.out.free 4; have l5 := LX.out.cell (i := 5) rfl; have z5 := LX.out.free 5; have l6 := LX.out.cell (i := 6) rfl; have z6 := LX.out.free 6; have l7 := LX.out.cell (i := 7) rfl; have z7 := LX.out.free 7)
          all_goals
            have N3 := hid (blk_set8 LX.out (.int .u32 y0) (.int .u32 y1) (.int .u32 y2) (.int .u32 y3) (.int .u32 y4) (.int .u32 y5) (.int .u32 y6) (.int .u32 y7))
            have D3 := hid (below_set8 (hb.out.trans (E3.out.mono hb.out.size)) (Nat.le_refl _) (.int .u32 y0) (.int .u32 y1) (.int .u32 y2) (.int .u32 y3) (.int .u32 y4) (.int .u32 y5) (.int .u32 y6) (.int .u32 y7))
            clear c0 l0 z0 c1 l1 z1 c2 l2 z2 c3 l3 z3 c4 l4 z4 c5 l5 z5 c6 l6 z6 c7 l7 z7 LX E3 hb3
            go_wp2_with fail
            go_roundw
            case rel => exact ⟨k + 1, by have := HRS.out; omega, by rw [HT.out], by rw [HRN.out]; exact N3.out, D3.out⟩
            case measure =>
              have h1 := HRS.out
              have h2 := HKK.out
              rw [HT.out]
              simp only [strLen']
              rw [rest_size, h1]
              omega
        · have hkk : k = P.size / 64 := by omega
          have hne := no_bytes (t := P.extract (64 * k) P.size) (by rw [rest_size]; omega)
          rw [← hkk] at HSUM
          have h8 := blocks_8 P k
          generalize blocks P k = LL at *
          generalize P.extract (64 * k) P.size = R at *
          have HO8 := hid (outTo_size LL)
          have HW8 := hid (fun j => getD_word h8.2 j)
          have HO1 : Hid (∀ j, outTo LL (j + 1) = outTo LL j ++ strOfNums (wordBytes (LL.getD j 0))) := fun _ => rfl
          have HO0 : Hid (outTo LL 0 = ⟨#[]⟩) := rfl
          generalize outTo LL = OT at *
          obtain ⟨x0, x1, x2, x3, x4, x5, x6, x7, rfl⟩ := eight h8.1
          have BX : Hid (Blk wr w.heap.size [.int .u32 x0, .int .u32 x1, .int .u32 x2, .int .u32 x3, .int .u32 x4, .int .u32 x5, .int .u32 x6, .int .u32 x7] 28) := hblk.out
          clear h8 hblk hlt hk hkk HRS
          have c0 := BX.out.cell (i := 0) rfl
          have c1 := BX.out.cell (i := 1) rfl
          have c2 := BX.out.cell (i := 2) rfl
          have c3 := BX.out.cell (i := 3) rfl
          have c4 := BX.out.cell (i := 4) rfl
          have c5 := BX.out.cell (i := 5) rfl
          have c6 := BX.out.cell (i := 6) rfl
          have c7 := BX.out.cell (i := 7) rfl
          go_wp2_with fail
          go_loopw [32, 6] (fun i v wq => ∃ k : Nat, k ≤ 8 ∧ i = .int .i64 k ∧ v = .string (OT k) ∧ Hid (Below w.heap.size w wq)) (fun i _ _ => 8 - (intOf i).toNat)
          case atStart => exact ⟨0, by omega, rfl, by rw [HO0.out], hb.out⟩
          case round =>
            clear hb BX c0 c1 c2 c3 c4 c5 c6 c7
            obtain ⟨k, hk, rfl, rfl, hb⟩ := hrel
            by_cases hlt : k < 8
            · have hlt' : (k : Int) < 8 := by omega
              have h0 : (0 : Int) ≤ (k : Int) := by omega
              have hget : ∀ q, Sem.run Tryd.prog (Instr.index 28 (.agg #[.int .u32 x0, .int .u32 x1, .int .u32 x2, .int .u32 x3, .int .u32 x4, .int .u32 x5, .int .u32 x6, .int .u32 x7]) (.int .i64 (k : Int))) q = .ok (.int .u32 ([x0, x1, x2, x3, x4, x5, x6, x7].getD k 0)) q := by
                intro q
                obtain rfl | rfl | rfl | rfl | rfl | rfl | rfl | rfl : k = 0 ∨ k = 1 ∨ k = 2 ∨ k = 3 ∨ k = 4 ∨ k = 5 ∨ k = 6 ∨ k = 7 := by omega
                all_goals kernel_rfl
              have hwd := HW8.out k
              have HOK := hid (HO1.out k)
              have HPW := hid (fun q => impl_putWord ([x0, x1, x2, x3, x4, x5, x6, x7].getD k 0) q hwd.1 (by have := hwd.2; omega))
              generalize [x0, x1, x2, x3, x4, x5, x6, x7].getD k 0 = XK at *
              have hz4 : (strOfNums (wordBytes XK)).size = 4 := rfl
              have hzo := HO8.out k
              generalize strOfNums (wordBytes XK) = C4 at *
              obtain ⟨NX, hNX⟩ : ∃ NX, OT k ++ C4 = NX := ⟨_, rfl⟩
              have HNX := hid (HOK.out.trans hNX)
              have hsz : ¬ 9223372036854775807 < (OT k).size + C4.size := by omega
              generalize OT k = OK at *
              clear hz4 hzo
              have HK := hid hlt
              clear hlt hk
              go_wp2_with fail
              refine (HPW.out _).mono ?_
              rintro e1 w4 ⟨rfl, hb4⟩
              have B4 := hid (hb.out.trans (hb4.mono hb.out.size))
              clear hb4
              go_wp2_with fail
              go_roundw
              case rel => exact ⟨k + 1, by omega, by go_num, by rw [HNX.out], B4.out⟩
              case measure => simp [intOf]; omega
            · obtain rfl : k = 8 := by omega
              go_wp2_with fail
              go_ret
              exact ⟨ret_str HSUM.out.symm, hb.out⟩
end Go.Proofs.YtkeabkedbbjccaaDoor
