/- SumBlock of the program. -/
import Derived.Test.YtkeabkedbbjccaaDoorBk
namespace Go.Proofs.YtkeabkedbbjccaaDoor
open Go.RowKit
set_option linter.unusedVariables false

set_option maxRecDepth 100000 in
set_option maxHeartbeats 3200000 in
theorem impl_block_yes (a b c d e f g h : Int) (hS : St8 [a, b, c, d, e, f, g, h]) (s : ByteArray) (hs : s.size = 64) (w : World) (hw : ConstsAt w) :
    Calls Tryd.prog 12 #[.agg #[.int .u32 a, .int .u32 b, .int .u32 c, .int .u32 d, .int .u32 e, .int .u32 f, .int .u32 g, .int .u32 h], .string s] w fun e1 w' => e1 = .returned (arr (addTo (rounds [a, b, c, d, e, f, g, h] s 64) [a, b, c, d, e, f, g, h] 8)) ∧ Below w.heap.size w w' := by
  have HS := hid hs
  have hs1 : (s.size : Int) = 64 := by omega
  have HW := hid hw
  have HST := hid hS
  have H8 := hid (fun k => hS.rounds s k)
  generalize hRR : rounds [a, b, c, d, e, f, g, h] s = RR at *
  have hR0 : RR 0 = [a, b, c, d, e, f, g, h] := by rw [← hRR]; rfl
  have hRk : ∀ k, RR (k + 1) = roundL (RR k) ((kc k + (ws s 64).getD k 0) % 4294967296) := fun k => by rw [← hRR]; rfl
  have R0 := hid hR0
  have RK := hid hRk
  clear hs hw hS hRR hR0 hRk
  go_enter Tryd.func12, Tryd.ntmps12
  go_wp2_with fail
  have B0 := hid (((Below.refl w.heap.size w).alloc (Nat.le_refl _) (.cells #[.int .u32 a, .int .u32 b, .int .u32 c, .int .u32 d, .int .u32 e, .int .u32 f, .int .u32 g, .int .u32 h] 28)).alloc (by simp) (.cells #[.int .u32 0, .int .u32 0, .int .u32 0, .int .u32 0, .int .u32 0, .int .u32 0, .int .u32 0, .int .u32 0] 28))
  have P0 := hid ((Blk.new w [.int .u32 a, .int .u32 b, .int .u32 c, .int .u32 d, .int .u32 e, .int .u32 f, .int .u32 g, .int .u32 h] 28).below ((Below.refl (w.heap.size + 1) _).alloc (by simp) (.cells #[.int .u32 0, .int .u32 0, .int .u32 0, .int .u32 0, .int .u32 0, .int .u32 0, .int .u32 0, .int .u32 0] 28)) (by simp))
  have Q0 : Hid (Blk ((w.alloc (.cells #[.int .u32 a, .int .u32 b, .int .u32 c, .int .u32 d, .int .u32 e, .int .u32 f, .int .u32 g, .int .u32 h] 28)).alloc (.cells #[.int .u32 0, .int .u32 0, .int .u32 0, .int .u32 0, .int .u32 0, .int .u32 0, .int .u32 0, .int .u32 0] 28)) (w.heap.size + 1) [.int .u32 0, .int .u32 0, .int .u32 0, .int .u32 0, .int .u32 0, .int .u32 0, .int .u32 0, .int .u32 0] 28) := by
    have := Blk.new (w.alloc (.cells #[.int .u32 a, .int .u32 b, .int .u32 c, .int .u32 d, .int .u32 e, .int .u32 f, .int .u32 g, .int .u32 h] 28)) [.int .u32 0, .int .u32 0, .int .u32 0, .int .u32 0, .int .u32 0, .int .u32 0, .int .u32 0, .int .u32 0] 28
    rw [show (w.alloc (.cells #[.int .u32 a, .int .u32 b, .int .u32 c, .int .u32 d, .int .u32 e, .int .u32 f, .int .u32 g, .int .u32 h] 28)).heap.size = w.heap.size + 1 by simp] at this
    exact this
  have C0 := hid (HW.out.below (Nat.le_refl _) B0.out)
  generalize ((w.alloc (.cells #[.int .u32 a, .int .u32 b, .int .u32 c, .int .u32 d, .int .u32 e, .int .u32 f, .int .u32 g, .int .u32 h] 28)).alloc (.cells #[.int .u32 0, .int .u32 0, .int .u32 0, .int .u32 0, .int .u32 0, .int .u32 0, .int .u32 0, .int .u32 0] 28)) = wa at *
  refine (impl_words s HS.out wa).mono ?_
  rintro e1 w1 ⟨vw, rfl, how, hb1⟩
  obtain ⟨gw, cw, rfl⟩ := how.at0 (by rw [ws_len]; omega)
  have hwc := hid (fun j hj => how.at j hj)
  have hgl := how.ge.2
  rw [ws_len]
  rw [ws_len] at hwc
  have hsz := hid hb1.size
  have B1 := hid (B0.out.trans (hb1.mono B0.out.size))
  have P1 := hid (P0.out.below hb1 P0.out.lt)
  have Q1 := hid (Q0.out.below hb1 Q0.out.lt)
  have C1 := hid (C0.out.below (Nat.le_refl _) hb1)
  clear how hb1 B0 P0 Q0 C0
  have p0 := P1.out.cell (i := 0) rfl
  have p1 := P1.out.cell (i := 1) rfl
  have p2 := P1.out.cell (i := 2) rfl
  have p3 := P1.out.cell (i := 3) rfl
  have p4 := P1.out.cell (i := 4) rfl
  have p5 := P1.out.cell (i := 5) rfl
  have p6 := P1.out.cell (i := 6) rfl
  have p7 := P1.out.cell (i := 7) rfl
  go_wp2_with fail
  have D1 : Hid (Below w1.heap.size w1 (w1.alloc (.cells #[.int .u32 a, .int .u32 b, .int .u32 c, .int .u32 d, .int .u32 e, .int .u32 f, .int .u32 g, .int .u32 h] 28))) := (Below.refl _ _).alloc (Nat.le_refl _) _
  have N1 : Hid (Blk (w1.alloc (.cells #[.int .u32 a, .int .u32 b, .int .u32 c, .int .u32 d, .int .u32 e, .int .u32 f, .int .u32 g, .int .u32 h] 28)) w1.heap.size ((RR 0).map (Value.int .u32)) 28) := by rw [R0.out]; exact Blk.new w1 [.int .u32 a, .int .u32 b, .int .u32 c, .int .u32 d, .int .u32 e, .int .u32 f, .int .u32 g, .int .u32 h] 28
  clear p0 p1 p2 p3 p4 p5 p6 p7
  generalize w1.alloc (.cells #[.int .u32 a, .int .u32 b, .int .u32 c, .int .u32 d, .int .u32 e, .int .u32 f, .int .u32 g, .int .u32 h] 28) = w2 at *
  go_loopw [16] (fun i wr => ∃ k : Nat, k ≤ 64 ∧ i = .int .i64 k ∧ Hid (Blk wr w1.heap.size ((RR k).map (Value.int .u32)) 28) ∧ Hid (Below w1.heap.size w1 wr)) (fun i _ => 64 - (intOf i).toNat)
  case atStart => exact ⟨0, by omega, rfl, N1.out, D1.out⟩
  case round =>
    obtain ⟨k, hk, rfl, hblk, hb⟩ := hrel
    clear D1 N1
    by_cases hlt : k < 64
    · have hlt' : (k : Int) < 64 := by omega
      have CW := hid (C1.out.below (Nat.le_refl _) hb.out)
      have HK := hid (impl_const k wr.drew CW.out)
      have wk : wr.cell? ⟨gw, k, none⟩ = some (.int .u32 ((ws s 64).getD k 0)) := (hb.out.cell (p := ⟨gw, k, none⟩) hgl).trans (hwc.out k hlt)
      have hWW := getD_word (ws_word s 64) k
      have hKW := kc_word k hlt
      have HX := hid (RK.out k)
      have h8 := H8.out k
      generalize (ws s 64).getD k 0 = Wk at *
      generalize kc (k : Int) = Kk at *
      obtain ⟨RN, hRN⟩ : ∃ RN, RN = RR (k + 1) := ⟨_, rfl⟩
      rw [← hRN] at HX
      have HRN := hid hRN
      clear hRN
      generalize hRk : RR k = Rk at *
      clear hRk
      obtain ⟨x0, x1, x2, x3, x4, x5, x6, x7, rfl⟩ := eight h8.1
      obtain ⟨w0', w1', w2', w3', w4', w5', w6', w7'⟩ := h8.words
      have HRO := hid (fun q => impl_round x0 x1 x2 x3 x4 x5 x6 x7 ((Kk + Wk) % 4294967296) q w0' w1' w2' w3' w4' w5' w6' w7' (W32.mod _))
      have BX : Hid (Blk wr w1.heap.size [.int .u32 x0, .int .u32 x1, .int .u32 x2, .int .u32 x3, .int .u32 x4, .int .u32 x5, .int .u32 x6, .int .u32 x7] 28) := hblk.out
      have HXE : Hid (RN = roundL [x0, x1, x2, x3, x4, x5, x6, x7] ((Kk + Wk) % 4294967296)) := HX.out
      obtain ⟨k0, k1⟩ := hKW
      obtain ⟨m0, m1⟩ := hWW
      clear h8 hblk w0' w1' w2' w3' w4' w5' w6' w7' HX
      have c0 := BX.out.cell (i := 0) rfl
      have c1 := BX.out.cell (i := 1) rfl
      have c2 := BX.out.cell (i := 2) rfl
      have c3 := BX.out.cell (i := 3) rfl
      have c4 := BX.out.cell (i := 4) rfl
      have c5 := BX.out.cell (i := 5) rfl
      have c6 := BX.out.cell (i := 6) rfl
      have c7 := BX.out.cell (i := 7) rfl
      have HL := hid hlt
      have hx0 : Hid (∃ X, X = (Kk + Wk) % 4294967296) := ⟨_, rfl⟩
      obtain ⟨X, hX⟩ := hx0.out
      rw [← hX] at HRO HXE
      have HXX : Hid (X = IntKind.u32.wrap (Kk + Wk)) := hid (by rw [hX, IntKind.wrap_u32])
      clear hX hx0
      go_wp2_with fail
      go_region_with (first
        | (go_at_call 19; refine HK.out.mono ?_; rintro e1 w3 ⟨rfl, rfl⟩)
        | (go_at_call 28; rw [← HXX.out]; refine (HRO.out wr.drew).mono ?_; rintro e1 w3 ⟨rfl, hb3⟩; have E3 := hid (Below.trans (below_drewN wr 1) hb3); have LX := hid (BX.out.below E3.out BX.out.lt); have l0 := LX.out.cell (i := 0) rfl; have z0 := LX.out.free 0; have l1 := LX.out.cell (i := 1) rfl; have z1 := LX.out.free 1; have l2 := LX.out.cell (i := 2) rfl; have z2 := LX.out.free 2; have l3 := LX.out.cell (i := 3) rfl; have z3 := LX.out.free 3; have l4 := LX.out.cell (i := 4) rfl; have z4 := LX.out.free 4; have l5 := LX.out.cell (i := 5) rfl; have z5 := LX.out.free 5; have l6 := LX.out.cell (i := 6) rfl; have z6 := LX.out.free 6; have l7 := LX.out.cell (i := 7) rfl; have z7 := LX.out.free 7))
      all_goals
        have N3 : Hid (Blk _ w1.heap.size [.int .u32 ((rT x4 x5 x6 x7 X + rU x0 x1 x2) % 4294967296), .int .u32 x0, .int .u32 x1, .int .u32 x2, .int .u32 ((x3 + rT x4 x5 x6 x7 X) % 4294967296), .int .u32 x4, .int .u32 x5, .int .u32 x6] 28) := blk_set8 LX.out (.int .u32 ((rT x4 x5 x6 x7 X + rU x0 x1 x2) % 4294967296)) (.int .u32 x0) (.int .u32 x1) (.int .u32 x2) (.int .u32 ((x3 + rT x4 x5 x6 x7 X) % 4294967296)) (.int .u32 x4) (.int .u32 x5) (.int .u32 x6)
        have D3 := hid (below_set8 (hb.out.trans (E3.out.mono hb.out.size)) (Nat.le_refl _) (.int .u32 ((rT x4 x5 x6 x7 X + rU x0 x1 x2) % 4294967296)) (.int .u32 x0) (.int .u32 x1) (.int .u32 x2) (.int .u32 ((x3 + rT x4 x5 x6 x7 X) % 4294967296)) (.int .u32 x4) (.int .u32 x5) (.int .u32 x6))
        clear c0 l0 z0 c1 l1 z1 c2 l2 z2 c3 l3 z3 c4 l4 z4 c5 l5 z5 c6 l6 z6 c7 l7 z7 LX E3 hb3
        go_wp2_with fail
        go_roundw
        case rel => exact ⟨k + 1, by omega, by go_num, by rw [← HRN.out, HXE.out]; exact N3.out, D3.out⟩
        case measure => simp [intOf]; omega
    · obtain rfl : k = 64 := by omega
      clear hlt hk
      have h8 := H8.out 64
      have BX := hid hblk.out
      clear hblk
      generalize hXX : RR 64 = XX at *
      have HXX := hid hXX
      clear hXX
      have hplt := P1.out.lt
      have hqlt := Q1.out.lt
      have hpne : ¬ w.heap.size = w1.heap.size := by omega
      have hqne : ¬ w.heap.size + 1 = w1.heap.size := by omega
      have HSTL := hid HST.out.1
      have PM : Hid (Blk w1 w.heap.size ([a, b, c, d, e, f, g, h].map (Value.int .u32)) 28) := P1.out
      generalize hYY : [a, b, c, d, e, f, g, h] = YY at *
      have HYY := hid hYY
      clear hYY P1 R0 RK H8
      go_wp2_with fail
      go_loopw [29] (fun i wq => ∃ k : Nat, k ≤ 8 ∧ i = .int .i64 k ∧ Hid (Blk wq w1.heap.size ((addTo XX YY k).map (Value.int .u32)) 28) ∧ Hid (Below w1.heap.size w1 wq)) (fun i _ => 8 - (intOf i).toNat)
      case atStart => exact ⟨0, by omega, rfl, BX.out, hb.out⟩
      case round =>
        clear BX hb
        obtain ⟨k, hk, rfl, hblk, hb⟩ := hrel
        by_cases hlt : k < 8
        · have hlt' : (k : Int) < 8 := by omega
          have cx := hblk.out.cell (map_at (L := addTo XX YY k) (k := k) (by rw [addTo_len, h8.1]; exact hlt))
          rw [addTo_past XX YY k k (Nat.le_refl _)] at cx
          have zx := hblk.out.free k
          have cy : wr.cell? ⟨w.heap.size, k, none⟩ = some (.int .u32 (YY.getD k 0)) := (hb.out.cell (p := ⟨w.heap.size, k, none⟩) hplt).trans (PM.out.cell (map_at (by rw [HSTL.out]; exact hlt)))
          have hxw := getD_word h8.2 k
          have hyw := getD_word HST.out.2 k
          have HN : Hid (addTo XX YY (k + 1) = (addTo XX YY k).set k ((XX.getD k 0 + YY.getD k 0) % 4294967296)) := rfl
          have HL := hid hlt
          generalize XX.getD k 0 = X at *
          generalize YY.getD k 0 = Y at *
          obtain ⟨x0, x1⟩ := hxw
          obtain ⟨y0, y1⟩ := hyw
          clear hlt hk
          go_wp2_with fail
          go_region
          all_goals
            go_wp2_with fail
            go_roundw
            case rel => exact ⟨k + 1, by omega, by go_num, by rw [HN.out, List.map_set]; exact hblk.out.set k _, belowN (hb.out.setCell (p := ⟨w1.heap.size, k, none⟩) (Nat.le_refl _) _) 1⟩
            case measure => simp [intOf]; omega
        · obtain rfl : k = 8 := by omega
          have hl8 : (addTo XX YY 8).length = 8 := by rw [addTo_len]; exact h8.1
          generalize hZZ : addTo XX YY 8 = ZZ at *
          obtain ⟨x0, x1, x2, x3, x4, x5, x6, x7, rfl⟩ := eight hl8
          have HZZ := hid hZZ
          clear hZZ
          have BX : Hid (Blk wr w1.heap.size [.int .u32 x0, .int .u32 x1, .int .u32 x2, .int .u32 x3, .int .u32 x4, .int .u32 x5, .int .u32 x6, .int .u32 x7] 28) := hblk.out
          have c0 := BX.out.cell (i := 0) rfl
          have c1 := BX.out.cell (i := 1) rfl
          have c2 := BX.out.cell (i := 2) rfl
          have c3 := BX.out.cell (i := 3) rfl
          have c4 := BX.out.cell (i := 4) rfl
          have c5 := BX.out.cell (i := 5) rfl
          have c6 := BX.out.cell (i := 6) rfl
          have c7 := BX.out.cell (i := 7) rfl
          have QX := hid (Q1.out.below hb.out hqlt)
          have BB := hid (B1.out.trans (hb.out.mono B1.out.size))
          have q0 := QX.out.cell (i := 0) rfl
          have f0 := QX.out.free 0
          have q1 := QX.out.cell (i := 1) rfl
          have f1 := QX.out.free 1
          have q2 := QX.out.cell (i := 2) rfl
          have f2 := QX.out.free 2
          have q3 := QX.out.cell (i := 3) rfl
          have f3 := QX.out.free 3
          have q4 := QX.out.cell (i := 4) rfl
          have f4 := QX.out.free 4
          have q5 := QX.out.cell (i := 5) rfl
          have f5 := QX.out.free 5
          have q6 := QX.out.cell (i := 6) rfl
          have f6 := QX.out.free 6
          have q7 := QX.out.cell (i := 7) rfl
          have f7 := QX.out.free 7
          clear hblk hlt hk
          go_wp2_with fail
          refine bodyPost_ret (v := arr [x0, x1, x2, x3, x4, x5, x6, x7]) (by simp [results, Tryd.results12, go_sem, arr, *]) rfl ⟨by rw [HXX.out, HYY.out, HZZ.out], ?_⟩
          exact below_set8 BB.out (Nat.le_succ _) _ _ _ _ _ _ _ _
end Go.Proofs.YtkeabkedbbjccaaDoor
