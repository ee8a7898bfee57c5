/- SumBlock of the specification. -/
import Derived.Test.YtkeabkedbbjccaaDoorBk
namespace Go.Proofs.YtkeabkedbbjccaaDoor
open Go.RowKit
set_option linter.unusedVariables false

theorem spec_rot_q (x m : Int) (n : Nat) (hm : m = n) (hn : 1 ≤ n ∧ n ≤ 31) (w : World) (hl : W32 x) :
    Calls Tryd.prog 36 #[.int .u32 x, .int .u64 m] w fun e w' => e = .returned (.int .u32 (rt x n)) ∧ w' = w :=
  (spec_rot x m n hm hn w hl).mono fun _ _ ⟨h1, h2⟩ => ⟨h1, h2.symm⟩

set_option maxRecDepth 100000 in
set_option maxHeartbeats 800000 in
theorem spec_block_yes (a b c d e f g h : Int) (hS : St8 [a, b, c, d, e, f, g, h]) (s : ByteArray) (hs : s.size = 64) (w : World) :
    Calls Tryd.prog 21 #[.agg #[.int .u32 a, .int .u32 b, .int .u32 c, .int .u32 d, .int .u32 e, .int .u32 f, .int .u32 g, .int .u32 h], .string s] w fun e1 w' => e1 = .returned (arr (addTo (rounds [a, b, c, d, e, f, g, h] s 64) [a, b, c, d, e, f, g, h] 8)) ∧ Below w.heap.size w w' := by
  have HS := hid hs
  have hs1 : (s.size : Int) = 64 := by omega
  have HST := hid hS
  have H8 := hid (fun k => hS.rounds s k)
  generalize hRR : rounds [a, b, c, d, e, f, g, h] s = RR at *
  have hR0 : RR 0 = [a, b, c, d, e, f, g, h] := by rw [← hRR]; rfl
  have hRk : ∀ k, RR (k + 1) = roundL (RR k) ((kc k + (ws s 64).getD k 0) % 4294967296) := fun k => by rw [← hRR]; rfl
  have R0 := hid hR0
  have RK := hid hRk
  clear hs hS hRR hR0 hRk
  go_enter Tryd.func21, Tryd.ntmps21
  go_wp2_with fail
  have B0 := hid (((Below.refl w.heap.size w).alloc (Nat.le_refl _) (.cells #[.int .u32 a, .int .u32 b, .int .u32 c, .int .u32 d, .int .u32 e, .int .u32 f, .int .u32 g, .int .u32 h] 28)).alloc (by simp) (.cells #[.int .u32 0, .int .u32 0, .int .u32 0, .int .u32 0, .int .u32 0, .int .u32 0, .int .u32 0, .int .u32 0] 28))
  have P0 := hid ((Blk.new w [.int .u32 a, .int .u32 b, .int .u32 c, .int .u32 d, .int .u32 e, .int .u32 f, .int .u32 g, .int .u32 h] 28).below ((Below.refl (w.heap.size + 1) _).alloc (by simp) (.cells #[.int .u32 0, .int .u32 0, .int .u32 0, .int .u32 0, .int .u32 0, .int .u32 0, .int .u32 0, .int .u32 0] 28)) (by simp))
  have Q0 : Hid (Blk ((w.alloc (.cells #[.int .u32 a, .int .u32 b, .int .u32 c, .int .u32 d, .int .u32 e, .int .u32 f, .int .u32 g, .int .u32 h] 28)).alloc (.cells #[.int .u32 0, .int .u32 0, .int .u32 0, .int .u32 0, .int .u32 0, .int .u32 0, .int .u32 0, .int .u32 0] 28)) (w.heap.size + 1) [.int .u32 0, .int .u32 0, .int .u32 0, .int .u32 0, .int .u32 0, .int .u32 0, .int .u32 0, .int .u32 0] 28) := by
    have := Blk.new (w.alloc (.cells #[.int .u32 a, .int .u32 b, .int .u32 c, .int .u32 d, .int .u32 e, .int .u32 f, .int .u32 g, .int .u32 h] 28)) [.int .u32 0, .int .u32 0, .int .u32 0, .int .u32 0, .int .u32 0, .int .u32 0, .int .u32 0, .int .u32 0] 28
    rw [show (w.alloc (.cells #[.int .u32 a, .int .u32 b, .int .u32 c, .int .u32 d, .int .u32 e, .int .u32 f, .int .u32 g, .int .u32 h] 28)).heap.size = w.heap.size + 1 by simp] at this
    exact this
  generalize ((w.alloc (.cells #[.int .u32 a, .int .u32 b, .int .u32 c, .int .u32 d, .int .u32 e, .int .u32 f, .int .u32 g, .int .u32 h] 28)).alloc (.cells #[.int .u32 0, .int .u32 0, .int .u32 0, .int .u32 0, .int .u32 0, .int .u32 0, .int .u32 0, .int .u32 0] 28)) = wa at *
  refine (spec_words s HS.out wa).mono ?_
  rintro e1 w0 ⟨vw, rfl, how, hb1⟩
  obtain ⟨gw, cw, rfl⟩ := how.at0 (by rw [ws_len]; omega)
  have hwc0 := hid (fun j hj => how.at j hj)
  have hgl := how.ge.2
  rw [ws_len]
  rw [ws_len] at hwc0
  have hsz := hid hb1.size
  have B1 := hid (B0.out.trans (hb1.mono B0.out.size))
  have P1 := hid (P0.out.below hb1 P0.out.lt)
  have Q1 := hid (Q0.out.below hb1 Q0.out.lt)
  clear how hb1 B0 P0 Q0
  go_wp2_with fail
  refine (spec_table w0).mono ?_
  rintro e1 wt ⟨rfl, hwt⟩
  have hbt : Below w0.heap.size w0 wt := by rw [hwt]; exact (Below.refl _ _).alloc (Nat.le_refl _) _
  have TB : Blk wt w0.heap.size (kt.map (Value.int .u32)) 26 := by rw [hwt]; exact Blk.new w0 (kt.map (Value.int .u32)) 26
  have hwc : Hid (∀ j, j < 64 → wt.cell? ⟨gw, j, none⟩ = some (.int .u32 ((ws s 64).getD j 0))) := fun j hj => (hbt.cell (p := ⟨gw, j, none⟩) hgl).trans (hwc0.out j hj)
  have HTC : Hid (∀ j, j < 64 → wt.cell? ⟨w0.heap.size, j, none⟩ = some (.int .u32 (kc j))) := fun j hj => by
    rw [kc_nat j hj]
    refine TB.cell ?_
    have : j < kt.length := by rw [kt_len]; exact hj
    rw [List.getElem?_map]
    simp [List.getD, this]
  have htl := TB.lt
  have hgl2 : gw < wt.heap.size := Nat.lt_of_lt_of_le hgl hbt.size
  have B2 := hid (B1.out.trans (hbt.mono B1.out.size))
  have P2 := hid (P1.out.below hbt P1.out.lt)
  have Q2 := hid (Q1.out.below hbt Q1.out.lt)
  clear hbt TB hwt B1 P1 Q1 hwc0 hsz hgl
  have p0 := P2.out.cell (i := 0) rfl
  have p1 := P2.out.cell (i := 1) rfl
  have p2 := P2.out.cell (i := 2) rfl
  have p3 := P2.out.cell (i := 3) rfl
  have p4 := P2.out.cell (i := 4) rfl
  have p5 := P2.out.cell (i := 5) rfl
  have p6 := P2.out.cell (i := 6) rfl
  have p7 := P2.out.cell (i := 7) rfl
  go_wp2_with fail
  have D1 : Hid (Below wt.heap.size wt (wt.alloc (.cells #[.int .u32 a, .int .u32 b, .int .u32 c, .int .u32 d, .int .u32 e, .int .u32 f, .int .u32 g, .int .u32 h] 28))) := (Below.refl _ _).alloc (Nat.le_refl _) _
  have N1 : Hid (Blk (wt.alloc (.cells #[.int .u32 a, .int .u32 b, .int .u32 c, .int .u32 d, .int .u32 e, .int .u32 f, .int .u32 g, .int .u32 h] 28)) wt.heap.size ((RR 0).map (Value.int .u32)) 28) := by rw [R0.out]; exact Blk.new wt [.int .u32 a, .int .u32 b, .int .u32 c, .int .u32 d, .int .u32 e, .int .u32 f, .int .u32 g, .int .u32 h] 28
  clear p0 p1 p2 p3 p4 p5 p6 p7
  generalize wt.alloc (.cells #[.int .u32 a, .int .u32 b, .int .u32 c, .int .u32 d, .int .u32 e, .int .u32 f, .int .u32 g, .int .u32 h] 28) = w2 at *
  go_loopw [8] (fun i wr => ∃ k : Nat, k ≤ 64 ∧ i = .int .i64 k ∧ Hid (Blk wr wt.heap.size ((RR k).map (Value.int .u32)) 28) ∧ Hid (Below wt.heap.size wt wr)) (fun i _ => 64 - (intOf i).toNat)
  case atStart => exact ⟨0, by omega, rfl, N1.out, D1.out⟩
  case round =>
    obtain ⟨k, hk, rfl, hblk, hb⟩ := hrel
    clear D1 N1
    by_cases hlt : k < 64
    · have hlt' : (k : Int) < 64 := by omega
      have wk : wr.cell? ⟨gw, k, none⟩ = some (.int .u32 ((ws s 64).getD k 0)) := (hb.out.cell (p := ⟨gw, k, none⟩) hgl2).trans (hwc.out k hlt)
      have tk : wr.cell? ⟨w0.heap.size, k, none⟩ = some (.int .u32 (kc k)) := (hb.out.cell (p := ⟨w0.heap.size, k, none⟩) htl).trans (HTC.out k hlt)
      have hWW := getD_word (ws_word s 64) k
      have hKW := kc_word k hlt
      have HX := hid (RK.out k)
      have h8 := H8.out k
      generalize (ws s 64).getD k 0 = Wk at *
      generalize kc (k : Int) = Kk at *
      obtain ⟨RN, hRN⟩ : ∃ RN, RN = RR (k + 1) := ⟨_, rfl⟩
      rw [← hRN] at HX
      have HRN := hid hRN
      clear hRN
      generalize hRk : RR k = Rk at *
      clear hRk
      obtain ⟨x0, x1, x2, x3, x4, x5, x6, x7, rfl⟩ := eight h8.1
      obtain ⟨w0', w1', w2', w3', w4', w5', w6', w7'⟩ := h8.words
      have BX : Hid (Blk wr wt.heap.size [.int .u32 x0, .int .u32 x1, .int .u32 x2, .int .u32 x3, .int .u32 x4, .int .u32 x5, .int .u32 x6, .int .u32 x7] 28) := hblk.out
      have HXE : Hid (RN = roundL [x0, x1, x2, x3, x4, x5, x6, x7] ((Kk + Wk) % 4294967296)) := HX.out
      have r6 := hid (fun q => spec_rot_q x4 6 6 rfl (by decide) q w4')
      have r11 := hid (fun q => spec_rot_q x4 11 11 rfl (by decide) q w4')
      have r25 := hid (fun q => spec_rot_q x4 25 25 rfl (by decide) q w4')
      have r2 := hid (fun q => spec_rot_q x0 2 2 rfl (by decide) q w0')
      have r13 := hid (fun q => spec_rot_q x0 13 13 rfl (by decide) q w0')
      have r22 := hid (fun q => spec_rot_q x0 22 22 rfl (by decide) q w0')
      have g1 := hid (bg1_word w4')
      have g2 := hid (cho_word w4' w5' w6')
      have g3 := hid (bg0_word w0')
      have g4 := hid (maj_word w0' w1' w2')
      obtain ⟨k0, k1⟩ := hKW
      obtain ⟨m0, m1⟩ := hWW
      obtain ⟨u0, v0⟩ := w0'
      obtain ⟨u1, v1⟩ := w1'
      obtain ⟨u2, v2⟩ := w2'
      obtain ⟨u3, v3⟩ := w3'
      obtain ⟨u4, v4⟩ := w4'
      obtain ⟨u5, v5⟩ := w5'
      obtain ⟨u6, v6⟩ := w6'
      obtain ⟨u7, v7⟩ := w7'
      clear h8 hblk HX
      have c0 := BX.out.cell (i := 0) rfl
      have c1 := BX.out.cell (i := 1) rfl
      have c2 := BX.out.cell (i := 2) rfl
      have c3 := BX.out.cell (i := 3) rfl
      have c4 := BX.out.cell (i := 4) rfl
      have c5 := BX.out.cell (i := 5) rfl
      have c6 := BX.out.cell (i := 6) rfl
      have c7 := BX.out.cell (i := 7) rfl
      have z0 := BX.out.free 0
      have z1 := BX.out.free 1
      have z2 := BX.out.free 2
      have z3 := BX.out.free 3
      have z4 := BX.out.free 4
      have z5 := BX.out.free 5
      have z6 := BX.out.free 6
      have z7 := BX.out.free 7
      have HL := hid hlt
      go_wp2_with fail
      go_quiet ((first | (go_at_call 36; with_reducible exact Calls.quiet_of_same (r6.out _)) | (go_at_call 36; with_reducible exact Calls.quiet_of_same (r11.out _)) | (go_at_call 36; with_reducible exact Calls.quiet_of_same (r25.out _))))
      have e1 : Hid (bits .xor .u32 (bits .xor .u32 (rt x4 6) (rt x4 11)) (rt x4 25) = bg1 x4) := rfl
      have e2 : Hid (bits .xor .u32 (bits .and .u32 x4 x5) (bits .and .u32 (bits .xor .u32 x4 4294967295) x6) = cho x4 x5 x6) := rfl
      have e3 : Hid (bits .xor .u32 (bits .xor .u32 (rt x0 2) (rt x0 13)) (rt x0 22) = bg0 x0) := rfl
      have e4 : Hid (bits .xor .u32 (bits .xor .u32 (bits .and .u32 x0 x1) (bits .and .u32 x0 x2)) (bits .and .u32 x1 x2) = maj x0 x1 x2) := rfl
      have ET : Hid (∀ X, rT x4 x5 x6 x7 X = (((x7 + bg1 x4) % 4294967296 + cho x4 x5 x6) % 4294967296 + X) % 4294967296) := fun _ => rfl
      have EU : Hid (rU x0 x1 x2 = (bg0 x0 + maj x0 x1 x2) % 4294967296) := rfl
      rw [e1.out, e2.out]
      generalize bg1 x4 = E1 at *
      generalize cho x4 x5 x6 = E2 at *
      generalize bg0 x0 = E3 at *
      generalize maj x0 x1 x2 = E4 at *
      obtain ⟨y0, y1⟩ := g1.out
      obtain ⟨y2, y3⟩ := g2.out
      obtain ⟨y4, y5⟩ := g3.out
      obtain ⟨y6, y7⟩ := g4.out
      have BX2 : Hid (Blk (wr.drewN nq) wt.heap.size [.int .u32 x0, .int .u32 x1, .int .u32 x2, .int .u32 x3, .int .u32 x4, .int .u32 x5, .int .u32 x6, .int .u32 x7] 28) := BX.out
      have D2 := hid (belowN hb.out nq)
      clear BX hb wk tk c0 z0 c1 z1 c2 z2 c3 z3 c4 z4 c5 z5 c6 z6 c7 z7
      generalize wr.drewN nq = wq at *
      have c0 := BX2.out.cell (i := 0) rfl
      have c1 := BX2.out.cell (i := 1) rfl
      have c2 := BX2.out.cell (i := 2) rfl
      have c3 := BX2.out.cell (i := 3) rfl
      have c4 := BX2.out.cell (i := 4) rfl
      have c5 := BX2.out.cell (i := 5) rfl
      have c6 := BX2.out.cell (i := 6) rfl
      have c7 := BX2.out.cell (i := 7) rfl
      go_wp2_with fail
      go_quiet ((first | (go_at_call 36; with_reducible exact Calls.quiet_of_same (r2.out _)) | (go_at_call 36; with_reducible exact Calls.quiet_of_same (r13.out _)) | (go_at_call 36; with_reducible exact Calls.quiet_of_same (r22.out _))))
      rw [e3.out, e4.out]
      have BX : Hid (Blk (wq.drewN nq) wt.heap.size [.int .u32 x0, .int .u32 x1, .int .u32 x2, .int .u32 x3, .int .u32 x4, .int .u32 x5, .int .u32 x6, .int .u32 x7] 28) := BX2.out
      have D3 := hid (belowN D2.out nq)
      clear BX2 D2 c0 c1 c2 c3 c4 c5 c6 c7
      generalize wq.drewN nq = wp at *
      have c0 := BX.out.cell (i := 0) rfl
      have c1 := BX.out.cell (i := 1) rfl
      have c2 := BX.out.cell (i := 2) rfl
      have c3 := BX.out.cell (i := 3) rfl
      have c4 := BX.out.cell (i := 4) rfl
      have c5 := BX.out.cell (i := 5) rfl
      have c6 := BX.out.cell (i := 6) rfl
      have c7 := BX.out.cell (i := 7) rfl
      have z0 := BX.out.free 0
      have z1 := BX.out.free 1
      have z2 := BX.out.free 2
      have z3 := BX.out.free 3
      have z4 := BX.out.free 4
      have z5 := BX.out.free 5
      have z6 := BX.out.free 6
      have z7 := BX.out.free 7
      go_wp2_with fail
      go_roundw
      case rel =>
        have t1 : (rT x4 x5 x6 x7 ((Kk + Wk) % 4294967296) + rU x0 x1 x2) % 4294967296 = (x7 + E1 + E2 + Kk + Wk + (E3 + E4)) % 4294967296 := by rw [ET.out, EU.out]; omega
        have t2 : (x3 + rT x4 x5 x6 x7 ((Kk + Wk) % 4294967296)) % 4294967296 = (x3 + (x7 + E1 + E2 + Kk + Wk)) % 4294967296 := by rw [ET.out]; omega
        have hl : RN = [(x7 + E1 + E2 + Kk + Wk + (E3 + E4)) % 4294967296, x0, x1, x2, (x3 + (x7 + E1 + E2 + Kk + Wk)) % 4294967296, x4, x5, x6] := by rw [HXE.out, roundL, t1, t2]
        refine ⟨k + 1, by omega, by go_num, ?_, below_set8 D3.out (Nat.le_refl _) _ _ _ _ _ _ _ _⟩
        rw [← HRN.out, hl]
        exact blk_set8 BX.out _ _ _ _ _ _ _ _
      case measure => simp [intOf]; omega
    · obtain rfl : k = 64 := by omega
      clear hlt hk
      have h8 := H8.out 64
      have BX := hid hblk.out
      clear hblk
      generalize hXX : RR 64 = XX at *
      have HXX := hid hXX
      clear hXX
      have hplt := P2.out.lt
      have hqlt := Q2.out.lt
      have hpne : ¬ w.heap.size = wt.heap.size := by omega
      have hqne : ¬ w.heap.size + 1 = wt.heap.size := by omega
      have HSTL := hid HST.out.1
      have PM : Hid (Blk wt w.heap.size ([a, b, c, d, e, f, g, h].map (Value.int .u32)) 28) := P2.out
      generalize hYY : [a, b, c, d, e, f, g, h] = YY at *
      have HYY := hid hYY
      clear hYY P2 R0 RK H8
      go_wp2_with fail
      go_loopw [11] (fun i wq => ∃ k : Nat, k ≤ 8 ∧ i = .int .i64 k ∧ Hid (Blk wq wt.heap.size ((addTo XX YY k).map (Value.int .u32)) 28) ∧ Hid (Below wt.heap.size wt wq)) (fun i _ => 8 - (intOf i).toNat)
      case atStart => exact ⟨0, by omega, rfl, BX.out, hb.out⟩
      case round =>
        clear BX hb
        obtain ⟨k, hk, rfl, hblk, hb⟩ := hrel
        by_cases hlt : k < 8
        · have hlt' : (k : Int) < 8 := by omega
          have cx := hblk.out.cell (map_at (L := addTo XX YY k) (k := k) (by rw [addTo_len, h8.1]; exact hlt))
          rw [addTo_past XX YY k k (Nat.le_refl _)] at cx
          have zx := hblk.out.free k
          have cy : wr.cell? ⟨w.heap.size, k, none⟩ = some (.int .u32 (YY.getD k 0)) := (hb.out.cell (p := ⟨w.heap.size, k, none⟩) hplt).trans (PM.out.cell (map_at (by rw [HSTL.out]; exact hlt)))
          have hxw := getD_word h8.2 k
          have hyw := getD_word HST.out.2 k
          have HN : Hid (addTo XX YY (k + 1) = (addTo XX YY k).set k ((XX.getD k 0 + YY.getD k 0) % 4294967296)) := rfl
          have HL := hid hlt
          generalize XX.getD k 0 = X at *
          generalize YY.getD k 0 = Y at *
          obtain ⟨x0, x1⟩ := hxw
          obtain ⟨y0, y1⟩ := hyw
          clear hlt hk
          go_wp2_with fail
          go_region
          all_goals
            go_wp2_with fail
            go_roundw
            case rel => exact ⟨k + 1, by omega, by go_num, by rw [HN.out, List.map_set]; exact hblk.out.set k _, belowN (hb.out.setCell (p := ⟨wt.heap.size, k, none⟩) (Nat.le_refl _) _) 1⟩
            case measure => simp [intOf]; omega
        · obtain rfl : k = 8 := by omega
          have hl8 : (addTo XX YY 8).length = 8 := by rw [addTo_len]; exact h8.1
          generalize hZZ : addTo XX YY 8 = ZZ at *
          obtain ⟨x0, x1, x2, x3, x4, x5, x6, x7, rfl⟩ := eight hl8
          have HZZ := hid hZZ
          clear hZZ
          have BX : Hid (Blk wr wt.heap.size [.int .u32 x0, .int .u32 x1, .int .u32 x2, .int .u32 x3, .int .u32 x4, .int .u32 x5, .int .u32 x6, .int .u32 x7] 28) := hblk.out
          have c0 := BX.out.cell (i := 0) rfl
          have c1 := BX.out.cell (i := 1) rfl
          have c2 := BX.out.cell (i := 2) rfl
          have c3 := BX.out.cell (i := 3) rfl
          have c4 := BX.out.cell (i := 4) rfl
          have c5 := BX.out.cell (i := 5) rfl
          have c6 := BX.out.cell (i := 6) rfl
          have c7 := BX.out.cell (i := 7) rfl
          have QX := hid (Q2.out.below hb.out hqlt)
          have BB := hid (B2.out.trans (hb.out.mono B2.out.size))
          have q0 := QX.out.cell (i := 0) rfl
          have f0 := QX.out.free 0
          have q1 := QX.out.cell (i := 1) rfl
          have f1 := QX.out.free 1
          have q2 := QX.out.cell (i := 2) rfl
          have f2 := QX.out.free 2
          have q3 := QX.out.cell (i := 3) rfl
          have f3 := QX.out.free 3
          have q4 := QX.out.cell (i := 4) rfl
          have f4 := QX.out.free 4
          have q5 := QX.out.cell (i := 5) rfl
          have f5 := QX.out.free 5
          have q6 := QX.out.cell (i := 6) rfl
          have f6 := QX.out.free 6
          have q7 := QX.out.cell (i := 7) rfl
          have f7 := QX.out.free 7
          clear hblk hlt hk
          go_wp2_with fail
          refine bodyPost_ret (v := arr [x0, x1, x2, x3, x4, x5, x6, x7]) (by simp [results, Tryd.results21, go_sem, arr, *]) rfl ⟨by rw [HXX.out, HYY.out, HZZ.out], ?_⟩
          exact below_set8 BB.out (Nat.le_succ _) _ _ _ _ _ _ _ _
end Go.Proofs.YtkeabkedbbjccaaDoor
