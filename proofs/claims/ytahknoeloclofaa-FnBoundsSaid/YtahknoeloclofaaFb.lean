/- The law FnBounds: behind every bit the two bounds of a coder differ in their highest byte, and lie within what they were. -/
import Derived.Test.YtahknoeloclofaaFc
import Derived.Test.YtahknoeloclofaaIp
import Derived.Deep.CutRange
namespace Go.Proofs.Ytahknoeloclofaa
open Go.RowKit
set_option linter.unusedVariables false

theorem impl_start (s : ByteArray) (w : World) :
    Calls Try.prog 16 #[.string s] w fun e w' => e = .returned (cV 0 4294967295 s) ∧ Below w.heap.size w w' := by
  unfold cV
  have HW := hid (fun q => impl_widest q)
  have HB0 := hid ((Below.refl w.heap.size w).alloc (Nat.le_refl _) (.cells #[.int .u32 0, .int .u32 0, .string ⟨#[]⟩] 35))
  have HN := hid (Blk.new w [.int .u32 0, .int .u32 0, .string ⟨#[]⟩] 35)
  go_enter Try.func16, Try.ntmps16
  go_wp2_with fail
  refine (HW.out _).mono ?_
  generalize w.alloc (.cells #[.int .u32 0, .int .u32 0, .string ⟨#[]⟩] 35) = W0 at *
  rintro e w1 ⟨rfl, hb1⟩
  have N1 := hid (HN.out.below hb1 HN.out.lt)
  have B1 := hid (HB0.out.trans (hb1.mono HB0.out.size))
  have q0 := N1.out.cell (i := 0) rfl
  have q1 := N1.out.cell (i := 1) rfl
  have q2 := N1.out.cell (i := 2) rfl
  have z0 := N1.out.free 0
  have z1 := N1.out.free 1
  have z2 := N1.out.free 2
  have hlt : w.heap.size < w1.heap.size := N1.out.lt
  clear hb1 HN HB0
  go_wp2_with fail
  refine bodyPost_ret (v := .agg #[.int .u32 0, .int .u32 4294967295, .string s]) (by simp [results, Try.results16, go_sem, q0, q1, q2, hlt]) rfl ?_
  refine ⟨rfl, ?_⟩
  have b3 := ((B1.out.setCell (p := ⟨w.heap.size, 0, none⟩) (Nat.le_refl _) (.int .u32 0)).setCell (p := ⟨w.heap.size, 1, none⟩) (Nat.le_refl _) (.int .u32 4294967295)).setCell (p := ⟨w.heap.size, 2, none⟩) (Nat.le_refl _) (.string s)
  exact b3.alloc b3.size _

/-- What a bit leaves of the bounds. -/
theorem put_facts {o : List Int} {l h b p : Int} (hk : CK o l h) (hp : isCh p = true) :
    (l ≤ cMid l h p ∧ cMid l h p < h) ∧ top (cPut l h b p).2.1 ≠ top (cPut l h b p).2.2 ∧ ((cPut l h b p).1 = [] → l ≤ (cPut l h b p).2.1 ∧ (cPut l h b p).2.2 ≤ h) := by
  obtain ⟨h1, h2, h3, h4, h5⟩ := hk
  have hm := cMid_in h1 h2 (Int.le_of_lt h3) hp
  have hn := n_in (b := b) h1 h2 h3 hp
  refine ⟨⟨hm.1, hm.2.2 h3⟩, (cPut_word h1 h2).2.2.2, fun e => ?_⟩
  have hno : top (nLo l h b p) ≠ top (nHi l h b p) := fun e1 => by
    unfold cPut at e
    rw [cN_yes e1] at e
    cases e
  unfold cPut
  rw [cN_no hno]
  exact ⟨hn.1, hn.2.2⟩
/-- What stands in the law's loop. -/
def FI (bs ps : List Int) (k : Nat) (o : List Int) (l h : Int) : Prop := cAt bs ps k = some (o, l, h) ∧ CK o l h ∧ o.length ≤ 4 * k
theorem FI.next {bs ps : List Int} {m k : Nat} {o : List Int} {l h : Int} (H : Rowy bs ps m) (hk : k < m) (hf : FI bs ps k o l h) :
    FI bs ps (k + 1) (o ++ (cPut l h (bs.getD k 0) (ps.getD k 0)).1) (cPut l h (bs.getD k 0) (ps.getD k 0)).2.1 (cPut l h (bs.getD k 0) (ps.getD k 0)).2.2 := by
  obtain ⟨h1, h2, h3⟩ := hf
  have hn : o.length < 60000 := by have := H.hn; omega
  refine ⟨cAt_some h1 hn, h2.step hn (chsOk_at H.hp (by rw [H.lp]; exact hk)), ?_⟩
  have : (cPut l h (bs.getD k 0) (ps.getD k 0)).1.length ≤ 4 := cN_len _ _
  rw [List.length_append]
  omega

set_option maxRecDepth 100000 in
set_option maxHeartbeats 12800000 in
theorem law_bounds (ao : Option Addr) (n cap : Nat) (zs : List Int) (w : World) (hr : IsRow .u8 w ao n cap zs) :
    Calls Try.prog 4 #[.slice ao n cap] w fun e w' => e = .returned (.bool true) ∧ Below w.heap.size w w' := by
  have HBIG := hid (big_any ao n cap w)
  by_cases hn : (1048576 : Int) < (n : Int)
  · rw [decide_eq_true hn] at HBIG
    clear hn
    go_enter Try.func4, Try.ntmps4
    go_wp2_with fail
    refine HBIG.out.mono ?_
    rintro e w1 ⟨rfl, rfl⟩
    go_wp2_with fail
    go_ret
    exact ⟨rfl, Below.refl _ _⟩
  · rw [decide_eq_false hn] at HBIG
    have HCO : Hid (Code w ao n (zs.take n)) := ⟨by omega, hr.view, hr.wf⟩
    have HD := hid (draw_row ao n cap (zs.take n) w HCO.out)
    generalize zs.take n = ys at *
    clear hn hr
    go_enter Try.func4, Try.ntmps4
    go_wp2_with fail
    refine HBIG.out.mono ?_
    rintro e w1 ⟨rfl, rfl⟩
    go_wp2_with fail
    refine HD.out.mono ?_
    rintro e w2 ⟨v, u, bs, ps, m, rfl, ⟨hrow, hm2, hm3⟩, hv, hu, _, hb2⟩
    have B2 := hid hb2
    have HROW := hid hrow
    have lb := hrow.lb
    have lp := hrow.lp
    obtain ⟨vo, vc, rfl, hv⟩ := hv
    obtain ⟨uo, uc, rfl, hu⟩ := hu
    rw [lb] at hv
    rw [lp] at hu
    have HV := hid hv
    have HU := hid hu
    have HST := hid (impl_start ⟨#[]⟩ w2)
    unfold cV at HST
    rw [lb, lp]
    clear hb2 hv hu HD HBIG hrow lb lp
    go_wp2_with fail
    refine HST.out.mono ?_
    rintro e w3 ⟨rfl, hb3⟩
    have hz := hid ((Below.refl w3.heap.size w3).alloc (Nat.le_refl _) (.cells #[.int .u32 0, .int .u32 4294967295, .string ⟨#[]⟩] 35))
    have Y3 := hid (hb3.trans (hz.out.mono hb3.size))
    have R3 := hid (Blk.new w3 [.int .u32 0, .int .u32 4294967295, .string ⟨#[]⟩] 35)
    have hG := hid hb3.size
    clear hb3 hz HST
    go_wp2_with fail
    generalize w3.alloc (.cells #[.int .u32 0, .int .u32 4294967295, .string ⟨#[]⟩] 35) = W3 at *
    generalize w3.heap.size = G at *
    go_loopw [6] (fun i wr => ∃ (k : Nat) (o : List Int) (l h : Int), k ≤ m ∧ i = .int .i64 k ∧ Hid (FI bs ps k o l h) ∧ Blk wr G [.int .u32 l, .int .u32 h, .string (strOfNums o)] 35 ∧ Below w2.heap.size w2 wr) (fun i _ => m - (intOf i).toNat)
    case atStart => exact ⟨0, [], 0, 4294967295, by omega, rfl, ⟨rfl, CK.zero, by simp⟩, R3.out, Y3.out⟩
    case round =>
      obtain ⟨k, o, l, h, hk, rfl, hrec, hBk, hBe⟩ := hrel
      clear R3 Y3
      have HBk := hid hBk
      have HBr := hid hBe
      have p0 := hBk.cell (i := 0) rfl
      have p1 := hBk.cell (i := 1) rfl
      have p2 := hBk.cell (i := 2) rfl
      have hltG : G < wr.heap.size := hBk.lt
      have hneG : ¬ G = wr.heap.size := Nat.ne_of_lt hBk.lt
      have hso := hid (strOf_size o)
      clear hBk hBe
      by_cases hlt : k < m
      · have hlt' : (k : Int) < (m : Int) := by omega
        obtain ⟨b, off, rfl, hc⟩ := HV.out.2 k hlt
        obtain ⟨b', off', rfl, hc'⟩ := HU.out.2 k hlt
        have hcr : wr.cell? ⟨b, off + k, none⟩ = some (.int .i64 (bs.getD k 0)) := (HBr.out.cell (p := ⟨b, off + k, none⟩) (World.block_lt_of_cell? w2 _ hc)).trans hc
        have hcr' : wr.cell? ⟨b', off' + k, none⟩ = some (.int .i64 (ps.getD k 0)) := (HBr.out.cell (p := ⟨b', off' + k, none⟩) (World.block_lt_of_cell? w2 _ hc')).trans hc'
        have hltb : b < wr.heap.size := World.block_lt_of_cell? wr _ hcr
        have hneb : ¬ b = wr.heap.size := Nat.ne_of_lt hltb
        have hltb' : b' < wr.heap.size := World.block_lt_of_cell? wr _ hcr'
        have hneb' : ¬ b' = wr.heap.size := Nat.ne_of_lt hltb'
        have hbit := bitsOk_at HROW.out.hb (k := k) (by rw [HROW.out.lb]; exact hlt)
        have hch := chsOk_at HROW.out.hp (k := k) (by rw [HROW.out.lp]; exact hlt)
        have HNX := hid (hrec.out.next HROW.out hlt)
        have HPF := hid (put_facts (b := bs.getD k 0) hrec.out.2.1 hch)
        have hck := hid hrec.out.2.1
        have hol : Hid (o.length < 60000) := by have := hrec.out.2.2; show _ < _; omega
        have HM : Hid (∀ q, Calls Try.prog 17 #[.int .u32 l, .int .u32 h, .int .i64 (ps.getD k 0)] q fun e w' => e = .returned (.int .u32 (cMid l h (ps.getD k 0))) ∧ w' = q) := fun q => (impl_mid l h _ q hck.out.1 hck.out.2.1).mono fun _ _ ⟨a, b⟩ => ⟨a, b.symm⟩
        have HIP := hid (fun q => impl_put l h (strOfNums o) (bs.getD k 0) (ps.getD k 0) q hck.out.1 hck.out.2.1 (by rw [strOf_size]; have := hol.out; omega))
        have HSP := hid (fun q => spec_put l h (strOfNums o) (bs.getD k 0) (ps.getD k 0) q hck.out.1 hck.out.2.1 (by rw [strOf_size]; have := hol.out; omega))
        rw [cRes_yes hbit hch hck.out.2.2.1 (by rw [strOf_size]; exact hol.out), ← strOf_app] at HIP HSP
        unfold cV at HIP HSP
        have hW := cPut_word (b := bs.getD k 0) (p := ps.getD k 0) hck.out.1 hck.out.2.1
        have hCK2 := hid HNX.out.2.1
        clear hc hc' hbit hch
        generalize cMid l h (ps.getD k 0) = MID at *
        obtain ⟨PL, hPL⟩ : ∃ L, (cPut l h (bs.getD k 0) (ps.getD k 0)).1 = L := ⟨_, rfl⟩
        obtain ⟨PX, hPX⟩ : ∃ L, (cPut l h (bs.getD k 0) (ps.getD k 0)).2.1 = L := ⟨_, rfl⟩
        obtain ⟨PY, hPY⟩ : ∃ L, (cPut l h (bs.getD k 0) (ps.getD k 0)).2.2 = L := ⟨_, rfl⟩
        simp only [hPL, hPX, hPY] at HIP HSP HNX HPF hW hCK2
        obtain ⟨S2, hS2⟩ : ∃ S2, strOfNums (o ++ PL) = S2 := ⟨_, rfl⟩
        rw [hS2] at HIP HSP
        have HS2 := hid hS2
        have hm1 := HPF.out.1.1
        have hm2' := HPF.out.1.2
        have ht := HPF.out.2.1
        have HT := hid HPF.out.2.2
        have hx0 := hW.1.1
        have hx1 := hW.1.2
        have hy0 := hW.2.1.1
        have hy1 := hW.2.1.2
        have hxy : ¬ PY < PX := by have := hCK2.out.2.2.1; omega
        have hl0 := hck.out.1.1
        have hh0 := hck.out.2.1.1
        have hm3' : ¬ h ≤ MID := by omega
        have hm4 : ¬ MID < l := by omega
        unfold top at ht
        have ht2 : (PX / 16777216 == PY / 16777216) = false := beq_eq_false_iff_ne.2 ht
        clear hPL hPX hPY hS2 hW HPF hm1 hm2'
        generalize ps.getD k 0 = Y at *
        generalize bs.getD k 0 = X at *
        obtain ⟨S, hS⟩ : ∃ S, strOfNums o = S := ⟨_, rfl⟩
        rw [hS] at p2 HIP HSP HBk hso
        have HS := hid hS
        clear hS
        go_wp2_with fail
        go_quiet ((go_at_call 17; exact Calls.quiet_of_same (HM.out _)))
        have hb1 : Hid (Below wr.heap.size wr (wr.drewN nq)) := below_drewN wr nq
        have Y1 := hid (HBr.out.trans (hb1.out.mono HBr.out.size))
        generalize wr.drewN nq = wr1 at *
        have hcs := hcr'
        have HBk1 := hid (HBk.out.below hb1.out HBk.out.lt)
        have hcr1 : wr1.cell? ⟨b, off + k, none⟩ = some (.int .i64 X) := (hb1.out.cell (p := ⟨b, off + k, none⟩) (World.block_lt_of_cell? _ _ hcr)).trans hcr
        have hcs1 : wr1.cell? ⟨b', off' + k, none⟩ = some (.int .i64 Y) := (hb1.out.cell (p := ⟨b', off' + k, none⟩) (World.block_lt_of_cell? _ _ hcs)).trans hcs
        have p01 := HBk1.out.cell (i := 0) rfl
        have p11 := HBk1.out.cell (i := 1) rfl
        have p21 := HBk1.out.cell (i := 2) rfl
        have hltG1 : G < wr1.heap.size := HBk1.out.lt
        have hneG1 : ¬ G = wr1.heap.size := Nat.ne_of_lt HBk1.out.lt
        have hltb1 : b < wr1.heap.size := World.block_lt_of_cell? _ _ hcr1
        have hneb1 : ¬ b = wr1.heap.size := Nat.ne_of_lt hltb1
        have hltc1 : b' < wr1.heap.size := World.block_lt_of_cell? _ _ hcs1
        have hnec1 : ¬ b' = wr1.heap.size := Nat.ne_of_lt hltc1
        clear hcr hcr' hcs p0 p1 p2 hltG hneG hltb hneb hltb' hneb' hb1 HBk HBr HM
        go_wp2_with fail
        have o1 : wr1.heap.size ≠ G := fun e => hneG1 e.symm
        have o2 : wr1.heap.size ≠ b := fun e => hneb1 e.symm
        have o3 : wr1.heap.size ≠ b' := fun e => hnec1 e.symm
        have HZ0 : Hid (Blk (wr1.alloc (.cells #[.int .u32 0, .int .u32 0, .string ⟨#[]⟩] 35)).drew wr1.heap.size [.int .u32 0, .int .u32 0, .string ⟨#[]⟩] 35) := Blk.new wr1 [.int .u32 0, .int .u32 0, .string ⟨#[]⟩] 35
        have HZB : Hid (Below wr1.heap.size wr1 (wr1.alloc (.cells #[.int .u32 0, .int .u32 0, .string ⟨#[]⟩] 35)).drew) := belowN ((Below.refl wr1.heap.size wr1).alloc (Nat.le_refl _) _) 1
        go_cut [8] from 18 to 103 (fun p wx => ∃ N, p = .pointer (some ⟨N, 0, none⟩) ∧ Blk wx N [.int .u32 PX, .int .u32 PY, .string S2] 35 ∧ wr1.heap.size ≤ N ∧ Below wr1.heap.size wr1 wx)
        case first =>
          go_region_held3 (fun q => q.cell? ⟨G, 0, none⟩ = some (.int .u32 l) ∧ q.cell? ⟨G, 1, none⟩ = some (.int .u32 h) ∧ q.cell? ⟨G, 2, none⟩ = some (.string S) ∧ q.cell? ⟨b, off + k, none⟩ = some (.int .i64 X) ∧ q.cell? ⟨b', off' + k, none⟩ = some (.int .i64 Y)) (go_keep) (first
            | (go_at_call 18; refine (HIP.out ((wr1.alloc (.cells #[.int .u32 0, .int .u32 0, .string ⟨#[]⟩] 35)).drew)).mono ?_; rintro e w5 ⟨rfl, hb5⟩; have HZ2 := hid (HZ0.out.below hb5 HZ0.out.lt); have c0 := HZ2.out.cell (i := 0) rfl; have c1 := HZ2.out.cell (i := 1) rfl; have c2 := HZ2.out.cell (i := 2) rfl; have f0 := HZ2.out.free 0; have f1 := HZ2.out.free 1; have f2 := HZ2.out.free 2; have hb6 := HZB.out.trans (hb5.mono HZB.out.size); have t0 := (HBk1.out.below hb6 HBk1.out.lt).cell (i := 0) rfl; have t1 := (HBk1.out.below hb6 HBk1.out.lt).cell (i := 1) rfl; have t2 := (HBk1.out.below hb6 HBk1.out.lt).cell (i := 2) rfl; have t3 := (hb6.cell (p := ⟨b, off + k, none⟩) hltb1).trans hcr1; have t4 := (hb6.cell (p := ⟨b', off' + k, none⟩) hltc1).trans hcs1; have n1 : ¬ G = w5.heap.size := Nat.ne_of_lt (Nat.lt_of_lt_of_le hltG1 hb6.size); have n2 : ¬ b = w5.heap.size := Nat.ne_of_lt (Nat.lt_of_lt_of_le hltb1 hb6.size); have n3 : ¬ b' = w5.heap.size := Nat.ne_of_lt (Nat.lt_of_lt_of_le hltc1 hb6.size))
            | (go_at_call 18; refine (HIP.out wr1.drew).mono ?_; rintro e w5 ⟨rfl, hb5⟩; have hb6 := (belowN (Below.refl wr1.heap.size wr1) 1).trans hb5; have t0 := (HBk1.out.below hb6 HBk1.out.lt).cell (i := 0) rfl; have t1 := (HBk1.out.below hb6 HBk1.out.lt).cell (i := 1) rfl; have t2 := (HBk1.out.below hb6 HBk1.out.lt).cell (i := 2) rfl; have t3 := (hb6.cell (p := ⟨b, off + k, none⟩) hltb1).trans hcr1; have t4 := (hb6.cell (p := ⟨b', off' + k, none⟩) hltc1).trans hcs1; have n1 : ¬ G = w5.heap.size := Nat.ne_of_lt (Nat.lt_of_lt_of_le hltG1 hb6.size); have n2 : ¬ b = w5.heap.size := Nat.ne_of_lt (Nat.lt_of_lt_of_le hltb1 hb6.size); have n3 : ¬ b' = w5.heap.size := Nat.ne_of_lt (Nat.lt_of_lt_of_le hltc1 hb6.size)))
          all_goals
            go_wp2_with fail
            go_meet
            have hsz := hb6.size
            first
              | (refine ⟨w5.heap.size, ?_, ?_⟩
                 · rfl
                 · exact ⟨Blk.new w5 [.int .u32 PX, .int .u32 PY, .string S2] 35, hsz, hb6.alloc hsz _⟩)
              | (refine ⟨wr1.heap.size, ?_, ?_⟩
                 · rfl
                 · exact ⟨((HZ2.out.set 0 _).set 1 _).set 2 _, Nat.le_refl _, ((hb6.setCell (p := ⟨wr1.heap.size, 0, none⟩) (Nat.le_refl _) _).setCell (p := ⟨wr1.heap.size, 1, none⟩) (Nat.le_refl _) _).setCell (p := ⟨wr1.heap.size, 2, none⟩) (Nat.le_refl _) _⟩)
        case rest =>
          obtain ⟨N8, rfl, hN8, hNge8, hbx8⟩ := hcut
          generalize hwc8 : wc = wr2 at *
          clear hwc8 HZ0 HZB o1 o2 o3
          have hb2 := hid hbx8
          have Y2 := hid (Y1.out.trans (hb2.out.mono Y1.out.size))
          have HN8 := hid hN8
          have hGN8 : Hid (N8 ≠ G) := fun e => by omega
          have HBk2 := hid (HBk1.out.below hb2.out HBk1.out.lt)
          have hcr2 : wr2.cell? ⟨b, off + k, none⟩ = some (.int .i64 X) := (hb2.out.cell (p := ⟨b, off + k, none⟩) (World.block_lt_of_cell? _ _ hcr1)).trans hcr1
          have hcs2 : wr2.cell? ⟨b', off' + k, none⟩ = some (.int .i64 Y) := (hb2.out.cell (p := ⟨b', off' + k, none⟩) (World.block_lt_of_cell? _ _ hcs1)).trans hcs1
          have p02 := HBk2.out.cell (i := 0) rfl
          have p12 := HBk2.out.cell (i := 1) rfl
          have p22 := HBk2.out.cell (i := 2) rfl
          have hltG2 : G < wr2.heap.size := HBk2.out.lt
          have hneG2 : ¬ G = wr2.heap.size := Nat.ne_of_lt HBk2.out.lt
          have hltb2 : b < wr2.heap.size := World.block_lt_of_cell? _ _ hcr2
          have hneb2 : ¬ b = wr2.heap.size := Nat.ne_of_lt hltb2
          have hltc2 : b' < wr2.heap.size := World.block_lt_of_cell? _ _ hcs2
          have hnec2 : ¬ b' = wr2.heap.size := Nat.ne_of_lt hltc2
          clear hcr1 hcs1 p01 p11 p21 hltG1 hneG1 hltb1 hneb1 hltc1 hnec1 hbx8 hN8 hNge8 HBk1
          go_wp2_with fail
          have o1 : wr2.heap.size ≠ G := fun e => hneG2 e.symm
          have o2 : wr2.heap.size ≠ b := fun e => hneb2 e.symm
          have o3 : wr2.heap.size ≠ b' := fun e => hnec2 e.symm
          have HZ0 : Hid (Blk (wr2.alloc (.cells #[.int .u32 0, .int .u32 0, .string ⟨#[]⟩] 35)).drew wr2.heap.size [.int .u32 0, .int .u32 0, .string ⟨#[]⟩] 35) := Blk.new wr2 [.int .u32 0, .int .u32 0, .string ⟨#[]⟩] 35
          have HZB : Hid (Below wr2.heap.size wr2 (wr2.alloc (.cells #[.int .u32 0, .int .u32 0, .string ⟨#[]⟩] 35)).drew) := belowN ((Below.refl wr2.heap.size wr2).alloc (Nat.le_refl _) _) 1
          go_cut [9] from 18 to 103 (fun p wx => ∃ N, p = .pointer (some ⟨N, 0, none⟩) ∧ Blk wx N [.int .u32 PX, .int .u32 PY, .string S2] 35 ∧ wr2.heap.size ≤ N ∧ Below wr2.heap.size wr2 wx)
          case first =>
            go_region_held3 (fun q => q.cell? ⟨G, 0, none⟩ = some (.int .u32 l) ∧ q.cell? ⟨G, 1, none⟩ = some (.int .u32 h) ∧ q.cell? ⟨G, 2, none⟩ = some (.string S) ∧ q.cell? ⟨b, off + k, none⟩ = some (.int .i64 X) ∧ q.cell? ⟨b', off' + k, none⟩ = some (.int .i64 Y)) (go_keep) (first
              | (go_at_call 19; refine (HSP.out ((wr2.alloc (.cells #[.int .u32 0, .int .u32 0, .string ⟨#[]⟩] 35)).drew)).mono ?_; rintro e w5 ⟨rfl, hb5⟩; have HZ2 := hid (HZ0.out.below hb5 HZ0.out.lt); have c0 := HZ2.out.cell (i := 0) rfl; have c1 := HZ2.out.cell (i := 1) rfl; have c2 := HZ2.out.cell (i := 2) rfl; have f0 := HZ2.out.free 0; have f1 := HZ2.out.free 1; have f2 := HZ2.out.free 2; have hb6 := HZB.out.trans (hb5.mono HZB.out.size); have t0 := (HBk2.out.below hb6 HBk2.out.lt).cell (i := 0) rfl; have t1 := (HBk2.out.below hb6 HBk2.out.lt).cell (i := 1) rfl; have t2 := (HBk2.out.below hb6 HBk2.out.lt).cell (i := 2) rfl; have t3 := (hb6.cell (p := ⟨b, off + k, none⟩) hltb2).trans hcr2; have t4 := (hb6.cell (p := ⟨b', off' + k, none⟩) hltc2).trans hcs2; have n1 : ¬ G = w5.heap.size := Nat.ne_of_lt (Nat.lt_of_lt_of_le hltG2 hb6.size); have n2 : ¬ b = w5.heap.size := Nat.ne_of_lt (Nat.lt_of_lt_of_le hltb2 hb6.size); have n3 : ¬ b' = w5.heap.size := Nat.ne_of_lt (Nat.lt_of_lt_of_le hltc2 hb6.size))
              | (go_at_call 19; refine (HSP.out wr2.drew).mono ?_; rintro e w5 ⟨rfl, hb5⟩; have hb6 := (belowN (Below.refl wr2.heap.size wr2) 1).trans hb5; have t0 := (HBk2.out.below hb6 HBk2.out.lt).cell (i := 0) rfl; have t1 := (HBk2.out.below hb6 HBk2.out.lt).cell (i := 1) rfl; have t2 := (HBk2.out.below hb6 HBk2.out.lt).cell (i := 2) rfl; have t3 := (hb6.cell (p := ⟨b, off + k, none⟩) hltb2).trans hcr2; have t4 := (hb6.cell (p := ⟨b', off' + k, none⟩) hltc2).trans hcs2; have n1 : ¬ G = w5.heap.size := Nat.ne_of_lt (Nat.lt_of_lt_of_le hltG2 hb6.size); have n2 : ¬ b = w5.heap.size := Nat.ne_of_lt (Nat.lt_of_lt_of_le hltb2 hb6.size); have n3 : ¬ b' = w5.heap.size := Nat.ne_of_lt (Nat.lt_of_lt_of_le hltc2 hb6.size)))
            all_goals
              go_wp2_with fail
              go_meet
              have hsz := hb6.size
              first
                | (refine ⟨w5.heap.size, ?_, ?_⟩
                   · rfl
                   · exact ⟨Blk.new w5 [.int .u32 PX, .int .u32 PY, .string S2] 35, hsz, hb6.alloc hsz _⟩)
                | (refine ⟨wr2.heap.size, ?_, ?_⟩
                   · rfl
                   · exact ⟨((HZ2.out.set 0 _).set 1 _).set 2 _, Nat.le_refl _, ((hb6.setCell (p := ⟨wr2.heap.size, 0, none⟩) (Nat.le_refl _) _).setCell (p := ⟨wr2.heap.size, 1, none⟩) (Nat.le_refl _) _).setCell (p := ⟨wr2.heap.size, 2, none⟩) (Nat.le_refl _) _⟩)
          case rest =>
            obtain ⟨N9, rfl, hN9, hNge9, hbx9⟩ := hcut
            generalize hwc9 : wc = wr3 at *
            clear hwc9 HZ0 HZB o1 o2 o3
            have hb3 := hid hbx9
            have Y3 := hid (Y2.out.trans (hb3.out.mono Y2.out.size))
            have HN9 := hid hN9
            have HM8 := hid (HN8.out.below hb3.out HN8.out.lt)
            have HBk3 := hid (HBk2.out.below hb3.out HBk2.out.lt)
            have hcr3 : wr3.cell? ⟨b, off + k, none⟩ = some (.int .i64 X) := (hb3.out.cell (p := ⟨b, off + k, none⟩) (World.block_lt_of_cell? _ _ hcr2)).trans hcr2
            have hcs3 : wr3.cell? ⟨b', off' + k, none⟩ = some (.int .i64 Y) := (hb3.out.cell (p := ⟨b', off' + k, none⟩) (World.block_lt_of_cell? _ _ hcs2)).trans hcs2
            have p03 := HBk3.out.cell (i := 0) rfl
            have p13 := HBk3.out.cell (i := 1) rfl
            have p23 := HBk3.out.cell (i := 2) rfl
            have hltG3 : G < wr3.heap.size := HBk3.out.lt
            have hneG3 : ¬ G = wr3.heap.size := Nat.ne_of_lt HBk3.out.lt
            have hltb3 : b < wr3.heap.size := World.block_lt_of_cell? _ _ hcr3
            have hneb3 : ¬ b = wr3.heap.size := Nat.ne_of_lt hltb3
            have hltc3 : b' < wr3.heap.size := World.block_lt_of_cell? _ _ hcs3
            have hnec3 : ¬ b' = wr3.heap.size := Nat.ne_of_lt hltc3
            clear hcr2 hcs2 p02 p12 p22 hltG2 hneG2 hltb2 hneb2 hltc2 hnec2 hbx9 hN9 hNge9 HBk2 HN8 hcr3 hcs3 hltb3 hneb3 hltc3 hnec3
            have a0 := HM8.out.cell (i := 0) rfl
            have a1 := HM8.out.cell (i := 1) rfl
            have a2 := HM8.out.cell (i := 2) rfl
            have d0 := HN9.out.cell (i := 0) rfl
            have d1 := HN9.out.cell (i := 1) rfl
            have d2 := HN9.out.cell (i := 2) rfl
            have y0 := HBk3.out.free 0
            have y1 := HBk3.out.free 1
            have y2 := HBk3.out.free 2
            have HK4 := hid (((HBk3.out.set 0 (.int .u32 PX)).set 1 (.int .u32 PY)).set 2 (.string S2))
            have hG2 : w2.heap.size ≤ G := hG.out
            have Y4 := hid (((Y3.out.setCell (p := ⟨G, 0, none⟩) hG2 (.int .u32 PX)).setCell (p := ⟨G, 1, none⟩) hG2 (.int .u32 PY)).setCell (p := ⟨G, 2, none⟩) hG2 (.string S2))
            by_cases hPL : PL = []
            · obtain ⟨hlx, hyh⟩ := HT.out hPL
              have hsz : S2.size = S.size := by rw [← HS2.out, ← HS.out, hPL, List.append_nil]
              have hnl : ¬ PX < l := by omega
              have hnh : ¬ h < PY := by omega
              clear hPL
              go_wp2_with fail
              go_roundw
              case rel => exact ⟨k + 1, _, _, _, by omega, by go_num, HNX.out, by rw [HS2.out]; exact HK4.out, Y4.out⟩
              case measure => simp [intOf]; omega
            · have hsz : ¬ (S2.size : Int) = (S.size : Int) := by
                rw [← HS2.out, ← HS.out, strOf_size, strOf_size, List.length_append]
                have : PL.length ≠ 0 := fun e => hPL (List.length_eq_zero_iff.1 e)
                omega
              clear hPL
              go_wp2_with fail
              go_roundw
              case rel => exact ⟨k + 1, _, _, _, by omega, by go_num, HNX.out, by rw [HS2.out]; exact HK4.out, Y4.out⟩
              case measure => simp [intOf]; omega
      · obtain rfl : k = m := by omega
        have HE := hid (fun q => impl_end l h (strOfNums o) q hrec.out.2.1.1 (by rw [strOf_size]; have := hrec.out.2.2; omega))
        unfold cV at HE
        have hsz4 : (strOfNums o ++ strOfNums (wordBytes l)).size = (strOfNums o).size + 4 := by
          rw [cat_size, strOf_size (wordBytes l)]
          rfl
        have HSS : Hid ((strOfNums o).size ≤ 100000) := by
          show _ ≤ _
          rw [strOf_size]
          have := hrec.out.2.2
          omega
        generalize strOfNums o ++ strOfNums (wordBytes l) = T at *
        generalize strOfNums o = S at *
        clear hlt hk
        go_wp2_with fail
        go_region_held3 (fun q => q.cell? ⟨G, 0, none⟩ = some (.int .u32 l) ∧ q.cell? ⟨G, 1, none⟩ = some (.int .u32 h) ∧ q.cell? ⟨G, 2, none⟩ = some (.string S)) (go_keep) (first
          | (go_at_call 20; refine (HE.out wr.drew).mono ?_; rintro e w5 ⟨rfl, hb5⟩; have hb6 := (belowN (Below.refl wr.heap.size wr) 1).trans hb5; have t0 := (HBk.out.below hb6 HBk.out.lt).cell (i := 0) rfl; have t1 := (HBk.out.below hb6 HBk.out.lt).cell (i := 1) rfl; have t2 := (HBk.out.below hb6 HBk.out.lt).cell (i := 2) rfl))
        all_goals
          have B9 := hid (B2.out.trans ((HBr.out.trans (hb6.mono HBr.out.size)).mono B2.out.size))
          go_wp2_with fail
          go_ret
          refine ⟨ret_bool ?_, B9.out⟩
          have hs9 := HSS.out
          rw [beq_iff_eq, IntKind.wrap_i64]
          omega
end Go.Proofs.Ytahknoeloclofaa
