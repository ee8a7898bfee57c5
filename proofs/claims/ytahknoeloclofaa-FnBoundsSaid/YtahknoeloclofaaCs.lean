/- The contract of the specification's CodeAll. -/
import Derived.Test.YtahknoeloclofaaCa
namespace Go.Proofs.Ytahknoeloclofaa
open Go.RowKit
set_option linter.unusedVariables false

theorem cRes_yes {l h b p : Int} {s : ByteArray} (hb : 0 ≤ b ∧ b ≤ 1) (hp : isCh p = true) (hlh : l < h) (hs : s.size < 60000) : cRes l h s b p = cV (cPut l h b p).2.1 (cPut l h b p).2.2 (s ++ strOfNums (cPut l h b p).1) := by
  unfold cRes
  rw [if_pos]
  unfold okPut
  exact decide_eq_true ⟨hb, (isCh_iff p).1 hp, by omega, hs⟩

set_option maxRecDepth 100000 in
set_option maxHeartbeats 3200000 in
theorem spec_all_yes (ao bo : Option Addr) (cap cap' n : Nat) (bs ps : List Int) (w : World) (hn : n ≤ 480000) (hv : View .i64 w ao n bs) (hu : View .i64 w bo n ps) (hb : bitsOk bs) (hp : chsOk ps) :
    Calls Try.prog 12 #[.slice ao n cap, .slice bo n cap'] w fun e w' => e = .returned (.tuple #[.string (allY (cAt bs ps n)).1, .bool (allY (cAt bs ps n)).2]) ∧ Below w.heap.size w w' := by
  have HAB : Hid (∀ q, Below w.heap.size w q → Calls Try.prog 43 #[.slice ao n cap] q fun e w' => e = .returned (.bool true) ∧ q = w') := fun q hq => by
    have := spec_bits ao cap bs q (by rw [hv.1]; omega) (by have := hv.below (Nat.le_refl _) hq; rw [hv.1]; exact this)
    rw [hv.1, decide_eq_true ((bitsOk_iff bs).1 hb)] at this
    exact this
  have HW := hid (fun q => spec_start ⟨#[]⟩ q)
  have HV := hid hv
  have HU := hid hu
  have HB := hid hb
  have HP := hid hp
  have h1 : ¬ (480000 : Int) < (n : Int) := by omega
  have HN := hid hn
  obtain ⟨RS, hRS⟩ : ∃ R, allY (cAt bs ps n) = R := ⟨_, rfl⟩
  have HR := hid hRS
  rw [hRS]
  obtain ⟨RS, RB⟩ := RS
  clear hv hu hb hp hn hRS
  unfold cV at HW
  go_enter Try.func12, Try.ntmps12
  go_wp2_with (first | (go_at_call 43; refine (HAB.out _ (Below.refl _ _)).mono ?_; rintro e w1 ⟨rfl, rfl⟩))
  refine (HW.out _).mono ?_
  rintro e w1 ⟨rfl, hb1⟩
  have hz := hid ((Below.refl w1.heap.size w1).alloc (Nat.le_refl _) (.cells #[.int .u32 0, .int .u32 4294967295, .string ⟨#[]⟩] 35))
  have B1 := hid (hb1.trans (hz.out.mono hb1.size))
  have R1 := hid (Blk.new w1 [.int .u32 0, .int .u32 4294967295, .string ⟨#[]⟩] 35)
  have hG := hid hb1.size
  clear hb1 hz HAB HW
  go_wp2_with fail
  generalize w1.alloc (.cells #[.int .u32 0, .int .u32 4294967295, .string ⟨#[]⟩] 35) = W1 at *
  generalize w1.heap.size = G at *
  go_loopw [7] (fun i wr => ∃ k : Nat, k ≤ n ∧ i = .int .i64 k ∧ wr = W1) (fun i _ => n - (intOf i).toNat)
  case atStart => exact ⟨0, by omega, rfl, rfl⟩
  case round =>
    obtain ⟨k, hk, rfl, rfl⟩ := hrel
    by_cases hlt : k < n
    · have hlt' : (k : Int) < (n : Int) := by omega
      obtain ⟨b', off', rfl, hc'⟩ := HU.out.2 k hlt
      have hcr' : wr.cell? ⟨b', off' + k, none⟩ = some (.int .i64 (ps.getD k 0)) := (B1.out.cell (p := ⟨b', off' + k, none⟩) (World.block_lt_of_cell? w _ hc')).trans hc'
      have HCH := hid (spec_ch (ps.getD k 0) wr)
      rw [chsOk_at HP.out (k := k) (by rw [HU.out.1]; exact hlt)] at HCH
      clear hc'
      generalize ps.getD k 0 = Y at *
      go_wp2_with fail
      refine HCH.out.mono ?_
      rintro e w2 ⟨rfl, rfl⟩
      go_wp2_with fail
      go_roundw
      case rel => exact ⟨k + 1, by omega, by go_num, by first | rfl | trivial⟩
      case measure => simp [intOf]; omega
    · obtain rfl : k = n := by omega
      clear hlt hk
      go_wp2_with fail
      go_loopw [8] (fun i wr => ∃ (j : Nat) (o : List Int) (l h : Int), j ≤ k ∧ i = .int .i64 j ∧ Hid (cAt bs ps j = some (o, l, h) ∧ CK o l h) ∧ Blk wr G [.int .u32 l, .int .u32 h, .string (strOfNums o)] 35 ∧ Below w.heap.size w wr) (fun i _ => k - (intOf i).toNat)
      case atStart => exact ⟨0, [], 0, 4294967295, by omega, rfl, ⟨rfl, CK.zero⟩, R1.out, B1.out⟩
      case round =>
        obtain ⟨j, o, l, h, hj, rfl, hrec, hW, hB⟩ := hrel
        clear R1 B1
        have HWs := hid hW
        have HBr := hid hB
        have p0 := hW.cell (i := 0) rfl
        have p1 := hW.cell (i := 1) rfl
        have p2 := hW.cell (i := 2) rfl
        have z0 := hW.free 0
        have z1 := hW.free 1
        have z2 := hW.free 2
        have hsz := strOf_size o
        clear hW hB
        by_cases hlt : j < k
        · have hlt' : (j : Int) < (k : Int) := by omega
          obtain ⟨b, off, rfl, hc⟩ := HV.out.2 j hlt
          obtain ⟨b', off', rfl, hc'⟩ := HU.out.2 j hlt
          have hcr : wr.cell? ⟨b, off + j, none⟩ = some (.int .i64 (bs.getD j 0)) := (HBr.out.cell (p := ⟨b, off + j, none⟩) (World.block_lt_of_cell? w _ hc)).trans hc
          have hcr' : wr.cell? ⟨b', off' + j, none⟩ = some (.int .i64 (ps.getD j 0)) := (HBr.out.cell (p := ⟨b', off' + j, none⟩) (World.block_lt_of_cell? w _ hc')).trans hc'
          have hbit := bitsOk_at HB.out (k := j) (by rw [HV.out.1]; exact hlt)
          have hch := chsOk_at HP.out (k := j) (by rw [HU.out.1]; exact hlt)
          by_cases hf : 60000 ≤ o.length
          · have hd : decide ((60000 : Int) ≤ ((strOfNums o).size : Int)) = true := decide_eq_true (by omega)
            have HE : Hid (RS = ⟨#[]⟩ ∧ RB = false) := by
              have h1 := cAt_none (cAt_full hrec.out.1 hf) (k - (j + 1))
              rw [show j + 1 + (k - (j + 1)) = k by omega] at h1
              have h2 := HR.out
              rw [allY_none h1] at h2
              cases h2
              exact ⟨rfl, rfl⟩
            obtain ⟨rfl, rfl⟩ := HE.out
            clear HE hf hc hc' hbit hch hsz
            generalize strOfNums o = S at *
            generalize bs.getD j 0 = X at *
            generalize ps.getD j 0 = Y at *
            go_wp2_with fail
            go_ret2
            exact ⟨rfl, HBr.out⟩
          · have hd : decide ((60000 : Int) ≤ ((strOfNums o).size : Int)) = false := decide_eq_false (by omega)
            have HST := hid (cAt_some hrec.out.1 (Nat.lt_of_not_le hf))
            have HCK := hid (hrec.out.2.step (b := bs.getD j 0) (Nat.lt_of_not_le hf) hch)
            have HPA := hid (fun q => spec_put l h (strOfNums o) (bs.getD j 0) (ps.getD j 0) q hrec.out.2.1 hrec.out.2.2.1 (by omega))
            rw [cRes_yes hbit hch hrec.out.2.2.2.1 (by omega), ← strOf_app] at HPA
            unfold cV at HPA
            clear hf hc hc' hbit hch hsz
            generalize o ++ (cPut l h (bs.getD j 0) (ps.getD j 0)).1 = O2 at *
            generalize cPut l h (bs.getD j 0) (ps.getD j 0) = PP at *
            obtain ⟨PL, PX, PY⟩ := PP
            obtain ⟨S2, hS2⟩ : ∃ S2, strOfNums O2 = S2 := ⟨_, rfl⟩
            rw [hS2] at HPA
            have HS2 := hid hS2
            clear hS2
            generalize strOfNums o = S at *
            generalize bs.getD j 0 = X at *
            generalize ps.getD j 0 = Y at *
            go_wp2_with fail
            go_region_with (first | (go_at_call 19; refine (HPA.out _).mono ?_; rintro e w2 ⟨rfl, hb2⟩; have HW2 := hid ((HWs.out.below (below_drewN _ 1) HWs.out.lt).below hb2 (HWs.out.below (below_drewN _ 1) HWs.out.lt).lt); have r0 := HW2.out.cell (i := 0) rfl; have r1 := HW2.out.cell (i := 1) rfl; have r2 := HW2.out.cell (i := 2) rfl; have y0 := HW2.out.free 0; have y1 := HW2.out.free 1; have y2 := HW2.out.free 2))
            all_goals
              have HB2 := hid ((belowN HBr.out 1).trans (hb2.mono (HBr.out.size)))
              clear hb2
              go_wp2_with fail
              have HW3 := hid (((HW2.out.set 0 (.int .u32 PX)).set 1 (.int .u32 PY)).set 2 (.string S2))
              have HB3 := hid (((HB2.out.setCell (p := ⟨G, 0, none⟩) hG.out (.int .u32 PX)).setCell (p := ⟨G, 1, none⟩) hG.out (.int .u32 PY)).setCell (p := ⟨G, 2, none⟩) hG.out (.string S2))
              go_roundw
              case rel => exact ⟨j + 1, O2, PX, PY, by omega, by go_num, ⟨HST.out, HCK.out⟩, by rw [HS2.out]; exact HW3.out, HB3.out⟩
              case measure => simp [intOf]; omega
        · obtain rfl : j = k := by omega
          by_cases hl6 : 60000 < o.length
          · have hd : decide ((60000 : Int) < ((strOfNums o).size : Int)) = true := decide_eq_true (by omega)
            have HE : Hid (RS = ⟨#[]⟩ ∧ RB = false) := by
              have h2 := HR.out
              rw [allY_long hrec.out.1 hl6] at h2
              cases h2
              exact ⟨rfl, rfl⟩
            obtain ⟨rfl, rfl⟩ := HE.out
            clear HE hl6 hlt hj hsz
            generalize strOfNums o = S at *
            go_wp2_with fail
            go_ret2
            exact ⟨rfl, HBr.out⟩
          · have hd : decide ((60000 : Int) < ((strOfNums o).size : Int)) = false := decide_eq_false (by omega)
            have HE : Hid (RS = strOfNums o ++ strOfNums (wordBytes l) ∧ RB = true) := by
              have h2 := HR.out
              rw [allY_some hrec.out.1 (by omega)] at h2
              cases h2
              exact ⟨rfl, rfl⟩
            obtain ⟨rfl, rfl⟩ := HE.out
            have HEN := hid (spec_end l h (strOfNums o) wr hrec.out.2.1 (by omega))
            clear HE hl6 hlt hj hsz
            unfold cV at HEN
            go_wp2_with fail
            refine HEN.out.mono ?_
            rintro e w2 ⟨rfl, hb2⟩
            have HB2 := hid (HBr.out.trans (hb2.mono HBr.out.size))
            clear hb2
            go_wp2_with fail
            go_ret2
            exact ⟨rfl, HB2.out⟩

set_option maxRecDepth 100000 in
set_option maxHeartbeats 1600000 in
theorem spec_all_no (ao bo : Option Addr) (cap cap' : Nat) (bs ps : List Int) (w : World) (hn : bs.length ≤ 1048576) (hm : ps.length ≤ 1048576) (hv : View .i64 w ao bs.length bs) (hu : View .i64 w bo ps.length ps) (hno : rowOk bs ps = false) :
    Calls Try.prog 12 #[.slice ao bs.length cap, .slice bo ps.length cap'] w fun e w' => e = .returned (.tuple #[.string ⟨#[]⟩, .bool false]) ∧ Below w.heap.size w w' := by
  have HAB := hid (spec_bits ao cap bs w hn hv)
  unfold rowOk at hno
  replace hno := of_decide_eq_false hno
  by_cases e1 : bs.length = ps.length
  · rw [← e1] at hu ⊢
    by_cases e2 : bs.length ≤ 480000
    · have h2 : ¬ (480000 : Int) < (bs.length : Int) := by omega
      by_cases e3 : bitsOk bs
      · rw [decide_eq_true ((bitsOk_iff bs).1 e3)] at HAB
        have e4 : ¬ ∀ x ∈ ps, isCh x = true := fun h => hno ⟨e1, e2, e3, h⟩
        have HE4 := hid e4
        have HU := hid hu
        have HE1 := hid e1
        have HW := hid (fun q => spec_start ⟨#[]⟩ q)
        unfold cV at HW
        clear hno e1 e2 e3 e4 hn hm hv hu
        generalize bs.length = n at *
        go_enter Try.func12, Try.ntmps12
        go_wp2_with (first | (go_at_call 43; refine HAB.out.mono ?_; rintro e w1 ⟨rfl, rfl⟩))
        refine (HW.out _).mono ?_
        rintro e w1 ⟨rfl, hb1⟩
        have hz := hid ((Below.refl w1.heap.size w1).alloc (Nat.le_refl _) (.cells #[.int .u32 0, .int .u32 4294967295, .string ⟨#[]⟩] 35))
        have B1 := hid (hb1.trans (hz.out.mono hb1.size))
        clear hb1 hz HAB HW
        go_wp2_with fail
        generalize w1.alloc (.cells #[.int .u32 0, .int .u32 4294967295, .string ⟨#[]⟩] 35) = W1 at *
        generalize w1.heap.size = G at *
        go_loopw [7] (fun i wr => ∃ k : Nat, k ≤ n ∧ i = .int .i64 k ∧ wr = W1 ∧ Hid (passTo isCh ps k)) (fun i _ => n - (intOf i).toNat)
        case atStart => exact ⟨0, by omega, rfl, rfl, fun j hj => by omega⟩
        case round =>
          obtain ⟨k, hk, rfl, rfl, hp⟩ := hrel
          by_cases hlt : k < n
          · have hlt' : (k : Int) < (n : Int) := by omega
            obtain ⟨b', off', rfl, hc'⟩ := HU.out.2 k hlt
            have hcr' : wr.cell? ⟨b', off' + k, none⟩ = some (.int .i64 (ps.getD k 0)) := (B1.out.cell (p := ⟨b', off' + k, none⟩) (World.block_lt_of_cell? w _ hc')).trans hc'
            have HP := hid (fun (h : isCh (ps.getD k 0) = true) => (fun j hj => by
              by_cases e : j = k
              · rw [e]; exact h
              · exact hp.out j (by omega) : passTo isCh ps (k + 1)))
            have HCH := hid (spec_ch (ps.getD k 0) wr)
            clear hc'
            generalize ps.getD k 0 = Y at *
            cases hY : isCh Y with
            | true =>
              rw [hY] at HCH
              have HY := hid hY
              clear hY
              go_wp2_with fail
              refine HCH.out.mono ?_
              rintro e w2 ⟨rfl, rfl⟩
              go_wp2_with fail
              go_roundw
              case rel => exact ⟨k + 1, by omega, by go_num, by first | rfl | trivial, HP.out HY.out⟩
              case measure => simp [intOf]; omega
            | false =>
              rw [hY] at HCH
              clear hY
              go_wp2_with fail
              refine HCH.out.mono ?_
              rintro e w2 ⟨rfl, rfl⟩
              go_wp2_with fail
              go_ret2
              exact ⟨rfl, B1.out⟩
          · exfalso
            obtain rfl : k = n := by omega
            exact HE4.out (pass_all (by rw [← HE1.out]; exact hp.out))
      · rw [decide_eq_false (fun h => e3 ((bitsOk_iff bs).2 h))] at HAB
        clear hno e1 e2 e3 hn hm hv hu
        generalize bs.length = n at *
        go_enter Try.func12, Try.ntmps12
        go_wp2_with (first | (go_at_call 43; refine HAB.out.mono ?_; rintro e w1 ⟨rfl, rfl⟩))
        go_ret2
        exact ⟨rfl, Below.refl _ _⟩
    · have h2 : (480000 : Int) < (bs.length : Int) := by omega
      clear hno e1 e2 hn hm hv hu HAB
      generalize bs.length = n at *
      go_enter Try.func12, Try.ntmps12
      go_wp2_with fail
      go_ret2
      exact ⟨rfl, Below.refl _ _⟩
  · have h2 : ¬ ((bs.length : Int) = (ps.length : Int)) := by omega
    clear hno hn hm hv hu HAB
    generalize bs.length = n at *
    generalize ps.length = m at *
    go_enter Try.func12, Try.ntmps12
    go_wp2_with fail
    go_ret2
    exact ⟨rfl, Below.refl _ _⟩

theorem spec_all (ao bo : Option Addr) (cap cap' : Nat) (bs ps : List Int) (w : World) (hn : bs.length ≤ 1048576) (hm : ps.length ≤ 1048576) (hv : View .i64 w ao bs.length bs) (hu : View .i64 w bo ps.length ps) :
    Calls Try.prog 12 #[.slice ao bs.length cap, .slice bo ps.length cap'] w fun e w' => e = .returned (.tuple #[.string (allR bs ps).1, .bool (allR bs ps).2]) ∧ Below w.heap.size w w' := by
  cases h : rowOk bs ps with
  | true =>
    rw [allR_yes h]
    unfold rowOk at h
    obtain ⟨e1, e2, e3, e4⟩ := of_decide_eq_true h
    rw [← e1] at hu ⊢
    exact spec_all_yes ao bo cap cap' bs.length bs ps w e2 hv hu e3 e4
  | false =>
    rw [allR_no h]
    exact spec_all_no ao bo cap cap' bs ps w hn hm hv hu h
end Go.Proofs.Ytahknoeloclofaa
