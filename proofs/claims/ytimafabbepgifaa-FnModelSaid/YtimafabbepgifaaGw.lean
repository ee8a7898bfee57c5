/- The contract of the program's reader of a number: getNum. -/
import Derived.Test.YtimafabbepgifaaGp
import Derived.Test.YtimafabbepgifaaPw
namespace Go.Proofs.Ytimafabbepgifaa
open Go.RowKit
set_option linter.unusedVariables false

/-- What getNum comes to. -/
def GnP (R : Option (GS × Wk)) (w : World) (b g cap N : Nat) (t : ByteArray) (e : Ending) (w' : World) : Prop :=
  (Below g w w' ∧ Kq b g w w') ∧ ((R = none ∧ e = .returned (.tuple #[.int .i64 0, .bool false])) ∨ ∃ st s, R = some (st, s) ∧ WkOk s ∧ GsOk N st ∧ e = .returned (.tuple #[.int .i64 (wkNum s), .bool true]) ∧ Blk w' b (rCs st.lo st.hi st.co t st.i []) 81 ∧ Nums cap w' g st.ch)

set_option maxRecDepth 100000 in
set_option maxHeartbeats 3200000 in
theorem get_num (b g cap N B M mc : Nat) (t : ByteArray) (st : GS) (w : World) (hN : N ≤ 1200) (hB : B + 24 ≤ N) (hMN : B + M = N) (hgb : g < b) (hok : GsOk N st)
    (hW : Blk w b (rCs st.lo st.hi st.co t st.i []) 81) (hC : Nums cap w g st.ch) :
    Calls Try.prog 47 #[.agg #[.pointer (some ⟨b, 0, none⟩), .slice (some ⟨g, B, none⟩) M mc]] w (GnP (getF B t 31 st wk0) w b g cap N t) := by
  obtain ⟨R, hR⟩ : ∃ R, getF B t 31 st wk0 = R := ⟨_, rfl⟩
  rw [hR]
  have HR := hid hR
  have HW := hid hW
  have HC := hid hC
  have HOK := hid hok
  have hlt := hid hW.lt
  have hglt := hid hC.lt
  obtain ⟨QQ, hQ, HQ⟩ : ∃ QQ : Ending → World → Prop, GnP R w b g cap N t = QQ ∧ Hid (∀ e w', GnP R w b g cap N t e w' → QQ e w') := ⟨_, rfl, fun _ _ h => h⟩
  rw [hQ]
  clear hQ hR hW hC hok
  obtain ⟨n1, n2, n3⟩ := new_two w [.pointer (some ⟨b, 0, none⟩), .slice (some ⟨g, B, none⟩) M mc] [.int .i64 0, .bool false, .int .i64 0, .int .i64 0, .int .i64 0] 88 105
  have HPB := hid n1
  have HWB := hid (show Blk _ (w.heap.size + 1) (wkC wk0) 105 from n2)
  have HA0 := hid n3
  have HW1 := hid (HW.out.below HA0.out HW.out.lt)
  have HC1 := hid (HC.out.kept (fun l hl => hl.below HA0.out hl.lt))
  clear n1 n2 n3
  go_enter Try.func47, Try.ntmps47
  go_wp2_with fail
  go_loopw [] (fun wr => ∃ (f : Nat) (st : GS) (s : Wk), Hid (getF B t f st s = R ∧ rank s.part s.size s.rest ≤ f ∧ WkOk s ∧ GsOk N st) ∧ Blk wr b (rCs st.lo st.hi st.co t st.i []) 81 ∧ Nums cap wr g st.ch ∧ Blk wr (w.heap.size + 1) (wkC s) 105 ∧ Blk wr w.heap.size [.pointer (some ⟨b, 0, none⟩), .slice (some ⟨g, B, none⟩) M mc] 88 ∧ Below g w wr ∧ Kq b g w wr) (fun wr => rank (cInt wr (w.heap.size + 1) 0) (cInt wr (w.heap.size + 1) 2) (cInt wr (w.heap.size + 1) 4))
  case atStart => exact ⟨31, st, wk0, ⟨HR.out, by decide, WkOk.zero, HOK.out⟩, HW1.out, HC1.out, HWB.out, HPB.out, HA0.out.mono (Nat.le_of_lt hglt.out), Kq.ofBelow HA0.out⟩
  case round =>
    obtain ⟨f, st, s, hrec, hW, hC, hWB, hPB, hBl, hK⟩ := hrel
    clear HW HC HOK HR HWB HPB HA0 HW1 HC1
    have HWr := hid hW
    have HCr := hid hC
    have HWBr := hid hWB
    have HPBr := hid hPB
    have HBr := hid hBl
    have HKr := hid hK
    have hblt := hid hW.lt
    have HRK : Hid (rank (cInt wr (w.heap.size + 1) 0) (cInt wr (w.heap.size + 1) 2) (cInt wr (w.heap.size + 1) 4) = rank s.part s.size s.rest) := by
      show _ = _
      unfold cInt
      rw [hWB.cell (i := 0) rfl, hWB.cell (i := 2) rfl, hWB.cell (i := 4) rfl]
      rfl
    have w0 := hWB.cell (i := 0) rfl
    have w1' := hWB.cell (i := 1) rfl
    have w2' := hWB.cell (i := 2) rfl
    have w3' := hWB.cell (i := 3) rfl
    have w4' := hWB.cell (i := 4) rfl
    clear hW hC hWB hPB hBl hK
    have HTo := wk_told s wr
    by_cases h4 : s.part = 4
    · rw [decide_eq_true h4] at HTo
      have HT2 := hid HTo
      have HNU := hid (fun q => wk_number s q hrec.out.2.2.1.amount.1 (by have := hrec.out.2.2.1.amount.2; omega))
      have HRE : Hid (R = some (st, s)) := by
        have h1 := hrec.out.1
        rw [getF_told B t st s h4 f] at h1
        exact h1.symm
      unfold wkV at HT2 HNU
      clear HTo h4
      go_wp2_with fail
      refine HT2.out.mono ?_
      rintro e wa ⟨rfl, hba⟩
      have WBa := hid (HWBr.out.below hba HWBr.out.lt)
      have Wa := hid (HWr.out.below hba HWr.out.lt)
      have Ca := hid (HCr.out.kept (fun l hl => hl.below hba hl.lt))
      have Ba := hid (HBr.out.trans (hba.mono (by have := HCr.out.lt; omega)))
      have Ka := hid (HKr.out.trans (Kq.ofBelow hba))
      have u0 := WBa.out.cell (i := 0) rfl
      have u1 := WBa.out.cell (i := 1) rfl
      have u2 := WBa.out.cell (i := 2) rfl
      have u3 := WBa.out.cell (i := 3) rfl
      have u4 := WBa.out.cell (i := 4) rfl
      clear hba w0 w1' w2' w3' w4' HWr HCr HWBr HBr HKr
      go_wp2_with fail
      refine (HNU.out _).mono ?_
      rintro e wb ⟨rfl, hbb⟩
      have Wb := hid (Wa.out.below hbb Wa.out.lt)
      have Cb := hid (Ca.out.kept (fun l hl => hl.below hbb hl.lt))
      have Bb := hid (Ba.out.trans (hbb.mono (by have := Ca.out.lt; omega)))
      have Kb := hid (Ka.out.trans (Kq.ofBelow hbb))
      clear hbb
      go_wp2_with fail
      exact HQ.out _ _ ⟨⟨Bb.out, Kb.out⟩, .inr ⟨st, s, HRE.out, hrec.out.2.2.1, hrec.out.2.2.2, rfl, Wb.out, Cb.out⟩⟩
    · rw [decide_eq_false h4] at HTo
      have HT2 := hid HTo
      obtain ⟨f', rfl⟩ : ∃ f', f = f' + 1 := ⟨f - 1, by have := rank_pos hrec.out.2.2.1 h4; have := hrec.out.2.1; omega⟩
      have hsb := hrec.out.2.2.1.bounds h4
      have hsl := slot_bd hrec.out.2.2.1 h4
      have HSL := hid (fun q => wk_slot s q hsb.1 hsb.2.1 hsb.2.2.1 hsb.2.2.2.1)
      obtain ⟨T, hT⟩ : ∃ T : Nat, wkSlot s = (T : Int) := ⟨(wkSlot s).toNat, by omega⟩
      rw [hT] at HSL
      have hGE := hid HCr.out.lt
      have hchl : Hid (st.ch.length = N) := hrec.out.2.2.2.ln
      obtain ⟨I, hI⟩ : ∃ I, B + T = I := ⟨_, rfl⟩
      have hTM : (T : Int) < (M : Int) := by omega
      have hT0 : (0 : Int) ≤ (T : Int) := by omega
      have hTW : IntKind.i64.wrap (T : Int) = (T : Int) := by rw [IntKind.wrap_i64]; omega
      have hTM2 : T < M := by omega
      have hIN2 : I < N := by omega
      have HPY : Hid (gP B st s = st.ch.getD I 0) := by
        show _ = _
        unfold gP
        rw [hT, Int.toNat_natCast, hI]
      have HGT := hid (fun (q : World) hq => get_any [] 81 b st.lo st.hi st.co (st.ch.getD I 0) t st.i q hrec.out.2.2.2.wl hrec.out.2.2.2.wh hrec.out.2.2.2.wc hq)
      have HBT := hid (gR_bit st.lo st.hi st.co st.i (st.ch.getD I 0) t)
      have HGG : Hid (gG B t st s = gR st.lo st.hi st.co t st.i (st.ch.getD I 0)) := by
        show _ = _
        unfold gG
        rw [HPY.out]
      have q5 := HPBr.out.cell (i := 1) rfl
      unfold wkV at HT2 HSL
      clear HTo hsb hsl
      go_wp2_with fail
      refine HT2.out.mono ?_
      rintro e wa ⟨rfl, hba⟩
      have WBa := hid (HWBr.out.below hba HWBr.out.lt)
      have Wa := hid (HWr.out.below hba HWr.out.lt)
      have Ca := hid (HCr.out.kept (fun l hl => hl.below hba hl.lt))
      have Ba := hid (HBr.out.trans (hba.mono (by have := HCr.out.lt; omega)))
      have Ka := hid (HKr.out.trans (Kq.ofBelow hba))
      have u0 := WBa.out.cell (i := 0) rfl
      have u1 := WBa.out.cell (i := 1) rfl
      have u2 := WBa.out.cell (i := 2) rfl
      have u3 := WBa.out.cell (i := 3) rfl
      have u4 := WBa.out.cell (i := 4) rfl
      have PBa := hid (HPBr.out.below hba HPBr.out.lt)
      have q5a := PBa.out.cell (i := 1) rfl
      clear hba w0 w1' w2' w3' w4' HWr HCr HWBr HBr HKr q5
      go_wp2_with fail
      have D1 := hid (below_drewN wa 1)
      go_region_with (go_at_call 64; refine (HSL.out wa.drew).mono ?_; rintro e wb ⟨rfl, hbb⟩; have BB := hid (D1.out.trans hbb); have q5b := (PBa.out.below BB.out PBa.out.lt).cell (i := 1) rfl)
      all_goals
        have WBb := hid (WBa.out.below BB.out WBa.out.lt)
        have Wb := hid (Wa.out.below BB.out Wa.out.lt)
        have PBb := hid (PBa.out.below BB.out PBa.out.lt)
        have p0b := PBb.out.cell (i := 0) rfl
        have Cb := hid (Ca.out.kept (fun l hl => hl.below BB.out hl.lt))
        have Bb := hid (Ba.out.trans (BB.out.mono (by have := Ca.out.lt; omega)))
        have Kb := hid (Ka.out.trans (Kq.ofBelow BB.out))
        have cgb : wb.cell? ⟨g, I, none⟩ = some (.int .i64 (st.ch.getD I 0)) := Cb.out.cell I (by rw [hchl.out]; exact hIN2)
        clear hbb q5b BB D1 WBa Wa PBa Ca Ba Ka u0 u1 u2 u3 u4 q5a HSL HT2
        generalize st.ch.getD I 0 = Y at *
        generalize hGR : gR st.lo st.hi st.co t st.i Y = GR at *
        obtain ⟨BT, PX, PY, PC, PI⟩ := GR
        simp only at HGT HBT
        clear hGR
        go_wp2_with fail
        have D2 := hid (below_drewN wb 1)
        go_region_with (go_at_call 70; refine (HGT.out wb.drew (Wb.out.below D2.out Wb.out.lt)).mono ?_; rintro e wd ⟨rfl, hWd, hEd⟩)
        all_goals
          have Ed := hid ((Ef.ofBelow (C := b) D2.out).trans hEd)
          have Wd := hid hWd
          have Cd := hid (Cb.out.kept (fun l hl => hl.ef Ed.out (Nat.ne_of_lt hgb)))
          have WBd := hid (WBb.out.ef Ed.out (by have := hlt.out; omega))
          have PBd := hid (PBb.out.ef Ed.out (Nat.ne_of_gt hlt.out))
          have Bd := hid (Bb.out.trans (Ed.out.below (Nat.le_of_lt hgb) (by have := Cb.out.lt; omega)))
          have Kd := hid (Kb.out.trans (Kq.ofKp (Kp.ofEf Ed.out)))
          have cgd : wd.cell? ⟨g, I, none⟩ = some (.int .i64 Y) := by
            have h1 := Cd.out.cell I (by rw [hchl.out]; exact hIN2)
            have h2 := Cb.out.cell I (by rw [hchl.out]; exact hIN2)
            rw [cgb] at h2
            rw [h1, ← h2]
          have fgd := Cd.out.free I
          clear hWd hEd D2 Wb Cb WBb PBb Bb Kb cgb Ed HGT p0b
          have HNX : Hid (gN B t st s = ⟨PX, PY, PC, PI, st.ch.set I (lrn Y BT)⟩) := by
            show _ = _
            unfold gN
            rw [HGG.out, HPY.out, hT, Int.toNat_natCast, hI]
          have HGO : Hid (GsOk N (gN B t st s)) := hrec.out.2.2.2.step (by rw [hT, Int.toNat_natCast]; omega)
          rcases HBT.out with rfl | rfl | rfl
          · have HRE : Hid (R = none) := by
              have h1 := hrec.out.1
              rw [getF, if_neg h4, if_pos (by rw [HGG.out]; show (-1 : Int) < 0; decide)] at h1
              exact h1.symm
            clear HNX HGO HGG HPY
            go_wp2_with fail
            exact HQ.out _ _ ⟨⟨Bd.out, Kd.out⟩, .inl ⟨HRE.out, rfl⟩⟩
          · skip
            have HGF : Hid (getF B t f' ⟨PX, PY, PC, PI, st.ch.set I (lrn Y 0)⟩ (wkTake s 0) = R) := by
              have h1 := hrec.out.1
              rw [getF, if_neg h4, if_neg (by rw [HGG.out]; show ¬ (0 : Int) < 0; decide), HGG.out] at h1
              rw [HNX.out] at h1
              exact h1
            have HKO : Hid (rank (wkTake s 0).part (wkTake s 0).size (wkTake s 0).rest < rank s.part s.size s.rest) := rank_take hrec.out.2.2.1 h4 (by decide)
            have HWO : Hid (WkOk (wkTake s 0)) := hrec.out.2.2.1.take (by decide)
            have HTK := hid (fun q hq => wk_take (w.heap.size + 1) s 0 q (by decide) hrec.out.2.2.1 h4 hq)
            have HGO2 : Hid (GsOk N ⟨PX, PY, PC, PI, st.ch.set I (lrn Y 0)⟩) := HNX.out ▸ HGO.out
            have hwg : w.heap.size + 1 ≠ g := by have := hglt.out; omega
            have hwg0 : w.heap.size ≠ g := by have := hglt.out; omega
            go_wp2_with (go_at_call 66; refine (impl_learn _ _ _).mono ?_; rintro e wz ⟨rfl, rfl⟩)
            have We := hid (Wd.out.other (a := ⟨g, I, none⟩) (Nat.ne_of_gt hgb) (.int .i64 (lrn Y 0)))
            have Ce := hid (Cd.out.set I (lrn Y 0))
            have WBe := hid (WBd.out.other (a := ⟨g, I, none⟩) hwg (.int .i64 (lrn Y 0)))
            have PBe := hid (PBd.out.other (a := ⟨g, I, none⟩) hwg0 (.int .i64 (lrn Y 0)))
            have Be := hid (Bd.out.setCell (p := ⟨g, I, none⟩) (Nat.le_refl _) (.int .i64 (lrn Y 0)))
            have Ke := hid (Kd.out.set I (.int .i64 (lrn Y 0)))
            clear Wd Cd WBd PBd Bd Kd cgd fgd
            generalize wd.setCell ⟨g, I, none⟩ (.int .i64 (lrn Y 0)) = we at *
            refine (HTK.out we WBe.out).mono ?_
            rintro e wf ⟨rfl, hbf, hef⟩
            have Wf := hid (We.out.ef hef (by have := hlt.out; omega))
            have PBf := hid (PBe.out.ef hef (by omega))
            have Cf := hid (Ce.out.kept (fun l hl => hl.ef hef (fun e => hwg e.symm)))
            have WBf := hid hbf
            have Bf := hid (Be.out.trans (hef.below (Nat.le_trans (Nat.le_of_lt hglt.out) (Nat.le_succ _)) (Nat.le_trans (Nat.le_of_lt hglt.out) Be.out.size)))
            have Kf : Hid (Kq b g w wf) := fun G l t ht hG hg hB => (Ke.out G l t ht hG hg hB).ef hef (by have := hB.lt; omega)
            have HRK2 : Hid (rank (cInt wf (w.heap.size + 1) 0) (cInt wf (w.heap.size + 1) 2) (cInt wf (w.heap.size + 1) 4) = rank (wkTake s 0).part (wkTake s 0).size (wkTake s 0).rest) := by
              show _ = _
              unfold cInt
              rw [hbf.cell (i := 0) rfl, hbf.cell (i := 2) rfl, hbf.cell (i := 4) rfl]
              rfl
            clear hbf hef We Ce WBe PBe Be Ke
            go_wp2_with fail
            refine ⟨⟨f', ⟨PX, PY, PC, PI, st.ch.set I (lrn Y 0)⟩, wkTake s 0, ⟨HGF.out, by have := HKO.out; have := hrec.out.2.1; omega, HWO.out, HGO2.out⟩, Wf.out, Cf.out, WBf.out, PBf.out, Bf.out, Kf.out⟩, ?_⟩
            rw [HRK2.out, HRK.out]
            exact HKO.out
          · skip
            have HGF : Hid (getF B t f' ⟨PX, PY, PC, PI, st.ch.set I (lrn Y 1)⟩ (wkTake s 1) = R) := by
              have h1 := hrec.out.1
              rw [getF, if_neg h4, if_neg (by rw [HGG.out]; show ¬ (1 : Int) < 0; decide), HGG.out] at h1
              rw [HNX.out] at h1
              exact h1
            have HKO : Hid (rank (wkTake s 1).part (wkTake s 1).size (wkTake s 1).rest < rank s.part s.size s.rest) := rank_take hrec.out.2.2.1 h4 (by decide)
            have HWO : Hid (WkOk (wkTake s 1)) := hrec.out.2.2.1.take (by decide)
            have HTK := hid (fun q hq => wk_take (w.heap.size + 1) s 1 q (by decide) hrec.out.2.2.1 h4 hq)
            have HGO2 : Hid (GsOk N ⟨PX, PY, PC, PI, st.ch.set I (lrn Y 1)⟩) := HNX.out ▸ HGO.out
            have hwg : w.heap.size + 1 ≠ g := by have := hglt.out; omega
            have hwg0 : w.heap.size ≠ g := by have := hglt.out; omega
            go_wp2_with (go_at_call 66; refine (impl_learn _ _ _).mono ?_; rintro e wz ⟨rfl, rfl⟩)
            have We := hid (Wd.out.other (a := ⟨g, I, none⟩) (Nat.ne_of_gt hgb) (.int .i64 (lrn Y 1)))
            have Ce := hid (Cd.out.set I (lrn Y 1))
            have WBe := hid (WBd.out.other (a := ⟨g, I, none⟩) hwg (.int .i64 (lrn Y 1)))
            have PBe := hid (PBd.out.other (a := ⟨g, I, none⟩) hwg0 (.int .i64 (lrn Y 1)))
            have Be := hid (Bd.out.setCell (p := ⟨g, I, none⟩) (Nat.le_refl _) (.int .i64 (lrn Y 1)))
            have Ke := hid (Kd.out.set I (.int .i64 (lrn Y 1)))
            clear Wd Cd WBd PBd Bd Kd cgd fgd
            generalize wd.setCell ⟨g, I, none⟩ (.int .i64 (lrn Y 1)) = we at *
            refine (HTK.out we WBe.out).mono ?_
            rintro e wf ⟨rfl, hbf, hef⟩
            have Wf := hid (We.out.ef hef (by have := hlt.out; omega))
            have PBf := hid (PBe.out.ef hef (by omega))
            have Cf := hid (Ce.out.kept (fun l hl => hl.ef hef (fun e => hwg e.symm)))
            have WBf := hid hbf
            have Bf := hid (Be.out.trans (hef.below (Nat.le_trans (Nat.le_of_lt hglt.out) (Nat.le_succ _)) (Nat.le_trans (Nat.le_of_lt hglt.out) Be.out.size)))
            have Kf : Hid (Kq b g w wf) := fun G l t ht hG hg hB => (Ke.out G l t ht hG hg hB).ef hef (by have := hB.lt; omega)
            have HRK2 : Hid (rank (cInt wf (w.heap.size + 1) 0) (cInt wf (w.heap.size + 1) 2) (cInt wf (w.heap.size + 1) 4) = rank (wkTake s 1).part (wkTake s 1).size (wkTake s 1).rest) := by
              show _ = _
              unfold cInt
              rw [hbf.cell (i := 0) rfl, hbf.cell (i := 2) rfl, hbf.cell (i := 4) rfl]
              rfl
            clear hbf hef We Ce WBe PBe Be Ke
            go_wp2_with fail
            refine ⟨⟨f', ⟨PX, PY, PC, PI, st.ch.set I (lrn Y 1)⟩, wkTake s 1, ⟨HGF.out, by have := HKO.out; have := hrec.out.2.1; omega, HWO.out, HGO2.out⟩, Wf.out, Cf.out, WBf.out, PBf.out, Bf.out, Kf.out⟩, ?_⟩
            rw [HRK2.out, HRK.out]
            exact HKO.out
end Go.Proofs.Ytimafabbepgifaa
