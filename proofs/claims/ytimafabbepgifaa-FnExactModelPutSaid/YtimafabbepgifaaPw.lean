/- The contract of the program's writer of a number: putNum. -/
import Derived.Test.YtimafabbepgifaaPp
import Derived.Test.YtimafabbepgifaaPn
import Derived.Test.YtimafabbepgifaaMc
namespace Go.Proofs.Ytimafabbepgifaa
open Go.RowKit
set_option linter.unusedVariables false

/-- Rows of another type than bytes, but the blocks b and g, are as they were. -/
def Kq (b g : Nat) (w w' : World) : Prop := ∀ G l t, t ≠ 5 → G ≠ b → G ≠ g → Blk w G l t → Blk w' G l t
theorem Kq.trans {b g : Nat} {u w v : World} (h : Kq b g u w) (k : Kq b g w v) : Kq b g u v := fun G l t ht hG hg hB => k G l t ht hG hg (h G l t ht hG hg hB)
theorem Kq.ofKp {b g : Nat} {w w' : World} (h : Kp b w w') : Kq b g w w' := fun G l t ht hG _ hB => h G l t ht hG hB
theorem Kq.ofBelow {b g : Nat} {w w' : World} (h : Below w.heap.size w w') : Kq b g w w' := fun G l t _ _ _ hB => hB.below h hB.lt
theorem Kq.set {b g : Nat} {w w' : World} (h : Kq b g w w') (j : Nat) (u : Value) : Kq b g w (w'.setCell ⟨g, j, none⟩ u) := fun G l t ht hG hg hB => (h G l t ht hG hg hB).other hg u

/-- A row of numbers by its block, with room for c. -/
def Nums (c : Nat) (w : World) (g : Nat) (xs : List Int) : Prop := ∃ cur : List Value, Blk w g cur 3 ∧ cur.length = c ∧ ∀ j, j < xs.length → cur[j]? = some (.int .i64 (xs.getD j 0))
theorem Nums.cell {c : Nat} {w : World} {g : Nat} {xs : List Int} (h : Nums c w g xs) (j : Nat) (hj : j < xs.length) : w.cell? ⟨g, j, none⟩ = some (.int .i64 (xs.getD j 0)) := by
  obtain ⟨cur, hB, _, hc⟩ := h
  exact hB.cell (hc j hj)
theorem Nums.free {c : Nat} {w : World} {g : Nat} {xs : List Int} (h : Nums c w g xs) (j : Nat) : w.frozen? ⟨g, j, none⟩ = false := by
  obtain ⟨cur, hB, _, hc⟩ := h
  exact hB.free j
theorem Nums.lt {c : Nat} {w : World} {g : Nat} {xs : List Int} (h : Nums c w g xs) : g < w.heap.size := by
  obtain ⟨cur, hB, _, hc⟩ := h
  exact hB.lt
theorem Nums.kept {c : Nat} {w w' : World} {g : Nat} {xs : List Int} (h : Nums c w g xs) (k : ∀ l, Blk w g l 3 → Blk w' g l 3) : Nums c w' g xs := by
  obtain ⟨cur, hB, hl, hc⟩ := h
  exact ⟨cur, k _ hB, hl, hc⟩
theorem Nums.set {c : Nat} {w : World} {g : Nat} {xs : List Int} (h : Nums c w g xs) (i : Nat) (y : Int) : Nums c (w.setCell ⟨g, i, none⟩ (.int .i64 y)) g (xs.set i y) := by
  obtain ⟨cur, hB, hcl, hc⟩ := h
  refine ⟨cur.set i (.int .i64 y), hB.set i _, by rw [List.length_set]; exact hcl, fun j hj => ?_⟩
  rw [List.length_set] at hj
  have := hc j hj
  by_cases e : i = j
  · subst e
    have hl : i < cur.length := (List.getElem?_eq_some_iff.1 this).1
    rw [List.getElem?_set_self hl, List.getD_eq_getElem?_getD, List.getElem?_set_self hj]
    rfl
  · rw [List.getElem?_set_ne e, this, List.getD_eq_getElem?_getD, List.getD_eq_getElem?_getD, List.getElem?_set_ne e]
theorem Own.nums {w : World} {base g n c : Nat} {xs : List Int} (h : Own w base 3 .i64 (.slice (some ⟨g, 0, none⟩) n c) xs) : Nums c w g xs := by
  rcases h.2.2 with ⟨e2, h0⟩ | ⟨g', cap', cur, e2, hg, hh, hle, hm, hsz, ht⟩
  · cases e2
  · simp only [Value.slice.injEq, Option.some.injEq, Addr.mk.injEq] at e2
    obtain ⟨⟨rfl, _⟩, _, rfl⟩ := e2
    refine ⟨cur.toList, by unfold Blk; simpa using hh, by simpa using hsz, fun j hj => ?_⟩
    have h1 : (cur.toList.take (xs.length * 1))[j]? = (xs.map (Value.int .i64))[j]? := by rw [ht]
    rw [List.getElem?_take, if_pos (by omega)] at h1
    rw [h1, List.getElem?_map, List.getD_eq_getElem?_getD, List.getElem?_eq_getElem hj]
    rfl
theorem Nums.own {c : Nat} {w : World} {base g : Nat} {xs : List Int} (h : Nums c w g xs) (hb : base ≤ g) (hc : xs.length ≤ c) (hm : c ≤ maxLen) : Own w base 3 .i64 (.slice (some ⟨g, 0, none⟩) xs.length c) xs := by
  have hlt := h.lt
  obtain ⟨cur, hB, hl, hcc⟩ := h
  refine ⟨by omega, by simp, .inr ⟨g, c, cur.toArray, rfl, hb, hB, hc, hm, by simpa using hl, ?_⟩⟩
  apply List.ext_getElem?
  intro j
  simp only [Nat.mul_one, List.getElem?_take]
  by_cases hj : j < xs.length
  · rw [if_pos hj, List.getElem?_map, List.getElem?_eq_getElem hj]
    have := hcc j hj
    rw [List.getD_eq_getElem?_getD, List.getElem?_eq_getElem hj] at this
    exact this
  · rw [if_neg hj, List.getElem?_eq_none (by simp; omega)]

theorem own_ef5 {w w' : World} {base C : Nat} {v : Value} {xs : List Int} {l : List Value} {t : TypeId} (h : Own w base 5 .u8 v xs) (hB : Blk w C l t) (ht : t ≠ 5) (he : Ef C w w') : Own w' base 5 .u8 v xs := by
  have hne := ownBlock_ne5 h hB ht
  refine ⟨Nat.le_trans h.1 he.size, h.2.1, ?_⟩
  rcases h.2.2 with h0 | ⟨g, cap, cur, rfl, hg, hh, r⟩
  · exact .inl h0
  · exact .inr ⟨g, cap, cur, rfl, hg, (he.block g (Array.getElem?_eq_some_iff.1 hh).1 (fun e => hne (by have := Option.some.inj e; rw [this]; rfl))).trans hh, r⟩

set_option maxRecDepth 100000 in
set_option maxHeartbeats 3200000 in
theorem put_num (b g cap N B L M mc : Nat) (x : Int) (st : PS) (v : Value) (w : World) (hx0 : -9223372036854775808 ≤ x) (hx1 : x ≤ 9223372036854775807) (hN : N ≤ 1200) (hB : B + 24 ≤ N) (hMN : B + M = N) (hL : L ≤ 100000) (hgb : g < b) (hok : PsOk N L st)
    (hW : Wst w b [] 73 st.lo st.hi v st.o) (hC : Nums cap w g st.ch) :
    Calls Try.prog 40 #[.agg #[.pointer (some ⟨b, 0, none⟩), .slice (some ⟨g, B, none⟩) M mc], .int .i64 x] w fun e w' => e = .returned (.tuple #[]) ∧ (∃ v', Wst w' b [] 73 (putTo B (planP x) st (planP x).length).lo (putTo B (planP x) st (planP x).length).hi v' (putTo B (planP x) st (planP x).length).o) ∧ Nums cap w' g (putTo B (planP x) st (planP x).length).ch ∧ Below g w w' ∧ Kq b g w w' := by
  have HNP := hid (fun q => impl_numPlan x q hx0 hx1)
  have HOK := hid (fun k hk => putTo_ok (x := x) hok hB k hk)
  have HWP := hid (fun i hi => walk_part x i hi)
  have HL23 := hid (planP_len23 x)
  have HBI := hid (plan_bits x)
  have HW := hid hW
  have HC := hid hC
  have hlt := hid hW.1.lt
  have hpl := planP_len23 x
  generalize planP x = P at *
  obtain ⟨Z, hZ⟩ : ∃ Z, putTo B P st P.length = Z := ⟨_, rfl⟩
  have HZ := hid hZ
  rw [hZ]
  clear hZ hW hC hx0 hx1 hok
  obtain ⟨n1, n2, n3⟩ := new_two w [.pointer (some ⟨b, 0, none⟩), .slice (some ⟨g, B, none⟩) M mc] [.int .i64 0, .bool false, .int .i64 0, .int .i64 0, .int .i64 0] 77 105
  have N1 := hid n1
  have N2 := hid n2
  have N3 := hid n3
  clear n1 n2 n3
  go_enter Try.func40, Try.ntmps40
  go_wp2_with fail
  refine (HNP.out _).mono ?_
  generalize (w.alloc (.cells #[.pointer (some ⟨b, 0, none⟩), .slice (some ⟨g, B, none⟩) M mc] 77)).alloc (.cells #[.int .i64 0, .bool false, .int .i64 0, .int .i64 0, .int .i64 0] 105) = w0 at *
  rintro e w1 ⟨pv, rfl, hop, hb1⟩
  have hsz0 : w.heap.size + 1 < w0.heap.size := N2.out.lt
  have HB1 : Hid (Below w.heap.size w w1) := N3.out.trans (hb1.mono (by omega))
  have HPB1 : Hid (Blk w1 w.heap.size [.pointer (some ⟨b, 0, none⟩), .slice (some ⟨g, B, none⟩) M mc] 77) := N1.out.below hb1 N1.out.lt
  have HWB1 : Hid (Blk w1 (w.heap.size + 1) (wkC wk0) 105) := N2.out.below hb1 N2.out.lt
  obtain ⟨ao, pc, rfl⟩ := hop.shape
  have HPL : Hid (∀ k, k < P.length → ∃ pg pcl, ao = some ⟨pg, 0, none⟩ ∧ w.heap.size + 1 < pg ∧ Nums pcl w1 pg P) := fun k hk => by
    rcases hop.2.2 with ⟨e2, h0⟩ | ⟨pg, cap', cur, e2, hg, _⟩
    · omega
    · simp only [Value.slice.injEq] at e2
      obtain ⟨rfl, _, rfl⟩ := e2
      exact ⟨pg, _, rfl, by omega, hop.nums⟩
  clear hop hb1 hsz0 N1 N2 N3 HNP
  have HW1 : Hid (Wst w1 b [] 73 st.lo st.hi v st.o) := ⟨HW.out.1.below HB1.out hlt.out, HW.out.2.below HB1.out⟩
  have HC1 : Hid (Nums cap w1 g st.ch) := HC.out.kept (fun l hl => hl.below HB1.out hl.lt)
  have HK1 : Hid (Kq b g w w1) := Kq.ofBelow HB1.out
  have hglt := hid HC.out.lt
  go_wp2_with fail
  go_loopw [12] (fun i wr => ∃ (k : Nat) (s : Wk) (v' : Value), k ≤ P.length ∧ i = .int .i64 k ∧ Hid (wkOver wk0 (P.take k) = some s ∧ WkOk s) ∧ Wst wr b [] 73 (putTo B P st k).lo (putTo B P st k).hi v' (putTo B P st k).o ∧ Nums cap wr g (putTo B P st k).ch ∧ Blk wr (w.heap.size + 1) (wkC s) 105 ∧ Blk wr w.heap.size [.pointer (some ⟨b, 0, none⟩), .slice (some ⟨g, B, none⟩) M mc] 77 ∧ Hid (∀ k, k < P.length → ∃ pg pcl, ao = some ⟨pg, 0, none⟩ ∧ w.heap.size + 1 < pg ∧ Nums pcl wr pg P) ∧ Below g w wr ∧ Kq b g w wr) (fun i _ => P.length - (intOf i).toNat)
  case atStart => exact ⟨0, wk0, v, by omega, rfl, ⟨by simp [wkOver], WkOk.zero⟩, HW1.out, HC1.out, HWB1.out, HPB1.out, HPL.out, HB1.out.mono (Nat.le_of_lt hglt.out), HK1.out⟩
  case round =>
    obtain ⟨k, s, v', hk, rfl, hrec, hW, hC, hWB, hPB, hPL, hB, hK⟩ := hrel
    clear HW1 HC1 HWB1 HPB1 HPL HB1 HK1 HW HC
    have HWr := hid hW
    have HCr := hid hC
    have HWBr := hid hWB
    have HPBr := hid hPB
    have HBr := hid hB
    have HKr := hid hK
    have HOKk := hid (HOK.out k hk)
    have hblt := hid hW.1.lt
    clear hW hC hWB hPB hB hK
    by_cases hlt2 : k < P.length
    · have hlt' : (k : Int) < (P.length : Int) := by omega
      obtain ⟨pg, pcl, rfl, hpg, hPN⟩ := hPL.out k hlt2
      have cp := hPN.cell k hlt2
      obtain ⟨s', es, ho', h4, hsl, hs0, hs23⟩ := HWP.out k hlt2
      obtain rfl : s' = s := by
        have := hrec.out.1
        rw [es] at this
        exact Option.some.inj this
      obtain ⟨T, hT⟩ : ∃ T : Nat, wkSlot s' = (T : Int) := ⟨(wkSlot s').toNat, by omega⟩
      have hT23 : T ≤ 23 := by omega
      have hbit : isBi (P.getD k 0) = true := by
        rw [List.getD_eq_getElem?_getD, List.getElem?_eq_getElem hlt2]
        exact HBI.out _ (List.getElem_mem _)
      have hbt := (isBi_iff _).1 hbit
      have HST : Hid (putTo B P st (k + 1) = stepP B (putTo B P st k) (T : Int) (P.getD k 0)) := by
        show _ = _
        rw [putTo, ← hsl, hT]
      have HOV : Hid (wkOver wk0 (P.take (k + 1)) = some (wkTake s' (P.getD k 0)) ∧ WkOk (wkTake s' (P.getD k 0))) := by
        refine ⟨?_, ho'.take hbt⟩
        rw [over_take hlt2 es, if_pos ⟨hbit, h4⟩]
      have hsb := ho'.bounds h4
      have HSL := hid (fun q => wk_slot s' q hsb.1 hsb.2.1 hsb.2.2.1 hsb.2.2.2.1)
      have HTK := hid (fun q hq => wk_take (w.heap.size + 1) s' (P.getD k 0) q hbt ho' h4 hq)
      rw [hT] at HSL
      have HGE := hid HCr.out.lt
      have hchl : Hid ((putTo B P st k).ch.length = N) := HOKk.out.ln
      have HPU := hid (fun (q : World) (p : Int) hq => put_any b [] 73 (putTo B P st k).lo (putTo B P st k).hi (P.getD k 0) p v' (putTo B P st k).o q HOKk.out.wl HOKk.out.wh hbt (by have := HOKk.out.ol; omega) hq)
      generalize hST1 : putTo B P st (k + 1) = ST1 at *
      have HE1 := hid hST1
      clear hST1
      have HS1 : Hid (ST1.lo = (pPut (putTo B P st k).lo (putTo B P st k).hi (P.getD k 0) ((putTo B P st k).ch.getD (B + T) 0)).2.1 ∧ ST1.hi = (pPut (putTo B P st k).lo (putTo B P st k).hi (P.getD k 0) ((putTo B P st k).ch.getD (B + T) 0)).2.2 ∧ ST1.o = (putTo B P st k).o ++ (pPut (putTo B P st k).lo (putTo B P st k).hi (P.getD k 0) ((putTo B P st k).ch.getD (B + T) 0)).1 ∧ ST1.ch = (putTo B P st k).ch.set (B + T) (lrn ((putTo B P st k).ch.getD (B + T) 0) (P.getD k 0))) := by
        have := HST.out
        rw [this]
        refine ⟨?_, ?_, ?_, ?_⟩ <;> simp [stepP]
      generalize putTo B P st k = ST at *
      generalize P.getD k 0 = X at *
      have q0 := HPBr.out.cell (i := 0) rfl
      have q1 := HPBr.out.cell (i := 1) rfl
      have w0 := HWBr.out.cell (i := 0) rfl
      have w1' := HWBr.out.cell (i := 1) rfl
      have w2' := HWBr.out.cell (i := 2) rfl
      have w3' := HWBr.out.cell (i := 3) rfl
      have w4' := HWBr.out.cell (i := 4) rfl
      obtain ⟨I, hI⟩ : ∃ I, B + T = I := ⟨_, rfl⟩
      rw [hI] at HS1
      have hTM : (T : Int) < (M : Int) := by omega
      have hT0 : (0 : Int) ≤ (T : Int) := by omega
      have hTW : IntKind.i64.wrap (T : Int) = (T : Int) := by rw [IntKind.wrap_i64]; omega
      have hTM2 : T < M := by omega
      have hI12 := hid (show I < N by omega)
      unfold wkV at HSL
      clear hrec HST hsb hs0 hs23 hsl hT ho' h4 es hbit
      go_wp2_with fail
      have D1 := hid (below_drewN wr 1)
      go_region_with (go_at_call 64; refine (HSL.out wr.drew).mono ?_; rintro e wa ⟨rfl, hba⟩; have BA := hid (D1.out.trans hba); have q1a := (HPBr.out.below BA.out HPBr.out.lt).cell (i := 1) rfl)
      all_goals
        have WA : Hid (Wst wa b [] 73 ST.lo ST.hi v' ST.o) := ⟨HWr.out.1.below BA.out HWr.out.1.lt, HWr.out.2.below BA.out⟩
        have CA : Hid (Nums cap wa g ST.ch) := HCr.out.kept (fun l hl => hl.below BA.out hl.lt)
        have WBA : Hid (Blk wa (w.heap.size + 1) (wkC s') 105) := HWBr.out.below BA.out HWBr.out.lt
        have PBA : Hid (Blk wa w.heap.size [.pointer (some ⟨b, 0, none⟩), .slice (some ⟨g, B, none⟩) M mc] 77) := HPBr.out.below BA.out HPBr.out.lt
        have q0b := PBA.out.cell (i := 0) rfl
        have PA : Hid (Nums pcl wa pg P) := hPN.kept (fun l hl => hl.below BA.out hl.lt)
        have BBA : Hid (Below g w wa) := HBr.out.trans (BA.out.mono (Nat.le_of_lt HGE.out))
        have KA : Hid (Kq b g w wa) := HKr.out.trans (Kq.ofBelow BA.out)
        have cga : wa.cell? ⟨g, I, none⟩ = some (.int .i64 (ST.ch.getD I 0)) := CA.out.cell I (by rw [hchl.out]; exact hI12.out)
        clear hba q1a BA D1 HWr HCr HWBr HPBr HBr HKr q0 q1 w0 w1' w2' w3' w4' cp HSL
        generalize ST.ch.getD I 0 = Y at *
        go_wp2_with fail
        have DA := hid (below_drewN wa 1)
        go_region_with (go_at_call 65; refine (HPU.out wa.drew Y ⟨WA.out.1.below DA.out WA.out.1.lt, WA.out.2.below DA.out⟩).mono ?_; rintro e wb ⟨rfl, ⟨v2, hW2⟩, hB2, hK2⟩)
        all_goals
          have WB : Hid (Wst wb b [] 73 ST1.lo ST1.hi v2 ST1.o) := by
            rw [HS1.out.1, HS1.out.2.1, HS1.out.2.2.1]
            exact hW2
          have KB : Hid (Kp b wa wb) := (Kp.ofEf (Ef.ofBelow DA.out)).trans hK2
          have CB : Hid (Nums cap wb g ST.ch) := CA.out.kept (fun l hl => KB.out g l 3 (by decide) (Nat.ne_of_lt hgb) hl)
          have WBB : Hid (Blk wb (w.heap.size + 1) (wkC s') 105) := KB.out _ _ _ (by decide) (by have := hlt.out; omega) WBA.out
          have PBB : Hid (Blk wb w.heap.size [.pointer (some ⟨b, 0, none⟩), .slice (some ⟨g, B, none⟩) M mc] 77) := KB.out _ _ _ (by decide) (Nat.ne_of_gt hlt.out) PBA.out
          have PB : Hid (Nums pcl wb pg P) := PA.out.kept (fun l hl => KB.out pg l 3 (by decide) (by have := hlt.out; omega) hl)
          have BBB : Hid (Below g w wb) := BBA.out.trans ((belowN (Below.refl g wa) 1).trans (hB2.mono (Nat.le_of_lt hgb)))
          have KKB : Hid (Kq b g w wb) := KA.out.trans (Kq.ofKp KB.out)
          have cgb : wb.cell? ⟨g, I, none⟩ = some (.int .i64 Y) := by
            have h1 := CB.out.cell I (by rw [hchl.out]; exact hI12.out)
            have h2 := CA.out.cell I (by rw [hchl.out]; exact hI12.out)
            rw [cga] at h2
            rw [h1, ← h2]
          have fgb := CB.out.free I
          clear hW2 hB2 hK2 DA WA CA WBA PBA PA BBA KA KB cga HPU q0b
          go_wp2_with (go_at_call 66; refine (impl_learn _ _ _).mono ?_; rintro e wc ⟨rfl, rfl⟩)
          have hwg : w.heap.size + 1 ≠ g := by have := hglt.out; omega
          have hwg0 : w.heap.size ≠ g := by have := hglt.out; omega
          have hpgg : pg ≠ g := by have := hglt.out; omega
          have WC : Hid (Wst (wb.setCell ⟨g, I, none⟩ (.int .i64 (lrn Y X))) b [] 73 ST1.lo ST1.hi v2 ST1.o) := ⟨WB.out.1.other (a := ⟨g, I, none⟩) (Nat.ne_of_gt hgb) _, WB.out.2.setCell_below (a := ⟨g, I, none⟩) (by show g < b + 1; omega) _⟩
          have CC : Hid (Nums cap (wb.setCell ⟨g, I, none⟩ (.int .i64 (lrn Y X))) g ST1.ch) := by
            rw [HS1.out.2.2.2]
            exact CB.out.set I _
          have WBC : Hid (Blk (wb.setCell ⟨g, I, none⟩ (.int .i64 (lrn Y X))) (w.heap.size + 1) (wkC s') 105) := WBB.out.other (a := ⟨g, I, none⟩) hwg _
          have PBC : Hid (Blk (wb.setCell ⟨g, I, none⟩ (.int .i64 (lrn Y X))) w.heap.size [.pointer (some ⟨b, 0, none⟩), .slice (some ⟨g, B, none⟩) M mc] 77) := PBB.out.other (a := ⟨g, I, none⟩) hwg0 _
          have PC : Hid (Nums pcl (wb.setCell ⟨g, I, none⟩ (.int .i64 (lrn Y X))) pg P) := PB.out.kept (fun l hl => hl.other (a := ⟨g, I, none⟩) hpgg _)
          have BC : Hid (Below g w (wb.setCell ⟨g, I, none⟩ (.int .i64 (lrn Y X)))) := BBB.out.setCell (p := ⟨g, I, none⟩) (Nat.le_refl _) _
          have KC : Hid (Kq b g w (wb.setCell ⟨g, I, none⟩ (.int .i64 (lrn Y X)))) := KKB.out.set I _
          clear WB CB WBB PBB PB BBB KKB cgb fgb
          generalize wb.setCell ⟨g, I, none⟩ (.int .i64 (lrn Y X)) = wc at *
          refine (HTK.out wc WBC.out).mono ?_
          rintro e wd ⟨rfl, hb9, he9⟩
          have WD : Hid (Wst wd b [] 73 ST1.lo ST1.hi v2 ST1.o) := ⟨WC.out.1.ef he9 (by have := hlt.out; omega), own_ef5 WC.out.2 WBC.out (by decide) he9⟩
          have CD : Hid (Nums cap wd g ST1.ch) := CC.out.kept (fun l hl => hl.ef he9 (fun e => hwg e.symm))
          have PBD : Hid (Blk wd w.heap.size [.pointer (some ⟨b, 0, none⟩), .slice (some ⟨g, B, none⟩) M mc] 77) := PBC.out.ef he9 (by omega)
          have PD : Hid (Nums pcl wd pg P) := PC.out.kept (fun l hl => hl.ef he9 (Nat.ne_of_gt hpg))
          have BD : Hid (Below g w wd) := BC.out.trans (he9.below (Nat.le_trans (Nat.le_of_lt hglt.out) (Nat.le_succ _)) (Nat.le_trans (Nat.le_of_lt hglt.out) BC.out.size))
          have KD : Hid (Kq b g w wd) := fun G l t ht hG hg hB => (KC.out G l t ht hG hg hB).ef he9 (by have := hB.lt; omega)
          have HBD := hid hb9
          clear hb9 he9 WC CC WBC PBC PC BC KC
          go_wp2_with fail
          go_roundw
          case rel => exact ⟨k + 1, _, v2, by omega, by go_num, HOV.out, (by rw [HE1.out]; exact WD.out), (by rw [HE1.out]; exact CD.out), HBD.out, PBD.out, fun _ _ => ⟨pg, pcl, rfl, hpg, PD.out⟩, BD.out, KD.out⟩
          case measure => simp [intOf]; omega
    · obtain rfl : k = P.length := by omega
      have HZ2 := hid HZ.out
      clear hlt2 hk
      go_wp2_with fail
      go_end0
      rw [← HZ2.out]
      exact ⟨rfl, ⟨v', HWr.out⟩, HCr.out, HBr.out, HKr.out⟩
end Go.Proofs.Ytimafabbepgifaa
