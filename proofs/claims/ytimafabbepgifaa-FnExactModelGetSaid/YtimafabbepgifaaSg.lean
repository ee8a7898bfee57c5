/- The contract of the specification's reader of a number: l07Get. -/
import Derived.Test.YtimafabbepgifaaGp
import Derived.Test.YtimafabbepgifaaRs
import Derived.Test.YtimafabbepgifaaSm
namespace Go.Proofs.Ytimafabbepgifaa
open Go.RowKit
set_option linter.unusedVariables false

/-- What l07Get comes to. -/
def SgP (R : Option (GS × Wk)) (w : World) (g cap N : Nat) (t : ByteArray) (e : Ending) (w' : World) : Prop :=
  Ef g w w' ∧ ((R = none ∧ ∃ a b c u j, e = .returned (.tuple #[rV a b c u j, .int .i64 0, .bool false])) ∨ ∃ st s, R = some (st, s) ∧ GsOk N st ∧ e = .returned (.tuple #[rV st.lo st.hi st.co t st.i, .int .i64 (wkNum s), .bool true]) ∧ Nums cap w' g st.ch)

theorem rRes_gR {lo hi co : Int} {s : ByteArray} {i p : Int} (hp : isCh p = true) : rRes lo hi co s i p = .tuple #[rV (gR lo hi co s i p).2.1 (gR lo hi co s i p).2.2.1 (gR lo hi co s i p).2.2.2.1 s (gR lo hi co s i p).2.2.2.2, .int .i64 (gR lo hi co s i p).1] := by
  have h1 : 1 ≤ p ∧ p ≤ 4095 := by simpa [isCh] using hp
  unfold rRes gR okGet
  by_cases h : lo ≤ hi ∧ 0 ≤ i ∧ i ≤ 60008
  · rw [if_pos h, if_pos (decide_eq_true ⟨h1, h⟩)]
  · rw [if_neg h, if_neg (fun e => h (of_decide_eq_true e).2)]
theorem Ef.app {C B : Nat} {w q q' : World} (h : Ef C w q) (hb : Below B q q') (hB : w.heap.size ≤ B) : Ef C w q' :=
  ⟨hb.os.trans h.os, hb.tape.trans h.tape, hb.output.trans h.output, Nat.le_trans h.size hb.size, fun k hk hne => (hb.block k (by omega)).trans (h.block k hk hne)⟩
theorem hid_shape2 {w : World} {base : Nat} {e : TypeId} {k : IntKind} {v : Value} {xs : List Int} (h : Hid (Own w base e k v xs)) : ∃ ao cap, v = .slice ao xs.length cap := h.out.shape
theorem over_snoc {s t : Wk} {P : List Int} {b : Int} (h : wkOver s P = some t) (hb : isBi b = true) (h4 : t.part ≠ 4) : wkOver s (P ++ [b]) = some (wkTake t b) := by
  have hl : P.length < (P ++ [b]).length := by simp
  have e1 : (P ++ [b]).take P.length = P := by simp
  have e2 : (P ++ [b]).take (P.length + 1) = P ++ [b] := List.take_of_length_le (by simp)
  have e3 : (P ++ [b]).getD P.length 0 = b := by simp
  have := over_take (s := s) hl (t := t) (by rw [e1]; exact h)
  rw [e2, e3, if_pos ⟨hb, h4⟩] at this
  exact this

set_option maxRecDepth 100000 in
set_option maxHeartbeats 3200000 in
theorem spec_getNum (g cap N B : Nat) (lo hi co : Int) (t : ByteArray) (i : Int) (ch : List Int) (w : World) (hN : N ≤ 1200) (hB : B + 24 ≤ N) (hs : t.size ≤ 1048576) (hok : GsOk N ⟨lo, hi, co, i, ch⟩) (hC : Nums cap w g ch) :
    Calls Try.prog 58 #[rV lo hi co t i, .agg #[.slice (some ⟨g, 0, none⟩) N cap], .int .i64 B] w (SgP (getF B t 31 ⟨lo, hi, co, i, ch⟩ wk0) w g cap N t) := by
  obtain ⟨R, hR⟩ : ∃ R, getF B t 31 ⟨lo, hi, co, i, ch⟩ wk0 = R := ⟨_, rfl⟩
  rw [hR]
  have HR := hid hR
  have HC := hid hC
  have HOK := hid hok
  have hglt := hid hC.lt
  obtain ⟨QQ, hQ, HQ⟩ : ∃ QQ : Ending → World → Prop, SgP R w g cap N t = QQ ∧ Hid (∀ e w', SgP R w g cap N t e w' → QQ e w') := ⟨_, rfl, fun _ _ h => h⟩
  rw [hQ]
  clear hQ hR hC hok
  unfold rV
  obtain ⟨n0, n1, n2, n4⟩ := new_three w [.int .u32 lo, .int .u32 hi, .int .u32 co, .string t, .int .i64 i] [.slice (some ⟨g, 0, none⟩) N cap] [.int .u32 0, .int .u32 0, .int .u32 0, .string ⟨#[]⟩, .int .i64 0] 38 27 38
  have N0 := hid n0
  have N1 := hid n1
  have N2 := hid n2
  have N4 := hid n4
  clear n0 n1 n2 n4
  generalize hw0 : ((w.alloc (.cells #[.int .u32 lo, .int .u32 hi, .int .u32 co, .string t, .int .i64 i] 38)).alloc (.cells #[.slice (some ⟨g, 0, none⟩) N cap] 27)).alloc (.cells #[.int .u32 0, .int .u32 0, .int .u32 0, .string ⟨#[]⟩, .int .i64 0] 38) = w0 at *
  have HW0 := hid hw0
  have hsz : w0.heap.size = w.heap.size + 1 + 1 + 1 := by rw [← hw0]; simp
  have HSZ := hid hsz
  have O0 := hid (Own.lit w0 3 .i64 w0.heap.size [] (Nat.le_refl _) (by simp))
  have NA := hid ((Below.refl w0.heap.size w0).alloc (Nat.le_refl _) (.cells #[] 3))
  have M0 := hid (N0.out.below NA.out N0.out.lt)
  have M1 := hid (N1.out.below NA.out N1.out.lt)
  have M2 := hid (N2.out.below NA.out N2.out.lt)
  have M4 := hid (N4.out.trans (NA.out.mono N4.out.size))
  have MC : Hid (Nums cap (w0.alloc (.cells #[] 3)) g ch) := HC.out.kept (fun l hl => hl.below M4.out hl.lt)
  have O1 : Hid (Own (w0.alloc (.cells #[] 3)) (w.heap.size + 1 + 1 + 1) 3 .i64 (.slice (some ⟨w.heap.size + 1 + 1 + 1, 0, none⟩) 0 0) []) := by
    have := O0.out
    rw [hsz] at this
    exact this
  clear hw0 hsz N0 N1 N2 N4 NA O0
  go_enter Try.func58, Try.ntmps58
  go_wp2_with fail
  rw [HW0.out]
  generalize w0.alloc (.cells #[] 3) = w1 at *
  clear HW0
  go_loopw [9] (fun pv wr => ∃ (f : Nat) (st : GS) (s : Wk) (P : List Int), Hid (getF B t f st s = R ∧ rank s.part s.size s.rest ≤ f ∧ WkOk s ∧ GsOk N st ∧ wkOver wk0 P = some s ∧ P.length + f = 31) ∧ Hid (Blk wr w.heap.size [.int .u32 st.lo, .int .u32 st.hi, .int .u32 st.co, .string t, .int .i64 st.i] 38) ∧ Hid (Blk wr (w.heap.size + 1) [.slice (some ⟨g, 0, none⟩) N cap] 27) ∧ Hid (Blk wr (w.heap.size + 1 + 1) [.int .u32 0, .int .u32 0, .int .u32 0, .string ⟨#[]⟩, .int .i64 0] 38) ∧ Hid (Nums cap wr g st.ch) ∧ Hid (Own wr (w.heap.size + 1 + 1 + 1) 3 .i64 pv P) ∧ Hid (Ef g w wr)) (fun pv _ => match pv with | .slice _ n _ => 31 - n | _ => 0)
  case atStart => exact ⟨31, ⟨lo, hi, co, i, ch⟩, wk0, [], ⟨HR.out, by decide, WkOk.zero, HOK.out, rfl, rfl⟩, M0.out, M1.out, M2.out, MC.out, O1.out, Ef.ofBelow M4.out⟩
  case round =>
    obtain ⟨f, st, s, P, hrec, H0, H1, H2, HC1, HO, HE⟩ := hrel
    clear HC HOK HR M0 M1 M2 M4 MC O1
    obtain ⟨pa, pc, rfl⟩ := hid_shape2 HO
    have hPl := hid (show P.length ≤ 31 by have := hrec.out.2.2.2.2.2; omega)
    have HNX : Hid (Calls Try.prog 78 #[.slice pa P.length pc] wr fun e w' => e = .returned (nxV P) ∧ ∃ q, w' = wr.drewN q) := by
      obtain ⟨ao, cp, e1, hv, hcp⟩ := HO.out.vw
      cases e1
      exact spec_next pa P.length pc P wr (by have := hPl.out; omega) hcp hv
    have HOU : Hid (nextS P = outI (some s)) := by
      have := next_eq P
      show _ = _
      rw [← this]
      show outI (wkOver wk0 P) = _
      rw [hrec.out.2.2.2.2.1]
    by_cases h4 : s.part = 4
    · have hn : nextS P = (-1, wkNum s) := by rw [HOU.out]; show (if s.part = 4 then _ else _) = _; rw [if_pos h4]
      have HRE : Hid (R = some (st, s)) := by
        have h1 := hrec.out.1
        rw [getF_told B t st s h4 f] at h1
        exact h1.symm
      unfold nxV at HNX
      rw [hn] at HNX
      clear hn h4 HOU
      go_wp2_with fail
      refine HNX.out.mono ?_
      rintro e wq ⟨rfl, n, rfl⟩
      have D1 := hid (below_drewN wr n)
      have J0 := hid (H0.out.below D1.out H0.out.lt)
      have J2 := hid (H2.out.below D1.out H2.out.lt)
      have JC := hid (HC1.out.kept (fun l hl => hl.below D1.out hl.lt))
      have JE := hid (HE.out.drewN n)
      clear D1 H0 H1 H2 HC1 HO HE HNX
      generalize wr.drewN n = wq at *
      have c0 := J0.out.cell (i := 0) rfl
      have c1 := J0.out.cell (i := 1) rfl
      have c2 := J0.out.cell (i := 2) rfl
      have c3 := J0.out.cell (i := 3) rfl
      have c4 := J0.out.cell (i := 4) rfl
      have r0 := J2.out.cell (i := 0) rfl
      have r1 := J2.out.cell (i := 1) rfl
      have r2 := J2.out.cell (i := 2) rfl
      have r3 := J2.out.cell (i := 3) rfl
      have r4 := J2.out.cell (i := 4) rfl
      have y0 := J2.out.free 0
      have y1 := J2.out.free 1
      have y2 := J2.out.free 2
      have y3 := J2.out.free 3
      have y4 := J2.out.free 4
      go_wp2_with fail
      have hgn : g ≠ w.heap.size + 1 + 1 := by have := hglt.out; omega
      refine bodyPost_ret (v := .tuple #[.agg #[.int .u32 st.lo, .int .u32 st.hi, .int .u32 st.co, .string t, .int .i64 st.i], .int .i64 (wkNum s), .bool true]) (by simp [results, Try.results58, go_sem, r0, r1, r2, r3, r4]) rfl ?_
      refine HQ.out _ _ ⟨?_, .inr ⟨st, s, HRE.out, hrec.out.2.2.2.1, rfl, ?_⟩⟩
      · exact (((((JE.out.setNew (B := w.heap.size + 1 + 1) (by omega) 0 _).setNew (B := w.heap.size + 1 + 1) (by omega) 1 _).setNew (B := w.heap.size + 1 + 1) (by omega) 2 _).setNew (B := w.heap.size + 1 + 1) (by omega) 3 _).setNew (B := w.heap.size + 1 + 1) (by omega) 4 _)
      · exact JC.out.kept (fun l hl => (((((hl.other (a := ⟨w.heap.size + 1 + 1, 0, none⟩) hgn _).other (a := ⟨w.heap.size + 1 + 1, 1, none⟩) hgn _).other (a := ⟨w.heap.size + 1 + 1, 2, none⟩) hgn _).other (a := ⟨w.heap.size + 1 + 1, 3, none⟩) hgn _).other (a := ⟨w.heap.size + 1 + 1, 4, none⟩) hgn _))
    · have hsl := slot_bd hrec.out.2.2.1 h4
      obtain ⟨T, hT⟩ : ∃ T : Nat, wkSlot s = (T : Int) := ⟨(wkSlot s).toNat, by omega⟩
      have hn : nextS P = ((T : Int), 0) := by rw [HOU.out]; show (if s.part = 4 then _ else _) = _; rw [if_neg h4, hT]
      obtain ⟨f', rfl⟩ : ∃ f', f = f' + 1 := ⟨f - 1, by have := rank_pos hrec.out.2.2.1 h4; have := hrec.out.2.1; omega⟩
      unfold nxV at HNX
      rw [hn] at HNX
      obtain ⟨I, hI⟩ : ∃ I, B + T = I := ⟨_, rfl⟩
      have hBT : (B : Int) + (T : Int) = (I : Int) := by omega
      have hIN : (I : Int) < (N : Int) := by omega
      have hI0 : (0 : Int) ≤ (I : Int) := by omega
      have hIW : IntKind.i64.wrap (I : Int) = (I : Int) := by rw [IntKind.wrap_i64]; omega
      have hIN2 : I < N := by omega
      have hT0 : ¬ (T : Int) < 0 := by omega
      have hchl : Hid (st.ch.length = N) := hrec.out.2.2.2.1.ln
      have HPY : Hid (gP B st s = st.ch.getD I 0) := by
        show _ = _
        unfold gP
        rw [hT, Int.toNat_natCast, hI]
      have hch : isCh (st.ch.getD I 0) = true := by
        rw [List.getD_eq_getElem?_getD, List.getElem?_eq_getElem (by rw [hchl.out]; exact hIN2)]
        exact hrec.out.2.2.2.1.ch _ (List.getElem_mem _)
      have HRG := hid (fun q => spec_get st.lo st.hi st.co t st.i (st.ch.getD I 0) q hrec.out.2.2.2.1.wl hrec.out.2.2.2.1.wh hrec.out.2.2.2.1.wc hs)
      rw [rRes_gR hch] at HRG
      have HBT := hid (gR_bit st.lo st.hi st.co st.i (st.ch.getD I 0) t)
      have HGG : Hid (gG B t st s = gR st.lo st.hi st.co t st.i (st.ch.getD I 0)) := by
        show _ = _
        unfold gG
        rw [HPY.out]
      have CI := hid (HC1.out.cell I (by rw [hchl.out]; exact hIN2))
      have HLE := hid (And.intro hIN2 hT)
      generalize hYe : st.ch.getD I 0 = Y at *
      have HYe := hid hYe
      generalize hGR : gR st.lo st.hi st.co t st.i Y = GR at *
      obtain ⟨BT, PX, PY, PC, PI⟩ := GR
      simp only at HRG HBT
      have HNX2 : Hid (gN B t st s = ⟨PX, PY, PC, PI, st.ch.set I (lrn Y BT)⟩) := by
        show _ = _
        unfold gN
        rw [HGG.out, HPY.out, hT, Int.toNat_natCast, hI]
      have HGO : Hid (GsOk N (gN B t st s)) := hrec.out.2.2.2.1.step (by rw [hT, Int.toNat_natCast]; omega)
      unfold rV at HRG
      have HPA := hid hch
      clear hn hGR hYe hch hsl HOU hI hT
      go_wp2_with fail
      refine HNX.out.mono ?_
      rintro e wq ⟨rfl, n, rfl⟩
      have D1 := hid (below_drewN wr n)
      have J0 := hid (H0.out.below D1.out H0.out.lt)
      have J1 := hid (H1.out.below D1.out H1.out.lt)
      have J2 := hid (H2.out.below D1.out H2.out.lt)
      have JC := hid (HC1.out.kept (fun l hl => hl.below D1.out hl.lt))
      have JO := hid (HO.out.below D1.out)
      have JE := hid (HE.out.drewN n)
      have ci : (wr.drewN n).cell? ⟨g, I, none⟩ = some (.int .i64 Y) := CI.out
      clear D1 H0 H1 H2 HC1 HO HE HNX CI
      generalize wr.drewN n = wq at *
      have c0 := J0.out.cell (i := 0) rfl
      have c1 := J0.out.cell (i := 1) rfl
      have c2 := J0.out.cell (i := 2) rfl
      have c3 := J0.out.cell (i := 3) rfl
      have c4 := J0.out.cell (i := 4) rfl
      have m0 := J1.out.cell (i := 0) rfl
      have hl0 : w.heap.size < wq.heap.size := J0.out.lt
      have hl1 : w.heap.size + 1 < wq.heap.size := J1.out.lt
      have hlg : g < wq.heap.size := JC.out.lt
      have e0 : ¬ w.heap.size = wq.heap.size := Nat.ne_of_lt hl0
      have e0' : ¬ wq.heap.size = w.heap.size := fun e => e0 e.symm
      have e1 : ¬ w.heap.size + 1 = wq.heap.size := Nat.ne_of_lt hl1
      have e1' : ¬ wq.heap.size = w.heap.size + 1 := fun e => e1 e.symm
      have eg : ¬ g = wq.heap.size := Nat.ne_of_lt hlg
      have eg' : ¬ wq.heap.size = g := fun e => eg e.symm
      have HZ0 : Hid (Blk (wq.alloc (.cells #[.int .u32 0, .int .u32 0, .int .u32 0, .string ⟨#[]⟩, .int .i64 0] 38)).drew wq.heap.size [.int .u32 0, .int .u32 0, .int .u32 0, .string ⟨#[]⟩, .int .i64 0] 38) := Blk.new wq [.int .u32 0, .int .u32 0, .int .u32 0, .string ⟨#[]⟩, .int .i64 0] 38
      have HZB : Hid (Below wq.heap.size wq (wq.alloc (.cells #[.int .u32 0, .int .u32 0, .int .u32 0, .string ⟨#[]⟩, .int .i64 0] 38)).drew) := belowN ((Below.refl wq.heap.size wq).alloc (Nat.le_refl _) _) 1
      go_wp2_with fail
      go_cut [13, 14] from 28 to 37 (fun p q wx => ∃ NB, p = .pointer (some ⟨NB, 0, none⟩) ∧ q = .int .i64 BT ∧ Blk wx NB [.int .u32 PX, .int .u32 PY, .int .u32 PC, .string t, .int .i64 PI] 38 ∧ wq.heap.size ≤ NB ∧ Below wq.heap.size wq wx)
      case first =>
        go_region_with (first
          | (go_at_call 79; refine (HRG.out ((wq.alloc (.cells #[.int .u32 0, .int .u32 0, .int .u32 0, .string ⟨#[]⟩, .int .i64 0] 38)).drew)).mono ?_; rintro e w6 ⟨rfl, hb6⟩; have HZ2 := hid (HZ0.out.below hb6 HZ0.out.lt); have d0 := HZ2.out.cell (i := 0) rfl; have d1 := HZ2.out.cell (i := 1) rfl; have d2 := HZ2.out.cell (i := 2) rfl; have d3 := HZ2.out.cell (i := 3) rfl; have d4 := HZ2.out.cell (i := 4) rfl; have f0 := HZ2.out.free 0; have f1 := HZ2.out.free 1; have f2 := HZ2.out.free 2; have f3 := HZ2.out.free 3; have f4 := HZ2.out.free 4; have hb7 := HZB.out.trans (hb6.mono HZB.out.size))
          | (go_at_call 79; refine (HRG.out wq.drew).mono ?_; rintro e w6 ⟨rfl, hb6⟩; have hb7 := (belowN (Below.refl wq.heap.size wq) 1).trans hb6))
        all_goals
          go_wp2_with fail
          go_meet
          have hsz6 := hb7.size
          first
            | (refine ⟨w6.heap.size, ?_, ?_⟩
               · with_reducible rfl
               · exact ⟨rfl, Blk.new w6 [.int .u32 PX, .int .u32 PY, .int .u32 PC, .string t, .int .i64 PI] 38, hsz6, hb7.alloc hsz6 _⟩)
            | (refine ⟨wq.heap.size, ?_, ?_⟩
               · with_reducible rfl
               · exact ⟨rfl, ((((HZ2.out.set 0 _).set 1 _).set 2 _).set 3 _).set 4 _, Nat.le_refl _, ((((hb7.setCell (p := ⟨wq.heap.size, 0, none⟩) (Nat.le_refl _) _).setCell (p := ⟨wq.heap.size, 1, none⟩) (Nat.le_refl _) _).setCell (p := ⟨wq.heap.size, 2, none⟩) (Nat.le_refl _) _).setCell (p := ⟨wq.heap.size, 3, none⟩) (Nat.le_refl _) _).setCell (p := ⟨wq.heap.size, 4, none⟩) (Nat.le_refl _) _⟩)
      case rest =>
        obtain ⟨NB, rfl, rfl, hN, hNge, hbx⟩ := hcut
        generalize hwc : wc = w5 at *
        clear hwc
        have L0 := hid (J0.out.below hbx J0.out.lt)
        have L1 := hid (J1.out.below hbx J1.out.lt)
        have L2 := hid (J2.out.below hbx J2.out.lt)
        have LC := hid (JC.out.kept (fun l hl => hl.below hbx hl.lt))
        have LO := hid (JO.out.below hbx)
        have LE := hid (JE.out.trans (Ef.ofBelow hbx))
        have HN := hid hN
        have hNw : w.heap.size < NB := by omega
        clear c0 c1 c2 c3 c4 m0 ci hl0 hl1 hlg e0 e0' e1 e1' eg eg' HZ0 HZB J0 J1 J2 JC JO JE hN hNge hbx HRG
        by_cases hneg : BT < 0
        · have hB1 : BT = -1 := by rcases HBT.out with h | h | h <;> omega
          have HRE : Hid (R = none) := by
            have h1 := hrec.out.1
            rw [getF, if_neg h4, if_pos (by rw [HGG.out]; exact hneg)] at h1
            exact h1.symm
          clear HNX2 HGO HGG HPY h4 hB1
          have c0 := L0.out.cell (i := 0) rfl
          have c1 := L0.out.cell (i := 1) rfl
          have c2 := L0.out.cell (i := 2) rfl
          have c3 := L0.out.cell (i := 3) rfl
          have c4 := L0.out.cell (i := 4) rfl
          have r0 := L2.out.cell (i := 0) rfl
          have r1 := L2.out.cell (i := 1) rfl
          have r2 := L2.out.cell (i := 2) rfl
          have r3 := L2.out.cell (i := 3) rfl
          have r4 := L2.out.cell (i := 4) rfl
          have y0 := L2.out.free 0
          have y1 := L2.out.free 1
          have y2 := L2.out.free 2
          have y3 := L2.out.free 3
          have y4 := L2.out.free 4
          go_wp2_with fail
          refine bodyPost_ret (v := .tuple #[.agg #[.int .u32 st.lo, .int .u32 st.hi, .int .u32 st.co, .string t, .int .i64 st.i], .int .i64 0, .bool false]) (by simp [results, Try.results58, go_sem, r0, r1, r2, r3, r4]) rfl ?_
          refine HQ.out _ _ ⟨?_, .inl ⟨HRE.out, _, _, _, _, _, rfl⟩⟩
          exact (((((LE.out.setNew (B := w.heap.size + 1 + 1) (by omega) 0 _).setNew (B := w.heap.size + 1 + 1) (by omega) 1 _).setNew (B := w.heap.size + 1 + 1) (by omega) 2 _).setNew (B := w.heap.size + 1 + 1) (by omega) 3 _).setNew (B := w.heap.size + 1 + 1) (by omega) 4 _)
        · have hb01 : BT = 0 ∨ BT = 1 := by rcases HBT.out with h | h | h <;> omega
          have HGF : Hid (getF B t f' ⟨PX, PY, PC, PI, st.ch.set I (lrn Y BT)⟩ (wkTake s BT) = R) := by
            have h1 := hrec.out.1
            rw [getF, if_neg h4, if_neg (by rw [HGG.out]; exact hneg), HGG.out] at h1
            rw [HNX2.out] at h1
            exact h1
          have HKO := hid (rank_take hrec.out.2.2.1 h4 hb01)
          have HWO := hid (hrec.out.2.2.1.take hb01)
          have HOV := hid (over_snoc hrec.out.2.2.2.2.1 ((isBi_iff BT).2 hb01) h4)
          have HGO2 : Hid (GsOk N ⟨PX, PY, PC, PI, st.ch.set I (lrn Y BT)⟩) := HNX2.out ▸ HGO.out
          have HLN := hid hrec.out.2.2.2.2.2
          have HRK := hid hrec.out.2.1
          have q0 := (L0.out.set 0 (.int .u32 PX))
          have Q0 := hid ((((q0.set 1 (.int .u32 PY)).set 2 (.int .u32 PC)).set 3 (.string t)).set 4 (.int .i64 PI))
          clear q0 hrec HNX2 HGO HGG HPY h4 HBT HPA
          have c0 := L0.out.cell (i := 0) rfl
          have c1 := L0.out.cell (i := 1) rfl
          have c2 := L0.out.cell (i := 2) rfl
          have c3 := L0.out.cell (i := 3) rfl
          have c4 := L0.out.cell (i := 4) rfl
          have z0 := L0.out.free 0
          have z1 := L0.out.free 1
          have z2 := L0.out.free 2
          have z3 := L0.out.free 3
          have z4 := L0.out.free 4
          have k0 := HN.out.cell (i := 0) rfl
          have k1 := HN.out.cell (i := 1) rfl
          have k2 := HN.out.cell (i := 2) rfl
          have k3 := HN.out.cell (i := 3) rfl
          have k4 := HN.out.cell (i := 4) rfl
          have hn1 : w.heap.size + 1 ≠ w.heap.size := Nat.succ_ne_self _
          have hn2 : w.heap.size + 1 + 1 ≠ w.heap.size := by omega
          have hng : g ≠ w.heap.size := Nat.ne_of_lt hglt.out
          have hwb : w.heap.size < w.heap.size + 1 + 1 + 1 := by omega
          have Q1 := hid (((((L1.out.other (a := ⟨w.heap.size, 0, none⟩) hn1 (.int .u32 PX)).other (a := ⟨w.heap.size, 1, none⟩) hn1 (.int .u32 PY)).other (a := ⟨w.heap.size, 2, none⟩) hn1 (.int .u32 PC)).other (a := ⟨w.heap.size, 3, none⟩) hn1 (.string t)).other (a := ⟨w.heap.size, 4, none⟩) hn1 (.int .i64 PI))
          have Q2 := hid (((((L2.out.other (a := ⟨w.heap.size, 0, none⟩) hn2 (.int .u32 PX)).other (a := ⟨w.heap.size, 1, none⟩) hn2 (.int .u32 PY)).other (a := ⟨w.heap.size, 2, none⟩) hn2 (.int .u32 PC)).other (a := ⟨w.heap.size, 3, none⟩) hn2 (.string t)).other (a := ⟨w.heap.size, 4, none⟩) hn2 (.int .i64 PI))
          have QC := hid (LC.out.kept (fun l hl => (((((hl.other (a := ⟨w.heap.size, 0, none⟩) hng (.int .u32 PX)).other (a := ⟨w.heap.size, 1, none⟩) hng (.int .u32 PY)).other (a := ⟨w.heap.size, 2, none⟩) hng (.int .u32 PC)).other (a := ⟨w.heap.size, 3, none⟩) hng (.string t)).other (a := ⟨w.heap.size, 4, none⟩) hng (.int .i64 PI))))
          have QO := hid (((((LO.out.setCell_below (a := ⟨w.heap.size, 0, none⟩) hwb (.int .u32 PX)).setCell_below (a := ⟨w.heap.size, 1, none⟩) hwb (.int .u32 PY)).setCell_below (a := ⟨w.heap.size, 2, none⟩) hwb (.int .u32 PC)).setCell_below (a := ⟨w.heap.size, 3, none⟩) hwb (.string t)).setCell_below (a := ⟨w.heap.size, 4, none⟩) hwb (.int .i64 PI))
          have QE := hid (((((LE.out.setNew (B := w.heap.size) (Nat.le_refl _) 0 (.int .u32 PX)).setNew (B := w.heap.size) (Nat.le_refl _) 1 (.int .u32 PY)).setNew (B := w.heap.size) (Nat.le_refl _) 2 (.int .u32 PC)).setNew (B := w.heap.size) (Nat.le_refl _) 3 (.string t)).setNew (B := w.heap.size) (Nat.le_refl _) 4 (.int .i64 PI))
          clear hwb hn1 hn2
          go_wp2_with fail
          generalize ((((w5.setCell ⟨w.heap.size, 0, none⟩ (.int .u32 PX)).setCell ⟨w.heap.size, 1, none⟩ (.int .u32 PY)).setCell ⟨w.heap.size, 2, none⟩ (.int .u32 PC)).setCell ⟨w.heap.size, 3, none⟩ (.string t)).setCell ⟨w.heap.size, 4, none⟩ (.int .i64 PI) = w6 at *
          clear c0 c1 c2 c3 c4 z0 z1 z2 z3 z4 k0 k1 k2 k3 k4 L0 L1 L2 LC LO LE HN
          have m9 := Q1.out.cell (i := 0) rfl
          have ci9 : w6.cell? ⟨g, I, none⟩ = some (.int .i64 Y) := by
            have h1 := QC.out.cell I (by rw [hchl.out]; exact HLE.out.1)
            rw [HYe.out] at h1
            exact h1
          have fi9 := QC.out.free I
          have hwg1 : w.heap.size + 1 ≠ g := by have := hglt.out; omega
          have hwg2 : w.heap.size + 1 + 1 ≠ g := by have := hglt.out; omega
          have R0 : Hid (Blk (w6.setCell ⟨g, I, none⟩ (.int .i64 (lrn Y BT))).drew w.heap.size [.int .u32 PX, .int .u32 PY, .int .u32 PC, .string t, .int .i64 PI] 38) := Q0.out.other (a := ⟨g, I, none⟩) (fun e => hng e.symm) _
          have R1 : Hid (Blk (w6.setCell ⟨g, I, none⟩ (.int .i64 (lrn Y BT))).drew (w.heap.size + 1) [.slice (some ⟨g, 0, none⟩) N cap] 27) := Q1.out.other (a := ⟨g, I, none⟩) hwg1 _
          have R2 : Hid (Blk (w6.setCell ⟨g, I, none⟩ (.int .i64 (lrn Y BT))).drew (w.heap.size + 1 + 1) [.int .u32 0, .int .u32 0, .int .u32 0, .string ⟨#[]⟩, .int .i64 0] 38) := Q2.out.other (a := ⟨g, I, none⟩) hwg2 _
          have RC : Hid (Nums cap (w6.setCell ⟨g, I, none⟩ (.int .i64 (lrn Y BT))).drew g (st.ch.set I (lrn Y BT))) := QC.out.set I _
          have RO : Hid (Own (w6.setCell ⟨g, I, none⟩ (.int .i64 (lrn Y BT))).drew (w.heap.size + 1 + 1 + 1) 3 .i64 (.slice pa P.length pc) P) := QO.out.setCell_below (a := ⟨g, I, none⟩) (by have := hglt.out; show g < w.heap.size + 1 + 1 + 1; omega) _
          have RE : Hid (Ef g w (w6.setCell ⟨g, I, none⟩ (.int .i64 (lrn Y BT))).drew) := (QE.out.trans (Ef.set w6 I _)).drewN 1
          clear Q0 Q1 Q2 QC QO QE hwg1 hwg2 hng
          have hlen : P.length < 1000000000000 := by have := hPl.out; omega
          go_region_with (go_at_call 77; refine (spec_learn _ _ _).mono ?_; rintro e wz ⟨rfl, rfl⟩)
          all_goals
            clear m9 ci9 fi9
            generalize (w6.setCell ⟨g, I, none⟩ (.int .i64 (lrn Y BT))).drew = wz at *
            go_wp2_with (at_builtin; refine wpList_push _ rfl _ _ 24 rfl _ 3 .i64 0 8 Try.underlying24 Try.info3 _ _ rfl RO.out BT rfl hlen (by decide) ?_)
            intro v9 w9 ho9 hb9
            obtain ⟨s9, c9, rfl⟩ := ho9.shape
            have HO9 := hid ho9
            have HB9 := hid hb9
            have hk : ∀ {b : Nat} {l : List Value} {t : TypeId}, b < w.heap.size + 1 + 1 + 1 → Blk wz b l t → Blk w9 b l t := fun hb h => h.below HB9.out hb
            clear ho9 hb9
            go_wp2_with fail
            go_roundw
            case rel => exact ⟨f', ⟨PX, PY, PC, PI, st.ch.set I (lrn Y BT)⟩, wkTake s BT, P ++ [BT], ⟨HGF.out, by have := HKO.out; have := HRK.out; omega, HWO.out, HGO2.out, HOV.out, by have := HLN.out; simp; omega⟩, hk (by omega) R0.out, hk (by omega) R1.out, hk (by omega) R2.out, RC.out.kept (fun l hl => hk (by have := hglt.out; omega) hl), HO9.out, RE.out.app HB9.out (by omega)⟩
            case measure =>
              have h1 := HLN.out
              simp
              omega
end Go.Proofs.Ytimafabbepgifaa
