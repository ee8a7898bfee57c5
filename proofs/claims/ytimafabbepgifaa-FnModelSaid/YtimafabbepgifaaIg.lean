/- The contract of the program's ModelGet where the number is read. -/
import Derived.Test.YtimafabbepgifaaGw
import Derived.Test.YtimafabbepgifaaIm
namespace Go.Proofs.Ytimafabbepgifaa
open Go.RowKit
set_option linter.unusedVariables false

set_option maxRecDepth 100000 in
set_option maxHeartbeats 3200000 in
theorem impl_mget_yes (lo hi co : Int) (t : ByteArray) (i : Int) (v : Value) (ch : List Int) (B : Nat) (st : GS) (sw : Wk) (w : World) (hl : W32 lo) (hh : W32 hi) (hc : W32 co) (hM : okM ch = true) (hBN : B + 24 ≤ ch.length) (hv : Vp w v ch) (hG : getF B t 31 ⟨lo, hi, co, i, ch⟩ wk0 = some (st, sw)) :
    Calls Try.prog 14 #[rV lo hi co t i, .agg #[v], .int .i64 B] w fun e w' => ∃ v', e = .returned (.tuple #[rV st.lo st.hi st.co t st.i, .agg #[v'], .int .i64 (wkNum sw), .bool true]) ∧ Own w' w.heap.size 3 .i64 v' st.ch ∧ Below w.heap.size w w' := by
  have hMM := of_decide_eq_true hM
  have hn : ch.length ≤ 1200 := hMM.1
  have HCM := hid (fun q hq => copy_model v ch q (by omega) (hv.below (Nat.le_refl _) hq))
  have HMO : Hid (∀ q, Below w.heap.size w q → Calls Try.prog 11 #[.agg #[v]] q fun e w' => e = .returned (.bool true) ∧ Below q.heap.size q w') := fun q hq => by
    have := impl_modelOk v ch q (hv.below (Nat.le_refl _) hq).vw
    rw [hM] at this
    exact this
  have HHB : Hid (∀ q, Below w.heap.size w q → Calls Try.prog 36 #[.agg #[v], .int .i64 B] q fun e w' => e = .returned (.bool true) ∧ Below q.heap.size q w') := fun q hq => by
    have := has_base v ch B q (by omega) (hv.below (Nat.le_refl _) hq).vw
    rw [decide_eq_true (by omega)] at this
    exact this
  have HRF := hid (fun q => reader_from lo hi co t i q)
  obtain ⟨ao, cap, rfl, hv1, hv2, hv3⟩ := hv
  unfold rV at *
  clear hv1 hv2 hv3 hMM
  obtain ⟨n0, n1, n2, n3, n4⟩ := new_four w [.int .u32 lo, .int .u32 hi, .int .u32 co, .string t, .int .i64 i] [.slice ao ch.length cap] [.int .u32 0, .int .u32 0, .int .u32 0, .string ⟨#[]⟩, .int .i64 0] [.slice none 0 0] 38 27 38 27
  have N4 := hid n4
  have BS0 : Hid (Bs ((((w.alloc (.cells #[.int .u32 lo, .int .u32 hi, .int .u32 co, .string t, .int .i64 i] 38)).alloc (.cells #[.slice ao ch.length cap] 27)).alloc (.cells #[.int .u32 0, .int .u32 0, .int .u32 0, .string ⟨#[]⟩, .int .i64 0] 38)).alloc (.cells #[.slice none 0 0] 27)) [(w.heap.size, [.int .u32 lo, .int .u32 hi, .int .u32 co, .string t, .int .i64 i], 38), (w.heap.size + 1, [.slice ao ch.length cap], 27), (w.heap.size + 1 + 1, [.int .u32 0, .int .u32 0, .int .u32 0, .string ⟨#[]⟩, .int .i64 0], 38), (w.heap.size + 1 + 1 + 1, [.slice none 0 0], 27)]) := by
    intro y hy
    simp only [List.mem_cons, List.not_mem_nil, or_false] at hy
    rcases hy with rfl | rfl | rfl | rfl
    · exact n0
    · exact n1
    · exact n2
    · exact n3
  have hw0 := hid n3.lt
  clear n0 n1 n2 n3 n4
  generalize hCL : ch.length = CL at *
  have HCL := hid hCL
  clear hCL
  go_enter Try.func14, Try.ntmps14
  go_wp2_with fail
  refine (HMO.out _ N4.out).mono ?_
  generalize (((w.alloc (.cells #[.int .u32 lo, .int .u32 hi, .int .u32 co, .string t, .int .i64 i] 38)).alloc (.cells #[.slice ao CL cap] 27)).alloc (.cells #[.int .u32 0, .int .u32 0, .int .u32 0, .string ⟨#[]⟩, .int .i64 0] 38)).alloc (.cells #[.slice none 0 0] 27) = w0 at *
  rintro e w1 ⟨rfl, hb1⟩
  have BS1 := hid (BS0.out.below hb1)
  have A1 := hid (N4.out.trans (hb1.mono N4.out.size))
  have hw1 := hid (Nat.lt_of_lt_of_le hw0.out hb1.size)
  have m1 := (BS1.out.get (b := w.heap.size + 1) (l := [.slice ao CL cap]) (t := 27) (by simp)).cell (i := 0) rfl
  clear hb1 BS0 N4 hw0
  go_wp2_with fail
  refine (HHB.out _ A1.out).mono ?_
  rintro e w2 ⟨rfl, hb2⟩
  have BS2 := hid (BS1.out.below hb2)
  have A2 := hid (A1.out.trans (hb2.mono A1.out.size))
  have hw2 := hid (Nat.lt_of_lt_of_le hw1.out hb2.size)
  have m2 := (BS2.out.get (b := w.heap.size + 1) (l := [.slice ao CL cap]) (t := 27) (by simp)).cell (i := 0) rfl
  clear hb2 BS1 A1 m1 hw1
  go_wp2_with fail
  refine (HCM.out _ A2.out).mono ?_
  rintro e w3 ⟨v1, rfl, ho1, hb3⟩
  obtain ⟨g, gc, rfl, hg0, hg1, hgc1, hgc2⟩ : ∃ g gc, v1 = .slice (some ⟨g, 0, none⟩) CL gc ∧ w2.heap.size ≤ g ∧ g < w3.heap.size ∧ CL ≤ gc ∧ gc ≤ maxLen := by
    rcases ho1.2.2 with ⟨e2, h0⟩ | ⟨g', cap', cur, e2, hg, hh, hle, hm, _⟩
    · have := HCL.out
      omega
    · rw [HCL.out] at e2 hle
      exact ⟨g', cap', e2, hg, (Array.getElem?_eq_some_iff.1 hh).1, hle, hm⟩
  have NA := hid ((Below.refl w3.heap.size w3).alloc (Nat.le_refl _) (.cells #[.slice (some ⟨g, 0, none⟩) CL gc] 27))
  have C1 := hid (hb3.trans (NA.out.mono hb3.size))
  have BS4 : Hid (Bs (w3.alloc (.cells #[.slice (some ⟨g, 0, none⟩) CL gc] 27)) [(w.heap.size, [.int .u32 lo, .int .u32 hi, .int .u32 co, .string t, .int .i64 i], 38), (w.heap.size + 1, [.slice ao CL cap], 27), (w.heap.size + 1 + 1, [.int .u32 0, .int .u32 0, .int .u32 0, .string ⟨#[]⟩, .int .i64 0], 38), (w.heap.size + 1 + 1 + 1, [.slice none 0 0], 27), (w3.heap.size, [.slice (some ⟨g, 0, none⟩) CL gc], 27)]) := by
    intro y hy
    have h1 := BS2.out.below C1.out
    simp only [List.mem_cons, List.not_mem_nil, or_false] at hy
    rcases hy with rfl | rfl | rfl | rfl | rfl
    · exact h1 _ (by simp)
    · exact h1 _ (by simp)
    · exact h1 _ (by simp)
    · exact h1 _ (by simp)
    · exact Blk.new w3 [.slice (some ⟨g, 0, none⟩) CL gc] 27
  have A4 := hid (A2.out.trans (C1.out.mono A2.out.size))
  have GA4 := hid (ho1.nums.kept (fun l hl => hl.below NA.out hl.lt))
  have HGC := hid (And.intro hgc1 hgc2)
  have HG0 := hid (show w.heap.size + 1 + 1 + 1 < g by have := hw2.out; omega)
  have hAB := hid hg1
  have BP := BS2.out.below hb3
  have k0 := (BP.get (b := w.heap.size) (l := [.int .u32 lo, .int .u32 hi, .int .u32 co, .string t, .int .i64 i]) (t := 38) (by simp)).cell (i := 0) rfl
  have k1 := (BP.get (b := w.heap.size) (l := [.int .u32 lo, .int .u32 hi, .int .u32 co, .string t, .int .i64 i]) (t := 38) (by simp)).cell (i := 1) rfl
  have k2 := (BP.get (b := w.heap.size) (l := [.int .u32 lo, .int .u32 hi, .int .u32 co, .string t, .int .i64 i]) (t := 38) (by simp)).cell (i := 2) rfl
  have k3 := (BP.get (b := w.heap.size) (l := [.int .u32 lo, .int .u32 hi, .int .u32 co, .string t, .int .i64 i]) (t := 38) (by simp)).cell (i := 3) rfl
  have k4 := (BP.get (b := w.heap.size) (l := [.int .u32 lo, .int .u32 hi, .int .u32 co, .string t, .int .i64 i]) (t := 38) (by simp)).cell (i := 4) rfl
  have hlt3 : w.heap.size < w3.heap.size := (BP.get (b := w.heap.size) (l := [.int .u32 lo, .int .u32 hi, .int .u32 co, .string t, .int .i64 i]) (t := 38) (by simp)).lt
  have hne3 : ¬ w.heap.size = w3.heap.size := Nat.ne_of_lt hlt3
  have hne3' : ¬ w3.heap.size = w.heap.size := fun e => hne3 e.symm
  have c0 := (BS4.out.get (b := w.heap.size) (l := [.int .u32 lo, .int .u32 hi, .int .u32 co, .string t, .int .i64 i]) (t := 38) (by simp)).cell (i := 0) rfl
  have c1 := (BS4.out.get (b := w.heap.size) (l := [.int .u32 lo, .int .u32 hi, .int .u32 co, .string t, .int .i64 i]) (t := 38) (by simp)).cell (i := 1) rfl
  have c2 := (BS4.out.get (b := w.heap.size) (l := [.int .u32 lo, .int .u32 hi, .int .u32 co, .string t, .int .i64 i]) (t := 38) (by simp)).cell (i := 2) rfl
  have c3 := (BS4.out.get (b := w.heap.size) (l := [.int .u32 lo, .int .u32 hi, .int .u32 co, .string t, .int .i64 i]) (t := 38) (by simp)).cell (i := 3) rfl
  have c4 := (BS4.out.get (b := w.heap.size) (l := [.int .u32 lo, .int .u32 hi, .int .u32 co, .string t, .int .i64 i]) (t := 38) (by simp)).cell (i := 4) rfl
  clear BP ho1 hb3 NA C1 BS2 A2 m2 hw2 hg0 hg1 hgc1 hgc2
  go_wp2_with fail
  refine (HRF.out _).mono ?_
  generalize w3.alloc (.cells #[.slice (some ⟨g, 0, none⟩) CL gc] 27) = w4 at *
  generalize w3.heap.size = AB at *
  clear k0 k1 k2 k3 k4 hlt3 hne3 hne3' c0 c1 c2 c3 c4
  rintro e w6 ⟨rfl, hb6⟩
  have NW := hid ((Below.refl w6.heap.size w6).alloc (Nat.le_refl _) (.cells #[.int .u32 lo, .int .u32 hi, .int .u32 co, .string t, .int .i64 i] 81))
  have hN0 := hid (Blk.new w6 [.int .u32 lo, .int .u32 hi, .int .u32 co, .string t, .int .i64 i] 81)
  have hbx0 := hid (hb6.trans (NW.out.mono hb6.size))
  have a6 := ((BS4.out.below hb6).get (b := AB) (l := [.slice (some ⟨g, 0, none⟩) CL gc]) (t := 27) (by simp)).cell (i := 0) rfl
  have hal : AB < w4.heap.size := (BS4.out.get (b := AB) (l := [.slice (some ⟨g, 0, none⟩) CL gc]) (t := 27) (by simp)).lt
  have hal6 : AB < w6.heap.size := Nat.lt_of_lt_of_le hal hb6.size
  have han6 : ¬ AB = w6.heap.size := Nat.ne_of_lt hal6
  have han6' : ¬ w6.heap.size = AB := fun e => han6 e.symm
  have hNge := hb6.size
  have hBI0 : (0 : Int) ≤ (B : Int) := by omega
  have hBI1 : (B : Int) ≤ (CL : Int) := by omega
  have hcg : (CL : Int) ≤ (gc : Int) := by have := HGC.out.1; omega
  clear hb6 NW
  go_wp2_with fail
  generalize w6.alloc (.cells #[.int .u32 lo, .int .u32 hi, .int .u32 co, .string t, .int .i64 i] 81) = wc at *
  generalize w6.heap.size = N at *
  have hN := hN0.out
  have hbx := hbx0.out
  clear hN0 hbx0 a6 hBI0 hBI1 hcg
  have BSx := hid (BS4.out.below hbx)
  have Ax := hid (A4.out.trans (hbx.mono A4.out.size))
  have Gx := hid (GA4.out.kept (fun l hl => hl.below hbx hl.lt))
  have hgN : g < N := by have := GA4.out.lt; omega
  have hABN : AB < N := by omega
  have hcN : w.heap.size + 1 + 1 + 1 < N := by have := HG0.out; omega
  have HGN := hid (get_num N g gc CL B (CL - B) (gc - B) t ⟨lo, hi, co, i, ch⟩ wc hn hBN (by omega) hgN ⟨hl, hh, hc, HCL.out, (of_decide_eq_true hM).2⟩ hN Gx.out)
  rw [hG] at HGN
  clear hal hal6 han6 han6' BS4 A4 GA4 HCM HMO HHB HRF hbx hN hl hh hc hM hG
  refine HGN.out.mono ?_
  rintro e w7 ⟨⟨hB7, hK7⟩, h7⟩
  rcases h7 with ⟨h7, _⟩ | ⟨st7, s7, e7, hok7, hgs7, rfl, hW7, hC7⟩
  · cases h7
  · simp only [Option.some.injEq, Prod.mk.injEq] at e7
    obtain ⟨rfl, rfl⟩ := e7
    have BS7 := hid (BSx.out.kq hK7 (by
      intro y hy
      simp only [List.mem_cons, List.not_mem_nil, or_false] at hy
      have h1 := HG0.out
      have h2 := hAB.out
      rcases hy with rfl | rfl | rfl | rfl | rfl <;> refine ⟨?_, ?_, ?_⟩ <;> simp <;> omega))
    have A7 := hid (Ax.out.trans (hB7.mono (by have := HG0.out; omega)))
    have C7 := hid hC7
    have HLN := hid hgs7.ln
    have HFA := hid (fun q hq => face_any [] 81 N st.lo st.hi st.co t st.i q hq)
    have W7 := hid hW7
    clear hW7 hC7 hB7 hK7 HGN BSx Ax Gx
    unfold rV at HFA
    have a7 := (BS7.out.get (b := AB) (l := [.slice (some ⟨g, 0, none⟩) CL gc]) (t := 27) (by simp)).cell (i := 0) rfl
    have hx2 : ¬ AB = w.heap.size + 1 + 1 := by have := hAB.out; have := HG0.out; omega
    have hx3 : ¬ AB = w.heap.size + 1 + 1 + 1 := by have := hAB.out; have := HG0.out; omega
    have hx2' : ¬ w.heap.size + 1 + 1 = AB := fun e => hx2 e.symm
    have hx3' : ¬ w.heap.size + 1 + 1 + 1 = AB := fun e => hx3 e.symm
    have D7 := hid (below_drewN w7 1)
    go_wp2_with fail
    go_region_with (go_at_call 44; refine (HFA.out w7.drew (W7.out.below D7.out W7.out.lt)).mono ?_; rintro e w8 ⟨rfl, hb8⟩; have E8 := hid (D7.out.trans hb8); have BS8 := hid (BS7.out.below E8.out); have r0 := (BS8.out.get (b := w.heap.size + 1 + 1) (l := [.int .u32 0, .int .u32 0, .int .u32 0, .string ⟨#[]⟩, .int .i64 0]) (t := 38) (by simp)).cell (i := 0) rfl; have y0 := (BS8.out.get (b := w.heap.size + 1 + 1) (l := [.int .u32 0, .int .u32 0, .int .u32 0, .string ⟨#[]⟩, .int .i64 0]) (t := 38) (by simp)).free 0; have r1 := (BS8.out.get (b := w.heap.size + 1 + 1) (l := [.int .u32 0, .int .u32 0, .int .u32 0, .string ⟨#[]⟩, .int .i64 0]) (t := 38) (by simp)).cell (i := 1) rfl; have y1 := (BS8.out.get (b := w.heap.size + 1 + 1) (l := [.int .u32 0, .int .u32 0, .int .u32 0, .string ⟨#[]⟩, .int .i64 0]) (t := 38) (by simp)).free 1; have r2 := (BS8.out.get (b := w.heap.size + 1 + 1) (l := [.int .u32 0, .int .u32 0, .int .u32 0, .string ⟨#[]⟩, .int .i64 0]) (t := 38) (by simp)).cell (i := 2) rfl; have y2 := (BS8.out.get (b := w.heap.size + 1 + 1) (l := [.int .u32 0, .int .u32 0, .int .u32 0, .string ⟨#[]⟩, .int .i64 0]) (t := 38) (by simp)).free 2; have r3 := (BS8.out.get (b := w.heap.size + 1 + 1) (l := [.int .u32 0, .int .u32 0, .int .u32 0, .string ⟨#[]⟩, .int .i64 0]) (t := 38) (by simp)).cell (i := 3) rfl; have y3 := (BS8.out.get (b := w.heap.size + 1 + 1) (l := [.int .u32 0, .int .u32 0, .int .u32 0, .string ⟨#[]⟩, .int .i64 0]) (t := 38) (by simp)).free 3; have r4 := (BS8.out.get (b := w.heap.size + 1 + 1) (l := [.int .u32 0, .int .u32 0, .int .u32 0, .string ⟨#[]⟩, .int .i64 0]) (t := 38) (by simp)).cell (i := 4) rfl; have y4 := (BS8.out.get (b := w.heap.size + 1 + 1) (l := [.int .u32 0, .int .u32 0, .int .u32 0, .string ⟨#[]⟩, .int .i64 0]) (t := 38) (by simp)).free 4; have m0 := (BS8.out.get (b := w.heap.size + 1 + 1 + 1) (l := [.slice none 0 0]) (t := 27) (by simp)).cell (i := 0) rfl; have z0 := (BS8.out.get (b := w.heap.size + 1 + 1 + 1) (l := [.slice none 0 0]) (t := 27) (by simp)).free 0; have a8 := (BS8.out.get (b := AB) (l := [.slice (some ⟨g, 0, none⟩) CL gc]) (t := 27) (by simp)).cell (i := 0) rfl)
    all_goals
      have C8 := hid (C7.out.kept (fun l hl => hl.below E8.out hl.lt))
      have A8 := hid (A7.out.trans (E8.out.mono A7.out.size))
      have hga : g ≠ w.heap.size + 1 + 1 := by have := HG0.out; omega
      have hgb : g ≠ w.heap.size + 1 + 1 + 1 := by have := HG0.out; omega
      clear hb8 E8 HFA D7 a7
      go_wp2_with fail
      refine bodyPost_ret (v := .tuple #[.agg #[.int .u32 st.lo, .int .u32 st.hi, .int .u32 st.co, .string t, .int .i64 st.i], .agg #[.slice (some ⟨g, 0, none⟩) CL gc], .int .i64 (wkNum sw), .bool true]) (by simp [results, Try.results14, go_sem, r0, r1, r2, r3, r4, m0]) rfl ?_
      refine ⟨_, rfl, ?_, ?_⟩
      · have h1 := C8.out.own (base := w.heap.size) (by have := HG0.out; omega) (by rw [HLN.out]; exact HGC.out.1) HGC.out.2
        rw [HLN.out] at h1
        exact ((((((h1.other (a := ⟨w.heap.size + 1 + 1, 0, none⟩) hga _).other (a := ⟨w.heap.size + 1 + 1, 1, none⟩) hga _).other (a := ⟨w.heap.size + 1 + 1, 2, none⟩) hga _).other (a := ⟨w.heap.size + 1 + 1, 3, none⟩) hga _).other (a := ⟨w.heap.size + 1 + 1, 4, none⟩) hga _).other (a := ⟨w.heap.size + 1 + 1 + 1, 0, none⟩) hgb _)
      · exact ((((((A8.out.setCell (p := ⟨w.heap.size + 1 + 1, 0, none⟩) (by show w.heap.size ≤ w.heap.size + 1 + 1; omega) _).setCell (p := ⟨w.heap.size + 1 + 1, 1, none⟩) (by show w.heap.size ≤ w.heap.size + 1 + 1; omega) _).setCell (p := ⟨w.heap.size + 1 + 1, 2, none⟩) (by show w.heap.size ≤ w.heap.size + 1 + 1; omega) _).setCell (p := ⟨w.heap.size + 1 + 1, 3, none⟩) (by show w.heap.size ≤ w.heap.size + 1 + 1; omega) _).setCell (p := ⟨w.heap.size + 1 + 1, 4, none⟩) (by show w.heap.size ≤ w.heap.size + 1 + 1; omega) _).setCell (p := ⟨w.heap.size + 1 + 1 + 1, 0, none⟩) (by show w.heap.size ≤ w.heap.size + 1 + 1 + 1; omega) _)
end Go.Proofs.Ytimafabbepgifaa
