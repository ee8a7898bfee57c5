/- ModelGet: the contract of the specification's. -/
import Derived.Test.YtimafabbepgifaaSg
import Derived.Test.YtimafabbepgifaaIj
namespace Go.Proofs.Ytimafabbepgifaa
open Go.RowKit
set_option linter.unusedVariables false

/-- What l07Get comes to, as one form. -/
theorem spec_getNum2 (g cap N B : Nat) (lo hi co : Int) (t : ByteArray) (i : Int) (ch : List Int) (w : World) (hN : N ≤ 1200) (hB : B + 24 ≤ N) (hs : t.size ≤ 1048576) (hok : GsOk N ⟨lo, hi, co, i, ch⟩) (hC : Nums cap w g ch) (R : Option (GS × Wk)) (hR : getF B t 31 ⟨lo, hi, co, i, ch⟩ wk0 = R) :
    Calls Try.prog 58 #[.agg #[.int .u32 lo, .int .u32 hi, .int .u32 co, .string t, .int .i64 i], .agg #[.slice (some ⟨g, 0, none⟩) N cap], .int .i64 B] w fun e w' => ∃ a b c u j n k, e = .returned (.tuple #[.agg #[.int .u32 a, .int .u32 b, .int .u32 c, .string u, .int .i64 j], .int .i64 n, .bool k]) ∧ Ef g w w' ∧ ((R = none ∧ n = 0 ∧ k = false) ∨ ∃ st s, R = some (st, s) ∧ GsOk N st ∧ a = st.lo ∧ b = st.hi ∧ c = st.co ∧ u = t ∧ j = st.i ∧ n = wkNum s ∧ k = true ∧ Nums cap w' g st.ch) := by
  have := spec_getNum g cap N B lo hi co t i ch w hN hB hs hok hC
  rw [hR] at this
  refine this.mono fun e w' h => ?_
  obtain ⟨hE, ⟨h0, a, b, c, u, j, he⟩ | ⟨st, s, h0, hg, he, hn⟩⟩ := h
  · exact ⟨a, b, c, u, j, 0, false, he, hE, .inl ⟨h0, rfl, rfl⟩⟩
  · exact ⟨_, _, _, _, _, _, _, he, hE, .inr ⟨st, s, h0, hg, rfl, rfl, rfl, rfl, rfl, rfl, rfl, hn⟩⟩

set_option maxRecDepth 100000 in
set_option maxHeartbeats 3200000 in
theorem spec_mget (lo hi co : Int) (t : ByteArray) (i : Int) (v : Value) (ch : List Int) (B : Int) (w : World) (hl : W32 lo) (hh : W32 hi) (hc : W32 co) (hn : ch.length ≤ 1048576) (hs : t.size ≤ 1048576) (hv : Vp w v ch) :
    Calls Try.prog 26 #[rV lo hi co t i, .agg #[v], .int .i64 B] w (MgP lo hi co t i ch (mgR lo hi co t i ch B) w) := by
  have HCM := hid (fun q hq => spec_copy v ch q hn (hv.below (Nat.le_refl _) hq))
  have HMO := hid (fun v' q hq => spec_modelOk v' ch q hn hq)
  have HIN := hid (fun q => spec_in B 0 ((ch.length : Int) - 24) q)
  have HC2 := hid (fun v' q hq => spec_copy v' ch q hn hq)
  obtain ⟨ao, cap, rfl, hv1, hv2, hv3⟩ := hv
  clear hv1 hv2 hv3
  obtain ⟨n0, n1, n2, n3, n4⟩ := new_four w [.int .u32 lo, .int .u32 hi, .int .u32 co, .string t, .int .i64 i] [.slice ao ch.length cap] [.int .u32 0, .int .u32 0, .int .u32 0, .string ⟨#[]⟩, .int .i64 0] [.slice none 0 0] 38 27 38 27
  have N0 := hid n0
  have N1 := hid n1
  have N2 := hid n2
  have N3 := hid n3
  have N4 := hid n4
  clear n0 n1 n2 n3 n4
  have hRe := hid (show mgR lo hi co t i ch B = if okMG ch B = true then getF B.toNat t 31 ⟨lo, hi, co, i, ch⟩ wk0 else none from rfl)
  have hokd := hid (show okMG ch B = decide (okM ch = true ∧ (0 ≤ B ∧ B ≤ (ch.length : Int) - 24)) from rfl)
  generalize mgR lo hi co t i ch B = R at *
  generalize hCL : ch.length = CL at *
  have HCL := hid hCL
  clear hCL
  obtain ⟨QQ, hQ, HQ⟩ : ∃ QQ : Ending → World → Prop, MgP lo hi co t i ch R w = QQ ∧ Hid (∀ e w', MgP lo hi co t i ch R w e w' → QQ e w') := ⟨_, rfl, fun _ _ h => h⟩
  rw [hQ]
  clear hQ
  unfold rV
  go_enter Try.func26, Try.ntmps26
  go_wp2_with fail
  refine (HCM.out _ N4.out).mono ?_
  generalize (((w.alloc (.cells #[.int .u32 lo, .int .u32 hi, .int .u32 co, .string t, .int .i64 i] 38)).alloc (.cells #[.slice ao CL cap] 27)).alloc (.cells #[.int .u32 0, .int .u32 0, .int .u32 0, .string ⟨#[]⟩, .int .i64 0] 38)).alloc (.cells #[.slice none 0 0] 27) = w0 at *
  rintro e w1 ⟨v1, rfl, ho1, hb1⟩
  obtain ⟨ga, gc, rfl⟩ := ho1.shape
  rw [HCL.out] at ho1 ⊢
  have hw04 : w.heap.size + 1 + 1 + 1 < w0.heap.size := N3.out.lt
  have hlow := ho1.lower (base' := w.heap.size + 1 + 1 + 1 + 1) (by omega)
  have M0 := N0.out.below hb1 N0.out.lt
  have M1 := N1.out.below hb1 N1.out.lt
  have M2 := N2.out.below hb1 N2.out.lt
  have M3 := N3.out.below hb1 N3.out.lt
  have m1 := M1.cell (i := 0) rfl
  have f1 := M1.free 0
  have BS : Hid (Bs (w1.setCell ⟨w.heap.size + 1, 0, none⟩ (.slice ga CL gc)) [(w.heap.size, [.int .u32 lo, .int .u32 hi, .int .u32 co, .string t, .int .i64 i], 38), (w.heap.size + 1, [.slice ga CL gc], 27), (w.heap.size + 1 + 1, [.int .u32 0, .int .u32 0, .int .u32 0, .string ⟨#[]⟩, .int .i64 0], 38), (w.heap.size + 1 + 1 + 1, [.slice none 0 0], 27)]) := by
    intro y hy
    simp only [List.mem_cons, List.not_mem_nil, or_false] at hy
    rcases hy with rfl | rfl | rfl | rfl
    · exact M0.other (a := ⟨w.heap.size + 1, 0, none⟩) (by show w.heap.size ≠ w.heap.size + 1; omega) _
    · exact M1.set 0 _
    · exact M2.other (a := ⟨w.heap.size + 1, 0, none⟩) (by show w.heap.size + 1 + 1 ≠ w.heap.size + 1; omega) _
    · exact M3.other (a := ⟨w.heap.size + 1, 0, none⟩) (by show w.heap.size + 1 + 1 + 1 ≠ w.heap.size + 1; omega) _
  have AB : Hid (Below w.heap.size w (w1.setCell ⟨w.heap.size + 1, 0, none⟩ (.slice ga CL gc))) := (N4.out.trans (hb1.mono N4.out.size)).setCell (p := ⟨w.heap.size + 1, 0, none⟩) (by show w.heap.size ≤ w.heap.size + 1; omega) _
  have OA : Hid (Own (w1.setCell ⟨w.heap.size + 1, 0, none⟩ (.slice ga CL gc)) (w.heap.size + 1 + 1 + 1 + 1) 3 .i64 (.slice ga CL gc) ch) := hlow.setCell_below (a := ⟨w.heap.size + 1, 0, none⟩) (by show w.heap.size + 1 < w.heap.size + 1 + 1 + 1 + 1; omega) _
  clear ho1 hb1 hlow M0 M1 M2 M3 N0 N1 N2 N3 N4 hw04
  go_wp2_with fail
  refine (HMO.out _ _ OA.out.vw).mono ?_
  generalize w1.setCell ⟨w.heap.size + 1, 0, none⟩ (.slice ga CL gc) = w2 at *
  clear m1 f1
  rintro e w3 ⟨rfl, hb3⟩
  have BS3 := hid (BS.out.below hb3)
  have A3 := hid (AB.out.trans (hb3.mono AB.out.size))
  have O3 := hid (OA.out.below hb3)
  clear hb3 BS AB OA
  have c0 := (BS3.out.get (b := w.heap.size) (l := [.int .u32 lo, .int .u32 hi, .int .u32 co, .string t, .int .i64 i]) (t := 38) (by simp)).cell (i := 0) rfl
  have c1 := (BS3.out.get (b := w.heap.size) (l := [.int .u32 lo, .int .u32 hi, .int .u32 co, .string t, .int .i64 i]) (t := 38) (by simp)).cell (i := 1) rfl
  have c2 := (BS3.out.get (b := w.heap.size) (l := [.int .u32 lo, .int .u32 hi, .int .u32 co, .string t, .int .i64 i]) (t := 38) (by simp)).cell (i := 2) rfl
  have c3 := (BS3.out.get (b := w.heap.size) (l := [.int .u32 lo, .int .u32 hi, .int .u32 co, .string t, .int .i64 i]) (t := 38) (by simp)).cell (i := 3) rfl
  have c4 := (BS3.out.get (b := w.heap.size) (l := [.int .u32 lo, .int .u32 hi, .int .u32 co, .string t, .int .i64 i]) (t := 38) (by simp)).cell (i := 4) rfl
  have r0 := (BS3.out.get (b := w.heap.size + 1 + 1) (l := [.int .u32 0, .int .u32 0, .int .u32 0, .string ⟨#[]⟩, .int .i64 0]) (t := 38) (by simp)).cell (i := 0) rfl
  have r1 := (BS3.out.get (b := w.heap.size + 1 + 1) (l := [.int .u32 0, .int .u32 0, .int .u32 0, .string ⟨#[]⟩, .int .i64 0]) (t := 38) (by simp)).cell (i := 1) rfl
  have r2 := (BS3.out.get (b := w.heap.size + 1 + 1) (l := [.int .u32 0, .int .u32 0, .int .u32 0, .string ⟨#[]⟩, .int .i64 0]) (t := 38) (by simp)).cell (i := 2) rfl
  have r3 := (BS3.out.get (b := w.heap.size + 1 + 1) (l := [.int .u32 0, .int .u32 0, .int .u32 0, .string ⟨#[]⟩, .int .i64 0]) (t := 38) (by simp)).cell (i := 3) rfl
  have r4 := (BS3.out.get (b := w.heap.size + 1 + 1) (l := [.int .u32 0, .int .u32 0, .int .u32 0, .string ⟨#[]⟩, .int .i64 0]) (t := 38) (by simp)).cell (i := 4) rfl
  have y0 := (BS3.out.get (b := w.heap.size + 1 + 1) (l := [.int .u32 0, .int .u32 0, .int .u32 0, .string ⟨#[]⟩, .int .i64 0]) (t := 38) (by simp)).free 0
  have y1 := (BS3.out.get (b := w.heap.size + 1 + 1) (l := [.int .u32 0, .int .u32 0, .int .u32 0, .string ⟨#[]⟩, .int .i64 0]) (t := 38) (by simp)).free 1
  have y2 := (BS3.out.get (b := w.heap.size + 1 + 1) (l := [.int .u32 0, .int .u32 0, .int .u32 0, .string ⟨#[]⟩, .int .i64 0]) (t := 38) (by simp)).free 2
  have y3 := (BS3.out.get (b := w.heap.size + 1 + 1) (l := [.int .u32 0, .int .u32 0, .int .u32 0, .string ⟨#[]⟩, .int .i64 0]) (t := 38) (by simp)).free 3
  have y4 := (BS3.out.get (b := w.heap.size + 1 + 1) (l := [.int .u32 0, .int .u32 0, .int .u32 0, .string ⟨#[]⟩, .int .i64 0]) (t := 38) (by simp)).free 4
  have m0 := (BS3.out.get (b := w.heap.size + 1 + 1 + 1) (l := [.slice none 0 0]) (t := 27) (by simp)).cell (i := 0) rfl
  have z0 := (BS3.out.get (b := w.heap.size + 1 + 1 + 1) (l := [.slice none 0 0]) (t := 27) (by simp)).free 0
  have a8 := (BS3.out.get (b := w.heap.size + 1) (l := [.slice ga CL gc]) (t := 27) (by simp)).cell (i := 0) rfl
  have HIN2 := hid (fun q => HIN.out q)
  by_cases hM : okM ch = true
  · rw [hM]
    by_cases hB : 0 ≤ B ∧ B ≤ (CL : Int) - 24
    · rw [decide_eq_true hB] at HIN2
      have HRE : Hid (getF B.toNat t 31 ⟨lo, hi, co, i, ch⟩ wk0 = R) := by
        show _ = _
        rw [hRe.out, if_pos (by rw [hokd.out]; exact decide_eq_true ⟨hM, hB⟩)]
      obtain ⟨k, rfl⟩ := Int.eq_ofNat_of_zero_le hB.1
      rw [Int.toNat_natCast] at HRE
      have hn12 : CL ≤ 1200 := by have : ch.length ≤ 1200 := (of_decide_eq_true hM).1; have := HCL.out; omega
      have hk24 : k + 24 ≤ CL := by omega
      have hgk : GsOk CL ⟨lo, hi, co, i, ch⟩ := ⟨hl, hh, hc, HCL.out, (of_decide_eq_true hM).2⟩
      have HGN := hid (fun g cap q (hq : Nums cap q g ch) => spec_getNum2 g cap CL k lo hi co t i ch q hn12 hk24 hs hgk hq R HRE.out)
      have HKN := hid (show CL ≤ 1200 ∧ 24 ≤ CL by omega)
      clear hokd hRe HRE hM hB hn12 hk24 hgk hl hh hc hs
      go_wp2_with (go_at_call 51; refine (HIN2.out _).mono ?_; rintro e w4 ⟨rfl, rfl⟩)
      refine (HC2.out _ w3 O3.out.vp).mono ?_
      rintro e w5 ⟨v2, rfl, ho2, hb5⟩
      obtain ⟨g, gc2, rfl, hg0, hg1, hgc1, hgc2⟩ : ∃ g gc2, v2 = .slice (some ⟨g, 0, none⟩) CL gc2 ∧ w3.heap.size ≤ g ∧ g < w5.heap.size ∧ CL ≤ gc2 ∧ gc2 ≤ maxLen := by
        rcases ho2.2.2 with ⟨e2, h0⟩ | ⟨g', cap', cur, e2, hg, hh, hle, hm, _⟩
        · have := HCL.out
          have := HKN.out
          omega
        · rw [HCL.out] at e2 hle
          exact ⟨g', cap', e2, hg, (Array.getElem?_eq_some_iff.1 hh).1, hle, hm⟩
      have NA := hid ((Below.refl w5.heap.size w5).alloc (Nat.le_refl _) (.cells #[.slice (some ⟨g, 0, none⟩) CL gc2] 27))
      have C1 := hid (hb5.trans (NA.out.mono hb5.size))
      have BS6 : Hid (Bs (w5.alloc (.cells #[.slice (some ⟨g, 0, none⟩) CL gc2] 27)) [(w.heap.size, [.int .u32 lo, .int .u32 hi, .int .u32 co, .string t, .int .i64 i], 38), (w.heap.size + 1, [.slice ga CL gc], 27), (w.heap.size + 1 + 1, [.int .u32 0, .int .u32 0, .int .u32 0, .string ⟨#[]⟩, .int .i64 0], 38), (w.heap.size + 1 + 1 + 1, [.slice none 0 0], 27), (w5.heap.size, [.slice (some ⟨g, 0, none⟩) CL gc2], 27)]) := by
        intro y hy
        have h1 := BS3.out.below C1.out
        simp only [List.mem_cons, List.not_mem_nil, or_false] at hy
        rcases hy with rfl | rfl | rfl | rfl | rfl
        · exact h1 _ (by simp)
        · exact h1 _ (by simp)
        · exact h1 _ (by simp)
        · exact h1 _ (by simp)
        · exact Blk.new w5 [.slice (some ⟨g, 0, none⟩) CL gc2] 27
      have A6 := hid (A3.out.trans (C1.out.mono A3.out.size))
      have O6 := hid (O3.out.below C1.out)
      have G6 := hid (ho2.nums.kept (fun l hl => hl.below NA.out hl.lt))
      have HGC := hid (And.intro hgc1 hgc2)
      have hw3 : w.heap.size + 1 + 1 + 1 < w3.heap.size := (BS3.out.get (b := w.heap.size + 1 + 1 + 1) (l := [.slice none 0 0]) (t := 27) (by simp)).lt
      have HG0 := hid (show w.heap.size + 1 + 1 + 1 < g by omega)
      have HAB := hid (show g < w5.heap.size from hg1)
      have HG3 := hid hg0
      have hgO : Hid (∀ (a : Addr) n c, (Value.slice ga CL gc) = .slice (some a) n c → a.block < w3.heap.size) := fun a n c h => by
        have h5 := O3.out
        rw [h] at h5
        exact h5.ge.2
      have BP := BS3.out.below hb5
      have k0 := (BP.get (b := w.heap.size) (l := [.int .u32 lo, .int .u32 hi, .int .u32 co, .string t, .int .i64 i]) (t := 38) (by simp)).cell (i := 0) rfl
      have k1 := (BP.get (b := w.heap.size) (l := [.int .u32 lo, .int .u32 hi, .int .u32 co, .string t, .int .i64 i]) (t := 38) (by simp)).cell (i := 1) rfl
      have k2 := (BP.get (b := w.heap.size) (l := [.int .u32 lo, .int .u32 hi, .int .u32 co, .string t, .int .i64 i]) (t := 38) (by simp)).cell (i := 2) rfl
      have k3 := (BP.get (b := w.heap.size) (l := [.int .u32 lo, .int .u32 hi, .int .u32 co, .string t, .int .i64 i]) (t := 38) (by simp)).cell (i := 3) rfl
      have k4 := (BP.get (b := w.heap.size) (l := [.int .u32 lo, .int .u32 hi, .int .u32 co, .string t, .int .i64 i]) (t := 38) (by simp)).cell (i := 4) rfl
      have hlt3 : w.heap.size < w5.heap.size := (BP.get (b := w.heap.size) (l := [.int .u32 lo, .int .u32 hi, .int .u32 co, .string t, .int .i64 i]) (t := 38) (by simp)).lt
      have hne3 : ¬ w.heap.size = w5.heap.size := Nat.ne_of_lt hlt3
      have hne3' : ¬ w5.heap.size = w.heap.size := fun e => hne3 e.symm
      clear c0 c1 c2 c3 c4
      have c0 := (BS6.out.get (b := w.heap.size) (l := [.int .u32 lo, .int .u32 hi, .int .u32 co, .string t, .int .i64 i]) (t := 38) (by simp)).cell (i := 0) rfl
      have c1 := (BS6.out.get (b := w.heap.size) (l := [.int .u32 lo, .int .u32 hi, .int .u32 co, .string t, .int .i64 i]) (t := 38) (by simp)).cell (i := 1) rfl
      have c2 := (BS6.out.get (b := w.heap.size) (l := [.int .u32 lo, .int .u32 hi, .int .u32 co, .string t, .int .i64 i]) (t := 38) (by simp)).cell (i := 2) rfl
      have c3 := (BS6.out.get (b := w.heap.size) (l := [.int .u32 lo, .int .u32 hi, .int .u32 co, .string t, .int .i64 i]) (t := 38) (by simp)).cell (i := 3) rfl
      have c4 := (BS6.out.get (b := w.heap.size) (l := [.int .u32 lo, .int .u32 hi, .int .u32 co, .string t, .int .i64 i]) (t := 38) (by simp)).cell (i := 4) rfl
      clear ho2 hb5 NA C1 BS3 A3 O3 hg0 hg1 hgc1 hgc2 BP hw3 r0 r1 r2 r3 r4 y0 y1 y2 y3 y4 m0 z0 a8
      go_wp2_with fail
      refine (HGN.out g gc2 _ G6.out).mono ?_
      generalize w5.alloc (.cells #[.slice (some ⟨g, 0, none⟩) CL gc2] 27) = w6 at *
      generalize w5.heap.size = AB at *
      clear k0 k1 k2 k3 k4 hlt3 hne3 hne3' c0 c1 c2 c3 c4
      rintro e w7 ⟨a, b, c, u, j, n, q, rfl, hE7, hcase⟩
      have BS7 := hid (BS6.out.ef hE7 (by
        intro y hy
        simp only [List.mem_cons, List.not_mem_nil, or_false] at hy
        have h1 := HG0.out
        have h2 := HAB.out
        rcases hy with rfl | rfl | rfl | rfl | rfl <;> simp <;> omega))
      have A7 := hid (A6.out.trans (hE7.below (by have := HG0.out; omega) A6.out.size))
      have O7 : Hid (Own w7 (w.heap.size + 1 + 1 + 1 + 1) 3 .i64 (.slice ga CL gc) ch) := by
        refine ⟨Nat.le_trans O6.out.1 hE7.size, O6.out.2.1, ?_⟩
        rcases O6.out.2.2 with h0 | ⟨g', cap', cur, e2, hg, hh, r⟩
        · exact .inl h0
        · refine .inr ⟨g', cap', cur, e2, hg, ?_, r⟩
          refine (hE7.block g' (Array.getElem?_eq_some_iff.1 hh).1 (fun e => ?_)).trans hh
          have h1 := hgO.out ⟨g', 0, none⟩ _ _ e2
          have h2 := HG3.out
          have h3 : g = g' := by simpa using e.symm
          simp only at h1
          omega
      have NB := hid ((Below.refl w7.heap.size w7).alloc (Nat.le_refl _) (.cells #[.int .u32 a, .int .u32 b, .int .u32 c, .string u, .int .i64 j] 38))
      have HNB := hid (Blk.new w7 [.int .u32 a, .int .u32 b, .int .u32 c, .string u, .int .i64 j] 38)
      have BS8 := hid (BS7.out.below NB.out)
      have A8 := hid (A7.out.trans (NB.out.mono A7.out.size))
      have O8 := hid (O7.out.below NB.out)
      have hlt7 : ∀ {b : Nat} {l : List Value} {t : TypeId}, Blk w7 b l t → b < w7.heap.size := fun h => h.lt
      have HS7 := hid (show w7.heap.size < (w7.alloc (.cells #[.int .u32 a, .int .u32 b, .int .u32 c, .string u, .int .i64 j] 38)).heap.size by simp)
      have HN8 : Hid (∀ l, Nums gc2 w7 g l → Nums gc2 (w7.alloc (.cells #[.int .u32 a, .int .u32 b, .int .u32 c, .string u, .int .i64 j] 38)) g l) := fun l h => h.kept (fun l hl => hl.below NB.out hl.lt)
      have HCASE := hid hcase
      have HABK := hid (show AB < w7.heap.size from (BS7.out.get (b := AB) (l := [.slice (some ⟨g, 0, none⟩) CL gc2]) (t := 27) (by simp)).lt)
      clear hE7 hcase A6 O6 BS6 G6 A7 O7 BS7 NB hlt7 HGN
      cases q with
      | false =>
        have HNV : Hid (R = none) := by
          rcases HCASE.out with ⟨h, _⟩ | ⟨_, _, _, _, _, _, _, _, _, _, h, _⟩
          · exact h
          · cases h
        go_wp2_with fail
        generalize w7.alloc (.cells #[.int .u32 a, .int .u32 b, .int .u32 c, .string u, .int .i64 j] 38) = w8 at *
        generalize w7.heap.size = NK at *
        clear HCASE HN8 HNB HS7
        have c0 := (BS8.out.get (b := w.heap.size) (l := [.int .u32 lo, .int .u32 hi, .int .u32 co, .string t, .int .i64 i]) (t := 38) (by simp)).cell (i := 0) rfl
        have c1 := (BS8.out.get (b := w.heap.size) (l := [.int .u32 lo, .int .u32 hi, .int .u32 co, .string t, .int .i64 i]) (t := 38) (by simp)).cell (i := 1) rfl
        have c2 := (BS8.out.get (b := w.heap.size) (l := [.int .u32 lo, .int .u32 hi, .int .u32 co, .string t, .int .i64 i]) (t := 38) (by simp)).cell (i := 2) rfl
        have c3 := (BS8.out.get (b := w.heap.size) (l := [.int .u32 lo, .int .u32 hi, .int .u32 co, .string t, .int .i64 i]) (t := 38) (by simp)).cell (i := 3) rfl
        have c4 := (BS8.out.get (b := w.heap.size) (l := [.int .u32 lo, .int .u32 hi, .int .u32 co, .string t, .int .i64 i]) (t := 38) (by simp)).cell (i := 4) rfl
        have r0 := (BS8.out.get (b := w.heap.size + 1 + 1) (l := [.int .u32 0, .int .u32 0, .int .u32 0, .string ⟨#[]⟩, .int .i64 0]) (t := 38) (by simp)).cell (i := 0) rfl
        have r1 := (BS8.out.get (b := w.heap.size + 1 + 1) (l := [.int .u32 0, .int .u32 0, .int .u32 0, .string ⟨#[]⟩, .int .i64 0]) (t := 38) (by simp)).cell (i := 1) rfl
        have r2 := (BS8.out.get (b := w.heap.size + 1 + 1) (l := [.int .u32 0, .int .u32 0, .int .u32 0, .string ⟨#[]⟩, .int .i64 0]) (t := 38) (by simp)).cell (i := 2) rfl
        have r3 := (BS8.out.get (b := w.heap.size + 1 + 1) (l := [.int .u32 0, .int .u32 0, .int .u32 0, .string ⟨#[]⟩, .int .i64 0]) (t := 38) (by simp)).cell (i := 3) rfl
        have r4 := (BS8.out.get (b := w.heap.size + 1 + 1) (l := [.int .u32 0, .int .u32 0, .int .u32 0, .string ⟨#[]⟩, .int .i64 0]) (t := 38) (by simp)).cell (i := 4) rfl
        have y0 := (BS8.out.get (b := w.heap.size + 1 + 1) (l := [.int .u32 0, .int .u32 0, .int .u32 0, .string ⟨#[]⟩, .int .i64 0]) (t := 38) (by simp)).free 0
        have y1 := (BS8.out.get (b := w.heap.size + 1 + 1) (l := [.int .u32 0, .int .u32 0, .int .u32 0, .string ⟨#[]⟩, .int .i64 0]) (t := 38) (by simp)).free 1
        have y2 := (BS8.out.get (b := w.heap.size + 1 + 1) (l := [.int .u32 0, .int .u32 0, .int .u32 0, .string ⟨#[]⟩, .int .i64 0]) (t := 38) (by simp)).free 2
        have y3 := (BS8.out.get (b := w.heap.size + 1 + 1) (l := [.int .u32 0, .int .u32 0, .int .u32 0, .string ⟨#[]⟩, .int .i64 0]) (t := 38) (by simp)).free 3
        have y4 := (BS8.out.get (b := w.heap.size + 1 + 1) (l := [.int .u32 0, .int .u32 0, .int .u32 0, .string ⟨#[]⟩, .int .i64 0]) (t := 38) (by simp)).free 4
        have m0 := (BS8.out.get (b := w.heap.size + 1 + 1 + 1) (l := [.slice none 0 0]) (t := 27) (by simp)).cell (i := 0) rfl
        have z0 := (BS8.out.get (b := w.heap.size + 1 + 1 + 1) (l := [.slice none 0 0]) (t := 27) (by simp)).free 0
        have a8 := (BS8.out.get (b := w.heap.size + 1) (l := [.slice ga CL gc]) (t := 27) (by simp)).cell (i := 0) rfl
        go_region
        all_goals
          go_wp2_with fail
          refine bodyPost_ret (v := .tuple #[.agg #[.int .u32 lo, .int .u32 hi, .int .u32 co, .string t, .int .i64 i], .agg #[.slice ga CL gc], .int .i64 0, .bool false]) (by simp [results, Try.results26, go_sem, r0, r1, r2, r3, r4, m0]) rfl ?_
          have hb2 : w.heap.size + 1 + 1 < w.heap.size + 1 + 1 + 1 + 1 := by omega
          have hb3 : w.heap.size + 1 + 1 + 1 < w.heap.size + 1 + 1 + 1 + 1 := by omega
          have hb4 : w.heap.size ≤ w.heap.size + 1 + 1 + 1 + 1 := by omega
          have hc2 : w.heap.size ≤ w.heap.size + 1 + 1 := by omega
          have hc3 : w.heap.size ≤ w.heap.size + 1 + 1 + 1 := by omega
          have o9 := ((((((O8.out.setCell_below (a := ⟨w.heap.size + 1 + 1, 0, none⟩) hb2 (.int .u32 lo)).setCell_below (a := ⟨w.heap.size + 1 + 1, 1, none⟩) hb2 (.int .u32 hi)).setCell_below (a := ⟨w.heap.size + 1 + 1, 2, none⟩) hb2 (.int .u32 co)).setCell_below (a := ⟨w.heap.size + 1 + 1, 3, none⟩) hb2 (.string t)).setCell_below (a := ⟨w.heap.size + 1 + 1, 4, none⟩) hb2 (.int .i64 i)).setCell_below (a := ⟨w.heap.size + 1 + 1 + 1, 0, none⟩) hb3 (.slice ga CL gc))
          have a9 := ((((((A8.out.setCell (p := ⟨w.heap.size + 1 + 1, 0, none⟩) hc2 (.int .u32 lo)).setCell (p := ⟨w.heap.size + 1 + 1, 1, none⟩) hc2 (.int .u32 hi)).setCell (p := ⟨w.heap.size + 1 + 1, 2, none⟩) hc2 (.int .u32 co)).setCell (p := ⟨w.heap.size + 1 + 1, 3, none⟩) hc2 (.string t)).setCell (p := ⟨w.heap.size + 1 + 1, 4, none⟩) hc2 (.int .i64 i)).setCell (p := ⟨w.heap.size + 1 + 1 + 1, 0, none⟩) hc3 (.slice ga CL gc))
          exact HQ.out _ _ (MgP.no HNV.out _ (Own.lower o9 hb4).drew1 (belowN a9 1))
      | true =>
        obtain ⟨st, s, hR, hgs, rfl, rfl, rfl, rfl, rfl, rfl, _, hnu⟩ : ∃ st s, R = some (st, s) ∧ GsOk CL st ∧ a = st.lo ∧ b = st.hi ∧ c = st.co ∧ t = u ∧ j = st.i ∧ n = wkNum s ∧ True ∧ Nums gc2 w7 g st.ch := by
          rcases HCASE.out with ⟨_, _, h⟩ | ⟨st, s, h1, h2, h3, h4, h5, h6, h7, h8, _, h9⟩
          · cases h
          · exact ⟨st, s, h1, h2, h3, h4, h5, h6.symm, h7, h8, trivial, h9⟩
        have HYS := hid hR
        have C8 := hid (HN8.out _ hnu)
        have HLN := hid hgs.ln
        have hNK : AB < w7.heap.size := HABK.out
        clear hR hgs hnu HCASE HN8
        go_wp2_with fail
        generalize w7.alloc (.cells #[.int .u32 st.lo, .int .u32 st.hi, .int .u32 st.co, .string t, .int .i64 st.i] 38) = w8 at *
        generalize w7.heap.size = NK at *
        have c0 := (BS8.out.get (b := w.heap.size) (l := [.int .u32 lo, .int .u32 hi, .int .u32 co, .string t, .int .i64 i]) (t := 38) (by simp)).cell (i := 0) rfl
        have c1 := (BS8.out.get (b := w.heap.size) (l := [.int .u32 lo, .int .u32 hi, .int .u32 co, .string t, .int .i64 i]) (t := 38) (by simp)).cell (i := 1) rfl
        have c2 := (BS8.out.get (b := w.heap.size) (l := [.int .u32 lo, .int .u32 hi, .int .u32 co, .string t, .int .i64 i]) (t := 38) (by simp)).cell (i := 2) rfl
        have c3 := (BS8.out.get (b := w.heap.size) (l := [.int .u32 lo, .int .u32 hi, .int .u32 co, .string t, .int .i64 i]) (t := 38) (by simp)).cell (i := 3) rfl
        have c4 := (BS8.out.get (b := w.heap.size) (l := [.int .u32 lo, .int .u32 hi, .int .u32 co, .string t, .int .i64 i]) (t := 38) (by simp)).cell (i := 4) rfl
        have r0 := (BS8.out.get (b := w.heap.size + 1 + 1) (l := [.int .u32 0, .int .u32 0, .int .u32 0, .string ⟨#[]⟩, .int .i64 0]) (t := 38) (by simp)).cell (i := 0) rfl
        have r1 := (BS8.out.get (b := w.heap.size + 1 + 1) (l := [.int .u32 0, .int .u32 0, .int .u32 0, .string ⟨#[]⟩, .int .i64 0]) (t := 38) (by simp)).cell (i := 1) rfl
        have r2 := (BS8.out.get (b := w.heap.size + 1 + 1) (l := [.int .u32 0, .int .u32 0, .int .u32 0, .string ⟨#[]⟩, .int .i64 0]) (t := 38) (by simp)).cell (i := 2) rfl
        have r3 := (BS8.out.get (b := w.heap.size + 1 + 1) (l := [.int .u32 0, .int .u32 0, .int .u32 0, .string ⟨#[]⟩, .int .i64 0]) (t := 38) (by simp)).cell (i := 3) rfl
        have r4 := (BS8.out.get (b := w.heap.size + 1 + 1) (l := [.int .u32 0, .int .u32 0, .int .u32 0, .string ⟨#[]⟩, .int .i64 0]) (t := 38) (by simp)).cell (i := 4) rfl
        have y0 := (BS8.out.get (b := w.heap.size + 1 + 1) (l := [.int .u32 0, .int .u32 0, .int .u32 0, .string ⟨#[]⟩, .int .i64 0]) (t := 38) (by simp)).free 0
        have y1 := (BS8.out.get (b := w.heap.size + 1 + 1) (l := [.int .u32 0, .int .u32 0, .int .u32 0, .string ⟨#[]⟩, .int .i64 0]) (t := 38) (by simp)).free 1
        have y2 := (BS8.out.get (b := w.heap.size + 1 + 1) (l := [.int .u32 0, .int .u32 0, .int .u32 0, .string ⟨#[]⟩, .int .i64 0]) (t := 38) (by simp)).free 2
        have y3 := (BS8.out.get (b := w.heap.size + 1 + 1) (l := [.int .u32 0, .int .u32 0, .int .u32 0, .string ⟨#[]⟩, .int .i64 0]) (t := 38) (by simp)).free 3
        have y4 := (BS8.out.get (b := w.heap.size + 1 + 1) (l := [.int .u32 0, .int .u32 0, .int .u32 0, .string ⟨#[]⟩, .int .i64 0]) (t := 38) (by simp)).free 4
        have m0 := (BS8.out.get (b := w.heap.size + 1 + 1 + 1) (l := [.slice none 0 0]) (t := 27) (by simp)).cell (i := 0) rfl
        have z0 := (BS8.out.get (b := w.heap.size + 1 + 1 + 1) (l := [.slice none 0 0]) (t := 27) (by simp)).free 0
        have a8 := (BS8.out.get (b := AB) (l := [.slice (some ⟨g, 0, none⟩) CL gc2]) (t := 27) (by simp)).cell (i := 0) rfl
        have n0 := HNB.out.cell (i := 0) rfl
        have n1 := HNB.out.cell (i := 1) rfl
        have n2 := HNB.out.cell (i := 2) rfl
        have n3 := HNB.out.cell (i := 3) rfl
        have n4 := HNB.out.cell (i := 4) rfl
        have hg0 := HG0.out
        have hg1 := HAB.out
        have hx2 : ¬ AB = w.heap.size + 1 + 1 := by omega
        have hx3 : ¬ AB = w.heap.size + 1 + 1 + 1 := by omega
        have hx2' : ¬ w.heap.size + 1 + 1 = AB := fun e => hx2 e.symm
        have hx3' : ¬ w.heap.size + 1 + 1 + 1 = AB := fun e => hx3 e.symm
        have hv2 : ¬ NK = w.heap.size + 1 + 1 := by omega
        have hv3 : ¬ NK = w.heap.size + 1 + 1 + 1 := by omega
        have hv2' : ¬ w.heap.size + 1 + 1 = NK := fun e => hv2 e.symm
        have hv3' : ¬ w.heap.size + 1 + 1 + 1 = NK := fun e => hv3 e.symm
        have hgA : g ≠ w.heap.size + 1 + 1 := by omega
        have hgB : g ≠ w.heap.size + 1 + 1 + 1 := by omega
        have hgw : w.heap.size ≤ g := by omega
        clear hg0 hg1 hNK
        go_region
        all_goals
          go_wp2_with fail
          refine bodyPost_ret (v := .tuple #[.agg #[.int .u32 st.lo, .int .u32 st.hi, .int .u32 st.co, .string t, .int .i64 st.i], .agg #[.slice (some ⟨g, 0, none⟩) CL gc2], .int .i64 (wkNum s), .bool true]) (by simp [results, Try.results26, go_sem, r0, r1, r2, r3, r4, m0]) rfl ?_
          have hc2 : w.heap.size ≤ w.heap.size + 1 + 1 := by omega
          have hc3 : w.heap.size ≤ w.heap.size + 1 + 1 + 1 := by omega
          have h1 := C8.out.own (base := w.heap.size) hgw (by rw [HLN.out]; exact HGC.out.1) HGC.out.2
          rw [HLN.out] at h1
          have o9 := ((((((h1.other (a := ⟨w.heap.size + 1 + 1, 0, none⟩) hgA (.int .u32 st.lo)).other (a := ⟨w.heap.size + 1 + 1, 1, none⟩) hgA (.int .u32 st.hi)).other (a := ⟨w.heap.size + 1 + 1, 2, none⟩) hgA (.int .u32 st.co)).other (a := ⟨w.heap.size + 1 + 1, 3, none⟩) hgA (.string t)).other (a := ⟨w.heap.size + 1 + 1, 4, none⟩) hgA (.int .i64 st.i)).other (a := ⟨w.heap.size + 1 + 1 + 1, 0, none⟩) hgB (.slice (some ⟨g, 0, none⟩) CL gc2))
          have a9 := ((((((A8.out.setCell (p := ⟨w.heap.size + 1 + 1, 0, none⟩) hc2 (.int .u32 st.lo)).setCell (p := ⟨w.heap.size + 1 + 1, 1, none⟩) hc2 (.int .u32 st.hi)).setCell (p := ⟨w.heap.size + 1 + 1, 2, none⟩) hc2 (.int .u32 st.co)).setCell (p := ⟨w.heap.size + 1 + 1, 3, none⟩) hc2 (.string t)).setCell (p := ⟨w.heap.size + 1 + 1, 4, none⟩) hc2 (.int .i64 st.i)).setCell (p := ⟨w.heap.size + 1 + 1 + 1, 0, none⟩) hc3 (.slice (some ⟨g, 0, none⟩) CL gc2))
          exact HQ.out _ _ (MgP.yes HYS.out _ o9.drew1 (belowN a9 1))
    · rw [decide_eq_false hB] at HIN2
      have HNV : Hid (R = none) := by
        show _ = _
        rw [hRe.out, if_neg (by rw [hokd.out]; intro e; exact hB (of_decide_eq_true e).2)]
      clear hB hM hokd hRe
      go_wp2_with (go_at_call 51; refine (HIN2.out _).mono ?_; rintro e w4 ⟨rfl, rfl⟩)
      go_region
      all_goals
        go_wp2_with fail
        refine bodyPost_ret (v := .tuple #[.agg #[.int .u32 lo, .int .u32 hi, .int .u32 co, .string t, .int .i64 i], .agg #[.slice ga CL gc], .int .i64 0, .bool false]) (by simp [results, Try.results26, go_sem, r0, r1, r2, r3, r4, m0]) rfl ?_
        have hb2 : w.heap.size + 1 + 1 < w.heap.size + 1 + 1 + 1 + 1 := by omega
        have hb3 : w.heap.size + 1 + 1 + 1 < w.heap.size + 1 + 1 + 1 + 1 := by omega
        have hb4 : w.heap.size ≤ w.heap.size + 1 + 1 + 1 + 1 := by omega
        have hc2 : w.heap.size ≤ w.heap.size + 1 + 1 := by omega
        have hc3 : w.heap.size ≤ w.heap.size + 1 + 1 + 1 := by omega
        have o9 := ((((((O3.out.setCell_below (a := ⟨w.heap.size + 1 + 1, 0, none⟩) hb2 (.int .u32 lo)).setCell_below (a := ⟨w.heap.size + 1 + 1, 1, none⟩) hb2 (.int .u32 hi)).setCell_below (a := ⟨w.heap.size + 1 + 1, 2, none⟩) hb2 (.int .u32 co)).setCell_below (a := ⟨w.heap.size + 1 + 1, 3, none⟩) hb2 (.string t)).setCell_below (a := ⟨w.heap.size + 1 + 1, 4, none⟩) hb2 (.int .i64 i)).setCell_below (a := ⟨w.heap.size + 1 + 1 + 1, 0, none⟩) hb3 (.slice ga CL gc))
        have a9 := ((((((A3.out.setCell (p := ⟨w.heap.size + 1 + 1, 0, none⟩) hc2 (.int .u32 lo)).setCell (p := ⟨w.heap.size + 1 + 1, 1, none⟩) hc2 (.int .u32 hi)).setCell (p := ⟨w.heap.size + 1 + 1, 2, none⟩) hc2 (.int .u32 co)).setCell (p := ⟨w.heap.size + 1 + 1, 3, none⟩) hc2 (.string t)).setCell (p := ⟨w.heap.size + 1 + 1, 4, none⟩) hc2 (.int .i64 i)).setCell (p := ⟨w.heap.size + 1 + 1 + 1, 0, none⟩) hc3 (.slice ga CL gc))
        exact HQ.out _ _ (MgP.no HNV.out _ (Own.lower o9 hb4).drew1 (belowN a9 1))
  · have hM' : okM ch = false := by simpa using hM
    have HNV : Hid (R = none) := by
      show _ = _
      rw [hRe.out, if_neg (by rw [hokd.out]; intro e; exact hM (of_decide_eq_true e).1)]
    rw [hM']
    clear hM hM' hokd hRe
    go_wp2_with fail
    go_region
    all_goals
      go_wp2_with fail
      refine bodyPost_ret (v := .tuple #[.agg #[.int .u32 lo, .int .u32 hi, .int .u32 co, .string t, .int .i64 i], .agg #[.slice ga CL gc], .int .i64 0, .bool false]) (by simp [results, Try.results26, go_sem, r0, r1, r2, r3, r4, m0]) rfl ?_
      have hb2 : w.heap.size + 1 + 1 < w.heap.size + 1 + 1 + 1 + 1 := by omega
      have hb3 : w.heap.size + 1 + 1 + 1 < w.heap.size + 1 + 1 + 1 + 1 := by omega
      have hb4 : w.heap.size ≤ w.heap.size + 1 + 1 + 1 + 1 := by omega
      have hc2 : w.heap.size ≤ w.heap.size + 1 + 1 := by omega
      have hc3 : w.heap.size ≤ w.heap.size + 1 + 1 + 1 := by omega
      have o9 := ((((((O3.out.setCell_below (a := ⟨w.heap.size + 1 + 1, 0, none⟩) hb2 (.int .u32 lo)).setCell_below (a := ⟨w.heap.size + 1 + 1, 1, none⟩) hb2 (.int .u32 hi)).setCell_below (a := ⟨w.heap.size + 1 + 1, 2, none⟩) hb2 (.int .u32 co)).setCell_below (a := ⟨w.heap.size + 1 + 1, 3, none⟩) hb2 (.string t)).setCell_below (a := ⟨w.heap.size + 1 + 1, 4, none⟩) hb2 (.int .i64 i)).setCell_below (a := ⟨w.heap.size + 1 + 1 + 1, 0, none⟩) hb3 (.slice ga CL gc))
      have a9 := ((((((A3.out.setCell (p := ⟨w.heap.size + 1 + 1, 0, none⟩) hc2 (.int .u32 lo)).setCell (p := ⟨w.heap.size + 1 + 1, 1, none⟩) hc2 (.int .u32 hi)).setCell (p := ⟨w.heap.size + 1 + 1, 2, none⟩) hc2 (.int .u32 co)).setCell (p := ⟨w.heap.size + 1 + 1, 3, none⟩) hc2 (.string t)).setCell (p := ⟨w.heap.size + 1 + 1, 4, none⟩) hc2 (.int .i64 i)).setCell (p := ⟨w.heap.size + 1 + 1 + 1, 0, none⟩) hc3 (.slice ga CL gc))
      exact HQ.out _ _ (MgP.no HNV.out _ (Own.lower o9 hb4).drew1 (belowN a9 1))
end Go.Proofs.Ytimafabbepgifaa
