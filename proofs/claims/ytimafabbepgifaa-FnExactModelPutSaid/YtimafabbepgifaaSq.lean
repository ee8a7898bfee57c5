/- The contract of the specification's ModelPut. -/
import Derived.Test.YtimafabbepgifaaSm
import Derived.Test.YtimafabbepgifaaIn
namespace Go.Proofs.Ytimafabbepgifaa
open Go.RowKit
set_option linter.unusedVariables false

theorem mp_no (lo hi : Int) (s : ByteArray) (ch : List Int) (B x : Int) (h : okMP s ch B x = false) : mpV lo hi s ch B x = cV lo hi s ∧ okMP s ch B x = false ∧ (mpS lo hi s ch B x).ch = ch := by
  have e0 : s ++ strOfNums [] = s := by
    obtain ⟨d⟩ := s
    apply ByteArray.ext
    simp [strOfNums]
  unfold mpV mpS
  rw [h, if_neg (by decide)]
  exact ⟨by simp only; rw [e0], rfl, rfl⟩

set_option maxRecDepth 100000 in
set_option maxHeartbeats 3200000 in
theorem spec_mput (lo hi : Int) (s : ByteArray) (v : Value) (ch : List Int) (B x : Int) (w : World) (hl : W32 lo) (hh : W32 hi) (hx0 : -9223372036854775808 ≤ x) (hx1 : x ≤ 9223372036854775807) (hn : ch.length ≤ 1048576) (hs : s.size ≤ 1048576) (hv : Vp w v ch) :
    Calls Try.prog 18 #[cV lo hi s, .agg #[v], .int .i64 B, .int .i64 x] w fun e w' => ∃ v', e = .returned (.tuple #[mpV lo hi s ch B x, .agg #[v'], .bool (okMP s ch B x)]) ∧ Own w' w.heap.size 3 .i64 v' (mpS lo hi s ch B x).ch ∧ Below w.heap.size w w' := by
  have HCM := hid (fun q hq => spec_copy v ch q hn (hv.below (Nat.le_refl _) hq))
  have HMO := hid (fun v' q hq => spec_modelOk v' ch q hn hq)
  have HIN := hid (fun q => spec_in B 0 ((ch.length : Int) - 24) q)
  have HSI := hid (fun q => spec_size x q hx0 hx1)
  obtain ⟨ao, cap, rfl, hv1, hv2, hv3⟩ := hv
  clear hv1 hv2 hv3
  obtain ⟨n0, n1, n2, n3, n4⟩ := new_four w [.int .u32 lo, .int .u32 hi, .string s] [.slice ao ch.length cap] [.int .u32 0, .int .u32 0, .string ⟨#[]⟩] [.slice none 0 0] 32 27 32 27
  have N0 := hid n0
  have N1 := hid n1
  have N2 := hid n2
  have N3 := hid n3
  have N4 := hid n4
  clear n0 n1 n2 n3 n4
  have hokd := hid (show okMP s ch B x = decide (okM ch = true ∧ (0 ≤ B ∧ B ≤ (ch.length : Int) - 24) ∧ 0 ≤ sz x ∧ s.size ≤ 59800) from rfl)
  generalize hCL : ch.length = CL at *
  have HCL := hid hCL
  clear hCL
  obtain ⟨QQ, hQ, HQ⟩ : ∃ QQ : Ending → World → Prop, (fun e w' => ∃ v', e = .returned (.tuple #[mpV lo hi s ch B x, .agg #[v'], .bool (okMP s ch B x)]) ∧ Own w' w.heap.size 3 .i64 v' (mpS lo hi s ch B x).ch ∧ Below w.heap.size w w') = QQ ∧ Hid (∀ e w', (∃ v', e = .returned (.tuple #[mpV lo hi s ch B x, .agg #[v'], .bool (okMP s ch B x)]) ∧ Own w' w.heap.size 3 .i64 v' (mpS lo hi s ch B x).ch ∧ Below w.heap.size w w') → QQ e w') := ⟨_, rfl, fun _ _ h => h⟩
  rw [hQ]
  clear hQ
  unfold cV
  go_enter Try.func18, Try.ntmps18
  go_wp2_with fail
  refine (HCM.out _ N4.out).mono ?_
  generalize (((w.alloc (.cells #[.int .u32 lo, .int .u32 hi, .string s] 32)).alloc (.cells #[.slice ao CL cap] 27)).alloc (.cells #[.int .u32 0, .int .u32 0, .string ⟨#[]⟩] 32)).alloc (.cells #[.slice none 0 0] 27) = w0 at *
  rintro e w1 ⟨v1, rfl, ho1, hb1⟩
  obtain ⟨ga, gc, rfl⟩ := ho1.shape
  rw [HCL.out] at ho1 ⊢
  have hw04 : w.heap.size + 1 + 1 + 1 < w0.heap.size := N3.out.lt
  have hlow := ho1.lower (base' := w.heap.size + 1 + 1 + 1 + 1) (by omega)
  have M0 := N0.out.below hb1 N0.out.lt
  have M1 := N1.out.below hb1 N1.out.lt
  have M2 := N2.out.below hb1 N2.out.lt
  have M3 := N3.out.below hb1 N3.out.lt
  have m1 := M1.cell (i := 0) rfl
  have f1 := M1.free 0
  have BS : Hid (Bs (w1.setCell ⟨w.heap.size + 1, 0, none⟩ (.slice ga CL gc)) [(w.heap.size, [.int .u32 lo, .int .u32 hi, .string s], 32), (w.heap.size + 1, [.slice ga CL gc], 27), (w.heap.size + 1 + 1, [.int .u32 0, .int .u32 0, .string ⟨#[]⟩], 32), (w.heap.size + 1 + 1 + 1, [.slice none 0 0], 27)]) := by
    intro y hy
    simp only [List.mem_cons, List.not_mem_nil, or_false] at hy
    rcases hy with rfl | rfl | rfl | rfl
    · exact M0.other (a := ⟨w.heap.size + 1, 0, none⟩) (by show w.heap.size ≠ w.heap.size + 1; omega) _
    · exact M1.set 0 _
    · exact M2.other (a := ⟨w.heap.size + 1, 0, none⟩) (by show w.heap.size + 1 + 1 ≠ w.heap.size + 1; omega) _
    · exact M3.other (a := ⟨w.heap.size + 1, 0, none⟩) (by show w.heap.size + 1 + 1 + 1 ≠ w.heap.size + 1; omega) _
  have AB : Hid (Below w.heap.size w (w1.setCell ⟨w.heap.size + 1, 0, none⟩ (.slice ga CL gc))) := (N4.out.trans (hb1.mono N4.out.size)).setCell (p := ⟨w.heap.size + 1, 0, none⟩) (by show w.heap.size ≤ w.heap.size + 1; omega) _
  have OA : Hid (Own (w1.setCell ⟨w.heap.size + 1, 0, none⟩ (.slice ga CL gc)) (w.heap.size + 1 + 1 + 1 + 1) 3 .i64 (.slice ga CL gc) ch) := hlow.setCell_below (a := ⟨w.heap.size + 1, 0, none⟩) (by show w.heap.size + 1 < w.heap.size + 1 + 1 + 1 + 1; omega) _
  clear ho1 hb1 hlow M0 M1 M2 M3 N0 N1 N2 N3 N4 hw04
  go_wp2_with fail
  refine (HMO.out _ _ OA.out.vw).mono ?_
  generalize w1.setCell ⟨w.heap.size + 1, 0, none⟩ (.slice ga CL gc) = w2 at *
  clear m1 f1
  rintro e w3 ⟨rfl, hb3⟩
  have BS3 := hid (BS.out.below hb3)
  have A3 := hid (AB.out.trans (hb3.mono AB.out.size))
  have O3 := hid (OA.out.below hb3)
  clear hb3 BS AB OA
  have c0 := (BS3.out.get (b := w.heap.size) (l := [.int .u32 lo, .int .u32 hi, .string s]) (t := 32) (by simp)).cell (i := 0) rfl
  have c1 := (BS3.out.get (b := w.heap.size) (l := [.int .u32 lo, .int .u32 hi, .string s]) (t := 32) (by simp)).cell (i := 1) rfl
  have c2 := (BS3.out.get (b := w.heap.size) (l := [.int .u32 lo, .int .u32 hi, .string s]) (t := 32) (by simp)).cell (i := 2) rfl
  have r0 := (BS3.out.get (b := w.heap.size + 1 + 1) (l := [.int .u32 0, .int .u32 0, .string ⟨#[]⟩]) (t := 32) (by simp)).cell (i := 0) rfl
  have r1 := (BS3.out.get (b := w.heap.size + 1 + 1) (l := [.int .u32 0, .int .u32 0, .string ⟨#[]⟩]) (t := 32) (by simp)).cell (i := 1) rfl
  have r2 := (BS3.out.get (b := w.heap.size + 1 + 1) (l := [.int .u32 0, .int .u32 0, .string ⟨#[]⟩]) (t := 32) (by simp)).cell (i := 2) rfl
  have y0 := (BS3.out.get (b := w.heap.size + 1 + 1) (l := [.int .u32 0, .int .u32 0, .string ⟨#[]⟩]) (t := 32) (by simp)).free 0
  have y1 := (BS3.out.get (b := w.heap.size + 1 + 1) (l := [.int .u32 0, .int .u32 0, .string ⟨#[]⟩]) (t := 32) (by simp)).free 1
  have y2 := (BS3.out.get (b := w.heap.size + 1 + 1) (l := [.int .u32 0, .int .u32 0, .string ⟨#[]⟩]) (t := 32) (by simp)).free 2
  have m0 := (BS3.out.get (b := w.heap.size + 1 + 1 + 1) (l := [.slice none 0 0]) (t := 27) (by simp)).cell (i := 0) rfl
  have z0 := (BS3.out.get (b := w.heap.size + 1 + 1 + 1) (l := [.slice none 0 0]) (t := 27) (by simp)).free 0
  have a8 := (BS3.out.get (b := w.heap.size + 1) (l := [.slice ga CL gc]) (t := 27) (by simp)).cell (i := 0) rfl
  have HIN2 := hid (fun q => HIN.out q)
  by_cases hM : okM ch = true
  · rw [hM]
    by_cases hB : 0 ≤ B ∧ B ≤ (CL : Int) - 24
    · rw [decide_eq_true hB] at HIN2
      by_cases hS : sz x < 0
      · have HNV := hid (mp_no lo hi s ch B x (by rw [hokd.out]; exact decide_eq_false (fun h => by have := h.2.2.1; omega)))
        generalize sz x = SZ at *
        clear hB hM hokd
        go_wp2_with (first | (go_at_call 51; refine (HIN2.out _).mono ?_; rintro e w4 ⟨rfl, rfl⟩) | (go_at_call 52; refine (HSI.out _).mono ?_; rintro e w4 ⟨rfl, rfl⟩))
        go_region
        all_goals
          go_wp2_with fail
          refine bodyPost_ret (v := .tuple #[.agg #[.int .u32 lo, .int .u32 hi, .string s], .agg #[.slice ga CL gc], .bool false]) (by simp [results, Try.results18, go_sem, r0, r1, r2, m0]) rfl ?_
          refine HQ.out _ _ ⟨.slice ga CL gc, ?_, ?_, ?_⟩
          · rw [HNV.out.1, HNV.out.2.1]
            rfl
          · rw [HNV.out.2.2]
            exact ((((O3.out.setCell_below (a := ⟨w.heap.size + 1 + 1, 0, none⟩) (by show w.heap.size + 1 + 1 < w.heap.size + 1 + 1 + 1 + 1; omega) _).setCell_below (a := ⟨w.heap.size + 1 + 1, 1, none⟩) (by show w.heap.size + 1 + 1 < w.heap.size + 1 + 1 + 1 + 1; omega) _).setCell_below (a := ⟨w.heap.size + 1 + 1, 2, none⟩) (by show w.heap.size + 1 + 1 < w.heap.size + 1 + 1 + 1 + 1; omega) _).setCell_below (a := ⟨w.heap.size + 1 + 1 + 1, 0, none⟩) (by show w.heap.size + 1 + 1 + 1 < w.heap.size + 1 + 1 + 1 + 1; omega) _).lower (by omega)
          · exact belowN ((((A3.out.setCell (p := ⟨w.heap.size + 1 + 1, 0, none⟩) (by show w.heap.size ≤ w.heap.size + 1 + 1; omega) _).setCell (p := ⟨w.heap.size + 1 + 1, 1, none⟩) (by show w.heap.size ≤ w.heap.size + 1 + 1; omega) _).setCell (p := ⟨w.heap.size + 1 + 1, 2, none⟩) (by show w.heap.size ≤ w.heap.size + 1 + 1; omega) _).setCell (p := ⟨w.heap.size + 1 + 1 + 1, 0, none⟩) (by show w.heap.size ≤ w.heap.size + 1 + 1 + 1; omega) _) 1
      · by_cases hT : s.size ≤ 59800
        · have hT' : ¬ (59800 : Int) < (s.size : Int) := by omega
          have HY : Hid (okMP s ch B x = true) := by rw [hokd.out]; exact decide_eq_true ⟨hM, hB, by omega, hT⟩
          obtain ⟨k, rfl⟩ := Int.eq_ofNat_of_zero_le hB.1
          have hn12 : CL ≤ 1200 := by have := okM_len hM; have := HCL.out; omega
          have hk24 : k + 24 ≤ CL := by omega
          obtain ⟨g, rfl, hg, hgc1, hgc2⟩ : ∃ g, ga = some ⟨g, 0, none⟩ ∧ w.heap.size + 1 + 1 + 1 + 1 ≤ g ∧ CL ≤ gc ∧ gc ≤ maxLen := by
            rcases O3.out.2.2 with ⟨e2, h0⟩ | ⟨g', cap', cur, e2, hg, hh, hle, hm, _⟩
            · have := HCL.out
              omega
            · rw [HCL.out] at e2 hle
              simp only [Value.slice.injEq] at e2
              obtain ⟨rfl, _, rfl⟩ := e2
              exact ⟨g', rfl, hg, hle, hm⟩
          have NU := hid O3.out.nums
          have hpk : PsOk CL 0 ⟨lo, hi, [], ch⟩ := ⟨hl, hh, HCL.out, (of_decide_eq_true hM).2, by simp⟩
          have HPN := hid (fun q (hq : Nums gc q g ch) => spec_putNum g gc CL k x lo hi s ch q hx0 hx1 hn12 hk24 hT hpk hq)
          have HZK := hid (putTo_ok (x := x) (B := k) hpk hk24 (planP x).length (Nat.le_refl _))
          have HEE : Hid (mpS lo hi s ch k x = putTo k (planP x) ⟨lo, hi, [], ch⟩ (planP x).length) := by
            show _ = _
            unfold mpS
            rw [HY.out, if_pos rfl, Int.toNat_natCast]
          generalize hZE : putTo k (planP x) ⟨lo, hi, [], ch⟩ (planP x).length = Z at *
          clear hZE
          have hSS : ¬ sz x < 0 := hS
          generalize sz x = SZ at *
          have HGG := hid hg
          have HGC := hid (And.intro hgc1 hgc2)
          unfold cV at HPN
          clear hokd hT hM hB hS hn12 hk24 hpk hg hgc1 hgc2 hl hh
          go_wp2_with (first | (go_at_call 51; refine (HIN2.out _).mono ?_; rintro e w4 ⟨rfl, rfl⟩) | (go_at_call 52; refine (HSI.out _).mono ?_; rintro e w4 ⟨rfl, rfl⟩))
          have D3 := hid (below_drewN w3 1)
          have hBL : Hid (∀ y ∈ [(w.heap.size, [Value.int .u32 lo, .int .u32 hi, .string s], (32 : TypeId)), (w.heap.size + 1, [.slice (some ⟨g, 0, none⟩) CL gc], 27), (w.heap.size + 1 + 1, [.int .u32 0, .int .u32 0, .string ⟨#[]⟩], 32), (w.heap.size + 1 + 1 + 1, [.slice none 0 0], 27)], y.1 ≠ g) := by
            intro y hy
            simp only [List.mem_cons, List.not_mem_nil, or_false] at hy
            have := HGG.out
            rcases hy with rfl | rfl | rfl | rfl <;> simp <;> omega
          have hAgl : Hid (w.heap.size ≤ g) := by have := HGG.out; show w.heap.size ≤ g; omega
          clear r0 r1 r2 y0 y1 y2 m0 z0
          go_region_with (go_at_call 53; refine (HPN.out w3.drew (NU.out.kept (fun l hl => hl.below D3.out hl.lt))).mono ?_; rintro e w8 ⟨rfl, hC8, hE8⟩; have E8 := hid ((Ef.ofBelow (C := g) D3.out).trans hE8); have BS8 := hid (BS3.out.ef E8.out hBL.out); have r0 := (BS8.out.get (b := w.heap.size + 1 + 1) (l := [.int .u32 0, .int .u32 0, .string ⟨#[]⟩]) (t := 32) (by simp)).cell (i := 0) rfl; have r1 := (BS8.out.get (b := w.heap.size + 1 + 1) (l := [.int .u32 0, .int .u32 0, .string ⟨#[]⟩]) (t := 32) (by simp)).cell (i := 1) rfl; have r2 := (BS8.out.get (b := w.heap.size + 1 + 1) (l := [.int .u32 0, .int .u32 0, .string ⟨#[]⟩]) (t := 32) (by simp)).cell (i := 2) rfl; have y0 := (BS8.out.get (b := w.heap.size + 1 + 1) (l := [.int .u32 0, .int .u32 0, .string ⟨#[]⟩]) (t := 32) (by simp)).free 0; have y1 := (BS8.out.get (b := w.heap.size + 1 + 1) (l := [.int .u32 0, .int .u32 0, .string ⟨#[]⟩]) (t := 32) (by simp)).free 1; have y2 := (BS8.out.get (b := w.heap.size + 1 + 1) (l := [.int .u32 0, .int .u32 0, .string ⟨#[]⟩]) (t := 32) (by simp)).free 2; have m0 := (BS8.out.get (b := w.heap.size + 1 + 1 + 1) (l := [.slice none 0 0]) (t := 27) (by simp)).cell (i := 0) rfl; have z0 := (BS8.out.get (b := w.heap.size + 1 + 1 + 1) (l := [.slice none 0 0]) (t := 27) (by simp)).free 0; have a9 := (BS8.out.get (b := w.heap.size + 1) (l := [.slice (some ⟨g, 0, none⟩) CL gc]) (t := 27) (by simp)).cell (i := 0) rfl)
          all_goals
            have C8 := hid hC8
            have A8 := hid (A3.out.trans (E8.out.below hAgl.out A3.out.size))
            clear hC8 hE8 E8 HPN D3 a8 c0 c1 c2
            go_wp2_with fail
            refine bodyPost_ret (v := .tuple #[.agg #[.int .u32 Z.lo, .int .u32 Z.hi, .string (s ++ strOfNums Z.o)], .agg #[.slice (some ⟨g, 0, none⟩) CL gc], .bool true]) (by simp [results, Try.results18, go_sem, r0, r1, r2, m0]) rfl ?_
            refine HQ.out _ _ ⟨.slice (some ⟨g, 0, none⟩) CL gc, ?_, ?_, ?_⟩
            · unfold mpV
              rw [HEE.out, HY.out]
              rfl
            · rw [HEE.out]
              have h1 := C8.out.own (base := w.heap.size) hAgl.out (by rw [HZK.out.ln]; exact HGC.out.1) HGC.out.2
              rw [HZK.out.ln] at h1
              exact mp_own h1 (by have := HGG.out; omega) (by have := HGG.out; omega) _ _ _ _
            · exact (((A8.out.setCell (p := ⟨w.heap.size + 1 + 1, 0, none⟩) (by show w.heap.size ≤ w.heap.size + 1 + 1; omega) _).setCell (p := ⟨w.heap.size + 1 + 1, 1, none⟩) (by show w.heap.size ≤ w.heap.size + 1 + 1; omega) _).setCell (p := ⟨w.heap.size + 1 + 1, 2, none⟩) (by show w.heap.size ≤ w.heap.size + 1 + 1; omega) _).setCell (p := ⟨w.heap.size + 1 + 1 + 1, 0, none⟩) (by show w.heap.size ≤ w.heap.size + 1 + 1 + 1; omega) _
        · have hT' : (59800 : Int) < (s.size : Int) := by omega
          have HNV := hid (mp_no lo hi s ch B x (by rw [hokd.out]; exact decide_eq_false (fun h => hT h.2.2.2)))
          generalize sz x = SZ at *
          clear hB hM hokd hT
          go_wp2_with (first | (go_at_call 51; refine (HIN2.out _).mono ?_; rintro e w4 ⟨rfl, rfl⟩) | (go_at_call 52; refine (HSI.out _).mono ?_; rintro e w4 ⟨rfl, rfl⟩))
          go_region
          all_goals
            go_wp2_with fail
            refine bodyPost_ret (v := .tuple #[.agg #[.int .u32 lo, .int .u32 hi, .string s], .agg #[.slice ga CL gc], .bool false]) (by simp [results, Try.results18, go_sem, r0, r1, r2, m0]) rfl ?_
            refine HQ.out _ _ ⟨.slice ga CL gc, ?_, ?_, ?_⟩
            · rw [HNV.out.1, HNV.out.2.1]
              rfl
            · rw [HNV.out.2.2]
              exact ((((O3.out.setCell_below (a := ⟨w.heap.size + 1 + 1, 0, none⟩) (by show w.heap.size + 1 + 1 < w.heap.size + 1 + 1 + 1 + 1; omega) _).setCell_below (a := ⟨w.heap.size + 1 + 1, 1, none⟩) (by show w.heap.size + 1 + 1 < w.heap.size + 1 + 1 + 1 + 1; omega) _).setCell_below (a := ⟨w.heap.size + 1 + 1, 2, none⟩) (by show w.heap.size + 1 + 1 < w.heap.size + 1 + 1 + 1 + 1; omega) _).setCell_below (a := ⟨w.heap.size + 1 + 1 + 1, 0, none⟩) (by show w.heap.size + 1 + 1 + 1 < w.heap.size + 1 + 1 + 1 + 1; omega) _).lower (by omega)
            · exact belowN ((((A3.out.setCell (p := ⟨w.heap.size + 1 + 1, 0, none⟩) (by show w.heap.size ≤ w.heap.size + 1 + 1; omega) _).setCell (p := ⟨w.heap.size + 1 + 1, 1, none⟩) (by show w.heap.size ≤ w.heap.size + 1 + 1; omega) _).setCell (p := ⟨w.heap.size + 1 + 1, 2, none⟩) (by show w.heap.size ≤ w.heap.size + 1 + 1; omega) _).setCell (p := ⟨w.heap.size + 1 + 1 + 1, 0, none⟩) (by show w.heap.size ≤ w.heap.size + 1 + 1 + 1; omega) _) 1
    · rw [decide_eq_false hB] at HIN2
      have HNV := hid (mp_no lo hi s ch B x (by rw [hokd.out]; exact decide_eq_false (fun h => hB h.2.1)))
      clear hB hM hokd
      go_wp2_with (first | (go_at_call 51; refine (HIN2.out _).mono ?_; rintro e w4 ⟨rfl, rfl⟩))
      go_region
      all_goals
        go_wp2_with fail
        refine bodyPost_ret (v := .tuple #[.agg #[.int .u32 lo, .int .u32 hi, .string s], .agg #[.slice ga CL gc], .bool false]) (by simp [results, Try.results18, go_sem, r0, r1, r2, m0]) rfl ?_
        refine HQ.out _ _ ⟨.slice ga CL gc, ?_, ?_, ?_⟩
        · rw [HNV.out.1, HNV.out.2.1]
          rfl
        · rw [HNV.out.2.2]
          exact ((((O3.out.setCell_below (a := ⟨w.heap.size + 1 + 1, 0, none⟩) (by show w.heap.size + 1 + 1 < w.heap.size + 1 + 1 + 1 + 1; omega) _).setCell_below (a := ⟨w.heap.size + 1 + 1, 1, none⟩) (by show w.heap.size + 1 + 1 < w.heap.size + 1 + 1 + 1 + 1; omega) _).setCell_below (a := ⟨w.heap.size + 1 + 1, 2, none⟩) (by show w.heap.size + 1 + 1 < w.heap.size + 1 + 1 + 1 + 1; omega) _).setCell_below (a := ⟨w.heap.size + 1 + 1 + 1, 0, none⟩) (by show w.heap.size + 1 + 1 + 1 < w.heap.size + 1 + 1 + 1 + 1; omega) _).lower (by omega)
        · exact belowN ((((A3.out.setCell (p := ⟨w.heap.size + 1 + 1, 0, none⟩) (by show w.heap.size ≤ w.heap.size + 1 + 1; omega) _).setCell (p := ⟨w.heap.size + 1 + 1, 1, none⟩) (by show w.heap.size ≤ w.heap.size + 1 + 1; omega) _).setCell (p := ⟨w.heap.size + 1 + 1, 2, none⟩) (by show w.heap.size ≤ w.heap.size + 1 + 1; omega) _).setCell (p := ⟨w.heap.size + 1 + 1 + 1, 0, none⟩) (by show w.heap.size ≤ w.heap.size + 1 + 1 + 1; omega) _) 1
  · have hM' : okM ch = false := by simpa using hM
    have HNV := hid (mp_no lo hi s ch B x (by rw [hokd.out]; exact decide_eq_false (fun h => hM h.1)))
    rw [hM']
    clear hM hM' hokd
    go_wp2_with fail
    go_region
    all_goals
      go_wp2_with fail
      refine bodyPost_ret (v := .tuple #[.agg #[.int .u32 lo, .int .u32 hi, .string s], .agg #[.slice ga CL gc], .bool false]) (by simp [results, Try.results18, go_sem, r0, r1, r2, m0]) rfl ?_
      refine HQ.out _ _ ⟨.slice ga CL gc, ?_, ?_, ?_⟩
      · rw [HNV.out.1, HNV.out.2.1]
        rfl
      · rw [HNV.out.2.2]
        exact ((((O3.out.setCell_below (a := ⟨w.heap.size + 1 + 1, 0, none⟩) (by show w.heap.size + 1 + 1 < w.heap.size + 1 + 1 + 1 + 1; omega) _).setCell_below (a := ⟨w.heap.size + 1 + 1, 1, none⟩) (by show w.heap.size + 1 + 1 < w.heap.size + 1 + 1 + 1 + 1; omega) _).setCell_below (a := ⟨w.heap.size + 1 + 1, 2, none⟩) (by show w.heap.size + 1 + 1 < w.heap.size + 1 + 1 + 1 + 1; omega) _).setCell_below (a := ⟨w.heap.size + 1 + 1 + 1, 0, none⟩) (by show w.heap.size + 1 + 1 + 1 < w.heap.size + 1 + 1 + 1 + 1; omega) _).lower (by omega)
      · exact belowN ((((A3.out.setCell (p := ⟨w.heap.size + 1 + 1, 0, none⟩) (by show w.heap.size ≤ w.heap.size + 1 + 1; omega) _).setCell (p := ⟨w.heap.size + 1 + 1, 1, none⟩) (by show w.heap.size ≤ w.heap.size + 1 + 1; omega) _).setCell (p := ⟨w.heap.size + 1 + 1, 2, none⟩) (by show w.heap.size ≤ w.heap.size + 1 + 1; omega) _).setCell (p := ⟨w.heap.size + 1 + 1 + 1, 0, none⟩) (by show w.heap.size ≤ w.heap.size + 1 + 1 + 1; omega) _) 1
end Go.Proofs.Ytimafabbepgifaa
