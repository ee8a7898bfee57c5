/- DrawSpent of the specification. -/
import Derived.Test.YtmdmolofiblbmaaDc
namespace Go.Proofs.Ytmdmolofiblbmaa
open Go.RowKit
set_option linter.unusedVariables false

/-- What stands while codes and weights are drawn. -/
def Sst (w wz : World) (K : Nat) (cv sv fv : Value) (cs ss fs : List Int) : Prop :=
  Two wz w.heap.size (.slice none 0 0) (.slice none 0 0) 26 ∧ Two wz K cv sv 26 ∧ w.heap.size + 1 ≤ K ∧ Own wz (w.heap.size + 1) 3 .i64 cv cs ∧ Own wz (w.heap.size + 1) 3 .i64 sv ss ∧ Own wz (w.heap.size + 1) 3 .i64 fv fs ∧ Below w.heap.size w wz
/-- What the draw leaves. -/
def SpEnd (w w' : World) (e : Ending) : Prop := ∃ kv fa fc cs ss fs, e = .returned (.tuple #[kv, .slice fa 256 fc]) ∧ cs.length ≤ 16 ∧ ss.length ≤ 4097 ∧ fs.length = 256 ∧ CV w' kv cs ss ∧ View .i64 w' fa 256 fs ∧ Below w.heap.size w w'
theorem Sst.end {w wz : World} {K : Nat} {a0 a1 fa : Option Addr} {n0 n1 c0 c1 fc : Nat} {cs ss fs : List Int} (h : Sst w wz K (.slice a0 n0 c0) (.slice a1 n1 c1) (.slice fa 256 fc) cs ss fs) :
    CV ((wz.setCell ⟨w.heap.size, 0, none⟩ (.slice a0 n0 c0)).setCell ⟨w.heap.size, 1, none⟩ (.slice a1 n1 c1)) (.agg #[.slice a0 n0 c0, .slice a1 n1 c1]) cs ss ∧ fs.length = 256 ∧
    View .i64 ((wz.setCell ⟨w.heap.size, 0, none⟩ (.slice a0 n0 c0)).setCell ⟨w.heap.size, 1, none⟩ (.slice a1 n1 c1)) fa 256 fs ∧ Below w.heap.size w ((wz.setCell ⟨w.heap.size, 0, none⟩ (.slice a0 n0 c0)).setCell ⟨w.heap.size, 1, none⟩ (.slice a1 n1 c1)) := by
  obtain ⟨t, k, hK, o1, o2, o3, hb⟩ := h
  have lt : w.heap.size < w.heap.size + 1 := Nat.lt_succ_self _
  have p1 := (o1.setCell_below (a := ⟨w.heap.size, 0, none⟩) lt (.slice a0 n0 c0)).setCell_below (a := ⟨w.heap.size, 1, none⟩) lt (.slice a1 n1 c1)
  have p2 := (o2.setCell_below (a := ⟨w.heap.size, 0, none⟩) lt (.slice a0 n0 c0)).setCell_below (a := ⟨w.heap.size, 1, none⟩) lt (.slice a1 n1 c1)
  have p3 := (o3.setCell_below (a := ⟨w.heap.size, 0, none⟩) lt (.slice a0 n0 c0)).setCell_below (a := ⟨w.heap.size, 1, none⟩) lt (.slice a1 n1 c1)
  obtain ⟨b1, d1, e1, v1⟩ := p1.view
  obtain ⟨b2, d2, e2, v2⟩ := p2.view
  obtain ⟨b3, d3, e3, v3⟩ := p3.view
  injection e1 with e11 e12 e13
  injection e2 with e21 e22 e23
  injection e3 with e31 e32 e33
  subst e11 e12 e13 e21 e22 e23 e31 e33
  rw [← e32] at v3
  exact ⟨⟨_, _, _, _, rfl, v1, v2⟩, e32.symm, v3, (hb.setCell (p := ⟨w.heap.size, 0, none⟩) (Nat.le_refl _) _).setCell (p := ⟨w.heap.size, 1, none⟩) (Nat.le_refl _) _⟩
theorem Sst.eff {w w1 w2 : World} {K C : Nat} {cv sv fv : Value} {cs ss fs : List Int} (h : Sst w w1 K cv sv fv cs ss fs) (he : Eff C w1 w2) (h1 : w.heap.size < C) (h2 : C ≠ K) (ho : ∀ v, v = cv ∨ v = sv ∨ v = fv → v.ownBlock ≠ some C) : Sst w w2 K cv sv fv cs ss fs := by
  obtain ⟨t, k, hK, o1, o2, o3, hb⟩ := h
  have key : ∀ {v : Value} {xs : List Int}, Own w1 (w.heap.size + 1) 3 .i64 v xs → v.ownBlock ≠ some C → Own w2 (w.heap.size + 1) 3 .i64 v xs := fun o hn => o.keep he.size (fun g hg hne => he.block g hg hne) (fun g hg e => hn (by rw [hg, e]))
  exact ⟨(he.block _ t.lt (fun e => by have := Option.some.inj e; omega)).trans t, (he.block _ k.lt (fun e => h2 (Option.some.inj e).symm)).trans k, hK, key o1 (ho _ (.inl rfl)), key o2 (ho _ (.inr (.inl rfl))), key o3 (ho _ (.inr (.inr rfl))), hb.trans ⟨he.os, he.tape, he.output, he.size, fun j hj => he.block j (Nat.lt_of_lt_of_le hj hb.size) (fun e => by have := Option.some.inj e; omega)⟩⟩
theorem Sst.turn {w0 w w1 w2 : World} {ao : Option Addr} {n cap : Nat} {K C : Nat} {cv sv fv : Value} {cs ss fs : List Int} (h : Sst w w1 K cv sv fv cs ss fs) (hc : Cur w0 ao n cap C w1) (he : Eff C w1 w2) (h1 : w.heap.size < C) : Sst w w2 K cv sv fv cs ss fs := by
  obtain ⟨_, _, i, x, _, hh⟩ := hc
  refine h.eff he h1 (fun e => ?_) (fun v hv => ?_)
  · have := h.2.1
    rw [← e] at this
    unfold Two at this
    rw [hh] at this
    injection this with this
    injection this with g1 g2 g3
    exact absurd g2 (by decide)
  · rcases hv with rfl | rfl | rfl
    · exact h.2.2.2.1.ne80 hh
    · exact h.2.2.2.2.1.ne80 hh
    · exact h.2.2.2.2.2.1.ne80 hh
theorem Sst.below {w w1 w2 : World} {K : Nat} {cv sv fv : Value} {cs ss fs : List Int} (h : Sst w w1 K cv sv fv cs ss fs) (hb : Below w1.heap.size w1 w2) : Sst w w2 K cv sv fv cs ss fs := by
  obtain ⟨t, k, hK, o1, o2, o3, hw⟩ := h
  exact ⟨t.below hb t.lt, k.below hb k.lt, hK, o1.below hb, o2.below hb, o3.below hb, hw.trans (hb.mono hw.size)⟩
theorem Own.off {w : World} {base : Nat} {v : Value} {xs : List Int} (h : Own w base 3 .i64 v xs) (b j : Nat) (u : Value) (hn : v.ownBlock ≠ some b) : Own (w.setCell ⟨b, j, none⟩ u) base 3 .i64 v xs :=
  h.keep (b := some b) (by simp [World.setCell]) (fun g hg hne => heap_setCell_other _ ⟨b, j, none⟩ g _ (fun e => hne (by rw [e]))) (fun g hg e => hn (by rw [hg, e]))
theorem Sst.setK {w wz : World} {K : Nat} {cv sv fv cv' sv' : Value} {cs ss fs cs' ss' : List Int} (h : Sst w wz K cv sv fv cs ss fs) (o1 : Own wz (w.heap.size + 1) 3 .i64 cv' cs') (o2 : Own wz (w.heap.size + 1) 3 .i64 sv' ss') :
    Sst w ((wz.setCell ⟨K, 0, none⟩ cv').setCell ⟨K, 1, none⟩ sv') K cv' sv' fv cs' ss' fs := by
  obtain ⟨t, k, hK, p1, p2, p3, hb⟩ := h
  have k2 : Two (wz.setCell ⟨K, 0, none⟩ cv') K cv' sv 26 := heap_setCell_same wz K 0 _ 26 cv' k
  have k3 : Two ((wz.setCell ⟨K, 0, none⟩ cv').setCell ⟨K, 1, none⟩ sv') K cv' sv' 26 := heap_setCell_same _ K 1 _ 26 sv' k2
  have key : ∀ {v : Value} {xs : List Int}, Own wz (w.heap.size + 1) 3 .i64 v xs → Own ((wz.setCell ⟨K, 0, none⟩ cv').setCell ⟨K, 1, none⟩ sv') (w.heap.size + 1) 3 .i64 v xs := fun o => (o.off K 0 cv' (o.ne26 k)).off K 1 sv' (o.ne26 k)
  exact ⟨(heap_setCell_other _ ⟨K, 1, none⟩ _ _ (by show w.heap.size ≠ K; omega)).trans ((heap_setCell_other _ ⟨K, 0, none⟩ _ _ (by show w.heap.size ≠ K; omega)).trans t), k3, hK, key o1, key o2, key p3, (hb.setCell (p := ⟨K, 0, none⟩) (by show w.heap.size ≤ K; omega) _).setCell (p := ⟨K, 1, none⟩) (by show w.heap.size ≤ K; omega) _⟩
theorem Sst.setF {w wz : World} {K g n c M : Nat} {cv sv : Value} {cs ss fs : List Int} (h : Sst w wz K cv sv (.slice (some ⟨g, 0, none⟩) n c) cs ss fs) (o1 : Own wz M 3 .i64 cv cs) (o2 : Own wz M 3 .i64 sv ss) (hg : g < M) (hM : w.heap.size + 1 ≤ M) (hK : M ≤ K) (j : Nat) (y : Int) :
    Sst w (wz.setCell ⟨g, j, none⟩ (.int .i64 y)) K cv sv (.slice (some ⟨g, 0, none⟩) n c) cs ss (fs.set j y) := by
  obtain ⟨t, k, hK2, p1, p2, p3, hb⟩ := h
  have hge := p3.ge.1
  exact ⟨(heap_setCell_other _ ⟨g, j, none⟩ _ _ (by show w.heap.size ≠ g; exact fun e => by have : w.heap.size + 1 ≤ g := hge; omega)).trans t, (heap_setCell_other _ ⟨g, j, none⟩ _ _ (by show K ≠ g; omega)).trans k, hK2, (o1.setCell_below (a := ⟨g, j, none⟩) hg _).mono hM, (o2.setCell_below (a := ⟨g, j, none⟩) hg _).mono hM, p3.store j y, hb.setCell (p := ⟨g, j, none⟩) (Nat.le_trans (Nat.le_succ _) hge) _⟩

set_option maxRecDepth 100000 in
set_option maxHeartbeats 3200000 in
theorem draw_spent (ao : Option Addr) (n cap : Nat) (zs : List Int) (w : World) (hcode : Code w ao n zs) :
    Calls Try.prog 19 #[.slice ao n cap] w fun e w' => SpEnd w w' e := by
  have hA0 := (Below.refl w.heap.size w).alloc (Nat.le_refl _) (.cells #[.slice none 0 0, .slice none 0 0] 26)
  have hT0 := Two.new w (.slice none 0 0) (.slice none 0 0) 26
  have hC0 : Code (w.alloc (.cells #[.slice none 0 0, .slice none 0 0] 26)) ao n zs := ⟨hcode.1, hcode.2.1.below (Nat.le_refl _) hA0, hcode.2.2⟩
  have HN := hid (new_any ao n cap zs _ hC0)
  have HA0 := hid hA0
  have HT0 := hid hT0
  have HC0 := hid hC0
  have hs0 : (w.alloc (.cells #[.slice none 0 0, .slice none 0 0] 26)).heap.size = w.heap.size + 1 := by simp
  clear hA0 hT0 hC0 hcode
  go_enter Try.func19, Try.ntmps19
  go_wp2_with (first | (go_at_call 31; fail) | fail)
  refine HN.out.mono ?_
  rintro e w1 ⟨C, rfl, hc1, hb1⟩
  have hT1 := HT0.out.below hb1 (by omega)
  have HB1 := hid (HA0.out.trans (hb1.mono (by omega)))
  have HT1 := hid hT1
  have hC := hc1.1
  have hC' : w.heap.size < C := by omega
  have HD := hid (draw_freqs (w.alloc (.cells #[.slice none 0 0, .slice none 0 0] 26)) ao n cap C zs w1 HC0.out hc1)
  have HW1 := hid (show w.heap.size + 1 ≤ w1.heap.size from by have := hb1.size; omega)
  generalize hw0 : w.alloc (.cells #[.slice none 0 0, .slice none 0 0] 26) = w0 at *
  have HW0 := hid hw0
  clear hc1 hb1 HN HT0 HA0 hT1 hw0
  go_wp2_with (first | (go_at_call 32; fail) | fail)
  refine HD.out.mono ?_
  rintro e w2 ⟨v2, fs, s, rfl, ho2, hd2, hs2, hc2, he2⟩
  have hbb := hd2.good hs2
  have hfl := hd2.1
  obtain ⟨a2, c2, e2, vw2⟩ := ho2.view
  rw [hd2.1] at e2 vw2
  subst e2
  have HSB := hid (spec_best a2 256 c2 fs w2 (by decide) vw2)
  rw [hbb] at HSB
  have HBC := hid (show (bC fs).length = 16 ∧ (bS fs).length ≤ 4096 from ⟨by unfold bC; rw [if_pos hbb, cntsTo_len], bS_len fs⟩)
  have HO2 := hid ho2
  have HC2 := hid hc2
  have hb2 : Below (w.heap.size + 1) w1 w2 := ⟨he2.os, he2.tape, he2.output, he2.size, fun k hk => he2.block k (by have := HW1.out; omega) (fun e => by have := Option.some.inj e; omega)⟩
  have HT2 := hid (HT1.out.below hb2 (by omega))
  have HB2 := hid (HB1.out.trans (hb2.mono (by omega)))
  have HW2 := hid (show w1.heap.size ≤ w2.heap.size from he2.size)
  have HFL := hid hfl
  clear ho2 hd2 hs2 hc2 he2 hb2 vw2 hbb HD HT1 HB1 hfl
  generalize hcs : bC fs = CS at *
  generalize hss : bS fs = SS at *
  go_wp2_with (first | (go_at_call 17; fail) | fail)
  refine HSB.out.mono ?_
  rintro e w3 ⟨v3, rfl, bo3, hb3⟩
  obtain ⟨cv, sv, rfl, o1, o2, ap⟩ := bo3
  obtain ⟨a3, c3, rfl⟩ := o1.shape
  obtain ⟨a4, c4, rfl⟩ := o2.shape
  have hA3 := (Below.refl w3.heap.size w3).alloc (Nat.le_refl _) (.cells #[.slice a3 CS.length c3, .slice a4 SS.length c4] 26)
  have hw12 : w.heap.size + 1 ≤ w2.heap.size := by have := HW1.out; have := HW2.out; omega
  have HS4 := hid (show Sst w (w3.alloc (.cells #[.slice a3 CS.length c3, .slice a4 SS.length c4] 26)) w3.heap.size (.slice a3 CS.length c3) (.slice a4 SS.length c4) (.slice a2 256 c2) CS SS fs from
    ⟨(HT2.out.below hb3 HT2.out.lt).below hA3 (HT2.out.below hb3 HT2.out.lt).lt, Two.new w3 _ _ 26, by have := hb3.size; omega, (o1.mono hw12).below hA3, (o2.mono hw12).below hA3, ((HO2.out.mono HW1.out).below hb3).below hA3, (HB2.out.trans (hb3.mono HB2.out.size)).trans (hA3.mono (Nat.le_trans HB2.out.size hb3.size))⟩)
  have HC4 := hid ((HC2.out.below hb3).below hA3)
  have HF2 := hid (show ∀ g, (Value.slice a2 256 c2).ownBlock = some g → g < w2.heap.size from fun g hg => (HO2.out.2.lt g hg).2)
  have HP3 := hid (show Own (w3.alloc (.cells #[.slice a3 CS.length c3, .slice a4 SS.length c4] 26)) w2.heap.size 3 .i64 (.slice a3 CS.length c3) CS ∧ Own (w3.alloc (.cells #[.slice a3 CS.length c3, .slice a4 SS.length c4] 26)) w2.heap.size 3 .i64 (.slice a4 SS.length c4) SS from ⟨o1.below hA3, o2.below hA3⟩)
  have hK4 : w2.heap.size ≤ w3.heap.size := hb3.size
  have HBY := hid (below_any w0 ao n cap C zs 6 _ HC0.out HC4.out)
  obtain ⟨q0, q1, q2, q3⟩ := HS4.out.2.1.cells
  clear o1 o2 ap hb3 hA3 HT2 HB2 HSB HC2 HO2
  go_wp2_with (first | (go_at_call 47; fail) | fail)
  refine HBY.out.mono ?_
  generalize hw4 : w3.alloc (.cells #[.slice a3 CS.length c3, .slice a4 SS.length c4] 26) = w4 at *
  generalize w3.heap.size = K at *
  rintro e w5 ⟨x, rfl, hx, hc5, he5⟩
  have HS5 := hid (HS4.out.turn HC4.out he5 hC')
  have HC5 := hid hc5
  have HSZ5 := hid he5.size
  obtain ⟨_, _, ci, cx, _, hch⟩ := HC4.out
  have HQ5 := hid (show Own w5 w2.heap.size 3 .i64 (.slice a3 CS.length c3) CS ∧ Own w5 w2.heap.size 3 .i64 (.slice a4 SS.length c4) SS from
    ⟨HP3.out.1.keep he5.size (fun g hg hne => he5.block g hg hne) (fun g hg e => HP3.out.1.ne80 hch (by rw [hg, e])), HP3.out.2.keep he5.size (fun g hg hne => he5.block g hg hne) (fun g hg e => HP3.out.2.ne80 hch (by rw [hg, e]))⟩)
  clear hc5 he5 hw4 HBY hch q0 q1 q2 q3
  obtain ⟨q0, q1, q2, q3⟩ := HS5.out.2.1.cells
  obtain ⟨r0, r1, r2, r3⟩ := HS5.out.1.cells
  by_cases hx0 : x = 0
  · subst hx0
    have HDC := hid (draw_codes w0 ao n cap C zs w5 HC0.out HC5.out)
    go_wp2_with (first | (go_at_call 48; fail) | fail)
    refine HDC.out.mono ?_
    rintro e w6 ⟨v6, cs6, ss6, rfl, bo6, h16, h97, hc6, he6⟩
    obtain ⟨cv6, sv6, rfl, o6, p6, ap6⟩ := bo6
    obtain ⟨a6, c6, rfl⟩ := o6.shape
    obtain ⟨a7, c7, rfl⟩ := p6.shape
    have hS6 := HS5.out.turn HC5.out he6 hC'
    have hw5 : w.heap.size + 1 ≤ w5.heap.size := by
      have h1 := HW1.out
      have h2 := HW2.out
      have h3 := HS5.out.2.1.lt
      omega
    have HS7 := hid (hS6.setK (o6.mono hw5) (p6.mono hw5))
    have HE := hid HS7.out.end
    have HL := hid (show cs6.length ≤ 16 ∧ ss6.length ≤ 4097 from ⟨h16, h97⟩)
    clear q0 q1 q2 q3 r0 r1 r2 r3
    obtain ⟨q0, q1, q2, q3⟩ := hS6.2.1.cells
    obtain ⟨s0, s1, s2, s3⟩ := HS7.out.2.1.cells
    obtain ⟨r0, r1, r2, r3⟩ := HS7.out.1.cells
    clear o6 p6 ap6 h16 h97 hc6 he6 hS6
    go_wp2_with fail
    exact bodyPost_ret (v := .tuple #[.agg #[.slice a6 cs6.length c6, .slice a7 ss6.length c7], .slice a2 256 c2]) (by simp [results, Try.results19, go_sem, r0, r1]) rfl ⟨_, _, _, cs6, ss6, fs, rfl, HL.out.1, HL.out.2, HE.out.2.1, HE.out.1, HE.out.2.2.1, HE.out.2.2.2⟩
  · have e0 : (x == 0) = false := by simpa using hx0
    by_cases hx1 : x = 1
    · subst hx1
      have HBY := hid (below_any w0 ao n cap C zs 40 _ HC0.out HC5.out)
      go_wp2_with (first | (go_at_call 47; fail) | fail)
      refine HBY.out.mono ?_
      rintro e w6 ⟨z, rfl, hz, hc6, he6⟩
      obtain ⟨Z, rfl⟩ := Int.eq_ofNat_of_zero_le hz.1
      have hZ : (Z : Int) < 256 := by omega
      have hA6 := (Below.refl w6.heap.size w6).alloc (Nat.le_refl _) (.cells #[.int .i64 (-1), .int .i64 100000, .int .i64 100001, .int .i64 0] 3)
      have HS6 := hid ((HS5.out.turn HC5.out he6 hC').below hA6)
      have HC6 := hid (hc6.below hA6)
      have HLT6 := hid hc6.lt
      obtain ⟨_, _, ci, cx, _, hch⟩ := HC5.out
      have HQ6 := hid (show Own (w6.alloc (.cells #[.int .i64 (-1), .int .i64 100000, .int .i64 100001, .int .i64 0] 3)) w2.heap.size 3 .i64 (.slice a3 CS.length c3) CS ∧ Own (w6.alloc (.cells #[.int .i64 (-1), .int .i64 100000, .int .i64 100001, .int .i64 0] 3)) w2.heap.size 3 .i64 (.slice a4 SS.length c4) SS from
        ⟨(HQ5.out.1.keep he6.size (fun g hg hne => he6.block g hg hne) (fun g hg e => HQ5.out.1.ne80 hch (by rw [hg, e]))).below hA6, (HQ5.out.2.keep he6.size (fun g hg hne => he6.block g hg hne) (fun g hg e => HQ5.out.2.ne80 hch (by rw [hg, e]))).below hA6⟩)
      have HPK := hid (pick_blk w0 ao n cap C zs w6.heap.size 4 [-1, 100000, 100001, 0] _ HC0.out HC6.out (by decide) rfl (by decide) HLT6.out (blk_new w6 _ _))
      clear hc6 he6 hA6 hch q0 q1 q2 q3 r0 r1 r2 r3 HBY hz
      go_wp2_with (first | (go_at_call 49; fail) | fail)
      refine HPK.out.mono ?_
      generalize w6.alloc (.cells #[.int .i64 (-1), .int .i64 100000, .int .i64 100001, .int .i64 0] 3) = w7 at *
      rintro e w8 ⟨y, rfl, hc8, he8⟩
      have HS8 := hid (HS6.out.turn HC6.out he8 hC')
      obtain ⟨_, _, ci, cx, _, hch⟩ := HC6.out
      have HQ8 := hid (show Own w8 w2.heap.size 3 .i64 (.slice a3 CS.length c3) CS ∧ Own w8 w2.heap.size 3 .i64 (.slice a4 SS.length c4) SS from
        ⟨HQ6.out.1.keep he8.size (fun g hg hne => he8.block g hg hne) (fun g hg e => HQ6.out.1.ne80 hch (by rw [hg, e])), HQ6.out.2.keep he8.size (fun g hg hne => he8.block g hg hne) (fun g hg e => HQ6.out.2.ne80 hch (by rw [hg, e]))⟩)
      obtain ⟨g, rfl⟩ := HS8.out.2.2.2.2.2.1.some_of (fun e => by have := HFL.out; rw [e] at this; cases this)
      have HG := hid (HF2.out g rfl)
      have HZN := hid (Int.ofNat_lt.1 hZ)
      have hcl := HS8.out.2.2.2.2.2.1.at Z (by rw [HFL.out]; exact HZN.out)
      have hfr := HS8.out.2.2.2.2.2.1.free Z
      have HS9 := hid (HS8.out.setF HQ8.out.1 HQ8.out.2 HG.out hw12 hK4 Z y)
      have HE := hid HS9.out.end
      have HL := hid (show CS.length ≤ 16 ∧ SS.length ≤ 4097 from ⟨by rw [HBC.out.1]; decide, by have := HBC.out.2; omega⟩)
      obtain ⟨q0, q1, q2, q3⟩ := HS9.out.2.1.cells
      obtain ⟨r0, r1, r2, r3⟩ := HS9.out.1.cells
      clear hc8 he8 hch
      go_wp2_with fail
      exact bodyPost_ret (v := .tuple #[.agg #[.slice a3 CS.length c3, .slice a4 SS.length c4], .slice (some ⟨g, 0, none⟩) 256 c2]) (by simp [results, Try.results19, go_sem, r0, r1]) rfl ⟨_, _, _, CS, SS, fs.set Z y, rfl, HL.out.1, HL.out.2, HE.out.2.1, HE.out.1, HE.out.2.2.1, HE.out.2.2.2⟩
    · have e1 : (x == 1) = false := by simpa using hx1
      have HE := hid HS5.out.end
      have HL := hid (show CS.length ≤ 16 ∧ SS.length ≤ 4097 from ⟨by rw [HBC.out.1]; decide, by have := HBC.out.2; omega⟩)
      clear hx0 hx1
      go_wp2_with fail
      exact bodyPost_ret (v := .tuple #[.agg #[.slice a3 CS.length c3, .slice a4 SS.length c4], .slice a2 256 c2]) (by simp [results, Try.results19, go_sem, r0, r1]) rfl ⟨_, _, _, CS, SS, fs, rfl, HL.out.1, HL.out.2, HE.out.2.1, HE.out.1, HE.out.2.2.1, HE.out.2.2.2⟩
end Go.Proofs.Ytmdmolofiblbmaa
