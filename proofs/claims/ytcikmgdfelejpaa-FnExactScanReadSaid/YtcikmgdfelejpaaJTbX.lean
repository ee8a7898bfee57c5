/- Copies and marks of tables. -/
import Derived.Test.YtcikmgdfelejpaaJTbW
namespace Go.Proofs.Ytcikmgdfelejpaa
open Go.RowKit Go.Maps
set_option linter.unusedVariables false

set_option maxRecDepth 100000 in
set_option maxHeartbeats 1600000 in
theorem toTables (v : Value) (cs ss ct st : List Int) (w : World) (h0 : cs.length ≤ 1048576) (h1 : ss.length ≤ 1048576) (h2 : ct.length ≤ 1048576) (h3 : st.length ≤ 1048576) (hv : TV w v cs ss ct st) :
    Calls Try.prog 12 #[v] w fun e w' => ∃ v', e = .returned v' ∧ TOwn w' w.heap.size v' cs ss ct st ∧ Below w.heap.size w w' := by
  obtain ⟨a0, c0, a1, c1, a2, c2, a3, c3, rfl, u0, u1⟩ := hv
  have f0 := Four.new w (.slice a0 cs.length c0) (.slice a1 ss.length c1) (.slice a2 ct.length c2) (.slice a3 st.length c3) 26
  have f1 := Four.new (w.alloc (.cells #[.slice a0 cs.length c0, .slice a1 ss.length c1, .slice a2 ct.length c2, .slice a3 st.length c3] 26)) (.slice none 0 0) (.slice none 0 0) (.slice none 0 0) (.slice none 0 0) 34
  have f2 := Four.new ((w.alloc (.cells #[.slice a0 cs.length c0, .slice a1 ss.length c1, .slice a2 ct.length c2, .slice a3 st.length c3] 26)).alloc (.cells #[.slice none 0 0, .slice none 0 0, .slice none 0 0, .slice none 0 0] 34)) (.slice none 0 0) (.slice none 0 0) (.slice none 0 0) (.slice none 0 0) 34
  have al : ∀ (q : World) (o : Obj), Below q.heap.size q (q.alloc o) := fun q o => (Below.refl _ _).alloc (Nat.le_refl _) o
  have HF0 := hid ((f0.below (al _ (.cells #[.slice none 0 0, .slice none 0 0, .slice none 0 0, .slice none 0 0] 34)) f0.lt).below (al _ (.cells #[.slice none 0 0, .slice none 0 0, .slice none 0 0, .slice none 0 0] 34)) (f0.below (al _ (.cells #[.slice none 0 0, .slice none 0 0, .slice none 0 0, .slice none 0 0] 34)) f0.lt).lt)
  have HF1 := hid (f1.below (al _ (.cells #[.slice none 0 0, .slice none 0 0, .slice none 0 0, .slice none 0 0] 34)) f1.lt)
  have HF2 := hid f2
  have hb0 := al w (.cells #[.slice a0 cs.length c0, .slice a1 ss.length c1, .slice a2 ct.length c2, .slice a3 st.length c3] 26)
  have hb1 := hb0.trans ((al (w.alloc (.cells #[.slice a0 cs.length c0, .slice a1 ss.length c1, .slice a2 ct.length c2, .slice a3 st.length c3] 26)) (.cells #[.slice none 0 0, .slice none 0 0, .slice none 0 0, .slice none 0 0] 34)).mono hb0.size)
  have HB0 := hid (hb1.trans ((al _ (.cells #[.slice none 0 0, .slice none 0 0, .slice none 0 0, .slice none 0 0] 34)).mono hb1.size))
  simp only [World.size_alloc] at HF1 HF2
  have HT1 := hid (fun q (hq : Below w.heap.size w q) => toCodes _ cs ss q h0 h1 (u0.below hq))
  have HT2 := hid (fun q (hq : Below w.heap.size w q) => toCodes _ ct st q h2 h3 (u1.below hq))
  clear u0 u1 f0 f1 f2 hb0 hb1 al
  go_enter Try.func12, Try.ntmps12
  go_wp2_with fail
  refine (HT1.out _ HB0.out).mono ?_
  generalize ((w.alloc _).alloc _).alloc _ = wa at *
  rintro e w1 ⟨v1, rfl, ho1, hb1⟩
  obtain ⟨x0, d0, x1, d1, rfl, o0, o1⟩ := ho1.two
  have E0 := hid (HF0.out.below hb1 HF0.out.lt)
  have E1 := hid (HF1.out.below hb1 HF1.out.lt)
  have E2 := hid (HF2.out.below hb1 HF2.out.lt)
  have hlt2 : w.heap.size + 1 + 1 < wa.heap.size := HF2.out.lt
  have P2 := hid ((E2.out.set0 (.slice x0 cs.length d0)).set1 (.slice x1 ss.length d1))
  have P1 := hid ((E1.out.other (i := 0) (show w.heap.size + 1 ≠ w.heap.size + 1 + 1 by omega) (.slice x0 cs.length d0)).other (i := 1) (show w.heap.size + 1 ≠ w.heap.size + 1 + 1 by omega) (.slice x1 ss.length d1))
  have P0 := hid ((E0.out.other (i := 0) (show w.heap.size ≠ w.heap.size + 1 + 1 by omega) (.slice x0 cs.length d0)).other (i := 1) (show w.heap.size ≠ w.heap.size + 1 + 1 by omega) (.slice x1 ss.length d1))
  have hB1 := HB0.out.trans (hb1.mono HB0.out.size)
  have BB1 := hid ((hB1.setCell (p := ⟨w.heap.size + 1 + 1, 0, none⟩) (by show w.heap.size ≤ w.heap.size + 1 + 1; omega) (.slice x0 cs.length d0)).setCell (p := ⟨w.heap.size + 1 + 1, 1, none⟩) (by show w.heap.size ≤ w.heap.size + 1 + 1; omega) (.slice x1 ss.length d1))
  have O0 := hid ((o0.setCell_below (a := ⟨w.heap.size + 1 + 1, 0, none⟩) hlt2 (.slice x0 cs.length d0)).setCell_below (a := ⟨w.heap.size + 1 + 1, 1, none⟩) hlt2 (.slice x1 ss.length d1))
  have O1 := hid ((o1.setCell_below (a := ⟨w.heap.size + 1 + 1, 0, none⟩) hlt2 (.slice x0 cs.length d0)).setCell_below (a := ⟨w.heap.size + 1 + 1, 1, none⟩) hlt2 (.slice x1 ss.length d1))
  obtain ⟨q0, q1, q2, q3⟩ := E2.out.cells
  have z0 := E2.out.free 0
  have z1 := E2.out.free 1
  obtain ⟨r0, r1, r2, r3⟩ := E0.out.cells
  clear ho1 hb1 o0 o1 hB1
  go_wp2_with fail
  clear q0 q1 q2 q3 z0 z1 r0 r1 r2 r3
  refine (HT2.out _ BB1.out).mono ?_
  generalize (w1.setCell ⟨w.heap.size + 1 + 1, 0, none⟩ (.slice x0 cs.length d0)).setCell ⟨w.heap.size + 1 + 1, 1, none⟩ (.slice x1 ss.length d1) = wb at *
  rintro e w2 ⟨v2, rfl, ho2, hb2⟩
  obtain ⟨x2, d2, x3, d3, rfl, o2, o3⟩ := ho2.two
  have G1 := hid (P1.out.below hb2 P1.out.lt)
  have G2 := hid (P2.out.below hb2 P2.out.lt)
  have hB2 := hid (BB1.out.trans (hb2.mono BB1.out.size))
  have S0 := hid (O0.out.below hb2)
  have S1 := hid (O1.out.below hb2)
  have S2 := hid o2
  have S3 := hid o3
  have hlb : w.heap.size + 1 + 1 < wb.heap.size := P2.out.lt
  have H2 := hid ((G2.out.set2 (.slice x2 ct.length d2)).set3 (.slice x3 st.length d3))
  have H1 := hid ((G1.out.other (i := 2) (show w.heap.size + 1 ≠ w.heap.size + 1 + 1 by omega) (.slice x2 ct.length d2)).other (i := 3) (show w.heap.size + 1 ≠ w.heap.size + 1 + 1 by omega) (.slice x3 st.length d3))
  obtain ⟨q0, q1, q2, q3⟩ := G2.out.cells
  have z2 := G2.out.free 2
  have z3 := G2.out.free 3
  obtain ⟨r0, r1, r2, r3⟩ := H1.out.cells
  have y0 := H1.out.free 0
  have y1 := H1.out.free 1
  have y2 := H1.out.free 2
  have y3 := H1.out.free 3
  obtain ⟨p0, p1, p2, p3⟩ := H2.out.cells
  clear ho2 hb2 o2 o3
  go_wp2_with fail
  have FIN : ∀ (q : World) (base : Nat) (a : Option Addr) (c : Nat) (xs : List Int), w.heap.size + 1 + 1 < base → Own q base 3 .i64 (.slice a xs.length c) xs →
      Own ((((((q.setCell ⟨w.heap.size + 1 + 1, 2, none⟩ (.slice x2 ct.length d2)).setCell ⟨w.heap.size + 1 + 1, 3, none⟩ (.slice x3 st.length d3)).setCell ⟨w.heap.size + 1, 0, none⟩ (.slice x0 cs.length d0)).setCell ⟨w.heap.size + 1, 1, none⟩ (.slice x1 ss.length d1)).setCell ⟨w.heap.size + 1, 2, none⟩ (.slice x2 ct.length d2)).setCell ⟨w.heap.size + 1, 3, none⟩ (.slice x3 st.length d3)) w.heap.size 3 .i64 (.slice a xs.length c) xs := fun q base a c xs hbs h =>
    ((((((h.setCell_below (a := ⟨w.heap.size + 1 + 1, 2, none⟩) hbs _).setCell_below (a := ⟨w.heap.size + 1 + 1, 3, none⟩) hbs _).setCell_below (a := ⟨w.heap.size + 1, 0, none⟩) (by show w.heap.size + 1 < base; omega) _).setCell_below (a := ⟨w.heap.size + 1, 1, none⟩) (by show w.heap.size + 1 < base; omega) _).setCell_below (a := ⟨w.heap.size + 1, 2, none⟩) (by show w.heap.size + 1 < base; omega) _).setCell_below (a := ⟨w.heap.size + 1, 3, none⟩) (by show w.heap.size + 1 < base; omega) _).mono (by omega)
  refine bodyPost_ret (v := .agg #[.slice x0 cs.length d0, .slice x1 ss.length d1, .slice x2 ct.length d2, .slice x3 st.length d3]) (by simp [results, Try.results12, go_sem, r0, r1, r2, r3]) rfl ⟨_, rfl, ⟨x0, d0, x1, d1, x2, d2, x3, d3, rfl, FIN _ _ _ _ _ hlt2 S0.out, FIN _ _ _ _ _ hlt2 S1.out, FIN _ _ _ _ _ hlb S2.out, FIN _ _ _ _ _ hlb S3.out⟩, ?_⟩
  have s1 : w.heap.size ≤ w.heap.size + 1 := by omega
  have s2 : w.heap.size ≤ w.heap.size + 1 + 1 := by omega
  exact (((((hB2.out.setCell (p := ⟨w.heap.size + 1 + 1, 2, none⟩) s2 _).setCell (p := ⟨w.heap.size + 1 + 1, 3, none⟩) s2 _).setCell (p := ⟨w.heap.size + 1, 0, none⟩) s1 _).setCell (p := ⟨w.heap.size + 1, 1, none⟩) s1 _).setCell (p := ⟨w.heap.size + 1, 2, none⟩) s1 _).setCell (p := ⟨w.heap.size + 1, 3, none⟩) s1 _

theorem Soft.ofBelow {B m : Nat} {w w' : World} (h : Below w.heap.size w w') : Soft B m w w' :=
  ⟨Spare.ofBelow h, fun b cur hg => ⟨cur, hg.below h hg.lt, fun j x hx => ⟨x, hx⟩⟩, fun b cur t _ hg => hg.below h hg.lt⟩
/-- Marks in codes and in tables, whatever they hold. -/
theorem markCodesI (B m : Nat) (a0 a1 : Option Addr) (n0 n1 c0 c1 : Nat) (s : Int) (w : World) (h0 : n0 ≤ 1048576) (h1 : n1 ≤ 1048576) (hs0 : 0 ≤ s) (hs1 : s ≤ 1000000000) (hm : m ≤ w.heap.size) (o0 : IntB B m w (.slice a0 n0 c0) n0) (o1 : IntB B m w (.slice a1 n1 c1) n1) :
    Calls Try.prog 50 #[.agg #[.slice a0 n0 c0, .slice a1 n1 c1], .int .i64 s] w fun e w' => e = .returned (.int .i64 (s + n0 + n1)) ∧ Soft B m w w' := by
  have HB := hid ((Below.refl w.heap.size w).alloc (Nat.le_refl _) (.cells #[.slice a0 n0 c0, .slice a1 n1 c1] 32))
  have HT := hid (Two.new w (.slice a0 n0 c0) (.slice a1 n1 c1) 32)
  have SB := hid (Soft.ofBelow (B := B) (m := m) HB.out)
  have I0 := hid (o0.soft SB.out)
  have I1 := hid (o1.soft SB.out)
  clear o0 o1
  go_enter Try.func50, Try.ntmps50
  go_wp2_with fail
  refine (mark_ints B m _ n0 s _ h0 hs0 (by omega) I0.out).mono ?_
  generalize w.alloc (.cells #[.slice a0 n0 c0, .slice a1 n1 c1] 32) = wa at *
  rintro e w1 ⟨rfl, hsoft⟩
  have S1 := hid (SB.out.trans hsoft)
  have J1 := hid (I1.out.soft hsoft)
  have T1 := hid (show Two w1 w.heap.size (.slice a0 n0 c0) (.slice a1 n1 c1) 32 from hsoft.2.2 _ _ 32 (by decide) HT.out)
  obtain ⟨q0, q1, q2, q3⟩ := T1.out.cells
  clear hsoft
  go_wp2_with fail
  refine (mark_ints B m _ n1 (s + n0) _ h1 (by omega) (by omega) J1.out).mono ?_
  rintro e w2 ⟨rfl, hsoft⟩
  have S2 := hid (S1.out.trans hsoft)
  clear hsoft
  go_wp2_with fail
  go_ret
  exact ⟨rfl, S2.out⟩

set_option maxHeartbeats 800000 in
theorem markTablesI (B m : Nat) (a0 a1 a2 a3 : Option Addr) (n0 n1 n2 n3 c0 c1 c2 c3 : Nat) (w : World) (h0 : n0 ≤ 1048576) (h1 : n1 ≤ 1048576) (h2 : n2 ≤ 1048576) (h3 : n3 ≤ 1048576) (hm : m ≤ w.heap.size)
    (o0 : IntB B m w (.slice a0 n0 c0) n0) (o1 : IntB B m w (.slice a1 n1 c1) n1) (o2 : IntB B m w (.slice a2 n2 c2) n2) (o3 : IntB B m w (.slice a3 n3 c3) n3) :
    Calls Try.prog 18 #[.agg #[.slice a0 n0 c0, .slice a1 n1 c1, .slice a2 n2 c2, .slice a3 n3 c3], .int .i64 1] w fun e w' => e = .returned (.int .i64 (1 + n0 + n1 + n2 + n3)) ∧ Soft B m w w' := by
  have HB := hid ((Below.refl w.heap.size w).alloc (Nat.le_refl _) (.cells #[.slice a0 n0 c0, .slice a1 n1 c1, .slice a2 n2 c2, .slice a3 n3 c3] 34))
  have HF := hid (Four.new w (.slice a0 n0 c0) (.slice a1 n1 c1) (.slice a2 n2 c2) (.slice a3 n3 c3) 34)
  have SB := hid (Soft.ofBelow (B := B) (m := m) HB.out)
  have I0 := hid (o0.soft SB.out)
  have I1 := hid (o1.soft SB.out)
  have I2 := hid (o2.soft SB.out)
  have I3 := hid (o3.soft SB.out)
  have HMS := hid (Nat.le_trans hm HB.out.size)
  clear o0 o1 o2 o3
  go_enter Try.func18, Try.ntmps18
  go_wp2_with fail
  refine (markCodesI B m a0 a1 n0 n1 c0 c1 1 _ h0 h1 (by decide) (by decide) HMS.out I0.out I1.out).mono ?_
  generalize w.alloc (.cells #[.slice a0 n0 c0, .slice a1 n1 c1, .slice a2 n2 c2, .slice a3 n3 c3] 34) = wa at *
  rintro e w1 ⟨rfl, hsoft⟩
  have S1 := hid (SB.out.trans hsoft)
  have J2 := hid (I2.out.soft hsoft)
  have J3 := hid (I3.out.soft hsoft)
  have hms1 : m ≤ w1.heap.size := Nat.le_trans HMS.out hsoft.1.2.2.2.1
  have F1 := hid (show Four w1 w.heap.size (.slice a0 n0 c0) (.slice a1 n1 c1) (.slice a2 n2 c2) (.slice a3 n3 c3) 34 from hsoft.2.2 _ _ 34 (by decide) HF.out)
  obtain ⟨q0, q1, q2, q3⟩ := F1.out.cells
  clear hsoft
  go_wp2_with fail
  refine (markCodesI B m a2 a3 n2 n3 c2 c3 (1 + n0 + n1) _ h2 h3 (by omega) (by omega) hms1 J2.out J3.out).mono ?_
  rintro e w2 ⟨rfl, hsoft⟩
  have S2 := hid (S1.out.trans hsoft)
  clear hsoft
  go_wp2_with fail
  go_ret
  exact ⟨rfl, S2.out⟩
end Go.Proofs.Ytcikmgdfelejpaa
