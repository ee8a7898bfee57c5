/- The walk of the law FnExactBestCodes. -/
import Derived.Test.YtmdmolofiblbmaaBi
import Derived.Test.YtmdmolofiblbmaaBs
namespace Go.Proofs.Ytmdmolofiblbmaa
open Go.RowKit
set_option linter.unusedVariables false

set_option maxHeartbeats 800000 in
/-- The marks are written into own codes, and nowhere else. -/
theorem markC2 (base m0 : Nat) (v : Value) (cs ss : List Int) (w : World) (h0 : cs.length ≤ 1048576) (h1 : ss.length ≤ 1048576) (ho : COwn w base v cs ss) (hso : m0 ≤ w.heap.size) (hlo : ∀ va vb, v = .agg #[va, vb] → (∀ g, va.ownBlock = some g → g < m0) ∧ (∀ g, vb.ownBlock = some g → g < m0)) :
    Calls Try.prog 29 #[v, .int .i64 1] w fun e w' => e = .returned (.int .i64 (1 + (cs.length : Int) + (ss.length : Int))) ∧ COwn w' base v (marksF 1 cs.length) (marksF (1 + (cs.length : Int)) ss.length) ∧ Spare base m0 w w' := by
  have hbw : base ≤ w.heap.size := by obtain ⟨_, _, _, _, _, h, _⟩ := ho; exact h.1
  obtain ⟨va, vb, m, rfl, hm, o0, o1, hap⟩ := ho
  obtain ⟨a0, c0, rfl⟩ := o0.shape
  obtain ⟨a1, c1, rfl⟩ := o1.shape
  have HLO := hid (hlo _ _ rfl)
  clear hlo
  have HB := hid ((Below.refl w.heap.size w).alloc (Nat.le_refl _) (.cells #[.slice a0 cs.length c0, .slice a1 ss.length c1] 26))
  have HT := hid (Two.new w (.slice a0 cs.length c0) (.slice a1 ss.length c1) 26)
  have I0 := hid (o0.below HB.out)
  have I1 := hid (o1.below HB.out)
  have hmw : m ≤ w.heap.size := o1.1
  have N0 : Hid (∀ g, Value.ownBlock (.slice a0 cs.length c0) = some g → g < w.heap.size ∧ g < m) := by
    intro g hg
    cases a0 with
    | none => simp [Value.ownBlock] at hg
    | some a =>
      have e : a.block = g := by simpa [Value.ownBlock] using hg
      have := hap a _ _ rfl
      omega
  have N1 : Hid (∀ g, Value.ownBlock (.slice a1 ss.length c1) = some g → g < w.heap.size ∧ m ≤ g) := by
    intro g hg
    cases a1 with
    | none => simp [Value.ownBlock] at hg
    | some a =>
      have e : a.block = g := by simpa [Value.ownBlock] using hg
      have := o1.ge
      omega
  have HAP := hid hap
  clear o0 o1 hap
  go_enter Try.func29, Try.ntmps29
  go_wp2_with fail
  refine (markF 1 (by decide) (by decide) base (.slice a0 cs.length c0) cs _ (by omega) I0.out).mono ?_
  generalize w.alloc (.cells #[.slice a0 cs.length c0, .slice a1 ss.length c1] 26) = wa at *
  rintro e w1 ⟨rfl, hg1, hln, hb1⟩
  have T1 := hid (show Two w1 w.heap.size (.slice a0 cs.length c0) (.slice a1 ss.length c1) 26 from (hln.2 w.heap.size (fun e => by have := (N0.out _ e).1; omega)).trans HT.out)
  have J1 := hid (I1.out.lone hln (fun g h h' => by have := (N0.out g h).2; have := (N1.out g h').2; omega))
  have J0 := hid hg1
  have B1 := hid ((HB.out.mono hbw).trans hb1)
  have S1 : Hid (∀ b, m0 ≤ b → b < w.heap.size → w1.heap[b]? = w.heap[b]?) := fun b h1 h2 => (hln.2 b (fun e => by have := HLO.out.1 b e; omega)).trans (HB.out.block b h2)
  clear hg1 hln hb1 I0 I1 HT HB
  obtain ⟨q0, q1, q2, q3⟩ := T1.out.cells
  go_wp2_with fail
  refine (markF (1 + (cs.length : Int)) (by omega) (by omega) m (.slice a1 ss.length c1) ss _ (by omega) J1.out).mono ?_
  rintro e w2 ⟨rfl, hg2, hln, hb2⟩
  have K0 := hid (J0.out.lone hln (fun g h h' => by have := (N1.out g h).2; have := (N0.out g h').2; omega))
  have K1 := hid hg2
  have B2 := hid (B1.out.trans (hb2.mono hm))
  have S2 : Hid (Spare base m0 w w2) := ⟨B2.out.os, B2.out.tape, B2.out.output, B2.out.size, fun g hg hh => by
    rcases hh with h | h
    · exact B2.out.block g h
    · exact (hln.2 g (fun e => by have := HLO.out.2 g e; omega)).trans (S1.out g h hg)⟩
  clear hg2 hln hb2 J0 J1
  go_wp2_with fail
  go_ret
  exact ⟨rfl, ⟨_, _, m, rfl, hm, K0.out, K1.out, HAP.out⟩, S2.out⟩


/-- What stands in the law: the argument, its copy, the answers of both sides. -/
structure La (w wc cur : World) (ao : Option Addr) (n : Nat) (fs : List Int) (x : Value) (xs : List Int) (bw : Nat) (u0 u1 : Value) (CS SS : List Int) (gb m0 bg : Nat) (v0 v1 : Value) (cs ss : List Int) : Prop where
  view : View .i64 w ao n fs
  below : Below w.heap.size w cur
  hw : w.heap.size ≤ wc.heap.size
  copy : Own cur wc.heap.size 3 .i64 x xs
  wbox : Two cur bw u0 u1 26
  hbw : bw < wc.heap.size
  cvw : CV wc (.agg #[u0, u1]) CS SS
  hwc : Below wc.heap.size wc cur
  gbox : Two cur bg v0 v1 26
  hbg : m0 ≤ bg
  own : COwn cur gb (.agg #[v0, v1]) cs ss
  hx : ∀ g, x.ownBlock = some g → g < gb
  hgb : wc.heap.size ≤ gb
  hlo : (∀ g, v0.ownBlock = some g → g < m0) ∧ (∀ g, v1.ownBlock = some g → g < m0)
theorem La.to {w wc cur w' : World} {ao : Option Addr} {n : Nat} {fs : List Int} {x : Value} {xs : List Int} {bw : Nat} {u0 u1 : Value} {CS SS : List Int} {gb m0 bg : Nat} {v0 v1 : Value} {cs ss : List Int} (h : La w wc cur ao n fs x xs bw u0 u1 CS SS gb m0 bg v0 v1 cs ss) (hb : Below cur.heap.size cur w') : La w wc w' ao n fs x xs bw u0 u1 CS SS gb m0 bg v0 v1 cs ss := by
  obtain ⟨a1, a2, a3, a4, a5, a6, a7, a8, a9, b1, b2, b3, b4, b5⟩ := h
  exact ⟨a1, a2.trans (hb.mono a2.size), a3, a4.below hb, a5.below hb a5.lt, a6, a7, a8.trans (hb.mono a8.size), a9.below hb a9.lt, b1, b2.below hb, b3, b4, b5⟩
theorem La.two {w wc cur : World} {ao : Option Addr} {n : Nat} {fs : List Int} {x : Value} {xs : List Int} {bw : Nat} {u0 u1 : Value} {CS SS : List Int} {gb m0 bg : Nat} {v0 v1 : Value} {cs ss : List Int} (h : La w wc cur ao n fs x xs bw u0 u1 CS SS gb m0 bg v0 v1 cs ss) : CV cur (.agg #[u0, u1]) CS SS := h.cvw.below h.hwc
theorem La.markx {w wc cur w' : World} {ao : Option Addr} {n : Nat} {fs : List Int} {x : Value} {xs ys : List Int} {bw : Nat} {u0 u1 : Value} {CS SS : List Int} {gb m0 bg : Nat} {v0 v1 : Value} {cs ss : List Int} (h : La w wc cur ao n fs x xs bw u0 u1 CS SS gb m0 bg v0 v1 cs ss) (ho : Own w' wc.heap.size 3 .i64 x ys) (hl : Lone x cur w') (hb : Below wc.heap.size cur w') : La w wc w' ao n fs x ys bw u0 u1 CS SS gb m0 bg v0 v1 cs ss := by
  obtain ⟨a1, a2, a3, a4, a5, a6, a7, a8, a9, b1, b2, b3, b4, b5⟩ := h
  obtain ⟨va, vb, m, e, c1, c2, c3, c4⟩ := b2
  have hne : ∀ (y : Value) (base : Nat) (zs : List Int), gb ≤ base → Own cur base 3 .i64 y zs → ∀ g, x.ownBlock = some g → y.ownBlock ≠ some g := fun y base zs hle hy g hg e => by
    have := b3 g hg
    obtain ⟨ya, yn, rfl⟩ := hy.shape
    cases ya with
    | none => simp [Value.ownBlock] at e
    | some a =>
      have e2 : a.block = g := by simpa [Value.ownBlock] using e
      have := hy.ge.1
      omega
  exact ⟨a1, a2.trans (hb.mono a3), a3, ho, (hl.2 bw (a4.ne26 a5)).trans a5, a6, a7, a8.trans hb, (hl.2 bg (a4.ne26 a9)).trans a9, b1, ⟨va, vb, m, e, c1, c2.lone hl (hne va gb _ (Nat.le_refl _) c2), c3.lone hl (hne vb m _ c1 c3), c4⟩, b3, b4, b5⟩
theorem La.markg {w wc cur w' : World} {ao : Option Addr} {n : Nat} {fs : List Int} {x : Value} {xs : List Int} {bw : Nat} {u0 u1 : Value} {CS SS : List Int} {gb m0 bg : Nat} {v0 v1 : Value} {cs ss cs' ss' : List Int} (h : La w wc cur ao n fs x xs bw u0 u1 CS SS gb m0 bg v0 v1 cs ss) (ho : COwn w' gb (.agg #[v0, v1]) cs' ss') (hs : Spare gb m0 cur w') (hgc : gb ≤ cur.heap.size) : La w wc w' ao n fs x xs bw u0 u1 CS SS gb m0 bg v0 v1 cs' ss' := by
  obtain ⟨a1, a2, a3, a4, a5, a6, a7, a8, a9, b1, b2, b3, b4, b5⟩ := h
  have hb := hs.below hgc
  refine ⟨a1, a2.trans (hb.mono (by omega)), a3, ?_, (hs.2.2.2.2 bw a5.lt (.inl (by omega))).trans a5, a6, a7, a8.trans (hb.mono b4), (hs.2.2.2.2 bg a9.lt (.inr b1)).trans a9, b1, ho, b3, b4, b5⟩
  refine ⟨Nat.le_trans a4.1 hb.size, a4.2.1, ?_⟩
  rcases a4.2.2 with h0 | ⟨g, cap, cur', hv, hg, hh, r⟩
  · exact .inl h0
  · exact .inr ⟨g, cap, cur', hv, hg, (hb.block g (b3 g (by rw [hv]; rfl))).trans hh, r⟩
theorem La.viewC {w wc cur : World} {ao : Option Addr} {n : Nat} {fs : List Int} {x : Value} {xs : List Int} {bw : Nat} {u0 u1 : Value} {CS SS : List Int} {gb m0 bg : Nat} {v0 v1 : Value} {cs ss : List Int} (h : La w wc cur ao n fs x xs bw u0 u1 CS SS gb m0 bg v0 v1 cs ss) : View .i64 cur ao n fs := h.view.below (Nat.le_refl _) h.below

set_option maxRecDepth 100000 in
set_option maxHeartbeats 3200000 in
theorem law_best (ao : Option Addr) (n cap : Nat) (fs : List Int) (w : World) (hv : View .i64 w ao n fs) (hn0 : n ≤ 9223372036854775807) :
    Calls Try.prog 6 #[.slice ao n cap] w fun e w' => e = .returned (.bool true) ∧ Below w.heap.size w w' := by
  have HV := hid hv
  clear hv
  by_cases hbig : 1048576 < n
  · have e1 : decide ((1048576 : Int) < (n : Int)) = true := by simp; omega
    go_enter Try.func6, Try.ntmps6
    go_wp2
    go_ret
    exact ⟨rfl, Below.refl _ _⟩
  · have e1 : decide ((1048576 : Int) < (n : Int)) = false := by simp; omega
    have hn : n ≤ 1048576 := by omega
    have hlen := HV.out.1
    have HS := hid (fun (q : World) (a : Option Addr) (c : Nat) (h : View .i64 q a n fs) => spec_best a n c fs q hn h)
    have HI := hid (fun (q : World) (a : Option Addr) (c : Nat) (h : View .i64 q a n fs) => impl_best a n c fs q hn h)
    have HT := hid (fun (q : World) (h : View .i64 q ao n fs) => toInts ao n cap fs q hn h)
    have k0 : (bC fs).length ≤ 1048576 := Nat.le_trans (bC_len fs) (by decide)
    have k1 : (bS fs).length ≤ 1048576 := Nat.le_trans (bS_len fs) (by decide)
    have HLEN := hid hlen
    have HN := hid hn
    clear hlen hn hbig hn0
    generalize bC fs = CS at *
    generalize bS fs = SS at *
    generalize bB fs = BB at *
    have hBB : (BB != BB) = false := by simp
    go_enter Try.func6, Try.ntmps6
    go_wp2_with fail
    refine (HT.out _ HV.out).mono ?_
    rintro e w1 ⟨v1, rfl, ho1, hb1⟩
    obtain ⟨a1, c1, e1, vw1⟩ := ho1.view
    rw [HLEN.out] at e1 vw1
    subst e1
    have V1 := hid vw1
    have B1 := hid hb1
    clear ho1 hb1 vw1
    go_wp2_with fail
    refine (HS.out _ a1 c1 V1.out).mono ?_
    rintro e w2 ⟨v2, rfl, cv2, hb2⟩
    have C2 := hid cv2
    obtain ⟨x0, d0, x1, d1, rfl, _, _⟩ := cv2
    have B2 := hid (B1.out.trans (hb2.mono B1.out.size))
    have hA2 := (Below.refl w2.heap.size w2).alloc (Nat.le_refl _) (.cells #[.slice x0 CS.length d0, .slice x1 SS.length d1] 26)
    have D2 := hid (Two.new w2 (.slice x0 CS.length d0) (.slice x1 SS.length d1) 26)
    have B3 := hid (B2.out.trans (hA2.mono B2.out.size))
    have C3 := hid (C2.out.below hA2)
    have hlt2 : w2.heap.size < (w2.alloc (.cells #[.slice x0 CS.length d0, .slice x1 SS.length d1] 26)).heap.size := D2.out.lt
    clear hb2 hA2 B1 B2 C2 V1 HS
    go_wp2_with fail
    generalize w2.alloc (.cells #[.slice x0 CS.length d0, .slice x1 SS.length d1] 26) = wc at *
    generalize w2.heap.size = bw at *
    refine (HT.out _ (HV.out.below (Nat.le_refl _) B3.out)).mono ?_
    rintro e w3 ⟨v3, rfl, ho3, hb3⟩
    obtain ⟨a3, c3, e3, vw3⟩ := ho3.view
    rw [HLEN.out] at e3 vw3
    subst e3
    have O3 := hid ho3
    have V3 := hid vw3
    have Z3 := hid hb3
    clear ho3 hb3 vw3
    go_wp2_with fail
    refine (HI.out _ a3 c3 V3.out).mono ?_
    rintro e w4 ⟨v4, rfl, ho4, hb4⟩
    have G4 := hid ho4
    obtain ⟨y0, e0, y1, e1', rfl, _, _⟩ := ho4.cv
    have hA4 := (Below.refl w4.heap.size w4).alloc (Nat.le_refl _) (.cells #[.slice y0 CS.length e0, .slice y1 SS.length e1'] 26)
    have L5 : Hid (La w wc (w4.alloc (.cells #[.slice y0 CS.length e0, .slice y1 SS.length e1'] 26)) ao n fs (.slice a3 n c3) fs bw (.slice x0 CS.length d0) (.slice x1 SS.length d1) CS SS w3.heap.size w4.heap.size w4.heap.size (.slice y0 CS.length e0) (.slice y1 SS.length e1') CS SS) := hid (by
      have hb34 : Below w3.heap.size w3 (w4.alloc (.cells #[.slice y0 CS.length e0, .slice y1 SS.length e1'] 26)) := hb4.trans (hA4.mono hb4.size)
      have hbc : Below wc.heap.size wc (w4.alloc (.cells #[.slice y0 CS.length e0, .slice y1 SS.length e1'] 26)) := Z3.out.trans (hb34.mono Z3.out.size)
      refine ⟨HV.out, B3.out.trans (hbc.mono B3.out.size), B3.out.size, O3.out.below hb34, D2.out.below hbc hlt2, hlt2, C3.out, hbc, Two.new w4 _ _ 26, Nat.le_refl _, ho4.below hA4, fun g hg => (O3.out.2.lt g hg).2, Z3.out.size, ?_⟩
      obtain ⟨va, vb, m, e, h1, h2, h3, h4⟩ := ho4
      cases e
      exact ⟨fun g hg => (h2.2.lt g hg).2, fun g hg => (h3.2.lt g hg).2⟩)
    have hgc : w3.heap.size ≤ w4.heap.size := hb4.size
    have hm5 : w4.heap.size ≤ (w4.alloc (.cells #[.slice y0 CS.length e0, .slice y1 SS.length e1'] 26)).heap.size := by simp
    obtain ⟨q0, q1, q2, q3⟩ := L5.out.wbox.cells
    obtain ⟨p0, p1, p2, p3⟩ := L5.out.gbox.cells
    clear ho4 hb4 hA4 G4 V3 Z3 O3 D2 B3 C3
    go_wp2_with fail
    refine (eqCodes_same _ _ CS SS _ k0 k1 L5.out.own.cv L5.out.two).mono ?_
    generalize w4.alloc (.cells #[.slice y0 CS.length e0, .slice y1 SS.length e1'] 26) = w5 at *
    generalize w4.heap.size = m0 at *
    rintro e w6 ⟨rfl, hb6⟩
    have L6 := hid (L5.out.to hb6)
    have hm6 : m0 ≤ w6.heap.size := Nat.le_trans hm5 hb6.size
    clear hb6 L5 q0 q1 q2 q3 p0 p1 p2 p3 hm5
    go_wp2_with fail
    refine (HT.out _ L6.out.viewC).mono ?_
    rintro e w7 ⟨v7, rfl, ho7, hb7⟩
    obtain ⟨a7, c7, e7, vw7⟩ := ho7.view
    rw [HLEN.out] at e7 vw7
    subst e7
    have V7 := hid vw7
    have L7 := hid (L6.out.to hb7)
    have hm7 : m0 ≤ w7.heap.size := Nat.le_trans hm6 hb7.size
    clear ho7 hb7 vw7 L6 hm6
    go_wp2_with fail
    refine (eqInts_same a3 a7 n c3 c7 fs _ (by have := HN.out; omega) (by obtain ⟨a, c, e, v⟩ := L7.out.copy.view; rw [HLEN.out] at e v; cases e; exact v) V7.out).mono ?_
    rintro e w8 ⟨rfl, hb8⟩
    have L8 := hid (L7.out.to hb8)
    have hm8 : m0 ≤ w8.heap.size := Nat.le_trans hm7 hb8.size
    clear hb8 L7 V7 hm7
    go_wp2_with fail
    refine (markF 1 (by decide) (by decide) wc.heap.size (.slice a3 n c3) fs _ (by have := HN.out; have := HLEN.out; omega) L8.out.copy).mono ?_
    rintro e w9 ⟨rfl, ho9, hl9, hb9⟩
    have L9 := hid (L8.out.markx ho9 hl9 hb9)
    have hm9 : m0 ≤ w9.heap.size := by rw [hl9.1]; exact hm8
    have hp : ¬ ((1 : Int) + (fs.length : Int) < 0) := by omega
    have hp' : decide ((1 : Int) + (fs.length : Int) < 0) = false := by simp; omega
    obtain ⟨q0, q1, q2, q3⟩ := L9.out.wbox.cells
    obtain ⟨p0, p1, p2, p3⟩ := L9.out.gbox.cells
    clear ho9 hl9 hb9 L8 hm8
    go_wp2_with fail
    refine (eqCodes_same _ _ CS SS _ k0 k1 L9.out.own.cv L9.out.two).mono ?_
    rintro e w10 ⟨rfl, hb10⟩
    have L10 := hid (L9.out.to hb10)
    have hm10 : m0 ≤ w10.heap.size := Nat.le_trans hm9 hb10.size
    clear hb10 L9 q0 q1 q2 q3 p0 p1 p2 p3 hm9 hp hp'
    obtain ⟨q0, q1, q2, q3⟩ := L10.out.wbox.cells
    obtain ⟨p0, p1, p2, p3⟩ := L10.out.gbox.cells
    go_wp2_with fail
    refine (markC2 w3.heap.size m0 _ CS SS _ k0 k1 L10.out.own hm10 (fun va vb e => by cases e; exact L10.out.hlo)).mono ?_
    rintro e w11 ⟨rfl, ho11, hsp⟩
    have L11 := hid (L10.out.markg ho11 hsp (by omega))
    have hm11 : m0 ≤ w11.heap.size := Nat.le_trans hm10 hsp.2.2.2.1
    clear ho11 hsp L10 q0 q1 q2 q3 p0 p1 p2 p3 hm10
    obtain ⟨p0, p1, p2, p3⟩ := L11.out.gbox.cells
    go_wp2_with fail
    refine (heldC _ CS.length SS.length _ k0 k1 L11.out.own.cv).mono ?_
    rintro e w12 ⟨rfl, hb12⟩
    have L12 := hid (L11.out.to hb12)
    have hp : ¬ ((1 : Int) + (CS.length : Int) + (SS.length : Int) < 0) := by omega
    clear hb12 L11 p0 p1 p2 p3 hm11
    go_wp2_with fail
    refine (HT.out _ L12.out.viewC).mono ?_
    rintro e w13 ⟨v13, rfl, ho13, hb13⟩
    obtain ⟨a13, c13, e13, vw13⟩ := ho13.view
    rw [HLEN.out] at e13 vw13
    subst e13
    have V13 := hid vw13
    have L13 := hid (L12.out.to hb13)
    clear ho13 hb13 vw13 L12
    go_wp2_with fail
    refine (HI.out _ a13 c13 V13.out).mono ?_
    rintro e w14 ⟨v14, rfl, ho14, hb14⟩
    have C14 := hid ho14.cv
    obtain ⟨z0, f0, z1, f1, rfl, _, _⟩ := ho14.cv
    have hA14 := (Below.refl w14.heap.size w14).alloc (Nat.le_refl _) (.cells #[.slice z0 CS.length f0, .slice z1 SS.length f1] 26)
    have F14 := hid (Two.new w14 (.slice z0 CS.length f0) (.slice z1 SS.length f1) 26)
    have L15 := hid ((L13.out.to hb14).to hA14)
    have C15 := hid (C14.out.below hA14)
    clear ho14 hb14 hA14 L13 V13 C14
    obtain ⟨q0, q1, q2, q3⟩ := L15.out.wbox.cells
    obtain ⟨r0, r1, r2, r3⟩ := F14.out.cells
    go_wp2_with fail
    refine (eqCodes_same _ _ CS SS _ k0 k1 C15.out L15.out.two).mono ?_
    generalize w14.alloc (.cells #[.slice z0 CS.length f0, .slice z1 SS.length f1] 26) = w15 at *
    rintro e w16 ⟨rfl, hb16⟩
    have L16 := hid (L15.out.to hb16)
    clear hb16 L15 C15 F14 q0 q1 q2 q3 r0 r1 r2 r3
    obtain ⟨p0, p1, p2, p3⟩ := L16.out.gbox.cells
    go_wp2_with fail
    refine (heldC _ CS.length SS.length _ k0 k1 L16.out.own.cv).mono ?_
    rintro e w17 ⟨rfl, hb17⟩
    have L17 := hid (L16.out.to hb17)
    clear hb17 L16 p0 p1 p2 p3
    go_wp2_with fail
    go_ret
    exact ⟨rfl, L17.out.below⟩
theorem law_bestR (a : Option Addr) (l c : Nat) (z : List Int) (W : World) (hw : IsRow .i64 W a l c z) :
    Calls Try.prog 6 #[.slice a l c] W fun e w' => e = .returned (.bool true) ∧ Below W.heap.size W w' := law_best a l c (z.take l) W hw.view hw.len.1
end Go.Proofs.Ytmdmolofiblbmaa
