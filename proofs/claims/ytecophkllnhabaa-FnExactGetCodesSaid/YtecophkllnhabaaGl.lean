/- The walk of the law FnExactGetCodes. -/
import Derived.Test.YtecophkllnhabaaGt
import Derived.Test.YtecophkllnhabaaMf
namespace Go.Proofs.Ytecophkllnhabaa
open Go.RowKit
set_option linter.unusedVariables false

theorem vw_of {w : World} {base : Nat} {v : Value} {xs : List Int} (h : Own w base 3 .i64 v xs) : Vw w v xs := h.view

set_option maxHeartbeats 800000 in
/-- The marks are written into own codes, and nowhere else. -/
theorem markC (base : Nat) (v : Value) (cs ss : List Int) (wo w : World) (h0 : cs.length ≤ 1048576) (h1 : ss.length ≤ 1048576) (hoo : COwn wo base v cs ss) (hbo : Below wo.heap.size wo w) :
    Calls Try.prog 20 #[v, .int .i64 1] w fun e w' => e = .returned (.int .i64 (1 + (cs.length : Int) + (ss.length : Int))) ∧ COwn w' base v (marksF 1 cs.length) (marksF (1 + (cs.length : Int)) ss.length) ∧ Spare base wo.heap.size w w' := by
  have hso := hbo.size
  have ho := hoo.below hbo
  have hbw : base ≤ w.heap.size := by obtain ⟨_, _, _, _, _, h, _⟩ := ho; exact h.1
  have hlo : ∀ va vb, v = .agg #[va, vb] → (∀ g, va.ownBlock = some g → g < wo.heap.size) ∧ (∀ g, vb.ownBlock = some g → g < wo.heap.size) := by
    obtain ⟨xa, xb, m', rfl, _, p0, p1, _⟩ := hoo
    intro va vb e
    cases e
    have hh : ∀ (x : Value) (b : Nat) (xs : List Int), Own wo b 3 .i64 x xs → ∀ g, x.ownBlock = some g → g < wo.heap.size := by
      intro x b xs hx g hg
      obtain ⟨a, c, rfl⟩ := hx.shape
      cases a with
      | none => simp [Value.ownBlock] at hg
      | some a =>
        have e : a.block = g := by simpa [Value.ownBlock] using hg
        have := hx.ge.2
        omega
    exact ⟨hh _ _ _ p0, hh _ _ _ p1⟩
  obtain ⟨va, vb, m, rfl, hm, o0, o1, hap⟩ := ho
  obtain ⟨a0, c0, rfl⟩ := o0.shape
  obtain ⟨a1, c1, rfl⟩ := o1.shape
  have HLO := hid (hlo _ _ rfl)
  clear hlo hoo hbo
  have HB := hid ((Below.refl w.heap.size w).alloc (Nat.le_refl _) (.cells #[.slice a0 cs.length c0, .slice a1 ss.length c1] 32))
  have HT := hid (Two.new w (.slice a0 cs.length c0) (.slice a1 ss.length c1) 32)
  have I0 := hid (o0.below HB.out)
  have I1 := hid (o1.below HB.out)
  have hmw : m ≤ w.heap.size := o1.1
  have N0 : Hid (∀ g, Value.ownBlock (.slice a0 cs.length c0) = some g → g < w.heap.size ∧ g < m) := by
    intro g hg
    cases a0 with
    | none => simp [Value.ownBlock] at hg
    | some a =>
      have e : a.block = g := by simpa [Value.ownBlock] using hg
      have := hap a _ _ rfl
      omega
  have N1 : Hid (∀ g, Value.ownBlock (.slice a1 ss.length c1) = some g → g < w.heap.size ∧ m ≤ g) := by
    intro g hg
    cases a1 with
    | none => simp [Value.ownBlock] at hg
    | some a =>
      have e : a.block = g := by simpa [Value.ownBlock] using hg
      have := o1.ge
      omega
  have HAP := hid hap
  clear o0 o1 hap
  go_enter Try.func20, Try.ntmps20
  go_wp2_with fail
  refine (markF 1 (by decide) (by decide) base (.slice a0 cs.length c0) cs _ (by omega) I0.out).mono ?_
  generalize w.alloc (.cells #[.slice a0 cs.length c0, .slice a1 ss.length c1] 32) = wa at *
  rintro e w1 ⟨rfl, hg1, hln, hb1⟩
  have T1 := hid (show Two w1 w.heap.size (.slice a0 cs.length c0) (.slice a1 ss.length c1) 32 from (hln.2 w.heap.size (fun e => by have := (N0.out _ e).1; omega)).trans HT.out)
  have J1 := hid (I1.out.lone hln (fun g h h' => by have := (N0.out g h).2; have := (N1.out g h').2; omega))
  have J0 := hid hg1
  have B1 := hid ((HB.out.mono hbw).trans hb1)
  have S1 : Hid (∀ b, wo.heap.size ≤ b → b < w.heap.size → w1.heap[b]? = w.heap[b]?) := fun b h1 h2 => (hln.2 b (fun e => by have := HLO.out.1 b e; omega)).trans (HB.out.block b h2)
  clear hg1 hln hb1 I0 I1 HT HB
  obtain ⟨q0, q1, q2, q3⟩ := T1.out.cells
  go_wp2_with fail
  refine (markF (1 + (cs.length : Int)) (by omega) (by omega) m (.slice a1 ss.length c1) ss _ (by omega) J1.out).mono ?_
  rintro e w2 ⟨rfl, hg2, hln, hb2⟩
  have K0 := hid (J0.out.lone hln (fun g h h' => by have := (N1.out g h).2; have := (N0.out g h').2; omega))
  have K1 := hid hg2
  have B2 := hid (B1.out.trans (hb2.mono hm))
  have S2 : Hid (Spare base wo.heap.size w w2) := ⟨B2.out.os, B2.out.tape, B2.out.output, B2.out.size, fun g hg hh => by
    rcases hh with h | h
    · exact B2.out.block g h
    · exact (hln.2 g (fun e => by have := HLO.out.2 g e; omega)).trans (S1.out g h hg)⟩
  clear hg2 hln hb2 J0 J1
  go_wp2_with fail
  go_ret
  exact ⟨rfl, ⟨_, _, m, rfl, hm, K0.out, K1.out, HAP.out⟩, S2.out⟩

set_option maxHeartbeats 800000 in
theorem heldC (v : Value) (n0 n1 : Nat) (w : World) (h0 : n0 ≤ 1048576) (h1 : n1 ≤ 1048576) (hv : CV w v (marksF 1 n0) (marksF (1 + (n0 : Int)) n1)) :
    Calls Try.prog 21 #[v, .int .i64 1] w fun e w' => e = .returned (.int .i64 (1 + (n0 : Int) + (n1 : Int))) ∧ Below w.heap.size w w' := by
  obtain ⟨a0, c0, a1, c1, rfl, u0, u1⟩ := hv
  rw [marksF_length] at u0 u1 ⊢
  rw [marksF_length]
  have HB := hid ((Below.refl w.heap.size w).alloc (Nat.le_refl _) (.cells #[.slice a0 n0 c0, .slice a1 n1 c1] 32))
  have HT := hid (Two.new w (.slice a0 n0 c0) (.slice a1 n1 c1) 32)
  have V0 : Hid (Vw (w.alloc (.cells #[.slice a0 n0 c0, .slice a1 n1 c1] 32)) (.slice a0 n0 c0) (marksF 1 n0)) := ⟨a0, c0, by rw [marksF_length], by rw [marksF_length]; exact u0.below (Nat.le_refl _) HB.out⟩
  have V1 : Hid (Vw (w.alloc (.cells #[.slice a0 n0 c0, .slice a1 n1 c1] 32)) (.slice a1 n1 c1) (marksF (1 + (n0 : Int)) n1)) := ⟨a1, c1, by rw [marksF_length], by rw [marksF_length]; exact u1.below (Nat.le_refl _) HB.out⟩
  clear u0 u1
  obtain ⟨q0, q1, q2, q3⟩ := HT.out.cells
  have hp0 : ¬ ((1 : Int) + (n0 : Int) < 0) := by omega
  have hp1 : ¬ ((1 : Int) + (n0 : Int) + (n1 : Int) < 0) := by omega
  go_enter Try.func21, Try.ntmps21
  go_wp2_with fail
  refine (heldF 1 (by decide) (by decide) _ n0 _ (by omega) V0.out).mono ?_
  rintro e w1 ⟨rfl, rfl⟩
  go_wp2_with fail
  refine (heldF (1 + (n0 : Int)) (by omega) (by omega) _ n1 _ (by omega) V1.out).mono ?_
  rintro e w1 ⟨rfl, rfl⟩
  go_wp2_with fail
  go_ret
  exact ⟨rfl, HB.out⟩

def gC : Option (List Int × List Int) → List Int
  | some r => r.1
  | none => []
def gS : Option (List Int × List Int) → List Int
  | some r => r.2
  | none => []
def gP (i : Int) : Option (List Int × List Int) → Int
  | some r => i + 16 + r.2.length
  | none => -1
theorem GcP.get {w w' : World} {i : Int} {R : Option (List Int × List Int)} {e : Ending} (h : GcP w i R e w') : ∃ v, e = .returned (.tuple #[v, .int .i64 (gP i R)]) ∧ COwn w' w.heap.size v (gC R) (gS R) ∧ Below w.heap.size w w' := by
  cases R <;> exact h
theorem getR_len (s : ByteArray) (i : Int) : (gC (getR s i)).length ≤ 16 ∧ (gS (getR s i)).length ≤ 255 := by
  cases h : getR s i with
  | none => simp [gC, gS]
  | some r =>
    unfold getR at h
    split at h
    · obtain ⟨h1, h2, _, _⟩ := cdR_some s _ r.1 r.2 h
      simp only [gC, gS]
      omega
    · cases h

set_option maxRecDepth 100000 in
set_option maxHeartbeats 3200000 in
theorem law_getCodes (s : ByteArray) (i : Int) (hs : s.size ≤ maxLen) (hi : (Lit.int .i64 i).wf = true) (w : World) :
    Calls Try.prog 5 #[.string s, .int .i64 i] w fun e w' => e = .returned (.bool true) ∧ Below w.heap.size w w' := by
  have hi2 : i ≤ 9223372036854775807 := by
    exact (bounds_i64 hi).2
  clear hi
  by_cases hbig : (1048576 : Int) < (s.size : Int)
  · go_enter Try.func5, Try.ntmps5
    go_wp2
    go_ret
    exact ⟨rfl, Below.refl _ _⟩
  · have HS := hid (fun q => (spec_getCodes s i q (by omega)).mono fun e w' h => h.get)
    have HI := hid (fun q => (impl_getCodes s i q (by omega) hi2).mono fun e w' h => h.get)
    have HLN := hid (getR_len s i)
    generalize gC (getR s i) = CS at *
    generalize gS (getR s i) = SS at *
    generalize gP i (getR s i) = P at *
    have k0 : CS.length ≤ 1048576 := by have := HLN.out; omega
    have k1 : SS.length ≤ 1048576 := by have := HLN.out; omega
    have hPP : (P != P) = false := by simp
    clear HLN
    go_enter Try.func5, Try.ntmps5
    go_wp2_with fail
    refine (HS.out _).mono ?_
    rintro e w1 ⟨v1, rfl, ho1, hb1⟩
    have B1 := hid hb1
    have C1 := hid ho1.cv
    obtain ⟨x0, d0, x1, d1, rfl⟩ := ho1.shape
    have D1 := hid (Two.new w1 (.slice x0 CS.length d0) (.slice x1 SS.length d1) 32)
    have hA1 := (Below.refl w1.heap.size w1).alloc (Nat.le_refl _) (.cells #[.slice x0 CS.length d0, .slice x1 SS.length d1] 32)
    have B2 := hid (B1.out.trans (hA1.mono B1.out.size))
    have C2 := hid (C1.out.below hA1)
    clear hb1 ho1 HS hA1 B1 C1
    go_wp2_with fail
    refine (HI.out _).mono ?_
    generalize w1.alloc (.cells #[.slice x0 CS.length d0, .slice x1 SS.length d1] 32) = w2 at *
    rintro e w3 ⟨v3, rfl, ho3, hb3⟩
    have B3 := hid (B2.out.trans (hb3.mono B2.out.size))
    have C3 := hid (C2.out.below hb3)
    have D3 := hid (D1.out.below hb3 D1.out.lt)
    have O3 := hid ho3
    have h23 := hb3.size
    have hw2 : w.heap.size ≤ w2.heap.size := B2.out.size
    have Y3 := hid hb3
    have HCB := hid (fun q (hq : Below w2.heap.size w2 q) => C2.out.below hq)
    have hlt2 : w1.heap.size < w2.heap.size := D1.out.lt
    obtain ⟨y0, e0, y1, e1, rfl⟩ := ho3.shape
    have E4 := hid (Two.new w3 (.slice y0 CS.length e0) (.slice y1 SS.length e1) 32)
    have hA3 := (Below.refl w3.heap.size w3).alloc (Nat.le_refl _) (.cells #[.slice y0 CS.length e0, .slice y1 SS.length e1] 32)
    have B4 := hid (B3.out.trans (hA3.mono B3.out.size))
    have C4 := hid (C3.out.below hA3)
    have D4 := hid (D3.out.below hA3 D3.out.lt)
    have O4 := hid (O3.out.below hA3)
    obtain ⟨q0, q1, q2, q3⟩ := D4.out.cells
    obtain ⟨p0, p1, p2, p3⟩ := E4.out.cells
    have Z4 := hid hA3
    clear hb3 ho3 hA3 B2 B3 C2 C3 D1 D3
    go_wp2_with fail
    refine (eqCodes_same _ _ CS SS _ k0 k1 O4.out.cv C4.out).mono ?_
    generalize w3.alloc (.cells #[.slice y0 CS.length e0, .slice y1 SS.length e1] 32) = w4 at *
    rintro e w5 ⟨rfl, hb5⟩
    have B5 := hid (B4.out.trans (hb5.mono B4.out.size))
    have C5 := hid (C4.out.below hb5)
    have D5 := hid (D4.out.below hb5 D4.out.lt)
    have E5 := hid (E4.out.below hb5 E4.out.lt)
    have O5 := hid (O4.out.below hb5)
    have Z5 := hid (Z4.out.trans (hb5.mono Z4.out.size))
    have Y5 := hid (Y3.out.trans (Z5.out.mono h23))
    have h45 := hb5.size
    have hlt4 : w3.heap.size < w4.heap.size := E4.out.lt
    have CW := hid (fun q (hq : Below w2.heap.size w5 q) => HCB.out _ ((Y5.out.trans (hq : Below w2.heap.size w5 q))))
    clear hb5 B4 C4 D4 E4 O4 Z4 q0 q1 q2 q3 p0 p1 p2 p3
    obtain ⟨q0, q1, q2, q3⟩ := D5.out.cells
    obtain ⟨p0, p1, p2, p3⟩ := E5.out.cells
    go_wp2_with fail
    refine (markC w2.heap.size _ CS SS w3 w5 k0 k1 O3.out Z5.out).mono ?_
    rintro e w6 ⟨rfl, ho6, hsp⟩
    have Y6 := hid (hsp.below (by omega : w2.heap.size ≤ w5.heap.size))
    have B6 := hid (B5.out.trans (Y6.out.mono (by omega)))
    have D6 := hid (D5.out.below Y6.out hlt2)
    have E6 := hid (hsp.two E5.out (.inr (Nat.le_refl _)))
    have O6 := hid ho6
    clear ho6 hsp B5 D5 E5 O5 O3 Z5 q0 q1 q2 q3 p0 p1 p2 p3
    obtain ⟨q0, q1, q2, q3⟩ := D6.out.cells
    obtain ⟨p0, p1, p2, p3⟩ := E6.out.cells
    go_wp2_with fail
    refine (heldC _ CS.length SS.length w6 k0 k1 O6.out.cv).mono ?_
    rintro e w7 ⟨rfl, hb7⟩
    have B7 := hid (B6.out.trans (hb7.mono B6.out.size))
    have Y7 := hid (Y6.out.trans (hb7.mono (by have := Y6.out.size; omega)))
    have D7 := hid (D6.out.below hb7 D6.out.lt)
    have E7 := hid (E6.out.below hb7 E6.out.lt)
    have O7 := hid (O6.out.below hb7)
    have hp : ¬ ((1 : Int) + (CS.length : Int) + (SS.length : Int) < 0) := by omega
    clear hb7 B6 D6 E6 O6 q0 q1 q2 q3 p0 p1 p2 p3
    go_wp2_with fail
    refine (HI.out _).mono ?_
    rintro e w8 ⟨v8, rfl, ho8, hb8⟩
    have B8 := hid (B7.out.trans (hb8.mono B7.out.size))
    have Y8 := hid (Y7.out.trans (hb8.mono (by have := Y7.out.size; omega)))
    have D8 := hid (D7.out.below hb8 D7.out.lt)
    have E8 := hid (E7.out.below hb8 E7.out.lt)
    have O8 := hid (O7.out.below hb8)
    have V8 := hid ho8.cv
    obtain ⟨z0, f0, z1, f1, rfl⟩ := ho8.shape
    have F9 := hid (Two.new w8 (.slice z0 CS.length f0) (.slice z1 SS.length f1) 32)
    have hA8 := (Below.refl w8.heap.size w8).alloc (Nat.le_refl _) (.cells #[.slice z0 CS.length f0, .slice z1 SS.length f1] 32)
    have B9 := hid (B8.out.trans (hA8.mono B8.out.size))
    have Y9 := hid (Y8.out.trans (hA8.mono (by have := Y8.out.size; omega)))
    have D9 := hid (D8.out.below hA8 D8.out.lt)
    have E9 := hid (E8.out.below hA8 E8.out.lt)
    have O9 := hid (O8.out.below hA8)
    have V9 := hid (V8.out.below hA8)
    clear ho8 hb8 hA8 B7 Y7 D7 E7 O7 B8 Y8 D8 E8 O8 V8
    obtain ⟨q0, q1, q2, q3⟩ := D9.out.cells
    obtain ⟨p0, p1, p2, p3⟩ := E9.out.cells
    obtain ⟨r0, r1, r2, r3⟩ := F9.out.cells
    have hC9 : Hid (CV (w8.alloc (.cells #[.slice z0 CS.length f0, .slice z1 SS.length f1] 32)) (.agg #[.slice x0 CS.length d0, .slice x1 SS.length d1]) CS SS) := CW.out _ Y9.out
    go_wp2_with fail
    refine (eqCodes_same _ _ CS SS _ k0 k1 V9.out hC9.out).mono ?_
    generalize w8.alloc (.cells #[.slice z0 CS.length f0, .slice z1 SS.length f1] 32) = w9 at *
    rintro e w10 ⟨rfl, hb10⟩
    have B10 := hid (B9.out.trans (hb10.mono B9.out.size))
    have E10 := hid (E9.out.below hb10 E9.out.lt)
    have O10 := hid (O9.out.below hb10)
    clear hb10 B9 Y9 D9 E9 O9 V9 hC9 F9 q0 q1 q2 q3 p0 p1 p2 p3 r0 r1 r2 r3
    obtain ⟨p0, p1, p2, p3⟩ := E10.out.cells
    go_wp2_with fail
    refine (heldC _ CS.length SS.length w10 k0 k1 O10.out.cv).mono ?_
    rintro e w11 ⟨rfl, hb11⟩
    have B11 := hid (B10.out.trans (hb11.mono B10.out.size))
    clear hb11
    go_wp2_with fail
    go_ret
    exact ⟨rfl, B11.out⟩
end Go.Proofs.Ytecophkllnhabaa
