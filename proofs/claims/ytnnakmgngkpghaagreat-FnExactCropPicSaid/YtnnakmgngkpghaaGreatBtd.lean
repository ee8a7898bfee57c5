/- Texts joined: Cd, Fq, Mx, Cl, Tq, Bp, Bi, Bq. No statement is proved here. -/
import Derived.Test.YtnnakmgngkpghaaGreatMt
import Derived.Test.YtnnakmgngkpghaaGreatBtc

/- Codes: read, own, compared, marked. -/
namespace Go.Proofs.YtnnakmgngkpghaaGreat
open Go.RowKit
set_option linter.unusedVariables false

/-- The marks s, s + 1, ... -/
def marksF (s : Int) (n : Nat) : List Int := (List.range n).map fun (i : Nat) => s + (i : Int)
theorem marksF_length (s : Int) (n : Nat) : (marksF s n).length = n := by simp [marksF]
theorem marksF_get (s : Int) (n j : Nat) (h : j < n) : (marksF s n).getD j 0 = s + (j : Int) := by simp [marksF, List.getD, h]
/-- Only the slice's own block has turned. -/
def Lone (v : Value) (w w' : World) : Prop := w'.heap.size = w.heap.size ∧ ∀ b, v.ownBlock ≠ some b → w'.heap[b]? = w.heap[b]?
theorem Own.lone {w w' : World} {base : Nat} {v y : Value} {xs : List Int} (h : Own w base 3 .i64 y xs) (hl : Lone v w w') (hne : ∀ g, v.ownBlock = some g → y.ownBlock ≠ some g) : Own w' base 3 .i64 y xs := by
  refine ⟨by rw [hl.1]; exact h.1, h.2.1, ?_⟩
  rcases h.2.2 with h0 | ⟨g, cap, cur, hv, hg, hh, r⟩
  · exact .inl h0
  · refine .inr ⟨g, cap, cur, hv, hg, (hl.2 g (fun e => hne g e (by rw [hv]; rfl))).trans hh, r⟩

set_option maxHeartbeats 800000 in
/-- The marks are written into the slice, and nowhere else. -/
theorem markF (s : Int) (hs0 : 0 ≤ s) (hs1 : s ≤ 1000000000) (base : Nat) (v : Value) (ys : List Int) (w : World) (hn : ys.length ≤ 1000000000) (ho : Own w base 3 .i64 v ys) :
    Calls Tryz.prog 52 #[v, .int .i64 s] w fun e w' => e = .returned (.int .i64 (s + (ys.length : Int))) ∧ Own w' base 3 .i64 v (marksF s ys.length) ∧ Lone v w w' ∧ Below base w w' := by
  rcases ho.2.2 with ⟨rfl, h0⟩ | ⟨g, cap, cur, rfl, _⟩
  · have e : ys = [] := List.length_eq_zero_iff.1 h0
    subst e
    have HO := hid ho
    clear ho
    go_enter Tryz.func52, Tryz.ntmps52
    go_wp2
    go_loop [1, 5] (fun m i => m = .int .i64 s ∧ i = .int .i64 0) (fun _ _ => 0)
    case atStart => exact ⟨rfl, rfl⟩
    case round =>
      obtain ⟨rfl, rfl⟩ := hrel
      go_wp2
      go_ret
      exact ⟨ret_int (by simp), HO.out, ⟨rfl, fun _ _ => rfl⟩, Below.refl _ _⟩
  · have HO := hid ho
    have hge := ho.ge.1
    generalize hN : ys.length = n at *
    have HN := hid hN
    clear ho hN
    go_enter Tryz.func52, Tryz.ntmps52
    go_wp2
    go_loopw [1, 5] (fun m i wr => ∃ (k : Nat) (zs : List Int), k ≤ n ∧ i = .int .i64 k ∧ m = .int .i64 (s + (k : Int)) ∧ Own wr base 3 .i64 (.slice (some ⟨g, 0, none⟩) n cap) zs ∧ Hid (zs.length = n ∧ ∀ j, j < k → zs.getD j 0 = s + (j : Int)) ∧ Hid (Lone (.slice (some ⟨g, 0, none⟩) n cap) w wr) ∧ Below base w wr) (fun _ i _ => n - (intOf i).toNat)
    case atStart => exact ⟨0, ys, by omega, rfl, by simp, HO.out, ⟨HN.out, fun j hj => by omega⟩, ⟨rfl, fun _ _ => rfl⟩, Below.refl _ _⟩
    case round =>
      obtain ⟨k, zs, hk, rfl, rfl, hown, hzs, hln, hb⟩ := hrel
      by_cases hlt : k < n
      · have hold := hown.at k (by have := hzs.out.1; omega)
        have hfree := hown.free k
        have HNEW := hid (hown.store k (s + (k : Int)))
        have HLN := hid (show Lone (.slice (some ⟨g, 0, none⟩) n cap) w (wr.setCell ⟨g, k, none⟩ (.int .i64 (s + (k : Int)))) from ⟨by simpa using hln.out.1, fun b hbb => (heap_setCell_other _ ⟨g, k, none⟩ b _ (fun e => hbb (by simp only [Value.ownBlock]; rw [e]))).trans (hln.out.2 b hbb)⟩)
        generalize zs.getD k 0 = Y at *
        go_wp2
        go_roundw
        case rel =>
          refine ⟨k + 1, _, by omega, by go_num, by go_num, HNEW.out, ⟨by simp; exact hzs.out.1, fun j hj => ?_⟩, HLN.out, hb.setCell (p := ⟨g, k, none⟩) hge _⟩
          by_cases e : j = k
          · subst e
            simp [List.getD, hzs.out.1, hlt]
          · rw [← hzs.out.2 j (by omega)]
            simp [List.getD, show k ≠ j from fun h => e h.symm]
        case measure => simp [intOf]; omega
      · obtain rfl : k = n := by omega
        have hxy : zs = marksF s k := list_eq_of_getD (by rw [hzs.out.1, marksF_length]) (fun i hi => by rw [hzs.out.2 i (by rw [← hzs.out.1]; exact hi), marksF_get s k i (by rw [← hzs.out.1]; exact hi)])
        subst hxy
        go_wp2
        go_ret
        exact ⟨rfl, hown, hln.out, hb⟩
set_option maxHeartbeats 800000 in
theorem heldF (s : Int) (hs0 : 0 ≤ s) (hs1 : s ≤ 1000000000) (v : Value) (n : Nat) (w : World) (hn : n ≤ 1000000000) (h : Vw w v (marksF s n)) :
    Calls Tryz.prog 54 #[v, .int .i64 s] w fun e w' => e = .returned (.int .i64 (s + (n : Int))) ∧ w = w' := by
  obtain ⟨ao, cap, rfl, hv⟩ := h
  rw [marksF_length] at hv ⊢
  have HV := hid hv
  clear hv
  go_enter Tryz.func54, Tryz.ntmps54
  go_wp2
  go_loop [1, 5] (fun m i => ∃ k : Nat, k ≤ n ∧ i = .int .i64 k ∧ m = .int .i64 (s + (k : Int))) (fun _ i => n - (intOf i).toNat)
  case atStart => exact ⟨0, by omega, rfl, by simp⟩
  case round =>
    obtain ⟨k, hk, rfl, rfl⟩ := hrel
    by_cases hlt : k < n
    · obtain ⟨b, off, rfl, hc⟩ := HV.out.2 k hlt
      rw [marksF_get s n k hlt] at hc
      go_wp2
      go_round
      case rel => exact ⟨k + 1, by omega, by go_num, by go_num⟩
      case measure => simp [intOf]; omega
    · obtain rfl : k = n := by omega
      go_wp2
      go_ret
      exact ⟨rfl, rfl⟩

theorem vw_of {w : World} {base : Nat} {v : Value} {xs : List Int} (h : Own w base 3 .i64 v xs) : Vw w v xs := h.view

set_option maxHeartbeats 800000 in
/-- The marks are written into own codes, and nowhere else. -/
theorem markC (base : Nat) (v : Value) (cs ss : List Int) (wo w : World) (h0 : cs.length ≤ 1048576) (h1 : ss.length ≤ 1048576) (hoo : COwn wo base v cs ss) (hbo : Below wo.heap.size wo w) :
    Calls Tryz.prog 51 #[v, .int .i64 1] w fun e w' => e = .returned (.int .i64 (1 + (cs.length : Int) + (ss.length : Int))) ∧ COwn w' base v (marksF 1 cs.length) (marksF (1 + (cs.length : Int)) ss.length) ∧ Spare base wo.heap.size w w' := by
  have hso := hbo.size
  have ho := hoo.below hbo
  have hbw : base ≤ w.heap.size := by obtain ⟨_, _, _, _, _, h, _⟩ := ho; exact h.1
  have hlo : ∀ va vb, v = .agg #[va, vb] → (∀ g, va.ownBlock = some g → g < wo.heap.size) ∧ (∀ g, vb.ownBlock = some g → g < wo.heap.size) := by
    obtain ⟨xa, xb, m', rfl, _, p0, p1, _⟩ := hoo
    intro va vb e
    cases e
    have hh : ∀ (x : Value) (b : Nat) (xs : List Int), Own wo b 3 .i64 x xs → ∀ g, x.ownBlock = some g → g < wo.heap.size := by
      intro x b xs hx g hg
      obtain ⟨a, c, rfl⟩ := hx.shape
      cases a with
      | none => simp [Value.ownBlock] at hg
      | some a =>
        have e : a.block = g := by simpa [Value.ownBlock] using hg
        have := hx.ge.2
        omega
    exact ⟨hh _ _ _ p0, hh _ _ _ p1⟩
  obtain ⟨va, vb, m, rfl, hm, o0, o1, hap⟩ := ho
  obtain ⟨a0, c0, rfl⟩ := o0.shape
  obtain ⟨a1, c1, rfl⟩ := o1.shape
  have HLO := hid (hlo _ _ rfl)
  clear hlo hoo hbo
  have HB := hid ((Below.refl w.heap.size w).alloc (Nat.le_refl _) (.cells #[.slice a0 cs.length c0, .slice a1 ss.length c1] 31))
  have HT := hid (Two.new w (.slice a0 cs.length c0) (.slice a1 ss.length c1) 31)
  have I0 := hid (o0.below HB.out)
  have I1 := hid (o1.below HB.out)
  have hmw : m ≤ w.heap.size := o1.1
  have N0 : Hid (∀ g, Value.ownBlock (.slice a0 cs.length c0) = some g → g < w.heap.size ∧ g < m) := by
    intro g hg
    cases a0 with
    | none => simp [Value.ownBlock] at hg
    | some a =>
      have e : a.block = g := by simpa [Value.ownBlock] using hg
      have := hap a _ _ rfl
      omega
  have N1 : Hid (∀ g, Value.ownBlock (.slice a1 ss.length c1) = some g → g < w.heap.size ∧ m ≤ g) := by
    intro g hg
    cases a1 with
    | none => simp [Value.ownBlock] at hg
    | some a =>
      have e : a.block = g := by simpa [Value.ownBlock] using hg
      have := o1.ge
      omega
  have HAP := hid hap
  clear o0 o1 hap
  go_enter Tryz.func51, Tryz.ntmps51
  go_wp2_with fail
  refine (markF 1 (by decide) (by decide) base (.slice a0 cs.length c0) cs _ (by omega) I0.out).mono ?_
  generalize w.alloc (.cells #[.slice a0 cs.length c0, .slice a1 ss.length c1] 31) = wa at *
  rintro e w1 ⟨rfl, hg1, hln, hb1⟩
  have T1 := hid (show Two w1 w.heap.size (.slice a0 cs.length c0) (.slice a1 ss.length c1) 31 from (hln.2 w.heap.size (fun e => by have := (N0.out _ e).1; omega)).trans HT.out)
  have J1 := hid (I1.out.lone hln (fun g h h' => by have := (N0.out g h).2; have := (N1.out g h').2; omega))
  have J0 := hid hg1
  have B1 := hid ((HB.out.mono hbw).trans hb1)
  have S1 : Hid (∀ b, wo.heap.size ≤ b → b < w.heap.size → w1.heap[b]? = w.heap[b]?) := fun b h1 h2 => (hln.2 b (fun e => by have := HLO.out.1 b e; omega)).trans (HB.out.block b h2)
  clear hg1 hln hb1 I0 I1 HT HB
  obtain ⟨q0, q1, q2, q3⟩ := T1.out.cells
  go_wp2_with fail
  refine (markF (1 + (cs.length : Int)) (by omega) (by omega) m (.slice a1 ss.length c1) ss _ (by omega) J1.out).mono ?_
  rintro e w2 ⟨rfl, hg2, hln, hb2⟩
  have K0 := hid (J0.out.lone hln (fun g h h' => by have := (N1.out g h).2; have := (N0.out g h').2; omega))
  have K1 := hid hg2
  have B2 := hid (B1.out.trans (hb2.mono hm))
  have S2 : Hid (Spare base wo.heap.size w w2) := ⟨B2.out.os, B2.out.tape, B2.out.output, B2.out.size, fun g hg hh => by
    rcases hh with h | h
    · exact B2.out.block g h
    · exact (hln.2 g (fun e => by have := HLO.out.2 g e; omega)).trans (S1.out g h hg)⟩
  clear hg2 hln hb2 J0 J1
  go_wp2_with fail
  go_ret
  exact ⟨rfl, ⟨_, _, m, rfl, hm, K0.out, K1.out, HAP.out⟩, S2.out⟩

set_option maxHeartbeats 800000 in
theorem heldC (v : Value) (n0 n1 : Nat) (w : World) (h0 : n0 ≤ 1048576) (h1 : n1 ≤ 1048576) (hv : CV w v (marksF 1 n0) (marksF (1 + (n0 : Int)) n1)) :
    Calls Tryz.prog 53 #[v, .int .i64 1] w fun e w' => e = .returned (.int .i64 (1 + (n0 : Int) + (n1 : Int))) ∧ Below w.heap.size w w' := by
  obtain ⟨a0, c0, a1, c1, rfl, u0, u1⟩ := hv
  rw [marksF_length] at u0 u1 ⊢
  rw [marksF_length]
  have HB := hid ((Below.refl w.heap.size w).alloc (Nat.le_refl _) (.cells #[.slice a0 n0 c0, .slice a1 n1 c1] 31))
  have HT := hid (Two.new w (.slice a0 n0 c0) (.slice a1 n1 c1) 31)
  have V0 : Hid (Vw (w.alloc (.cells #[.slice a0 n0 c0, .slice a1 n1 c1] 31)) (.slice a0 n0 c0) (marksF 1 n0)) := ⟨a0, c0, by rw [marksF_length], by rw [marksF_length]; exact u0.below (Nat.le_refl _) HB.out⟩
  have V1 : Hid (Vw (w.alloc (.cells #[.slice a0 n0 c0, .slice a1 n1 c1] 31)) (.slice a1 n1 c1) (marksF (1 + (n0 : Int)) n1)) := ⟨a1, c1, by rw [marksF_length], by rw [marksF_length]; exact u1.below (Nat.le_refl _) HB.out⟩
  clear u0 u1
  obtain ⟨q0, q1, q2, q3⟩ := HT.out.cells
  have hp0 : ¬ ((1 : Int) + (n0 : Int) < 0) := by omega
  have hp1 : ¬ ((1 : Int) + (n0 : Int) + (n1 : Int) < 0) := by omega
  go_enter Tryz.func53, Tryz.ntmps53
  go_wp2_with fail
  refine (heldF 1 (by decide) (by decide) _ n0 _ (by omega) V0.out).mono ?_
  rintro e w1 ⟨rfl, rfl⟩
  go_wp2_with fail
  refine (heldF (1 + (n0 : Int)) (by omega) (by omega) _ n1 _ (by omega) V1.out).mono ?_
  rintro e w1 ⟨rfl, rfl⟩
  go_wp2_with fail
  go_ret
  exact ⟨rfl, HB.out⟩

end Go.Proofs.YtnnakmgngkpghaaGreat

/- The tests of freq (areFreqs, l02Freq), of the program and of the specification. -/
namespace Go.Proofs.YtnnakmgngkpghaaGreat
open Go.RowKit
set_option linter.unusedVariables false

def inF (x : Int) : Bool := decide (0 ≤ x ∧ x ≤ 100000)
theorem inF_iff (x : Int) : inF x = true ↔ 0 ≤ x ∧ x ≤ 100000 := by simp [inF]
theorem inF_no (x : Int) : inF x = false ↔ ¬ (0 ≤ x ∧ x ≤ 100000) := by simp [inF]
def freqTo (fs : List Int) : Nat → Bool
  | 0 => true
  | k + 1 => freqTo fs k && inF (fs.getD k 0)
theorem freqTo_bad (fs : List Int) (k : Nat) (h : inF (fs.getD k 0) = false) : ∀ n, k < n → freqTo fs n = false
  | n + 1, hn => by
    rw [freqTo]
    by_cases e : k = n
    · subst e; rw [h, Bool.and_false]
    · rw [freqTo_bad fs k h n (by omega), Bool.false_and]
theorem freqTo_at (fs : List Int) : ∀ n, freqTo fs n = true → ∀ k, k < n → 0 ≤ fs.getD k 0 ∧ fs.getD k 0 ≤ 100000
  | n + 1, h, k, hk => by
    simp only [freqTo, Bool.and_eq_true] at h
    by_cases e : k = n
    · subst e; exact (inF_iff _).1 h.2
    · exact freqTo_at fs n h.1 k (by omega)
def freqs (fs : List Int) : Bool := freqTo fs fs.length && decide ((fs.length : Int) = 256)

set_option maxHeartbeats 800000 in
theorem impl_freqs (ao : Option Addr) (n cap : Nat) (fs : List Int) (w : World) (hn : n ≤ 1048576) (hv : View .i64 w ao n fs) :
    Calls Tryz.prog 102 #[.slice ao n cap] w fun e w' => e = .returned (.bool (freqs fs)) ∧ w' = w := by
  have HV := hid hv
  have hl := hv.1
  have HF := hid (show freqs fs = (freqTo fs n && decide ((n : Int) = 256)) by unfold freqs; rw [hl])
  clear hv hl
  generalize freqs fs = R at *
  go_enter Tryz.func102, Tryz.ntmps102
  go_wp2
  go_loop [7] (fun i => ∃ k : Nat, k ≤ n ∧ i = .int .i64 k ∧ Hid (freqTo fs k = true)) (fun i => n - (intOf i).toNat)
  case atStart => exact ⟨0, by omega, rfl, rfl⟩
  case round =>
    obtain ⟨k, hk, rfl, hok⟩ := hrel
    by_cases hlt : k < n
    · obtain ⟨b, off, rfl, hc⟩ := HV.out.2 k hlt
      have HBAD := hid (fun h => freqTo_bad fs k h n hlt)
      have HST := hid (show freqTo fs (k + 1) = (freqTo fs k && inF (fs.getD k 0)) from rfl)
      generalize fs.getD k 0 = X at *
      by_cases hX : 0 ≤ X ∧ X ≤ 100000
      · have hnx := hid (show freqTo fs (k + 1) = true by rw [HST.out, hok.out, (inF_iff X).2 hX]; rfl)
        have h1 : decide (X < 0) = false := by simp; omega
        have h2 : decide (100000 < X) = false := by simp; omega
        clear HBAD HST hX
        go_wp2
        go_round
        case rel => exact ⟨k + 1, by omega, by go_num, hnx.out⟩
        case measure => simp [intOf]; omega
      · have hout := hid (show R = false by rw [HF.out, HBAD.out ((inF_no X).2 hX), Bool.false_and])
        clear HBAD HST
        by_cases h0 : X < 0
        · have h1 : decide (X < 0) = true := by simpa using h0
          clear hX
          go_wp2
          go_ret
          exact ⟨ret_bool hout.out.symm, rfl⟩
        · have h1 : decide (X < 0) = false := by simpa using h0
          have h2 : decide (100000 < X) = true := by simp; omega
          clear hX
          go_wp2
          go_ret
          exact ⟨ret_bool hout.out.symm, rfl⟩
    · obtain rfl : k = n := by omega
      have hout := hid (show R = decide ((k : Int) = 256) by rw [HF.out, hok.out, Bool.true_and])
      clear HF
      by_cases h : (k : Int) = 256
      · have hd : ((k : Int) == 256) = true := by simpa using h
        have ho2 := hid (show R = true by rw [hout.out, decide_eq_true h])
        clear h hout
        go_wp2
        go_ret
        exact ⟨ret_bool ho2.out.symm, rfl⟩
      · have hd : ((k : Int) == 256) = false := by simpa using h
        have ho2 := hid (show R = false by rw [hout.out, decide_eq_false h])
        clear h hout
        go_wp2
        go_ret
        exact ⟨ret_bool ho2.out.symm, rfl⟩

set_option maxHeartbeats 800000 in
theorem spec_freqs (ao : Option Addr) (n cap : Nat) (fs : List Int) (w : World) (hn : n ≤ 1048576) (hv : View .i64 w ao n fs) :
    Calls Tryz.prog 92 #[.slice ao n cap] w fun e w' => e = .returned (.bool (freqs fs)) ∧ w' = w := by
  have HV := hid hv
  have hl := hv.1
  have HF := hid (show freqs fs = (freqTo fs n && decide ((n : Int) = 256)) by unfold freqs; rw [hl])
  clear hv hl
  generalize freqs fs = R at *
  go_enter Tryz.func92, Tryz.ntmps92
  go_wp2
  go_loop [3] (fun i => ∃ k : Nat, k ≤ n ∧ i = .int .i64 k ∧ Hid (freqTo fs k = true)) (fun i => n - (intOf i).toNat)
  case atStart => exact ⟨0, by omega, rfl, rfl⟩
  case round =>
    obtain ⟨k, hk, rfl, hok⟩ := hrel
    by_cases hlt : k < n
    · obtain ⟨b, off, rfl, hc⟩ := HV.out.2 k hlt
      have HBAD := hid (fun h => freqTo_bad fs k h n hlt)
      have HST := hid (show freqTo fs (k + 1) = (freqTo fs k && inF (fs.getD k 0)) from rfl)
      generalize fs.getD k 0 = X at *
      by_cases hX : 0 ≤ X ∧ X ≤ 100000
      · have hnx := hid (show freqTo fs (k + 1) = true by rw [HST.out, hok.out, (inF_iff X).2 hX]; rfl)
        have hin := in_yes hX
        clear HBAD HST hX
        go_wp2_with (go_at_call 20; refine (spec_in _ _ _ _).mono ?_; rw [hin]; rintro e w' ⟨rfl, rfl⟩)
        go_round
        case rel => exact ⟨k + 1, by omega, by go_num, hnx.out⟩
        case measure => simp [intOf]; omega
      · have hout := hid (show R = false by rw [HF.out, HBAD.out ((inF_no X).2 hX), Bool.false_and])
        have hin := in_no hX
        clear HBAD HST hX
        go_wp2_with (go_at_call 20; refine (spec_in _ _ _ _).mono ?_; rw [hin]; rintro e w' ⟨rfl, rfl⟩)
        go_ret
        exact ⟨ret_bool hout.out.symm, rfl⟩
    · obtain rfl : k = n := by omega
      have hout := hid (show R = decide ((k : Int) = 256) by rw [HF.out, hok.out, Bool.true_and])
      clear HF
      by_cases h : (k : Int) = 256
      · have hd : ((k : Int) == 256) = true := by simpa using h
        have ho2 := hid (show R = true by rw [hout.out, decide_eq_true h])
        clear h hout
        go_wp2
        go_ret
        exact ⟨ret_bool ho2.out.symm, rfl⟩
      · have hd : ((k : Int) == 256) = false := by simpa using h
        have ho2 := hid (show R = false by rw [hout.out, decide_eq_false h])
        clear h hout
        go_wp2
        go_ret
        exact ⟨ret_bool ho2.out.symm, rfl⟩
end Go.Proofs.YtnnakmgngkpghaaGreat

/- slices.Max of numbers. -/
namespace Go.Proofs.YtnnakmgngkpghaaGreat
open Go.RowKit
set_option linter.unusedVariables false

def maxTo (xs : List Int) : Nat → Int
  | 0 => xs.getD 0 0
  | k + 1 => max (maxTo xs k) (xs.getD (k + 1) 0)
theorem maxTo_gt (xs : List Int) (b : Int) : ∀ k, b < maxTo xs k ↔ ∃ j, j ≤ k ∧ b < xs.getD j 0
  | 0 => ⟨fun h => ⟨0, Nat.le_refl _, h⟩, fun ⟨j, hj, h⟩ => by
    obtain rfl : j = 0 := Nat.le_zero.1 hj
    exact h⟩
  | k + 1 => by
    have ih := maxTo_gt xs b k
    rw [maxTo]
    constructor
    · intro h
      by_cases h1 : b < maxTo xs k
      · obtain ⟨j, hj, h2⟩ := ih.1 h1
        exact ⟨j, by omega, h2⟩
      · exact ⟨k + 1, Nat.le_refl _, by omega⟩
    · rintro ⟨j, hj, h⟩
      by_cases e : j = k + 1
      · subst e; omega
      · have := ih.2 ⟨j, by omega, h⟩
        omega

set_option maxHeartbeats 800000 in
theorem max_any (ao : Option Addr) (m cap : Nat) (xs : List Int) (w : World) (hn : m ≤ 1048576) (hv : View .i64 w ao (m + 1) xs) :
    Calls Tryz.prog 105 #[.slice ao (m + 1) cap] w fun e w' => e = .returned (.int .i64 (maxTo xs m)) ∧ w' = w := by
  obtain ⟨b, off, rfl, hc0⟩ := hv.2 0 (by omega)
  have HV := hid hv
  have hm0 := hid (show maxTo xs 0 = xs.getD 0 0 from rfl)
  rw [Nat.add_zero] at hc0
  clear hv
  have hb : (m : Int) ≤ 1048576 := by omega
  generalize hX0 : xs.getD 0 0 = X0 at hc0 hm0
  clear hX0
  have hlt : decide (((m + 1 : Nat) : Int) < 1) = false := by simp; omega
  go_enter Tryz.func105, Tryz.ntmps105
  go_wp2
  go_loop [3, 4] (fun z i => ∃ k : Nat, k ≤ m ∧ i = .int .i64 ((k : Int) + 1) ∧ z = .int .i64 (maxTo xs k)) (fun _ i => m + 1 - (intOf i).toNat)
  case atStart => exact ⟨0, by omega, rfl, by rw [hm0.out]⟩
  case round =>
    obtain ⟨k, hk, rfl, rfl⟩ := hrel
    by_cases hlt : k < m
    · obtain ⟨b', off', hab, hc⟩ := HV.out.2 (k + 1) (by omega)
      cases hab
      have HST := hid (show maxTo xs (k + 1) = max (maxTo xs k) (xs.getD (k + 1) 0) from rfl)
      have e1 : ((off + (k + 1) : Nat)) = off + (k + 1) := rfl
      have hk1 : ((k : Int) + 1) < ((m + 1 : Nat) : Int) := by omega
      have hk2 : ((k : Int) + 1).toNat = k + 1 := by omega
      generalize xs.getD (k + 1) 0 = X at *
      generalize maxTo xs k = Y at *
      go_wp2
      go_round
      case rel => exact ⟨k + 1, by omega, val_int (by omega), by first | (rw [HST.out]; done) | (rw [HST.out]; exact val_int (by split <;> omega))⟩
      case measure => simp [intOf]; omega
    · obtain rfl : k = m := by omega
      go_wp2
      go_ret
      exact ⟨rfl, rfl⟩
end Go.Proofs.YtnnakmgngkpghaaGreat

/- codesOfLengths: plain, and of the program. -/
namespace Go.Proofs.YtnnakmgngkpghaaGreat
open Go.RowKit
set_option linter.unusedVariables false

/-- The symbols below k whose length is l. -/
def pickTo (ls : List Int) (l : Int) : Nat → List Int
  | 0 => []
  | k + 1 => if ls.getD k 0 = l then pickTo ls l k ++ [(k : Int)] else pickTo ls l k
theorem pickTo_len (ls : List Int) (l : Int) : ∀ k, (pickTo ls l k).length ≤ k
  | 0 => Nat.le_refl _
  | k + 1 => by
    have := pickTo_len ls l k
    rw [pickTo]
    split
    · simp; omega
    · omega
/-- The symbols of the first i lengths, and how many of each there are. -/
def symsTo (ls : List Int) : Nat → List Int
  | 0 => []
  | i + 1 => symsTo ls i ++ pickTo ls ((i : Int) + 1) 256
def cntsTo (ls : List Int) : Nat → List Int
  | 0 => []
  | i + 1 => cntsTo ls i ++ [((pickTo ls ((i : Int) + 1) 256).length : Int)]
theorem cntsTo_len (ls : List Int) : ∀ i, (cntsTo ls i).length = i
  | 0 => rfl
  | i + 1 => by rw [cntsTo, List.length_append, cntsTo_len ls i]; rfl
theorem symsTo_len (ls : List Int) : ∀ i, (symsTo ls i).length ≤ 256 * i
  | 0 => Nat.zero_le _
  | i + 1 => by
    have h1 := symsTo_len ls i
    have h2 := pickTo_len ls ((i : Int) + 1) 256
    rw [symsTo, List.length_append]
    omega

/-- The counts while those of length i + 1 are counted. -/
def cntD (ls : List Int) (i k : Nat) : List Int := (cntsTo ls i ++ [((pickTo ls ((i : Int) + 1) k).length : Int)]) ++ List.replicate (15 - i) 0
theorem cntD_len (ls : List Int) (i k : Nat) (h : i < 16) : (cntD ls i k).length = 16 := by
  unfold cntD
  rw [List.length_append, List.length_append, cntsTo_len, List.length_replicate, List.length_singleton]
  omega
theorem cntD_zero (ls : List Int) (i : Nat) (h : i < 16) : cntD ls i 0 = cntsTo ls i ++ List.replicate (16 - i) 0 := by
  unfold cntD
  have e : 16 - i = (15 - i) + 1 := by omega
  rw [List.append_assoc, e, List.replicate_succ]
  rfl
theorem cntD_last (ls : List Int) (i : Nat) : cntD ls i 256 = cntsTo ls (i + 1) ++ List.replicate (16 - (i + 1)) 0 := by
  unfold cntD
  have e : 16 - (i + 1) = 15 - i := by omega
  rw [e]
  rfl
theorem cntD_get (ls : List Int) (i k : Nat) (h : i < 16) : (cntD ls i k).getD i 0 = ((pickTo ls ((i : Int) + 1) k).length : Int) := by
  unfold cntD
  simp [List.getD, cntsTo_len]
theorem cntD_set (ls : List Int) (i k : Nat) (h : i < 16) (hp : ls.getD k 0 = (i : Int) + 1) : (cntD ls i k).set i (((pickTo ls ((i : Int) + 1) k).length : Int) + 1) = cntD ls i (k + 1) := by
  unfold cntD
  rw [pickTo, if_pos hp, List.length_append, List.length_singleton, List.set_append_left _ _ (by rw [List.length_append, cntsTo_len]; simp), List.set_append_right _ _ (by rw [cntsTo_len]; omega), cntsTo_len, Nat.sub_self]
  rfl
theorem cntD_same (ls : List Int) (i k : Nat) (hp : ¬ ls.getD k 0 = (i : Int) + 1) : cntD ls i (k + 1) = cntD ls i k := by
  unfold cntD
  rw [pickTo, if_neg hp]

theorem Own.ne26 {w : World} {base : Nat} {v : Value} {xs : List Int} {C : Nat} {x y : Value} (h : Own w base 3 .i64 v xs) (hz : Two w C x y 31) : v.ownBlock ≠ some C := by
  intro e
  rcases h.2.2 with ⟨hv, _⟩ | ⟨g, cap, cur, hv, _, hh, _⟩
  · subst hv; simp [Value.ownBlock] at e
  · subst hv
    have : g = C := by simpa [Value.ownBlock] using e
    subst this
    unfold Two at hz
    rw [hh] at hz
    have := Option.some.inj hz
    simp at this
/-- What stands while codes are laid out: the variable in block C, the counts' row in block D. -/
def Cst (w wr : World) (cs ss : List Int) : Prop := ∃ sv, Two wr (w.heap.size + 1 + 1 + 1) (.slice (some ⟨w.heap.size + 1, 0, none⟩) 16 16) sv 31 ∧ Own wr (w.heap.size + 1) 3 .i64 (.slice (some ⟨w.heap.size + 1, 0, none⟩) 16 16) cs ∧ Own wr (w.heap.size + 1 + 1) 3 .i64 sv ss ∧ Below w.heap.size w wr ∧ Two wr w.heap.size (.slice none 0 0) (.slice none 0 0) 31
theorem Cst.inc {w wr : World} {cs ss : List Int} (h : Cst w wr cs ss) (i : Nat) (x : Int) : Cst w (wr.setCell ⟨w.heap.size + 1, i, none⟩ (.int .i64 x)) (cs.set i x) ss := by
  obtain ⟨sv, h1, h2, h3, h4, h5⟩ := h
  exact ⟨sv, h1.other (by omega) _, h2.store i x, h3.setCell_below (a := ⟨w.heap.size + 1, i, none⟩) (by show w.heap.size + 1 < w.heap.size + 1 + 1; omega) _, h4.setCell (p := ⟨w.heap.size + 1, i, none⟩) (by show w.heap.size ≤ w.heap.size + 1; omega) _, h5.other (by omega) _⟩
theorem Cst.push {w wr w' : World} {cs ss : List Int} {sv v' : Value} {y : Int} (h1 : Two wr (w.heap.size + 1 + 1 + 1) (.slice (some ⟨w.heap.size + 1, 0, none⟩) 16 16) sv 31) (h2 : Own wr (w.heap.size + 1) 3 .i64 (.slice (some ⟨w.heap.size + 1, 0, none⟩) 16 16) cs) (h3 : Own wr (w.heap.size + 1 + 1) 3 .i64 sv ss) (h4 : Below w.heap.size w wr) (h5 : Two wr w.heap.size (.slice none 0 0) (.slice none 0 0) 31)
    (ho : Own w' (w.heap.size + 1 + 1) 3 .i64 v' (ss ++ [y])) (hb : Below (w.heap.size + 1 + 1) wr w') (hk : ∀ g, g < wr.heap.size → some g ≠ sv.ownBlock → w'.heap[g]? = wr.heap[g]?) :
    (Two w' (w.heap.size + 1 + 1 + 1) (.slice (some ⟨w.heap.size + 1, 0, none⟩) 16 16) sv 31) ∧ Cst w (w'.setCell ⟨w.heap.size + 1 + 1 + 1, 1, none⟩ v') cs (ss ++ [y]) := by
  have t1 : Two w' (w.heap.size + 1 + 1 + 1) (.slice (some ⟨w.heap.size + 1, 0, none⟩) 16 16) sv 31 := (hk _ h1.lt (fun e => (h3.ne26 h1) e.symm)).trans h1
  have t5 : Two w' w.heap.size (.slice none 0 0) (.slice none 0 0) 31 := (hk _ h5.lt (fun e => (h3.ne26 h5) e.symm)).trans h5
  have o2 : Own w' (w.heap.size + 1) 3 .i64 (.slice (some ⟨w.heap.size + 1, 0, none⟩) 16 16) cs := by
    refine ⟨Nat.le_trans h2.1 hb.size, h2.2.1, ?_⟩
    rcases h2.2.2 with h0 | ⟨g, cap, cur, hv, hg, hh, r⟩
    · exact .inl h0
    · refine .inr ⟨g, cap, cur, hv, hg, (hb.block g ?_).trans hh, r⟩
      have : w.heap.size + 1 = g := by simp at hv; exact hv.1
      omega
  have hne3 : v'.ownBlock ≠ some (w.heap.size + 1 + 1 + 1) := ho.ne26 t1
  refine ⟨t1, v', t1.set1 _, ?_, ?_, ?_, t5.other (by omega) _⟩
  · exact o2.ef (t := 31) (l := [.slice (some ⟨w.heap.size + 1, 0, none⟩) 16 16, sv]) t1 (by decide) (Ef.set _ _ _)
  · exact ho.ef (t := 31) (l := [.slice (some ⟨w.heap.size + 1, 0, none⟩) 16 16, sv]) t1 (by decide) (Ef.set _ _ _)
  · exact (h4.trans ⟨hb.os, hb.tape, hb.output, hb.size, fun k hk => hb.block k (by omega)⟩).setCell (p := ⟨w.heap.size + 1 + 1 + 1, 1, none⟩) (by show w.heap.size ≤ w.heap.size + 1 + 1 + 1; omega) _
theorem make16 : ∀ q, (Instr.makeSlice 22 (.int .i64 16) (.int .i64 16)).run Tryz.prog q = .ok (.slice (some ⟨q.heap.size, 0, none⟩) 16 16) (q.alloc (.cells ((List.replicate 16 (0 : Int)).map (Value.int .i64)).toArray 3)) := fun q => by kernel_rfl

set_option maxRecDepth 20000 in
set_option maxHeartbeats 1600000 in
theorem impl_codes (ao : Option Addr) (cap : Nat) (ls : List Int) (w : World) (hv : View .i64 w ao 256 ls) :
    Calls Tryz.prog 106 #[.slice ao 256 cap] w fun e w' => ∃ v, e = .returned v ∧ COwn w' w.heap.size v (cntsTo ls 16) (symsTo ls 16) ∧ Below w.heap.size w w' := by
  have HV := hid hv
  have hmk := make16
  clear hv
  have H0 : Hid (∀ wx, wx = ((((w.alloc (.cells #[.slice none 0 0, .slice none 0 0] 31)).alloc (.cells ((List.replicate 16 (0 : Int)).map (Value.int .i64)).toArray 3)).alloc (.cells #[] 3)).alloc (.cells #[.slice (some ⟨w.heap.size + 1, 0, none⟩) 16 16, .slice (some ⟨w.heap.size + 1 + 1, 0, none⟩) 0 0] 31)) → Cst w wx (cntsTo ls 0 ++ List.replicate (16 - 0) 0) (symsTo ls 0)) := by
    refine hid (fun wx e => ?_)
    obtain ⟨A, hA⟩ : ∃ A, A = w.alloc (.cells #[.slice none 0 0, .slice none 0 0] 31) := ⟨_, rfl⟩
    have sA : A.heap.size = w.heap.size + 1 := by rw [hA]; simp
    obtain ⟨B, hB⟩ : ∃ B, B = A.alloc (.cells ((List.replicate 16 (0 : Int)).map (Value.int .i64)).toArray 3) := ⟨_, rfl⟩
    have sB : B.heap.size = w.heap.size + 1 + 1 := by rw [hB, World.size_alloc, sA]
    obtain ⟨D, hD⟩ : ∃ D, D = B.alloc (.cells #[] 3) := ⟨_, rfl⟩
    have sD : D.heap.size = w.heap.size + 1 + 1 + 1 := by rw [hD, World.size_alloc, sB]
    rw [← hA, ← hB, ← hD] at e
    have b1 := (Below.refl A.heap.size A).alloc (Nat.le_refl _) (.cells ((List.replicate 16 (0 : Int)).map (Value.int .i64)).toArray 3)
    rw [← hB] at b1
    have b2 := (Below.refl B.heap.size B).alloc (Nat.le_refl _) (.cells #[] 3)
    rw [← hD] at b2
    have b3 := (Below.refl D.heap.size D).alloc (Nat.le_refl _) (.cells #[.slice (some ⟨w.heap.size + 1, 0, none⟩) 16 16, .slice (some ⟨w.heap.size + 1 + 1, 0, none⟩) 0 0] 31)
    rw [← e] at b3
    have b0 := (Below.refl w.heap.size w).alloc (Nat.le_refl _) (.cells #[.slice none 0 0, .slice none 0 0] 31)
    rw [← hA] at b0
    have t0 := Two.new w (.slice none 0 0) (.slice none 0 0) 31
    rw [← hA] at t0
    have o1 := Own.madeI A A.heap.size (List.replicate 16 0) (Nat.le_refl _) (by decide)
    rw [← hB, List.length_replicate, sA] at o1
    have o2 := Own.empty B 3 .i64 B.heap.size (Nat.le_refl _)
    rw [← hD, sB] at o2
    have t3 := Two.new D (.slice (some ⟨w.heap.size + 1, 0, none⟩) 16 16) (.slice (some ⟨w.heap.size + 1 + 1, 0, none⟩) 0 0) 31
    rw [← e, sD] at t3
    exact ⟨_, t3, ((o1.below b2).below b3), o2.below b3, b0.trans ((b1.mono (by omega)).trans ((b2.mono (by omega)).trans (b3.mono (by omega)))), ((t0.below b1 (by omega)).below b2 (by omega)).below b3 (by omega)⟩
  go_enter Tryz.func106, Tryz.ntmps106
  go_wp2_with fail
  go_loopw [13] (fun i wr => ∃ n : Nat, n ≤ 16 ∧ i = .int .i64 n ∧ Hid (Cst w wr (cntsTo ls n ++ List.replicate (16 - n) 0) (symsTo ls n))) (fun i _ => 16 - (intOf i).toNat)
  case atStart => exact ⟨0, by decide, rfl, hid (H0.out _ rfl)⟩
  case round =>
    obtain ⟨n, hn, rfl, hC⟩ := hrel
    by_cases hlt : n < 16
    · have hn1 : (n : Int) < 16 := by omega
      rw [← cntD_zero ls n hlt] at hC
      clear hn H0
      go_wp2_with fail
      go_loopw [18] (fun j wr => ∃ k : Nat, k ≤ 256 ∧ j = .int .i64 k ∧ Hid (Cst w wr (cntD ls n k) (symsTo ls n ++ pickTo ls ((n : Int) + 1) k))) (fun j _ => 256 - (intOf j).toNat)
      case atStart => exact ⟨0, by decide, rfl, hid (by rw [pickTo, List.append_nil]; exact hC.out)⟩
      case round =>
        obtain ⟨k, hk, rfl, hD⟩ := hrel
        by_cases hlk : k < 256
        · have hk1 : (k : Int) < 256 := by omega
          obtain ⟨b, off, rfl, hc⟩ := HV.out.2 k hlk
          obtain ⟨sv, h1, h2, h3, h4, h5⟩ := hD.out
          have hcr := (h4.cell (p := ⟨b, off + k, none⟩) (World.block_lt_of_cell? w _ hc)).trans hc
          obtain ⟨q0, q1, q2, q3⟩ := h1.cells
          by_cases hX : ls.getD k 0 = (n : Int) + 1
          · have HS := hid (cntD_set ls n k hlt hX)
            have HP := hid (show symsTo ls n ++ pickTo ls ((n : Int) + 1) (k + 1) = (symsTo ls n ++ pickTo ls ((n : Int) + 1) k) ++ [(k : Int)] from by rw [pickTo, if_pos hX, List.append_assoc])
            have hg := h2.at n (by rw [cntD_len ls n k hlt]; exact hlt)
            rw [cntD_get ls n k hlt] at hg
            have hY := pickTo_len ls ((n : Int) + 1) k
            have hfr := h2.free n
            have hL := symsTo_len ls n
            rw [hX] at hcr
            obtain ⟨aS, cS, rfl⟩ := h3.shape
            generalize (pickTo ls ((n : Int) + 1) k).length = Y at *
            have h1' := h1.other (i := n) (show w.heap.size + 1 + 1 + 1 ≠ w.heap.size + 1 by omega) (.int .i64 ((Y : Int) + 1))
            have h5' := h5.other (i := n) (show w.heap.size ≠ w.heap.size + 1 by omega) (.int .i64 ((Y : Int) + 1))
            have h2' := h2.store n ((Y : Int) + 1)
            rw [HS.out] at h2'
            have h3' := h3.setCell_below (a := ⟨w.heap.size + 1, n, none⟩) (by show w.heap.size + 1 < w.heap.size + 1 + 1; omega) (.int .i64 ((Y : Int) + 1))
            have h4' := h4.setCell (p := ⟨w.heap.size + 1, n, none⟩) (by show w.heap.size ≤ w.heap.size + 1; omega) (.int .i64 ((Y : Int) + 1))
            have HW := hid (show _ ∧ _ ∧ _ ∧ _ ∧ _ from ⟨h1', h2', h3', h4', h5'⟩)
            obtain ⟨r0, r1, r2, r3⟩ := h1'.cells
            have HL := hid (show (symsTo ls n ++ pickTo ls ((n : Int) + 1) k).length < 100000 from by
              have := pickTo_len ls ((n : Int) + 1) k
              rw [List.length_append]; omega)
            have HD := hid (fun v' w' ho hb hk => Cst.push (v' := v') (w' := w') (y := (k : Int)) h1' h2' h3' h4' h5' ho hb hk)
            clear h1 h2 h3 h4 h5 h1' h2' h3' h4' h5' HS hD hX hL hC
            generalize symsTo ls n ++ pickTo ls ((n : Int) + 1) k = SL at *
            go_wp2_with (first | (refine wpList_pushG (wr.setCell ⟨w.heap.size + 1, n, none⟩ (.int .i64 ((Y : Int) + 1))) rfl (.tmp 35) (.tmp 37) 22 rfl (w.heap.size + 1 + 1) 3 .i64 0 8 Tryz.underlying22 Tryz.info3 (.slice aS SL.length cS) SL (by rfl) HW.out.2.2.1 (k : Int) (by go_simp) (by have := HL.out; omega) (by decide) ?_; rintro v' w' ho hb hk; obtain ⟨aV, cV, rfl⟩ := ho.shape; have HE := hid (HD.out _ w' ho hb hk); obtain ⟨s0, s1, s2, s3⟩ := HE.out.1.cells; clear ho hb hk) | fail)
            go_roundw
            case rel => exact ⟨k + 1, by omega, by go_num, hid (by rw [HP.out]; have h := HE.out.2; rw [List.length_append, List.length_singleton] at h; exact h)⟩
            case measure => simp [intOf]; omega
          · have HS := hid (cntD_same ls n k hX)
            have HP := hid (show symsTo ls n ++ pickTo ls ((n : Int) + 1) (k + 1) = symsTo ls n ++ pickTo ls ((n : Int) + 1) k from by rw [pickTo, if_neg hX])
            have hne : (ls.getD k 0 == (n : Int) + 1) = false := by simpa using hX
            generalize ls.getD k 0 = X at *
            clear hX h1 h2 h3 h4 h5
            go_wp2_with fail
            go_roundw
            case rel => exact ⟨k + 1, by omega, by go_num, hid (by rw [HP.out, HS.out]; exact hD.out)⟩
            case measure => simp [intOf]; omega
        · obtain rfl : k = 256 := by omega
          have HE := hid (show Cst w wr (cntsTo ls (n + 1) ++ List.replicate (16 - (n + 1)) 0) (symsTo ls (n + 1)) from by rw [← cntD_last]; exact hD.out)
          clear hD
          go_wp2_with fail
          go_roundw
          case rel => exact ⟨n + 1, by omega, by go_num, HE⟩
          case measure => simp [intOf]; omega
    · obtain rfl : n = 16 := by omega
      obtain ⟨sv, h1, h2, h3, h4, h5⟩ := hC.out
      obtain ⟨q0, q1, q2, q3⟩ := h1.cells
      obtain ⟨r0, r1, r2, r3⟩ := h5.cells
      have HW := hid (show _ ∧ _ ∧ _ from ⟨h2, h3, h4⟩)
      obtain ⟨aS, cS, rfl⟩ := h3.shape
      clear h1 h2 h3 h4 h5 H0 hC
      go_wp2_with fail
      have hz : cntsTo ls 16 ++ List.replicate (16 - 16) 0 = cntsTo ls 16 := by rw [Nat.sub_self]; exact List.append_nil _
      have h2 := HW.out.1
      rw [hz] at h2
      refine bodyPost_ret (v := .agg #[.slice (some ⟨w.heap.size + 1, 0, none⟩) 16 16, .slice aS (symsTo ls 16).length cS]) (by simp [results, Tryz.results106, go_sem, r0, r1]) rfl ⟨_, rfl, ⟨_, _, w.heap.size + 1 + 1, rfl, by omega, ?_, ?_, fun a n c h => by cases h; show w.heap.size + 1 < w.heap.size + 1 + 1; omega⟩, ?_⟩
      · exact ((h2.setCell_below (a := ⟨w.heap.size, 0, none⟩) (by show w.heap.size < w.heap.size + 1; omega) _).setCell_below (a := ⟨w.heap.size, 1, none⟩) (by show w.heap.size < w.heap.size + 1; omega) _).mono (by omega)
      · exact (HW.out.2.1.setCell_below (a := ⟨w.heap.size, 0, none⟩) (by show w.heap.size < w.heap.size + 1 + 1; omega) _).setCell_below (a := ⟨w.heap.size, 1, none⟩) (by show w.heap.size < w.heap.size + 1 + 1; omega) _
      · exact (HW.out.2.2.setCell (p := ⟨w.heap.size, 0, none⟩) (Nat.le_refl _) _).setCell (p := ⟨w.heap.size, 1, none⟩) (Nat.le_refl _) _
end Go.Proofs.YtnnakmgngkpghaaGreat

/- treesOf. -/
namespace Go.Proofs.YtnnakmgngkpghaaGreat
open Go.RowKit
set_option linter.unusedVariables false

/-- The slice v is the call's own and holds these trees. -/
def TrQ (w : World) (base : Nat) (v : Value) (E : List TE) : Prop := base ≤ w.heap.size ∧ w.ownsRow base 155 3 v E.length (flE E) ∧ ∀ e ∈ E, Own w 0 3 .i64 e.y e.s
theorem TrQ.shape {w : World} {base : Nat} {v : Value} {E : List TE} (h : TrQ w base v E) : ∃ ao cap, v = .slice ao E.length cap := by
  rcases h.2.1.2 with ⟨rfl, h0⟩ | ⟨g, cap, cur, rfl, _⟩
  · exact ⟨none, 0, by rw [h0]⟩
  · exact ⟨_, _, rfl⟩
theorem TrQ.empty (w : World) (base : Nat) (hb : base ≤ w.heap.size) : TrQ (w.alloc (.cells #[] 155)) base (.slice (some ⟨w.heap.size, 0, none⟩) 0 0) [] :=
  ⟨Nat.le_trans hb (by simp), World.ownsRow_made w #[] 0 hb (by simp [maxLen]) rfl, fun e he => by simp at he⟩
theorem TrQ.below {w w' : World} {base : Nat} {v : Value} {E : List TE} (h : TrQ w base v E) (hb : Below w.heap.size w w') : TrQ w' base v E := by
  obtain ⟨h1, h2, h3⟩ := h
  refine ⟨Nat.le_trans h1 hb.size, ⟨h2.1, ?_⟩, fun e he => (h3 e he).below hb⟩
  rcases h2.2 with h0 | ⟨g, cap, cur, hv, hg, hh, r⟩
  · exact .inl h0
  · exact .inr ⟨g, cap, cur, hv, hg, (hb.block g (Array.getElem?_eq_some_iff.1 hh).1).trans hh, r⟩
/-- The cells of an own row of trees, from a place on. -/
theorem TrQ.cells {w : World} {base : Nat} {g n c : Nat} {E : List TE} (h : TrQ w base (.slice (some ⟨g, 0, none⟩) n c) E) (j : Nat) (u : Value) (hj : (flE E)[j]? = some u) : w.cell? ⟨g, j, none⟩ = some u := by
  have := h.2.1.cells (g := g) (by simp [Value.ownBlock]) j u hj
  rwa [Addr.add_lit, Nat.zero_add] at this

/-- What an append of trees leaves as it was, and what it makes. -/
theorem TrQ.pushed {w w' : World} {base : Nat} {v v' : Value} {E E2 : List TE} (h : TrQ w base v E) (hE2 : ∀ e ∈ E2, Own w 0 3 .i64 e.y e.s)
    (hown' : w'.ownsRow base 155 3 v' (E.length + E2.length) (flE E ++ flE E2)) (hgrow : w.grownBy w' v.ownBlock) : TrQ w' base v' (E ++ E2) ∧ Kp3 w w' := by
  have hk : Kp3 w w' := by
    intro g cur hg
    refine (hgrow.block g (Array.getElem?_eq_some_iff.1 hg).1 ?_).trans hg
    intro eq
    rcases h.2.1.2 with ⟨hv, _⟩ | ⟨g', cap, cur', hv, _, hh, _⟩
    · subst hv; cases eq
    · subst hv
      have : g = g' := by simpa [Value.ownBlock] using eq
      subst this
      rw [hg] at hh
      cases hh
  refine ⟨⟨Nat.le_trans h.1 hgrow.size, by rw [List.length_append, flE_append]; exact hown', fun e he => ?_⟩, hk⟩
  rcases List.mem_append.1 he with he | he
  · exact (h.2.2 e he).kp3 hk hgrow.size
  · exact (hE2 e he).kp3 hk hgrow.size

theorem wpList_appQ {P : Program} {ops : Array Oper} {rest : List Oper} {o : Oper} {a : Act} {Q : Exit → Act → World → Prop} (w : World) (hgd : o.guard = none) (s x : Operand) (t : TypeId)
    (ho : o.op = .call { callee := .builtin .append, args := #[s, x], argTypes := #[t, t] })
    (base : Nat) (ht : P.underlying t = some (.slice 155)) (hinfo : (P.info? 155).map (fun i => (i.zero, i.size, i.bytes)) = some (some (.agg #[.int .i64 0, .int .i64 0, .slice none 0 0]), 3, 40))
    (v : Value) (E : List TE) (hs : a.eval s = v) (hown : TrQ w base v E) (ad : Addr) (c : Nat) (E2 : List TE) (hx : a.eval x = .slice (some ad) E2.length c)
    (hcells : ∀ (j : Nat) u, (flE E2)[j]? = some u → w.cell? (ad.add j) = some u) (hE2 : ∀ e ∈ E2, Own w 0 3 .i64 e.y e.s) (hlen : E.length + E2.length < 1000000000)
    (h : ∀ v' w', TrQ w' base v' (E ++ E2) → Kp3 w w' → Below base w w' → wpList P ops Q rest (a.put o.dst v') w') : wpList P ops Q (o :: rest) a w := by
  obtain ⟨i, hi, hz0, hz1, hz2⟩ := info_parts hinfo
  have hb := hown.1
  have hlt := hown.2.1.lt
  refine wpList_append_own _ hgd s x t ho base 155 i (.agg #[.int .i64 0, .int .i64 0, .slice none 0 0]) 3 40 ht hi hz0 hz1 hz2 rfl (by decide) v E.length _ hs hown.2.1 ad E2.length c (flE E2) hx (flE_len E2) hcells ?_ (by unfold maxLen; omega) (by omega) hb ?_
  · intro u hu
    simp only [flE, List.mem_flatMap] at hu
    obtain ⟨e, he, hu⟩ := hu
    obtain ⟨ao, cc, hy⟩ := (hE2 e he).shape
    simp at hu
    rcases hu with rfl | rfl | rfl
    · rfl
    · rfl
    · rw [hy]; rfl
  · intro v' w' hown' hgrow _
    obtain ⟨h1, h2⟩ := TrQ.pushed hown hE2 hown' hgrow
    exact h v' w' h1 h2 ((Below.refl base w).grown hgrow hb (fun g hg => (hlt g hg).1))

theorem TrQ.first (w : World) : TrQ ((w.alloc (.cells #[.int .i64 256] 3)).alloc (.cells #[.int .i64 0, .int .i64 256, .slice (some ⟨w.heap.size, 0, none⟩) 1 1] 155)) w.heap.size (.slice (some ⟨w.heap.size + 1, 0, none⟩) 1 1) [(0, 256, .slice (some ⟨w.heap.size, 0, none⟩) 1 1, [256])] := by
  have hr := heap_alloc_new (w.alloc (.cells #[.int .i64 256] 3)) (.cells #[.int .i64 0, .int .i64 256, .slice (some ⟨w.heap.size, 0, none⟩) 1 1] 155)
  rw [World.size_alloc] at hr
  refine ⟨by simp; omega, ⟨by simp [flE], .inr ⟨w.heap.size + 1, 1, _, rfl, by omega, hr, Nat.le_refl _, by decide, rfl, rfl⟩⟩, fun e he => ?_⟩
  simp at he
  subst he
  exact (Own.madeI w 0 [256] (Nat.zero_le _) (by simp)).below ((Below.refl _ _).alloc (Nat.le_refl _) _)

set_option maxRecDepth 20000 in
set_option maxHeartbeats 1600000 in
theorem impl_trees (ao : Option Addr) (cap : Nat) (fs : List Int) (w : World) (hv : View .i64 w ao 256 fs) (hf : ∀ j, j < 256 → 0 ≤ fs.getD j 0 ∧ fs.getD j 0 ≤ 100000) :
    Calls Tryz.prog 103 #[.slice ao 256 cap] w fun e w' => ∃ v E, e = .returned v ∧ TrQ w' w.heap.size v E ∧ E.map TE.pl = (0, 256, [256]) :: initP fs 256 ∧ Below w.heap.size w w' := by
  have HV := hid hv
  have HF := hid hf
  have H0 := hid (TrQ.first w)
  have HB0 := hid (((Below.refl w.heap.size w).alloc (Nat.le_refl _) (.cells #[.int .i64 256] 3)).alloc (by simp) (.cells #[.int .i64 0, .int .i64 256, .slice (some ⟨w.heap.size, 0, none⟩) 1 1] 155))
  clear hv hf
  go_enter Tryz.func103, Tryz.ntmps103
  go_wp2_with fail
  go_loopw [3, 11] (fun v i wr => ∃ k : Nat, k ≤ 256 ∧ i = .int .i64 k ∧ Hid (∃ E, TrQ wr w.heap.size v E ∧ E.map TE.pl = (0, 256, [256]) :: initP fs k ∧ Below w.heap.size w wr)) (fun _ i _ => 256 - (intOf i).toNat)
  case atStart => exact ⟨0, by omega, rfl, hid ⟨_, H0.out, rfl, HB0.out⟩⟩
  case round =>
    clear H0 HB0
    obtain ⟨k, hk, rfl, hL⟩ := hrel
    obtain ⟨E, hT, hp, hb⟩ := hL.out
    have HP := hid hp
    have HBB := hid hb
    have hEl : E.length ≤ 257 := by
      have h1 := congrArg List.length hp
      have h2 := initP_len fs k
      rw [List.length_map, List.length_cons] at h1
      omega
    by_cases hlt : k < 256
    · have hlt' : (k : Int) < 256 := by omega
      obtain ⟨b, off, rfl, hc⟩ := HV.out.2 k hlt
      have hcr : wr.cell? ⟨b, off + k, none⟩ = some (.int .i64 (fs.getD k 0)) := (hb.cell (p := ⟨b, off + k, none⟩) (World.block_lt_of_cell? w _ hc)).trans hc
      have hA := ((Below.refl wr.heap.size wr).alloc (Nat.le_refl _) (.cells #[.int .i64 k] 3)).alloc (by simp) (.cells #[.int .i64 (fs.getD k 0), .int .i64 k, .slice (some ⟨wr.heap.size, 0, none⟩) 1 1] 155)
      have HST := hid (show initP fs (k + 1) = if 0 < fs.getD k 0 then initP fs k ++ [(fs.getD k 0, (k : Int), [(k : Int)])] else initP fs k from rfl)
      have hf1 := (HF.out k hlt).2
      clear hL hp hb hc
      generalize fs.getD k 0 = F at *
      have HT2 := hid (hT.below hA)
      have HB2 := hid (HBB.out.trans (hA.mono HBB.out.size))
      have HY2 := hid ((Own.madeI wr 0 [(k : Int)] (Nat.zero_le _) (by simp)).below ((Below.refl _ _).alloc (Nat.le_refl _) (.cells #[.int .i64 F, .int .i64 k, .slice (some ⟨wr.heap.size, 0, none⟩) 1 1] 155)))
      have HC2 : Hid (∀ (j : Nat) u, (flE [(F, (k : Int), .slice (some ⟨wr.heap.size, 0, none⟩) 1 1, [(k : Int)])])[j]? = some u → ((wr.alloc (.cells #[.int .i64 k] 3)).alloc (.cells #[.int .i64 F, .int .i64 k, .slice (some ⟨wr.heap.size, 0, none⟩) 1 1] 155)).cell? ((⟨wr.heap.size + 1, 0, none⟩ : Addr).add j) = some u) := by
        intro j u hj
        have hrow := heap_alloc_new (wr.alloc (.cells #[.int .i64 k] 3)) (.cells #[.int .i64 F, .int .i64 k, .slice (some ⟨wr.heap.size, 0, none⟩) 1 1] 155)
        rw [World.size_alloc] at hrow
        rw [Addr.add_lit, Nat.zero_add, cell_of_row _ _ j _ 155 (0, 0) hrow]
        simpa [flE, TE.w, TE.l, TE.y] using hj
      have HT := hid hT
      clear hT hA
      by_cases hpos : 0 < F
      · have HEN := hid (show ∀ v2 w2, TrQ w2 w.heap.size v2 (E ++ [(F, (k : Int), .slice (some ⟨wr.heap.size, 0, none⟩) 1 1, [(k : Int)])]) → Below w.heap.size ((wr.alloc (.cells #[.int .i64 k] 3)).alloc (.cells #[.int .i64 F, .int .i64 k, .slice (some ⟨wr.heap.size, 0, none⟩) 1 1] 155)) w2 → ∃ E, TrQ w2 w.heap.size v2 E ∧ E.map TE.pl = (0, 256, [256]) :: initP fs (k + 1) ∧ Below w.heap.size w w2 from fun v2 w2 h1 h2 => ⟨_, h1, by rw [List.map_append, HP.out, HST.out, if_pos hpos]; rfl, HB2.out.trans h2⟩)
        have hlE : E.length + 1 < 1000000000 := by omega
        clear HST
        go_wp2_with (at_builtin; refine wpList_appQ _ rfl _ _ 136 rfl _ Tryz.underlying136 Tryz.info155 _ _ rfl HT2.out ⟨wr.heap.size + 1, 0, none⟩ 1 [(F, (k : Int), .slice (some ⟨wr.heap.size, 0, none⟩) 1 1, [(k : Int)])] rfl HC2.out (fun e he => by simp at he; subst he; exact HY2.out) hlE ?_)
        intro v2 w2 hT3 hkp hb3
        have HLN := hid (HEN.out _ _ hT3 hb3)
        clear hT3 hkp hb3
        go_wp2
        go_roundw
        case rel => exact ⟨k + 1, by omega, by go_num, HLN⟩
        case measure => simp [intOf]; omega
      · have HLN := hid (show ∃ E, TrQ wr w.heap.size _ E ∧ E.map TE.pl = (0, 256, [256]) :: initP fs (k + 1) ∧ Below w.heap.size w wr from ⟨E, HT.out, by rw [HP.out, HST.out, if_neg hpos], HBB.out⟩)
        clear HST
        go_wp2
        go_roundw
        case rel => exact ⟨k + 1, by omega, by go_num, HLN⟩
        case measure => simp [intOf]; omega
    · obtain rfl : k = 256 := by omega
      obtain ⟨aS, cS, rfl⟩ := hT.shape
      have HT := hid hT
      clear hT hp hb hL
      go_wp2
      go_ret
      exact ⟨_, E, rfl, HT.out, HP.out, HBB.out⟩
end Go.Proofs.YtnnakmgngkpghaaGreat

/- Plain: what BestCodes answers. -/
namespace Go.Proofs.YtnnakmgngkpghaaGreat
open Go.RowKit
set_option linter.unusedVariables false

theorem getD_eq {xs ys : List Int} {j : Nat} (h : xs[j]? = ys[j]?) : xs.getD j 0 = ys.getD j 0 := by simp only [List.getD, h]
theorem take_getD (xs : List Int) (n j : Nat) (h : j < n) : (xs.take n).getD j 0 = xs.getD j 0 := getD_eq (by rw [List.getElem?_take, if_pos h])
theorem pickTo_take (ls : List Int) (l : Int) (n : Nat) : ∀ k, k ≤ n → pickTo (ls.take n) l k = pickTo ls l k
  | 0, _ => rfl
  | k + 1, h => by rw [pickTo, pickTo, pickTo_take ls l n k (by omega), take_getD ls n k (by omega)]
theorem symsTo_take (ls : List Int) : ∀ i, symsTo (ls.take 256) i = symsTo ls i
  | 0 => rfl
  | i + 1 => by rw [symsTo, symsTo, symsTo_take ls i, pickTo_take ls _ 256 256 (Nat.le_refl _)]
theorem cntsTo_take (ls : List Int) : ∀ i, cntsTo (ls.take 256) i = cntsTo ls i
  | 0 => rfl
  | i + 1 => by rw [cntsTo, cntsTo, cntsTo_take ls i, pickTo_take ls _ 256 256 (Nat.le_refl _)]
theorem maxTo_take (ls : List Int) (n : Nat) : ∀ k, k < n → maxTo (ls.take n) k = maxTo ls k
  | 0, h => by rw [maxTo, maxTo, take_getD ls n 0 h]
  | k + 1, h => by rw [maxTo, maxTo, maxTo_take ls n k (by omega), take_getD ls n (k + 1) h]
/-- All lengths of the first k symbols are 8. -/
def evenTo (R : List Int) : Nat → List Int
  | 0 => R
  | k + 1 => if 0 < R.getD k 0 then (evenTo R k).set k 8 else evenTo R k
theorem evenTo_len (R : List Int) : ∀ k, (evenTo R k).length = R.length
  | 0 => rfl
  | k + 1 => by
    rw [evenTo]
    split
    · rw [List.length_set, evenTo_len R k]
    · exact evenTo_len R k
theorem evenTo_off (R : List Int) (j : Nat) : ∀ k, k ≤ j → (evenTo R k).getD j 0 = R.getD j 0
  | 0, _ => rfl
  | k + 1, h => by
    rw [evenTo]
    split
    · rw [getD_set_off _ _ _ _ (by omega), evenTo_off R j k (by omega)]
    · exact evenTo_off R j k (by omega)
/-- The lengths that are taken. -/
def bestL (R : List Int) : List Int := if 16 < maxTo R 255 then evenTo R 256 else R
theorem bestL_len (R : List Int) : (bestL R).length = R.length := by
  unfold bestL
  split
  · exact evenTo_len R 256
  · rfl
def np (fs : List Int) : Nat := (initP fs 256).length
def bB (fs : List Int) : Bool := freqs fs && decide (1 ≤ np fs ∧ np fs ≤ 255)
def bC (fs : List Int) : List Int := if bB fs = true then cntsTo (bestL (lensP fs)) 16 else []
def bS (fs : List Int) : List Int := if bB fs = true then symsTo (bestL (lensP fs)) 16 else []
theorem bC_len (fs : List Int) : (bC fs).length ≤ 16 := by
  unfold bC
  split
  · rw [cntsTo_len]; exact Nat.le_refl _
  · simp
theorem bS_len (fs : List Int) : (bS fs).length ≤ 4096 := by
  unfold bS
  split
  · exact symsTo_len _ 16
  · simp
theorem freqs_at {fs : List Int} (h : freqs fs = true) : fs.length = 256 ∧ ∀ j, j < 256 → 0 ≤ fs.getD j 0 ∧ fs.getD j 0 ≤ 100000 := by
  unfold freqs at h
  simp only [Bool.and_eq_true, decide_eq_true_eq] at h
  have hl : fs.length = 256 := by omega
  refine ⟨hl, fun j hj => freqTo_at fs fs.length h.1 j (by omega)⟩
theorem initP_least (fs : List Int) : ∀ k, (∀ x ∈ initP fs k, x.2.1 < (k : Int)) ∧ Apart (initP fs k)
  | 0 => ⟨fun x hx => (by cases hx), by unfold Apart; simp [initP]⟩
  | k + 1 => by
    obtain ⟨h1, h2⟩ := initP_least fs k
    rw [initP]
    split
    · refine ⟨fun x hx => ?_, ?_⟩
      · rcases List.mem_append.1 hx with h | h
        · have := h1 x h; omega
        · simp at h; subst h; show (k : Int) < _; omega
      · unfold Apart at *
        rw [List.map_append, List.nodup_append]
        refine ⟨h2, by simp, fun a ha b hb => ?_⟩
        obtain ⟨x, hx, rfl⟩ := List.mem_map.1 ha
        simp at hb
        subst hb
        have := h1 x hx
        omega
    · exact ⟨fun x hx => by have := h1 x hx; omega, h2⟩
theorem start_apart (fs : List Int) : Apart (initP fs 256 ++ [(0, 256, [256])]) := by
  obtain ⟨h1, h2⟩ := initP_least fs 256
  unfold Apart at *
  rw [List.map_append, List.nodup_append]
  refine ⟨h2, by simp, fun a ha b hb => ?_⟩
  obtain ⟨x, hx, rfl⟩ := List.mem_map.1 ha
  simp at hb
  subst hb
  have := h1 x hx
  omega
theorem TrQ.row {w : World} {base : Nat} {v : Value} {E : List TE} (h : TrQ w base v E) (hne : E ≠ []) : ∃ G c cur, v = .slice (some ⟨G, 0, none⟩) E.length c ∧ base ≤ G ∧ RowT w G cur E ∧ cur.length = c * 3 ∧ E.length ≤ c := by
  rcases h.2.1.2 with ⟨_, h0⟩ | ⟨g, cap, cur, hv, hg, hh, hc, _, hs, ht⟩
  · exact absurd (List.length_eq_zero_iff.1 h0) hne
  · refine ⟨g, cap, cur.toList, hv, hg, ⟨by unfold Blk; simpa using hh, ht, ?_⟩, by simpa using hs, hc⟩
    have : cur.toList.length = cap * 3 := by simpa using hs
    omega
end Go.Proofs.YtnnakmgngkpghaaGreat

/- BestCodes of the program. -/
namespace Go.Proofs.YtnnakmgngkpghaaGreat
open Go.RowKit
set_option linter.unusedVariables false

theorem COwn.nil (w : World) (base : Nat) (hb : base ≤ w.heap.size) : COwn w base (.agg #[.slice none 0 0, .slice none 0 0]) [] [] :=
  ⟨_, _, w.heap.size, rfl, hb, Own.nil w 3 .i64 base hb, Own.nil w 3 .i64 _ (Nat.le_refl _), fun a n c h => by cases h⟩
theorem blk_view {w : World} {b : Nat} {L : List Int} {t : TypeId} (h : Blk w b (ivs L) t) (hl : 256 ≤ L.length) : View .i64 w (some ⟨b, 0, none⟩) 256 (L.take 256) := by
  refine ⟨by rw [List.length_take]; omega, fun j hj => ⟨b, 0, rfl, ?_⟩⟩
  rw [Nat.zero_add, take_getD _ _ _ hj]
  exact h.cell (ivs_get L j (by omega))

set_option maxRecDepth 20000 in
set_option maxHeartbeats 1600000 in
theorem impl_best (ao : Option Addr) (n cap : Nat) (fs : List Int) (w : World) (hn : n ≤ 1048576) (hv : View .i64 w ao n fs) :
    Calls Tryz.prog 87 #[.slice ao n cap] w fun e w' => ∃ v, e = .returned (.tuple #[v, .bool (bB fs)]) ∧ COwn w' w.heap.size v (bC fs) (bS fs) ∧ Below w.heap.size w w' := by
  have hA0 := (Below.refl w.heap.size w).alloc (Nat.le_refl _) (.cells #[.slice none 0 0, .slice none 0 0] 31)
  have hT0 := Two.new w (.slice none 0 0) (.slice none 0 0) 31
  have hV0 := hv.below (Nat.le_refl _) hA0
  have hs0 : (w.alloc (.cells #[.slice none 0 0, .slice none 0 0] 31)).heap.size = w.heap.size + 1 := by simp
  have HQ := hid (impl_freqs ao n cap fs (w.alloc (.cells #[.slice none 0 0, .slice none 0 0] 31)) hn hV0)
  have HV := hid hV0
  -- what the answer's box holds, and what no codes are answered with
  have HN : Hid (∀ w', Below (w.heap.size + 1) (w.alloc (.cells #[.slice none 0 0, .slice none 0 0] 31)) w' → Two w' w.heap.size (.slice none 0 0) (.slice none 0 0) 31) := hid (fun w' h => hT0.below h (by omega))
  have HN2 : Hid (∀ w', Below (w.heap.size + 1) (w.alloc (.cells #[.slice none 0 0, .slice none 0 0] 31)) w' → COwn ((w'.setCell ⟨w.heap.size, 0, none⟩ (.slice none 0 0)).setCell ⟨w.heap.size, 1, none⟩ (.slice none 0 0)) w.heap.size (.agg #[.slice none 0 0, .slice none 0 0]) [] [] ∧ Below w.heap.size w ((w'.setCell ⟨w.heap.size, 0, none⟩ (.slice none 0 0)).setCell ⟨w.heap.size, 1, none⟩ (.slice none 0 0))) := hid (fun w' h => by
    have hb : Below w.heap.size w ((w'.setCell ⟨w.heap.size, 0, none⟩ (.slice none 0 0)).setCell ⟨w.heap.size, 1, none⟩ (.slice none 0 0)) := ((hA0.trans (h.mono (by omega))).setCell (p := ⟨w.heap.size, 0, none⟩) (Nat.le_refl _) _).setCell (p := ⟨w.heap.size, 1, none⟩) (Nat.le_refl _) _
    exact ⟨COwn.nil _ _ hb.size, hb⟩)
  have HA0 := hid hA0
  have HR0 := hid (Below.refl (w.heap.size + 1) (w.alloc (.cells #[.slice none 0 0, .slice none 0 0] 31)))
  clear hv hn hA0 hT0 hV0 hs0
  cases hF : freqs fs with
  | false =>
    have hB : bB fs = false := by unfold bB; rw [hF]; rfl
    have hC : bC fs = [] := by unfold bC; rw [hB]; rfl
    have hS : bS fs = [] := by unfold bS; rw [hB]; rfl
    rw [hB, hC, hS]
    rw [hF] at HQ
    clear hB hC hS hF
    obtain ⟨q0, q1, q2, q3⟩ := (HN.out _ HR0.out).cells
    go_enter Tryz.func87, Tryz.ntmps87
    go_wp2_with (first | (go_at_call 102; refine HQ.out.mono ?_; rintro e w1 ⟨rfl, rfl⟩) | fail)
    refine bodyPost_ret (v := .tuple #[.agg #[.slice none 0 0, .slice none 0 0], .bool false]) (by simp [results, Tryz.results87, go_sem]) rfl ⟨_, rfl, COwn.nil _ _ HA0.out.size, HA0.out⟩
  | true =>
    have hfa := freqs_at hF
    have hn : n = 256 := by have := HV.out.1; omega
    subst hn
    rw [hF] at HQ
    have HT := hid (impl_trees ao cap fs (w.alloc (.cells #[.slice none 0 0, .slice none 0 0] 31)) HV.out hfa.2)
    have HE : Hid (∀ E : List TE, E.map TE.pl = (0, 256, [256]) :: initP fs 256 → E.length = np fs + 1) := hid (fun E h => by
      have := congrArg List.length h
      rw [List.length_map, List.length_cons] at this
      exact this)
    have HFA := hid hfa.2
    have hnp : np fs ≤ 256 := initP_len fs 256
    have HNP := hid hnp
    have HBB := hid (show bB fs = decide (1 ≤ np fs ∧ np fs ≤ 255) from by unfold bB; rw [hF]; rfl)
    clear hfa hnp hF
    by_cases hb : 1 ≤ np fs ∧ np fs ≤ 255
    · have HB := hid (show bB fs = true from by rw [HBB.out]; exact decide_eq_true hb)
      have HC := hid (show bC fs = cntsTo (bestL (lensP fs)) 16 from by unfold bC; rw [if_pos HB.out])
      have HS := hid (show bS fs = symsTo (bestL (lensP fs)) 16 from by unfold bS; rw [if_pos HB.out])
      have hbb := HB.out
      rw [hbb, HC.out, HS.out]
      clear hbb HBB HNP HN2 HC HS
      have HLE : Hid (∀ E : List TE, E.map TE.pl = (0, 256, [256]) :: initP fs 256 → (E.map TE.pl).Perm (initP fs 256 ++ [(0, 256, [256])])) := hid (fun E h => by rw [h]; exact List.perm_append_comm (l₁ := [_]))
      have HRN := hid (show runP 257 (initP fs 256 ++ [(0, 256, [256])]) z257 = lensP fs from rfl)
      have HW := hid (WFP.start fs HFA.out)
      have HAP := hid (start_apart fs)
      have HLL : Hid (1 ≤ (initP fs 256 ++ [(0, 256, [256])] : List PT).length ∧ (initP fs 256 ++ [(0, 256, [256])] : List PT).length ≤ 257) := hid (by rw [List.length_append]; exact ⟨Nat.le_add_left _ _, by have : (initP fs 256).length ≤ 256 := initP_len fs 256; simp; omega⟩)
      generalize lensP fs = R at *
      obtain ⟨CL, hCL⟩ : ∃ CL, CL = cntsTo (bestL R) 16 := ⟨_, rfl⟩
      obtain ⟨SL, hSL⟩ : ∃ SL, SL = symsTo (bestL R) 16 := ⟨_, rfl⟩
      rw [← hCL, ← hSL]
      have HCL := hid (show cntsTo (bestL R) 16 = CL ∧ symsTo (bestL R) 16 = SL from ⟨hCL.symm, hSL.symm⟩)
      clear hCL hSL
      obtain ⟨N, hN⟩ : ∃ N, N = np fs := ⟨_, rfl⟩
      rw [← hN] at HE hb
      have hn1 : (1 : Int) ≤ (N : Int) := by omega
      have hn2 : (N : Int) ≤ 255 := by omega
      have hz1 : ((N : Int) + 1 == 1) = false := by simp; omega
      have hz2 : decide ((255 : Int) < (N : Int)) = false := by simp; omega
      have hz3 : ¬ (255 : Int) < (N : Int) := by omega
      clear hb HFA hN
      go_enter Tryz.func87, Tryz.ntmps87
      go_wp2_with (first | (go_at_call 102; refine HQ.out.mono ?_; rintro e w1 ⟨rfl, rfl⟩) | (go_at_call 103; refine HT.out.mono ?_; rintro e w2 ⟨v2, E, rfl, hT2, hp2, hb2⟩; have hE := HE.out E hp2; obtain ⟨G, c2, cur, rfl, hG, hr, hcl, hc2⟩ := hT2.row (fun e => by rw [e] at hE; simp at hE); have HB2 := hid (show Below (w.heap.size + 1) (w.alloc (.cells #[.slice none 0 0, .slice none 0 0] 31)) w2 from hb2.mono (by simp)); have HBA := hid (best_any G c2 cur E _ R w2 hcl hr hc2 hT2.2.2 (HLE.out E hp2) HAP.out HW.out HLL.out.1 HLL.out.2 HRN.out); rw [hE] at HBA ⊢; have HG := hid hG; clear hT2 hp2 hb2 hE hG hr hcl hc2) | fail)
      refine HBA.out.mono ?_
      rintro e w3 ⟨rfl, hRl, he3⟩
      have HB3 : Hid (Below (w.heap.size + 1) (w.alloc (.cells #[.slice none 0 0, .slice none 0 0] 31)) w3) := hid (HB2.out.trans ⟨he3.os, he3.tape, he3.output, he3.size, fun k hk => he3.block k (by have := HB2.out.size; simp at this; omega) (fun e => by have := Option.some.inj e; have := HG.out; simp at this; omega)⟩)
      have HRl := hid hRl
      have HZ := hid (blk_new w3 (ivs z257) 138)
      clear he3 hRl
      go_wp2_with (first | (with_reducible refine at_alloc 138 ?_; refine wpList_newZ _ rfl 138 rfl (ivs z257) zero64 ?_) | (with_reducible refine at_store 138 ?_; refine wpList_storeR _ rfl 138 _ _ rfl w3.heap.size (ivs z257) (ivs R) HZ.out (by go_simp) rfl (by rw [ivs_len, ivs_len, z257_len, HRl.out]) (size64L HRl.out) (ivs_one _) ?_) | fail)
      intro w4 hb4 he4
      have HB4 : Hid (Below (w.heap.size + 1) (w.alloc (.cells #[.slice none 0 0, .slice none 0 0] 31)) w4) := hid (HB3.out.trans (((Below.refl (w.heap.size + 1) w3).alloc (by have := HB3.out.size; simp at this; omega) (.cells (ivs z257).toArray 138)).trans ⟨he4.os, he4.tape, he4.output, he4.size, fun k hk => he4.block k (by have := HB3.out.size; simp at this ⊢; omega) (fun e => by have := Option.some.inj e; have := HB3.out.size; simp at this; omega)⟩))
      have HD4 := hid hb4
      have HM := hid (max_any (some ⟨w3.heap.size, 0, none⟩) 255 257 (R.take 256) w4 (by decide) (blk_view hb4 (by rw [HRl.out]; decide)))
      have HME := hid (show maxTo (R.take 256) 255 = maxTo R 255 from maxTo_take R 256 255 (by decide))
      rw [HME.out] at HM
      have HLT3 := hid (show w.heap.size + 1 ≤ w3.heap.size from by have := HB3.out.size; simp at this; omega)
      clear hb4 he4 HZ HME HBA HE HT HQ
      have hd := show bestL R = if 16 < maxTo R 255 then evenTo R 256 else R from rfl
      have HDD := hid hd
      clear hd
      generalize maxTo R 255 = M at *
      have HTAIL : Hid (∀ wx, Below (w.heap.size + 1) (w.alloc (.cells #[.slice none 0 0, .slice none 0 0] 31)) wx → Blk wx w3.heap.size (ivs (bestL R)) 138 → Calls Tryz.prog 106 #[.slice (some ⟨w3.heap.size, 0, none⟩) 256 257] wx fun e w' => ∃ a0 c0 a1 c1, e = .returned (.agg #[.slice a0 CL.length c0, .slice a1 SL.length c1]) ∧ Hid (COwn w' (w.heap.size + 1) (.agg #[.slice a0 CL.length c0, .slice a1 SL.length c1]) CL SL ∧ Below (w.heap.size + 1) (w.alloc (.cells #[.slice none 0 0, .slice none 0 0] 31)) w')) := hid (fun wx hb hl => by
        refine (impl_codes (some ⟨w3.heap.size, 0, none⟩) 257 ((bestL R).take 256) wx (blk_view hl (by rw [bestL_len, HRl.out]; decide))).mono ?_
        rintro e w' ⟨v, rfl, ho, hb'⟩
        rw [cntsTo_take, symsTo_take, HCL.out.1, HCL.out.2] at ho
        have hsz : w.heap.size + 1 ≤ wx.heap.size := by have := hb.size; simp at this; omega
        obtain ⟨va, vb, m, rfl, hm, h0, h1, hap⟩ := ho
        obtain ⟨a0, c0, rfl⟩ := h0.shape
        obtain ⟨a1, c1, rfl⟩ := h1.shape
        exact ⟨a0, c0, a1, c1, rfl, hid ⟨⟨_, _, m, rfl, by omega, h0.mono hsz, h1, hap⟩, hb.trans (hb'.mono hsz)⟩⟩)
      have HFIN : Hid (∀ a0 c0 a1 c1 w', COwn w' (w.heap.size + 1) (.agg #[.slice a0 CL.length c0, .slice a1 SL.length c1]) CL SL → Below (w.heap.size + 1) (w.alloc (.cells #[.slice none 0 0, .slice none 0 0] 31)) w' → (COwn ((w'.setCell ⟨w.heap.size, 0, none⟩ (.slice a0 CL.length c0)).setCell ⟨w.heap.size, 1, none⟩ (.slice a1 SL.length c1)) w.heap.size (.agg #[.slice a0 CL.length c0, .slice a1 SL.length c1]) CL SL ∧ Below w.heap.size w ((w'.setCell ⟨w.heap.size, 0, none⟩ (.slice a0 CL.length c0)).setCell ⟨w.heap.size, 1, none⟩ (.slice a1 SL.length c1)))) := hid (fun a0 c0 a1 c1 w' ho hb => by
        refine ⟨?_, ((HA0.out.trans (hb.mono (by omega))).setCell (p := ⟨w.heap.size, 0, none⟩) (Nat.le_refl _) _).setCell (p := ⟨w.heap.size, 1, none⟩) (Nat.le_refl _) _⟩
        obtain ⟨va, vb, m, hv, hm, h0, h1, hap⟩ := ho
        cases hv
        exact ⟨_, _, m, rfl, by omega, ((h0.setCell_below (a := ⟨w.heap.size, 0, none⟩) (by show w.heap.size < w.heap.size + 1; omega) _).setCell_below (a := ⟨w.heap.size, 1, none⟩) (by show w.heap.size < w.heap.size + 1; omega) _).mono (by omega), (h1.setCell_below (a := ⟨w.heap.size, 0, none⟩) (by show w.heap.size < m; omega) _).setCell_below (a := ⟨w.heap.size, 1, none⟩) (by show w.heap.size < m; omega) _, hap⟩)
      by_cases hM : 16 < M
      · have hM1 : decide ((16 : Int) < M) = true := by simpa using hM
        have HBL := hid (show bestL R = evenTo R 256 from by rw [HDD.out, if_pos hM])
        clear HDD
        go_wp2_with (first | (go_at_call 105; refine HM.out.mono ?_; rintro e w5 ⟨rfl, rfl⟩) | fail)
        go_loopw [33] (fun i wr => ∃ k : Nat, k ≤ 256 ∧ i = .int .i64 k ∧ Hid (Blk wr w3.heap.size (ivs (evenTo R k)) 138) ∧ Hid (Ef w3.heap.size w5 wr)) (fun i _ => 256 - (intOf i).toNat)
        case atStart => exact ⟨0, by decide, rfl, HD4, hid (Ef.refl _ _)⟩
        case round =>
          obtain ⟨k, hk, rfl, hB, hE⟩ := hrel
          by_cases hlt : k < 256
          · have hlt' : (k : Int) < 256 := by omega
            have hcl := hB.out.cell (ivs_get (evenTo R k) k (by rw [evenTo_len, HRl.out]; omega))
            have hfr := hB.out.free k
            rw [evenTo_off R k k (Nat.le_refl _)] at hcl
            have HST := hid (show evenTo R (k + 1) = if 0 < R.getD k 0 then (evenTo R k).set k 8 else evenTo R k from rfl)
            generalize R.getD k 0 = X at *
            by_cases hX : 0 < X
            · have HB2 := hid (show Blk (wr.setCell ⟨w3.heap.size, k, none⟩ (.int .i64 8)) w3.heap.size (ivs (evenTo R (k + 1))) 138 from by rw [HST.out, if_pos hX, ← ivs_set]; exact hB.out.set _ _)
              have HE2 := hid (hE.out.trans (Ef.set wr k (.int .i64 8)))
              have hX1 : decide (0 < X) = true := by simpa using hX
              clear HST hX
              go_wp2_with fail
              go_roundw
              case rel => exact ⟨k + 1, by omega, by go_num, HB2, HE2⟩
              case measure => simp [intOf]; omega
            · have HB2 := hid (show Blk wr w3.heap.size (ivs (evenTo R (k + 1))) 138 from by rw [HST.out, if_neg hX]; exact hB.out)
              have hX1 : decide (0 < X) = false := by simpa using hX
              clear HST hX
              go_wp2_with fail
              go_roundw
              case rel => exact ⟨k + 1, by omega, by go_num, HB2, hE⟩
              case measure => simp [intOf]; omega
          · obtain rfl : k = 256 := by omega
            have HBW : Hid (Below (w.heap.size + 1) (w.alloc (.cells #[.slice none 0 0, .slice none 0 0] 31)) wr) := hid (HB4.out.trans ⟨hE.out.os, hE.out.tape, hE.out.output, hE.out.size, fun g hg => hE.out.block g (by have := HB4.out.size; simp at this; omega) (fun e => by have := Option.some.inj e; have := HLT3.out; omega)⟩)
            have HTT := hid (HTAIL.out wr HBW.out (by rw [HBL.out]; exact hB.out))
            go_wp2_with (first | (go_at_call 106; refine HTT.out.mono ?_; rintro e w6 ⟨a0, c0, a1, c1, rfl, HX6⟩; obtain ⟨q0, q1, q2, q3⟩ := (HN.out _ HX6.out.2).cells) | fail)
            exact bodyPost_ret (v := .tuple #[.agg #[.slice a0 CL.length c0, .slice a1 SL.length c1], .bool true]) (by simp [results, Tryz.results87, go_sem, q0, q1]) rfl ⟨_, rfl, (HFIN.out _ _ _ _ _ HX6.out.1 HX6.out.2).1, (HFIN.out _ _ _ _ _ HX6.out.1 HX6.out.2).2⟩
      · have hM1 : decide ((16 : Int) < M) = false := by simpa using hM
        have HBL := hid (show bestL R = R from by rw [HDD.out, if_neg hM])
        have HTT := hid (HTAIL.out w4 HB4.out (by rw [HBL.out]; exact HD4.out))
        clear HDD hM
        go_wp2_with (first | (go_at_call 105; refine HM.out.mono ?_; rintro e w5 ⟨rfl, rfl⟩) | (go_at_call 106; refine HTT.out.mono ?_; rintro e w6 ⟨a0, c0, a1, c1, rfl, HX6⟩; obtain ⟨q0, q1, q2, q3⟩ := (HN.out _ HX6.out.2).cells) | fail)
        exact bodyPost_ret (v := .tuple #[.agg #[.slice a0 CL.length c0, .slice a1 SL.length c1], .bool true]) (by simp [results, Tryz.results87, go_sem, q0, q1]) rfl ⟨_, rfl, (HFIN.out _ _ _ _ _ HX6.out.1 HX6.out.2).1, (HFIN.out _ _ _ _ _ HX6.out.1 HX6.out.2).2⟩
    · have HB := hid (show bB fs = false from by rw [HBB.out]; exact decide_eq_false hb)
      have hC : bC fs = [] := by unfold bC; rw [HB.out]; rfl
      have hS : bS fs = [] := by unfold bS; rw [HB.out]; rfl
      have hbb := HB.out
      rw [hbb, hC, hS]
      have HH : Hid (np fs = 0 ∨ np fs = 256) := hid (by have := HNP.out; omega)
      clear hbb hC hS HBB HB hb
      generalize np fs = N at *
      rcases HH.out with h0 | h0
      · subst h0
        go_enter Tryz.func87, Tryz.ntmps87
        go_wp2_with (first | (go_at_call 102; refine HQ.out.mono ?_; rintro e w1 ⟨rfl, rfl⟩) | (go_at_call 103; refine HT.out.mono ?_; rintro e w2 ⟨v2, E, rfl, hT2, hp2, hb2⟩; obtain ⟨a2, c2, rfl⟩ := hT2.shape; have hE := HE.out E hp2; rw [hE]; have HB2 := hid (show Below (w.heap.size + 1) (w.alloc (.cells #[.slice none 0 0, .slice none 0 0] 31)) w2 from hb2.mono (by simp)); obtain ⟨q0, q1, q2, q3⟩ := (HN.out _ HB2.out).cells; clear hT2 hp2 hb2 hE) | fail)
        refine bodyPost_ret (v := .tuple #[.agg #[.slice none 0 0, .slice none 0 0], .bool false]) (by simp [results, Tryz.results87, go_sem, q0, q1]) rfl ⟨_, rfl, (HN2.out _ HB2.out).1, (HN2.out _ HB2.out).2⟩
      · subst h0
        go_enter Tryz.func87, Tryz.ntmps87
        go_wp2_with (first | (go_at_call 102; refine HQ.out.mono ?_; rintro e w1 ⟨rfl, rfl⟩) | (go_at_call 103; refine HT.out.mono ?_; rintro e w2 ⟨v2, E, rfl, hT2, hp2, hb2⟩; obtain ⟨a2, c2, rfl⟩ := hT2.shape; have hE := HE.out E hp2; rw [hE]; have HB2 := hid (show Below (w.heap.size + 1) (w.alloc (.cells #[.slice none 0 0, .slice none 0 0] 31)) w2 from hb2.mono (by simp)); obtain ⟨q0, q1, q2, q3⟩ := (HN.out _ HB2.out).cells; clear hT2 hp2 hb2 hE) | fail)
        refine bodyPost_ret (v := .tuple #[.agg #[.slice none 0 0, .slice none 0 0], .bool false]) (by simp [results, Tryz.results87, go_sem, q0, q1]) rfl ⟨_, rfl, (HN2.out _ HB2.out).1, (HN2.out _ HB2.out).2⟩
end Go.Proofs.YtnnakmgngkpghaaGreat

/- Plain: which symbols have a length. -/
namespace Go.Proofs.YtnnakmgngkpghaaGreat
open Go.RowKit
set_option linter.unusedVariables false

theorem bump_off (l syms : List Int) (j : Nat) (hs : ∀ s ∈ syms, 0 ≤ s ∧ s ≠ (j : Int)) : ∀ k, k ≤ syms.length → (bumpTo l syms k).getD j 0 = l.getD j 0
  | 0, _ => rfl
  | k + 1, hk => by
    have h1 := hs (syms.getD k 0) (by simp [List.getD, show k < syms.length by omega])
    rw [bumpTo, getD_set_off _ _ _ _ (by omega)]
    exact bump_off l syms j hs k (by omega)
theorem bump_on (l syms : List Int) (j : Nat) (hj : j < l.length) : ∀ k, k ≤ syms.length → (∃ i, i < k ∧ syms.getD i 0 = (j : Int)) → l.getD j 0 < (bumpTo l syms k).getD j 0
  | 0, _, ⟨i, hi, _⟩ => by omega
  | k + 1, hk, ⟨i, hi, e⟩ => by
    have hb := (bumpTo_bd l syms j k).1
    rw [bumpTo]
    by_cases h : syms.getD k 0 = (j : Int)
    · have e1 : (syms.getD k 0).toNat = j := by omega
      rw [e1]
      have : ((bumpTo l syms k).set j ((bumpTo l syms k).getD j 0 + 1)).getD j 0 = (bumpTo l syms k).getD j 0 + 1 := by
        simp [List.getD, bumpTo_len, hj]
      rw [this]
      omega
    · have hi2 : i < k := by
        by_cases e2 : i = k
        · subst e2; exact absurd e h
        · omega
      have ih := bump_on l syms j hj k (by omega) ⟨i, hi2, e⟩
      by_cases e3 : (syms.getD k 0).toNat = j
      · rw [e3]
        have : ((bumpTo l syms k).set j ((bumpTo l syms k).getD j 0 + 1)).getD j 0 = (bumpTo l syms k).getD j 0 + 1 := by
          simp [List.getD, bumpTo_len, hj]
        rw [this]
        omega
      · rw [getD_set_off _ _ _ _ e3]
        exact ih
theorem run_mono (j : Nat) : ∀ (f : Nat) (S : List PT) (l : List Int), l.getD j 0 ≤ (runP f S l).getD j 0
  | 0, _, _ => Int.le_refl _
  | f + 1, S, l => by
    rw [runP]
    split
    · exact Int.le_trans (bumpTo_bd l _ j _).1 (run_mono j f _ _)
    · exact Int.le_refl _
theorem step_mem {S : List PT} (h : 1 < S.length) {x : PT} (hx : x ∈ (stepP S).1) : x ∈ S := List.mem_of_mem_eraseIdx (List.mem_of_mem_eraseIdx hx)
theorem step_two {S : List PT} (h : 1 < S.length) : nthT S (leastP S) ∈ S ∧ nthT (S.eraseIdx (leastP S)) (leastP (S.eraseIdx (leastP S))) ∈ S ∧ (stepP S).2.2.2 = (nthT S (leastP S)).2.2 ++ (nthT (S.eraseIdx (leastP S)) (leastP (S.eraseIdx (leastP S)))).2.2 ∧
    (∀ x ∈ S, x = nthT S (leastP S) ∨ x = nthT (S.eraseIdx (leastP S)) (leastP (S.eraseIdx (leastP S))) ∨ x ∈ (stepP S).1) ∧ ((stepP S).1 ++ [(stepP S).2]).length = S.length - 1 := by
  have hb1 := (least_best (S := S) (by omega)).1
  have l1 : (S.eraseIdx (leastP S)).length = S.length - 1 := by rw [List.length_eraseIdx, if_pos hb1]
  have hb2 := (least_best (S := S.eraseIdx (leastP S)) (by omega)).1
  refine ⟨nth_mem hb1, List.mem_of_mem_eraseIdx (nth_mem hb2), rfl, fun x hx => ?_, ?_⟩
  · have p1 := (erase_perm hb1).mem_iff.1 hx
    rcases List.mem_cons.1 p1 with h1 | h1
    · exact .inl h1
    · have p2 := (erase_perm hb2).mem_iff.1 h1
      rcases List.mem_cons.1 p2 with h2 | h2
      · exact .inr (.inl h2)
      · exact .inr (.inr h2)
  · rw [List.length_append, List.length_singleton]
    have : (stepP S).1.length = S.length - 2 := by
      show ((S.eraseIdx (leastP S)).eraseIdx _).length = _
      rw [List.length_eraseIdx, if_pos hb2, l1]
      omega
    omega
theorem run_off (j : Nat) : ∀ (f : Nat) (S : List PT) (l : List Int), (∀ x ∈ S, ∀ s ∈ x.2.2, 0 ≤ s ∧ s ≠ (j : Int)) → (runP f S l).getD j 0 = l.getD j 0
  | 0, _, _, _ => rfl
  | f + 1, S, l, h => by
    rw [runP]
    split
    · rename_i h1
      obtain ⟨m1, m2, e, _, _⟩ := step_two h1
      have hs : ∀ s ∈ (stepP S).2.2.2, 0 ≤ s ∧ s ≠ (j : Int) := fun s hs => by
        rw [e] at hs
        rcases List.mem_append.1 hs with h2 | h2
        · exact h _ m1 s h2
        · exact h _ m2 s h2
      rw [run_off j f _ _ (fun x hx s hs2 => ?_), bump_off l _ j hs _ (Nat.le_refl _)]
      rcases List.mem_append.1 hx with h2 | h2
      · exact h x (step_mem h1 h2) s hs2
      · rw [List.mem_singleton.1 h2] at hs2
        exact hs s hs2
    · rfl
theorem run_on (j : Nat) : ∀ (f : Nat) (S : List PT) (l : List Int), S.length ≤ f → 1 < S.length → j < l.length → ∀ x ∈ S, (j : Int) ∈ x.2.2 → l.getD j 0 < (runP f S l).getD j 0
  | 0, S, _, hf, h1, _, _, _, _ => by omega
  | f + 1, S, l, hf, h1, hj, x, hx, hm => by
    rw [runP, if_pos h1]
    obtain ⟨m1, m2, e, hc, hl⟩ := step_two h1
    have hin : (j : Int) ∈ (stepP S).2.2.2 → l.getD j 0 < (runP f ((stepP S).1 ++ [(stepP S).2]) (bumpTo l (stepP S).2.2.2 (stepP S).2.2.2.length)).getD j 0 := fun hm => by
      obtain ⟨i, hi, e⟩ := List.getElem_of_mem hm
      exact Int.lt_of_lt_of_le (bump_on l _ j hj _ (Nat.le_refl _) ⟨i, hi, by simp [List.getD, hi, e]⟩) (run_mono j f _ _)
    rcases hc x hx with h2 | h2 | h2
    · exact hin (by rw [e, ← h2]; exact List.mem_append_left _ hm)
    · exact hin (by rw [e, ← h2]; exact List.mem_append_right _ hm)
    · have hne : 0 < (stepP S).1.length := List.length_pos_of_mem h2
      exact Int.lt_of_le_of_lt (bumpTo_bd l _ j _).1 (run_on j f _ _ (by omega) (by rw [List.length_append, List.length_singleton]; omega) (by rw [bumpTo_len]; exact hj) x (List.mem_append_left _ h2) hm)
theorem initP_mem (fs : List Int) (s : Nat) (h : 0 < fs.getD s 0) : ∀ k, s < k → (fs.getD s 0, (s : Int), [(s : Int)]) ∈ initP fs k
  | 0, hk => by omega
  | k + 1, hk => by
    rw [initP]
    by_cases e : s = k
    · subst e
      rw [if_pos h]
      exact List.mem_append_right _ (List.mem_singleton.2 rfl)
    · have := initP_mem fs s h k (by omega)
      split
      · exact List.mem_append_left _ this
      · exact this
theorem initP_inv (fs : List Int) : ∀ k, ∀ x ∈ initP fs k, ∃ s, s < k ∧ 0 < fs.getD s 0 ∧ x = (fs.getD s 0, (s : Int), [(s : Int)])
  | 0, x, hx => by cases hx
  | k + 1, x, hx => by
    rw [initP] at hx
    split at hx
    · rename_i h
      rcases List.mem_append.1 hx with h1 | h1
      · obtain ⟨s, h2, h3⟩ := initP_inv fs k x h1
        exact ⟨s, by omega, h3⟩
      · exact ⟨k, by omega, h, List.mem_singleton.1 h1⟩
    · obtain ⟨s, h2, h3⟩ := initP_inv fs k x hx
      exact ⟨s, by omega, h3⟩
theorem z257_at (j : Nat) : z257.getD j 0 = 0 := by
  simp only [z257, List.getD, List.getElem?_replicate]
  split <;> rfl
/-- The symbols that stand somewhere have a length, and no others. -/
theorem lens_pos (fs : List Int) (s : Nat) (hs : s < 256) : 0 < (lensP fs).getD s 0 ↔ 0 < fs.getD s 0 := by
  constructor
  · intro h
    by_cases hf : 0 < fs.getD s 0
    · exact hf
    · have := run_off s 257 (initP fs 256 ++ [(0, 256, [256])]) z257 (fun x hx y hy => by
        rcases List.mem_append.1 hx with h1 | h1
        · obtain ⟨t, h2, h3, rfl⟩ := initP_inv fs 256 x h1
          simp at hy
          subst hy
          refine ⟨by omega, fun e => ?_⟩
          have : t = s := by omega
          subst this
          exact hf h3
        · rw [List.mem_singleton.1 h1] at hy
          simp at hy
          subst hy
          exact ⟨by decide, by omega⟩)
      have e : (lensP fs).getD s 0 = z257.getD s 0 := this
      rw [e, z257_at] at h
      omega
  · intro h
    have hm := initP_mem fs s h 256 hs
    have hl := initP_len fs 256
    have hp := List.length_pos_of_mem hm
    have := run_on s 257 (initP fs 256 ++ [(0, 256, [256])]) z257 (by rw [List.length_append]; simp; omega) (by rw [List.length_append]; simp; omega) (by rw [z257_len]; omega) _ (List.mem_append_left _ hm) (List.mem_singleton.2 rfl)
    rw [z257_at] at this
    exact this
/-- How many of the first k have a length. -/
def posTo (R : List Int) : Nat → Nat
  | 0 => 0
  | k + 1 => if 0 < R.getD k 0 then posTo R k + 1 else posTo R k
theorem posTo_le (R : List Int) : ∀ k, posTo R k ≤ k
  | 0 => Nat.le_refl _
  | k + 1 => by
    have := posTo_le R k
    rw [posTo]
    split <;> omega
theorem posTo_np (fs : List Int) : ∀ k, k ≤ 256 → posTo (lensP fs) k = (initP fs k).length
  | 0, _ => rfl
  | k + 1, h => by
    have h1 := lens_pos fs k (by omega)
    have h2 := posTo_np fs k (by omega)
    rw [posTo, initP]
    by_cases hf : 0 < fs.getD k 0
    · rw [if_pos (h1.2 hf), if_pos hf, h2, List.length_append]
      rfl
    · rw [if_neg (fun e => hf (h1.1 e)), if_neg hf, h2]
/-- Is one of the first k lengths too great? -/
def deepTo (R : List Int) : Nat → Bool
  | 0 => false
  | k + 1 => if 16 < R.getD k 0 then true else deepTo R k
theorem deepTo_max (R : List Int) : ∀ k, deepTo R (k + 1) = decide (16 < maxTo R k)
  | 0 => by
    show (if 16 < R.getD 0 0 then true else false) = decide (16 < R.getD 0 0)
    split
    · rename_i h; exact (decide_eq_true h).symm
    · rename_i h; exact (decide_eq_false h).symm
  | k + 1 => by
    rw [deepTo, deepTo_max R k, maxTo]
    by_cases h : 16 < R.getD (k + 1) 0
    · rw [if_pos h]
      exact (decide_eq_true (by omega)).symm
    · rw [if_neg h]
      by_cases h2 : 16 < maxTo R k
      · rw [decide_eq_true h2]
        exact (decide_eq_true (by omega)).symm
      · rw [decide_eq_false h2]
        exact (decide_eq_false (by omega)).symm
end Go.Proofs.YtnnakmgngkpghaaGreat
