/- Contracts of Spent, of the program and of the specification. -/
import Derived.Test.YtmdmolofiblbmaaFq
import Derived.Test.YtmdmolofiblbmaaCodeImpl
import Derived.Test.YtmdmolofiblbmaaCodeSpec
namespace Go.Proofs.Ytmdmolofiblbmaa
open Go.RowKit Go.Maps
set_option linter.unusedVariables false

/-- How long the code of symbol j is. -/
def lenOf (cs ss : List Int) (j : Nat) : Nat := (bookTo ss (keysTo cs 16) j).1
/-- One of the first k symbols is there and has no code. -/
def lacks (cs ss fs : List Int) : Nat → Bool
  | 0 => false
  | k + 1 => lacks cs ss fs k || (decide (0 < fs.getD k 0) && decide (lenOf cs ss k = 0))
def sumTo (cs ss fs : List Int) : Nat → Int
  | 0 => 0
  | k + 1 => sumTo cs ss fs k + fs.getD k 0 * lenOf cs ss k
/-- What Spent answers. -/
def spentR (cs ss fs : List Int) : Int := if rightC cs ss = true ∧ freqs fs = true then (if lacks cs ss fs 256 = true then -1 else sumTo cs ss fs 256) else -1
theorem lacks_le (cs ss fs : List Int) (k : Nat) (h : (decide (0 < fs.getD k 0) && decide (lenOf cs ss k = 0)) = true) : ∀ n, k < n → lacks cs ss fs n = true
  | n + 1, hn => by
    rw [lacks]
    by_cases e : k = n
    · subst e; rw [h, Bool.or_true]
    · rw [lacks_le cs ss fs k h n (by omega), Bool.true_or]
theorem lenOf_le (cs ss : List Int) (h : rightC cs ss = true) (j : Nat) : lenOf cs ss j ≤ 16 := by
  rcases book_key cs ss h j with e | e
  · unfold lenOf; rw [e]; omega
  · exact e.1.2
theorem mul_le (x : Int) (n : Nat) (h0 : 0 ≤ x) (h1 : x ≤ 100000) (hn : n ≤ 16) : 0 ≤ x * n ∧ x * n ≤ 1600000 := by
  refine ⟨Int.mul_nonneg h0 (by omega), ?_⟩
  have := Int.mul_le_mul h1 (show (n : Int) ≤ 16 by omega) (by omega) (by omega)
  omega
theorem sumTo_bd (cs ss fs : List Int) (h : rightC cs ss = true) (hf : ∀ k, k < 256 → 0 ≤ fs.getD k 0 ∧ fs.getD k 0 ≤ 100000) : ∀ k, k ≤ 256 → 0 ≤ sumTo cs ss fs k ∧ sumTo cs ss fs k ≤ 1600000 * k
  | 0, _ => by simp [sumTo]
  | k + 1, hk => by
    have ih := sumTo_bd cs ss fs h hf k (by omega)
    have hx := hf k (by omega)
    have := mul_le _ _ hx.1 hx.2 (lenOf_le cs ss h k)
    rw [sumTo]
    omega
theorem codeR_len (cs ss : List Int) (h : rightC cs ss = true) (k : Nat) (hk : k < 256) : (codeR cs ss (k : Int)).length = lenOf cs ss k := by
  have hin : inB (k : Int) = true := (inB_iff _).2 ⟨by omega, by omega⟩
  unfold codeR codeL
  rw [if_pos h, if_pos hin, show ((k : Int)).toNat = k by omega, bitsK, bl_length]
  rfl
theorem freqs_iff (fs : List Int) (h : freqs fs = true) : fs.length = 256 ∧ ∀ k, k < 256 → 0 ≤ fs.getD k 0 ∧ fs.getD k 0 ≤ 100000 := by
  unfold freqs at h
  rw [Bool.and_eq_true, decide_eq_true_eq] at h
  have hl : fs.length = 256 := by omega
  rw [hl] at h
  exact ⟨hl, freqTo_at fs 256 h.1⟩

set_option maxRecDepth 100000 in
set_option maxHeartbeats 3200000 in
theorem impl_spent (v : Value) (cs ss fs : List Int) (ao : Option Addr) (cap : Nat) (w : World) (h0 : cs.length ≤ 1048576) (h1 : ss.length ≤ 1048576) (h2 : fs.length ≤ 1048576) (hv : CV w v cs ss) (hx : View .i64 w ao fs.length fs) :
    Calls Try.prog 18 #[v, .slice ao fs.length cap] w fun e w' => e = .returned (.int .i64 (spentR cs ss fs)) ∧ Below w.heap.size w w' := by
  obtain ⟨a0, c0, a1, c1, rfl, u0, u1⟩ := hv
  have HB := hid ((Below.refl w.heap.size w).alloc (Nat.le_refl _) (.cells #[.slice a0 cs.length c0, .slice a1 ss.length c1] 26))
  have HT := hid (Two.new w (.slice a0 cs.length c0) (.slice a1 ss.length c1) 26)
  have HCV := hid (show CV w (.agg #[.slice a0 cs.length c0, .slice a1 ss.length c1]) cs ss from ⟨a0, c0, a1, c1, rfl, u0, u1⟩)
  have HI := hid (impl_ok _ cs ss _ h0 h1 (HCV.out.below HB.out))
  have HX := hid hx
  clear u0 u1 hx
  by_cases hr : rightC cs ss = true
  · rw [hr] at HI
    go_enter Try.func18, Try.ntmps18
    go_wp2_with fail
    refine HI.out.mono ?_
    generalize w.alloc (.cells #[.slice a0 cs.length c0, .slice a1 ss.length c1] 26) = wa at *
    rintro e w1 ⟨rfl, hb1⟩
    have B1 := hid (HB.out.trans (hb1.mono HB.out.size))
    have T1 := hid (HT.out.below hb1 HT.out.lt)
    clear hb1 HI
    obtain ⟨q1, q2, q3, q4⟩ := T1.out.cells
    have HFR := hid (impl_freqs ao fs.length cap fs w1 h2 (HX.out.below (Nat.le_refl _) B1.out))
    by_cases hf : freqs fs = true
    · rw [hf] at HFR
      obtain ⟨hl, hall⟩ := freqs_iff fs hf
      have HR := hid (show spentR cs ss fs = if lacks cs ss fs 256 = true then -1 else sumTo cs ss fs 256 by unfold spentR; rw [if_pos ⟨hr, hf⟩])
      have HBD := hid (sumTo_bd cs ss fs hr hall)
      have HLE := hid (lenOf_le cs ss hr)
      have HALL := hid hall
      have HLK := hid (lacks_le cs ss fs)
      have HBOOK := hid (book_any (.agg #[.slice a0 cs.length c0, .slice a1 ss.length c1]) cs ss w1 hr (HCV.out.below B1.out))
      have HL := hid hl
      rw [hl] at HFR HX ⊢
      clear hr hf hall h2 hl
      go_wp2_with (go_at_call 39; refine HFR.out.mono ?_; rintro e w2 ⟨rfl, rfl⟩)
      refine HBOOK.out.mono ?_
      rintro e w2 ⟨C, M, rfl, hbk, hb2⟩
      have B2 := hid (B1.out.trans (hb2.mono B1.out.size))
      have HBK := hid hbk
      clear hbk hb2 HBOOK q1 q2 q3 q4 HFR
      go_wp2_with fail
      go_loop [6, 21] (fun s i => ∃ k : Nat, k ≤ 256 ∧ i = .int .i64 k ∧ s = .int .i64 (sumTo cs ss fs k) ∧ Hid (lacks cs ss fs k = false)) (fun _ i => 256 - (intOf i).toNat)
      case atStart => exact ⟨0, by omega, rfl, rfl, rfl⟩
      case round =>
        obtain ⟨k, hk, rfl, rfl, hno⟩ := hrel
        have hbd := HBD.out k hk
        by_cases hlt : k < 256
        · obtain ⟨b, off, rfl, hc⟩ := HX.out.2 k hlt
          have hcr : w2.cell? ⟨b, off + k, none⟩ = some (.int .i64 (fs.getD k 0)) := (B2.out.cell (p := ⟨b, off + k, none⟩) (World.block_lt_of_cell? w _ hc)).trans hc
          obtain ⟨q5, q6⟩ := HBK.out.key k hlt
          have hfx := HALL.out k hlt
          have hle := HLE.out k
          have hmul := mul_le _ _ hfx.1 hfx.2 hle
          have HST := hid (show sumTo cs ss fs (k + 1) = sumTo cs ss fs k + fs.getD k 0 * lenOf cs ss k from rfl)
          have HLS := hid (show lacks cs ss fs (k + 1) = (lacks cs ss fs k || (decide (0 < fs.getD k 0) && decide (lenOf cs ss k = 0))) from rfl)
          have HLB := hid (fun h => HLK.out k h 256 hlt)
          have HHAS := hid (has_any C M ss (keysTo cs 16) (k : Int) w2 HBK.out)
          rw [show inB (k : Int) = true from (inB_iff _).2 ⟨by omega, by omega⟩, Bool.true_and, show ((k : Int)).toNat = k by omega] at HHAS
          have hlt' : (k : Int) < 256 := by omega
          change w2.cell? _ = some (.int .i64 ((lenOf cs ss k : Nat) : Int)) at q5
          change Hid (Calls _ _ _ _ fun e w' => e = .returned (.bool (decide (0 < ((lenOf cs ss k : Nat) : Int)))) ∧ w' = w2) at HHAS
          generalize lenOf cs ss k = Lk at *
          generalize fs.getD k 0 = X at *
          generalize sumTo cs ss fs k = S at *
          obtain ⟨f0, f1⟩ := hfx
          obtain ⟨m0, m1⟩ := hmul
          obtain ⟨s0, s1⟩ := hbd
          clear hc
          by_cases hX : 0 < X
          · by_cases hLk : Lk = 0
            · have HN := hid (HLB.out (by rw [decide_eq_true hX, decide_eq_true hLk]; rfl))
              rw [show decide (0 < (Lk : Int)) = false by simp; omega] at HHAS
              clear HST HLS HLB
              go_wp2_with (go_at_call 36; refine HHAS.out.mono ?_; rintro e w3 ⟨rfl, rfl⟩)
              go_ret
              exact ⟨ret_int (by rw [HR.out, if_pos HN.out]), B2.out⟩
            · have HN := hid (show lacks cs ss fs (k + 1) = false by rw [HLS.out, hno.out, decide_eq_false hLk]; simp)
              rw [show decide (0 < (Lk : Int)) = true by simp; omega] at HHAS
              clear HLS HLB
              go_wp2_with (go_at_call 36; refine HHAS.out.mono ?_; rintro e w3 ⟨rfl, rfl⟩)
              go_round
              case rel => exact ⟨k + 1, by omega, by go_num, val_int HST.out.symm, HN.out⟩
              case measure => simp [intOf]; omega
          · have HN := hid (show lacks cs ss fs (k + 1) = false by rw [HLS.out, hno.out, decide_eq_false hX]; rfl)
            clear HLS HLB HHAS
            go_wp2_with fail
            go_round
            case rel => exact ⟨k + 1, by omega, by go_num, val_int HST.out.symm, HN.out⟩
            case measure => simp [intOf]; omega
        · obtain rfl : k = 256 := by omega
          have HN := hid (show spentR cs ss fs = sumTo cs ss fs 256 by rw [HR.out, if_neg (by rw [hno.out]; exact Bool.noConfusion)])
          generalize sumTo cs ss fs 256 = S at *
          go_wp2_with fail
          go_ret
          exact ⟨ret_int HN.out.symm, B2.out⟩
    · have hf' : freqs fs = false := by simpa using hf
      rw [hf'] at HFR
      have HN := hid (show spentR cs ss fs = -1 by unfold spentR; rw [if_neg (fun h => hf h.2)])
      clear hr hf hf'
      go_wp2_with (go_at_call 39; refine HFR.out.mono ?_; rintro e w2 ⟨rfl, rfl⟩)
      go_ret
      exact ⟨ret_int HN.out.symm, B1.out⟩
  · have hr' : rightC cs ss = false := by simpa using hr
    have HN := hid (show spentR cs ss fs = -1 by unfold spentR; rw [if_neg (fun h => hr h.1)])
    rw [hr'] at HI
    clear hr hr'
    go_enter Try.func18, Try.ntmps18
    go_wp2_with fail
    refine HI.out.mono ?_
    generalize w.alloc (.cells #[.slice a0 cs.length c0, .slice a1 ss.length c1] 26) = wa at *
    rintro e w1 ⟨rfl, hb1⟩
    have B1 := hid (HB.out.trans (hb1.mono HB.out.size))
    clear hb1 HI
    go_wp2_with fail
    go_ret
    exact ⟨ret_int HN.out.symm, B1.out⟩

set_option maxRecDepth 100000 in
set_option maxHeartbeats 3200000 in
theorem spec_spent (v : Value) (cs ss fs : List Int) (ao : Option Addr) (cap : Nat) (w : World) (h0 : cs.length ≤ 1048576) (h1 : ss.length ≤ 1048576) (h2 : fs.length ≤ 1048576) (hv : CV w v cs ss) (hx : View .i64 w ao fs.length fs) :
    Calls Try.prog 20 #[v, .slice ao fs.length cap] w fun e w' => e = .returned (.int .i64 (spentR cs ss fs)) ∧ Below w.heap.size w w' := by
  obtain ⟨a0, c0, a1, c1, rfl, u0, u1⟩ := hv
  have HB := hid ((Below.refl w.heap.size w).alloc (Nat.le_refl _) (.cells #[.slice a0 cs.length c0, .slice a1 ss.length c1] 26))
  have HT := hid (Two.new w (.slice a0 cs.length c0) (.slice a1 ss.length c1) 26)
  have HCV := hid (show CV w (.agg #[.slice a0 cs.length c0, .slice a1 ss.length c1]) cs ss from ⟨a0, c0, a1, c1, rfl, u0, u1⟩)
  have HI := hid (spec_ok _ cs ss _ h0 h1 (HCV.out.below HB.out))
  have HX := hid hx
  clear u0 u1 hx
  by_cases hr : rightC cs ss = true
  · rw [hr] at HI
    go_enter Try.func20, Try.ntmps20
    go_wp2_with fail
    refine HI.out.mono ?_
    generalize w.alloc (.cells #[.slice a0 cs.length c0, .slice a1 ss.length c1] 26) = wa at *
    rintro e w1 ⟨rfl, hb1⟩
    have B1 := hid (HB.out.trans (hb1.mono HB.out.size))
    have T1 := hid (HT.out.below hb1 HT.out.lt)
    clear hb1 HI
    obtain ⟨q1, q2, q3, q4⟩ := T1.out.cells
    have HFR := hid ((spec_freqs ao fs.length cap fs w1 h2 (HX.out.below (Nat.le_refl _) B1.out)).mono fun e w' ⟨a, b⟩ => (show e = Ending.returned (.bool (freqs fs)) ∧ w1 = w' from ⟨a, b.symm⟩))
    by_cases hf : freqs fs = true
    · rw [hf] at HFR
      obtain ⟨hl, hall⟩ := freqs_iff fs hf
      have HR := hid (show spentR cs ss fs = if lacks cs ss fs 256 = true then -1 else sumTo cs ss fs 256 by unfold spentR; rw [if_pos ⟨hr, hf⟩])
      have HBD := hid (sumTo_bd cs ss fs hr hall)
      have HLE := hid (lenOf_le cs ss hr)
      have HALL := hid hall
      have HLK := hid (lacks_le cs ss fs)
      have HCODE := hid (fun (k : Nat) q (hq : Below w.heap.size w q) => spec_codeOf (.agg #[.slice a0 cs.length c0, .slice a1 ss.length c1]) cs ss (k : Int) q h0 h1 (HCV.out.below hq))
      have HCL := hid (codeR_len cs ss hr)
      rw [hl] at HFR HX ⊢
      clear hr hf hall h2 hl
      go_wp2_with (go_at_call 44; refine HFR.out.mono ?_; rintro e w2 ⟨rfl, rfl⟩)
      clear q1 q2 q3 q4 HFR
      go_loopw [5, 6] (fun s i wr => ∃ k : Nat, k ≤ 256 ∧ i = .int .i64 k ∧ s = .int .i64 (sumTo cs ss fs k) ∧ Hid (lacks cs ss fs k = false) ∧ Hid (Below w1.heap.size w1 wr)) (fun _ i _ => 256 - (intOf i).toNat)
      case atStart => exact ⟨0, by omega, rfl, rfl, rfl, Below.refl _ _⟩
      case round =>
        obtain ⟨k, hk, rfl, rfl, hno, hbr⟩ := hrel
        have BR := hid (B1.out.trans (hbr.out.mono B1.out.size))
        have hbd := HBD.out k hk
        by_cases hlt : k < 256
        · obtain ⟨b, off, rfl, hc⟩ := HX.out.2 k hlt
          have hfx := HALL.out k hlt
          have hle := HLE.out k
          have hmul := mul_le _ _ hfx.1 hfx.2 hle
          have HST := hid (show sumTo cs ss fs (k + 1) = sumTo cs ss fs k + fs.getD k 0 * lenOf cs ss k from rfl)
          have HLS := hid (show lacks cs ss fs (k + 1) = (lacks cs ss fs k || (decide (0 < fs.getD k 0) && decide (lenOf cs ss k = 0))) from rfl)
          have HLB := hid (fun h => HLK.out k h 256 hlt)
          have HCK := hid (HCODE.out k wr BR.out)
          have hcl := HCL.out k hlt
          have hlt' : (k : Int) < 256 := by omega
          have TR := hid (T1.out.below hbr.out T1.out.lt)
          obtain ⟨q1, q2, q3, q4⟩ := TR.out.cells
          generalize codeR cs ss (k : Int) = Y at *
          go_wp2_with fail
          refine HCK.out.mono ?_
          rintro e w3 ⟨v3, rfl, ho3, hb3⟩
          obtain ⟨yo, yc, rfl⟩ := ho3.shape
          rw [hcl]
          have B3 := hid (hbr.out.trans (hb3.mono hbr.out.size))
          have C3 := hid (B1.out.trans (B3.out.mono B1.out.size))
          have hcr : w3.cell? ⟨b, off + k, none⟩ = some (.int .i64 (fs.getD k 0)) := (C3.out.cell (p := ⟨b, off + k, none⟩) (World.block_lt_of_cell? w _ hc)).trans hc
          clear ho3 hb3 hcl HCK q1 q2 q3 q4
          generalize lenOf cs ss k = Lk at *
          generalize fs.getD k 0 = X at *
          generalize sumTo cs ss fs k = S at *
          obtain ⟨f0, f1⟩ := hfx
          obtain ⟨m0, m1⟩ := hmul
          obtain ⟨s0, s1⟩ := hbd
          clear hc
          by_cases hX : 0 < X
          · by_cases hLk : Lk = 0
            · have HN := hid (HLB.out (by rw [decide_eq_true hX, decide_eq_true hLk]; rfl))
              have hz : ((Lk : Int) == 0) = true := by rw [hLk]; rfl
              clear HST HLS HLB hLk
              go_wp2_with fail
              go_ret
              exact ⟨ret_int (by rw [HR.out, if_pos HN.out]), C3.out⟩
            · have HN := hid (show lacks cs ss fs (k + 1) = false by rw [HLS.out, hno.out, decide_eq_false hLk]; simp)
              have hz : ((Lk : Int) == 0) = false := by rw [beq_eq_false_iff_ne]; omega
              clear HLS HLB hLk
              go_wp2_with fail
              go_roundw
              case rel => exact ⟨k + 1, by omega, by go_num, val_int HST.out.symm, HN.out, B3.out⟩
              case measure => simp [intOf]; omega
          · have HN := hid (show lacks cs ss fs (k + 1) = false by rw [HLS.out, hno.out, decide_eq_false hX]; rfl)
            clear HLS HLB
            go_wp2_with fail
            go_roundw
            case rel => exact ⟨k + 1, by omega, by go_num, val_int HST.out.symm, HN.out, B3.out⟩
            case measure => simp [intOf]; omega
        · obtain rfl : k = 256 := by omega
          have HN := hid (show spentR cs ss fs = sumTo cs ss fs 256 by rw [HR.out, if_neg (by rw [hno.out]; exact Bool.noConfusion)])
          generalize sumTo cs ss fs 256 = S at *
          go_wp2_with fail
          go_ret
          exact ⟨ret_int HN.out.symm, BR.out⟩
    · have hf' : freqs fs = false := by simpa using hf
      rw [hf'] at HFR
      have HN := hid (show spentR cs ss fs = -1 by unfold spentR; rw [if_neg (fun h => hf h.2)])
      clear hr hf hf'
      go_wp2_with (go_at_call 44; refine HFR.out.mono ?_; rintro e w2 ⟨rfl, rfl⟩)
      go_ret
      exact ⟨ret_int HN.out.symm, B1.out⟩
  · have hr' : rightC cs ss = false := by simpa using hr
    have HN := hid (show spentR cs ss fs = -1 by unfold spentR; rw [if_neg (fun h => hr h.1)])
    rw [hr'] at HI
    clear hr hr'
    go_enter Try.func20, Try.ntmps20
    go_wp2_with fail
    refine HI.out.mono ?_
    generalize w.alloc (.cells #[.slice a0 cs.length c0, .slice a1 ss.length c1] 26) = wa at *
    rintro e w1 ⟨rfl, hb1⟩
    have B1 := hid (HB.out.trans (hb1.mono HB.out.size))
    clear hb1 HI
    go_wp2_with fail
    go_ret
    exact ⟨ret_int HN.out.symm, B1.out⟩
end Go.Proofs.Ytmdmolofiblbmaa
