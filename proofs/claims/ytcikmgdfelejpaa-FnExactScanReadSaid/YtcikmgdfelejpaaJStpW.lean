/- The contracts of l02At at whole lists and of l03SameSteps of the specification. -/
import Derived.Test.YtcikmgdfelejpaaJStpA
namespace Go.Proofs.Ytcikmgdfelejpaa
open Go.RowKit
set_option linter.unusedVariables false

set_option maxHeartbeats 1600000 in
/-- Lists of one length: whether they are the same. -/
theorem at_same (ao bo : Option Addr) (c c' : Nat) (xs ys : List Int) (w : World) (hl : xs.length = ys.length) (hn : ys.length ≤ 1048576) (ha : View .i64 w ao xs.length xs) (hb : View .i64 w bo ys.length ys) :
    Calls Try.prog 97 #[.slice ao xs.length c, .int .i64 0, .slice bo ys.length c'] w fun e w' => e = .returned (.bool (decide (xs = ys))) ∧ ∃ n, w' = w.drewN n := by
  have HA := hid ha
  have HB := hid hb
  have HL := hid hl
  rw [hl] at HA ⊢
  clear ha hb hl
  have hgt : ¬ ((ys.length : Int) > (ys.length : Int) - 0) := by omega
  go_enter Try.func97, Try.ntmps97
  go_wp2_with fail
  go_loopw [7] (fun i wr => ∃ k : Nat, k ≤ ys.length ∧ i = .int .i64 k ∧ Hid (∀ j, j < k → xs.getD j 0 = ys.getD j 0) ∧ ∃ n, wr = w.drewN n) (fun i _ => ys.length - (intOf i).toNat)
  case atStart => exact ⟨0, by omega, rfl, fun j hj => by omega, 0, rfl⟩
  case round =>
    obtain ⟨k, hk, rfl, heq, m, rfl⟩ := hrel
    by_cases hlt : k < ys.length
    · have hlt' : (k : Int) < (ys.length : Int) := by omega
      obtain ⟨b, off, rfl, hc⟩ := HA.out.2 k hlt
      obtain ⟨b', off', rfl, hc'⟩ := HB.out.2 k hlt
      have HNX := hid (fun (h : xs.getD k 0 = ys.getD k 0) j (hj : j < k + 1) => (show xs.getD j 0 = ys.getD j 0 by
        by_cases e : j = k
        · rw [e]; exact h
        · exact heq.out j (by omega)))
      have HNE := hid (fun (h : xs.getD k 0 ≠ ys.getD k 0) => (show decide (xs = ys) = false by
        simp only [decide_eq_false_iff_not]
        intro e
        exact h (by rw [e])))
      generalize xs.getD k 0 = X at *
      generalize ys.getD k 0 = Y at *
      by_cases he : X = Y
      · have hd : (X != Y) = false := by simp [he]
        have HN2 := hid (HNX.out he)
        clear he
        go_wp2_with fail
        go_quiet (fail)
        go_wp2_with fail
        go_roundw
        case rel => exact ⟨k + 1, by omega, by go_num, HN2.out, _, rfl⟩
        case measure => simp [intOf]; omega
      · have hd : (X != Y) = true := by simp [he]
        have HN2 := hid (HNE.out he)
        clear he
        go_wp2_with fail
        go_quiet (fail)
        go_wp2_with fail
        go_ret
        exact ⟨ret_bool HN2.out.symm, m + nq, by rw [World.drewN_drewN]⟩
    · obtain rfl : k = ys.length := by omega
      have HD := hid (show decide (xs = ys) = true by
        simp only [decide_eq_true_eq]
        exact list_eq_of_getD HL.out (fun i hi => heq.out i (by rw [← HL.out]; exact hi)))
      go_wp2_with fail
      go_ret
      exact ⟨ret_bool HD.out.symm, _, rfl⟩

theorem steps_ext {A B : List (Int × Int × List Int)} (hl : A.length = B.length) (h : ∀ j, j < A.length → nthS A j = nthS B j) : A = B := by
  apply List.ext_getElem hl
  intro i h1 h2
  have := h i h1
  simpa [nthS, List.getD, h1, h2] using this

set_option maxRecDepth 100000 in
set_option maxHeartbeats 3200000 in
theorem same_any (ao bo : Option Addr) (cap cap' : Nat) (A B : List (Int × Int × List Int)) (w : World) (hA : A.length ≤ 1048576) (hB : B.length ≤ 1048576) (hs : ∀ j, j < B.length → (nthS B j).2.2.length ≤ 1048576) (ha : SRow w ao A) (hb : SRow w bo B) :
    Calls Try.prog 100 #[.slice ao A.length cap, .slice bo B.length cap'] w fun e w' => e = .returned (.bool (decide (A = B))) ∧ ∃ n, w' = w.drewN n := by
  have HA := hid ha
  have HB := hid hb
  have HS := hid hs
  clear ha hb hs
  by_cases hlen : A.length = B.length
  · have hnn : ((A.length : Int) != (B.length : Int)) = false := by simp [hlen]
    have HL := hid hlen
    clear hlen
    go_enter Try.func100, Try.ntmps100
    go_wp2_with fail
    go_loopw [5] (fun i wr => ∃ k : Nat, k ≤ A.length ∧ i = .int .i64 k ∧ Hid (∀ j, j < k → nthS A j = nthS B j) ∧ Hid (∃ n, wr = w.drewN n)) (fun i _ => A.length - (intOf i).toNat)
    case atStart => exact ⟨0, by omega, rfl, fun j hj => by omega, ⟨0, rfl⟩⟩
    case round =>
      obtain ⟨k, hk, rfl, heq, hdr⟩ := hrel
      have HAr := hid (show SRow wr ao A by obtain ⟨m, hm⟩ := hdr.out; rw [hm]; exact HA.out)
      have HBr := hid (show SRow wr bo B by obtain ⟨m, hm⟩ := hdr.out; rw [hm]; exact HB.out)
      have HDR := hid (fun q => (show ∃ n, wr.drewN q = w.drewN n by obtain ⟨m, hm⟩ := hdr.out; exact ⟨m + q, by rw [hm, World.drewN_drewN]⟩))
      by_cases hlt : k < A.length
      · have hlt' : (k : Int) < (A.length : Int) := by omega
        have hltB' : (k : Int) < (B.length : Int) := by have := HL.out; omega
        have hltB : k < B.length := by have := HL.out; omega
        obtain ⟨b, off, a, c, rfl, hc1, hc2, hc3, hvw⟩ := HAr.out k hlt
        obtain ⟨b', off', a', c', rfl, hd1, hd2, hd3, hvw'⟩ := HBr.out k hltB
        have hbl := HS.out k hltB
        have HNX := hid (fun (h : nthS A k = nthS B k) j (hj : j < k + 1) => (show nthS A j = nthS B j by
          by_cases e : j = k
          · rw [e]; exact h
          · exact heq.out j (by omega)))
        have HNE := hid (fun (h : nthS A k ≠ nthS B k) => (show decide (A = B) = false by
          simp only [decide_eq_false_iff_not]
          intro e
          exact h (by rw [e])))
        generalize nthS A k = x at *
        generalize nthS B k = y at *
        obtain ⟨r, n, bits⟩ := x
        obtain ⟨r', n', bits'⟩ := y
        simp only at hc1 hc2 hc3 hvw hd1 hd2 hd3 hvw' hbl
        have HVW := hid hvw
        have HVW' := hid hvw'
        clear hvw hvw'
        by_cases e1 : r = r'
        · have t1 : (r != r') = false := by simp [e1]
          by_cases e2 : n = n'
          · have t2 : (n != n') = false := by simp [e2]
            by_cases e3 : bits.length = bits'.length
            · have t3 : ((bits.length : Int) != (bits'.length : Int)) = false := by simp [e3]
              have HAT := hid (fun q => at_same a a' c c' bits bits' (wr.drewN q) e3 hbl HVW.out HVW'.out)
              by_cases e4 : bits = bits'
              · have hdd : decide (bits = bits') = true := by simpa using e4
                rw [hdd] at HAT
                have HN2 := hid (HNX.out (by rw [e1, e2, e4]))
                clear e1 e2 e3 e4 hdd HNX HNE
                go_wp2_with fail
                go_quiet ((go_at_call 97; exact Calls.quiet_of (HAT.out _)))
                go_wp2_with fail
                go_roundw
                case rel => exact ⟨k + 1, by omega, by go_num, HN2.out, HDR.out _⟩
                case measure => simp [intOf]; omega
              · have hdd : decide (bits = bits') = false := by simpa using e4
                rw [hdd] at HAT
                have HN2 := hid (HNE.out (by intro e; cases e; exact e4 rfl))
                clear e1 e2 e3 e4 hdd HNX HNE
                go_wp2_with fail
                go_quiet ((go_at_call 97; exact Calls.quiet_of (HAT.out _)))
                go_wp2_with fail
                go_ret
                exact ⟨ret_bool HN2.out.symm, HDR.out _⟩
            · have t3 : ((bits.length : Int) != (bits'.length : Int)) = true := by simp; omega
              have HN2 := hid (HNE.out (by intro e; cases e; exact e3 rfl))
              clear e1 e2 e3 HNX HNE
              go_wp2_with fail
              go_quiet (fail)
              go_wp2_with fail
              go_ret
              exact ⟨ret_bool HN2.out.symm, HDR.out _⟩
          · have t2 : (n != n') = true := by simp [e2]
            have HN2 := hid (HNE.out (by intro e; cases e; exact e2 rfl))
            clear e1 e2 HNX HNE
            go_wp2_with fail
            go_quiet (fail)
            go_wp2_with fail
            go_ret
            exact ⟨ret_bool HN2.out.symm, HDR.out _⟩
        · have t1 : (r != r') = true := by simp [e1]
          have HN2 := hid (HNE.out (by intro e; cases e; exact e1 rfl))
          clear e1 HNX HNE
          go_wp2_with fail
          go_quiet (fail)
          go_wp2_with fail
          go_ret
          exact ⟨ret_bool HN2.out.symm, HDR.out _⟩
      · obtain rfl : k = A.length := by omega
        have HD := hid (show decide (A = B) = true by
          simp only [decide_eq_true_eq]
          exact steps_ext HL.out heq.out)
        go_wp2_with fail
        go_ret
        exact ⟨ret_bool HD.out.symm, hdr.out⟩
  · have hnn : ((A.length : Int) != (B.length : Int)) = true := by simp; omega
    have HD := hid (show decide (A = B) = false by
      simp only [decide_eq_false_iff_not]
      intro e
      exact hlen (by rw [e]))
    clear hlen
    go_enter Try.func100, Try.ntmps100
    go_wp2_with fail
    go_ret
    exact ⟨ret_bool HD.out.symm, 0, rfl⟩
end Go.Proofs.Ytcikmgdfelejpaa
