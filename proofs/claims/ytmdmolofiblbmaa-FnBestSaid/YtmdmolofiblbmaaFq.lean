/- The tests of freq (areFreqs, l02Freq), of the program and of the specification. -/
import Derived.Test.YtmdmolofiblbmaaInts
namespace Go.Proofs.Ytmdmolofiblbmaa
open Go.RowKit
set_option linter.unusedVariables false

theorem in_no {x a b : Int} (h : ¬ (a ≤ x ∧ x ≤ b)) : decide (a ≤ x ∧ x ≤ b) = false := by simpa using h
theorem in_yes {x a b : Int} (h : a ≤ x ∧ x ≤ b) : decide (a ≤ x ∧ x ≤ b) = true := by simpa using h
def inF (x : Int) : Bool := decide (0 ≤ x ∧ x ≤ 100000)
theorem inF_iff (x : Int) : inF x = true ↔ 0 ≤ x ∧ x ≤ 100000 := by simp [inF]
theorem inF_no (x : Int) : inF x = false ↔ ¬ (0 ≤ x ∧ x ≤ 100000) := by simp [inF]
def freqTo (fs : List Int) : Nat → Bool
  | 0 => true
  | k + 1 => freqTo fs k && inF (fs.getD k 0)
theorem freqTo_bad (fs : List Int) (k : Nat) (h : inF (fs.getD k 0) = false) : ∀ n, k < n → freqTo fs n = false
  | n + 1, hn => by
    rw [freqTo]
    by_cases e : k = n
    · subst e; rw [h, Bool.and_false]
    · rw [freqTo_bad fs k h n (by omega), Bool.false_and]
theorem freqTo_at (fs : List Int) : ∀ n, freqTo fs n = true → ∀ k, k < n → 0 ≤ fs.getD k 0 ∧ fs.getD k 0 ≤ 100000
  | n + 1, h, k, hk => by
    simp only [freqTo, Bool.and_eq_true] at h
    by_cases e : k = n
    · subst e; exact (inF_iff _).1 h.2
    · exact freqTo_at fs n h.1 k (by omega)
def freqs (fs : List Int) : Bool := freqTo fs fs.length && decide ((fs.length : Int) = 256)

set_option maxHeartbeats 800000 in
theorem impl_freqs (ao : Option Addr) (n cap : Nat) (fs : List Int) (w : World) (hn : n ≤ 1048576) (hv : View .i64 w ao n fs) :
    Calls Try.prog 39 #[.slice ao n cap] w fun e w' => e = .returned (.bool (freqs fs)) ∧ w' = w := by
  have HV := hid hv
  have hl := hv.1
  have HF := hid (show freqs fs = (freqTo fs n && decide ((n : Int) = 256)) by unfold freqs; rw [hl])
  clear hv hl
  generalize freqs fs = R at *
  go_enter Try.func39, Try.ntmps39
  go_wp2
  go_loop [7] (fun i => ∃ k : Nat, k ≤ n ∧ i = .int .i64 k ∧ Hid (freqTo fs k = true)) (fun i => n - (intOf i).toNat)
  case atStart => exact ⟨0, by omega, rfl, rfl⟩
  case round =>
    obtain ⟨k, hk, rfl, hok⟩ := hrel
    by_cases hlt : k < n
    · obtain ⟨b, off, rfl, hc⟩ := HV.out.2 k hlt
      have HBAD := hid (fun h => freqTo_bad fs k h n hlt)
      have HST := hid (show freqTo fs (k + 1) = (freqTo fs k && inF (fs.getD k 0)) from rfl)
      generalize fs.getD k 0 = X at *
      by_cases hX : 0 ≤ X ∧ X ≤ 100000
      · have hnx := hid (show freqTo fs (k + 1) = true by rw [HST.out, hok.out, (inF_iff X).2 hX]; rfl)
        have h1 : decide (X < 0) = false := by simp; omega
        have h2 : decide (100000 < X) = false := by simp; omega
        clear HBAD HST hX
        go_wp2
        go_round
        case rel => exact ⟨k + 1, by omega, by go_num, hnx.out⟩
        case measure => simp [intOf]; omega
      · have hout := hid (show R = false by rw [HF.out, HBAD.out ((inF_no X).2 hX), Bool.false_and])
        clear HBAD HST
        by_cases h0 : X < 0
        · have h1 : decide (X < 0) = true := by simpa using h0
          clear hX
          go_wp2
          go_ret
          exact ⟨ret_bool hout.out.symm, rfl⟩
        · have h1 : decide (X < 0) = false := by simpa using h0
          have h2 : decide (100000 < X) = true := by simp; omega
          clear hX
          go_wp2
          go_ret
          exact ⟨ret_bool hout.out.symm, rfl⟩
    · obtain rfl : k = n := by omega
      have hout := hid (show R = decide ((k : Int) = 256) by rw [HF.out, hok.out, Bool.true_and])
      clear HF
      by_cases h : (k : Int) = 256
      · have hd : ((k : Int) == 256) = true := by simpa using h
        have ho2 := hid (show R = true by rw [hout.out, decide_eq_true h])
        clear h hout
        go_wp2
        go_ret
        exact ⟨ret_bool ho2.out.symm, rfl⟩
      · have hd : ((k : Int) == 256) = false := by simpa using h
        have ho2 := hid (show R = false by rw [hout.out, decide_eq_false h])
        clear h hout
        go_wp2
        go_ret
        exact ⟨ret_bool ho2.out.symm, rfl⟩

set_option maxHeartbeats 800000 in
theorem spec_freqs (ao : Option Addr) (n cap : Nat) (fs : List Int) (w : World) (hn : n ≤ 1048576) (hv : View .i64 w ao n fs) :
    Calls Try.prog 44 #[.slice ao n cap] w fun e w' => e = .returned (.bool (freqs fs)) ∧ w' = w := by
  have HV := hid hv
  have hl := hv.1
  have HF := hid (show freqs fs = (freqTo fs n && decide ((n : Int) = 256)) by unfold freqs; rw [hl])
  clear hv hl
  generalize freqs fs = R at *
  go_enter Try.func44, Try.ntmps44
  go_wp2
  go_loop [3] (fun i => ∃ k : Nat, k ≤ n ∧ i = .int .i64 k ∧ Hid (freqTo fs k = true)) (fun i => n - (intOf i).toNat)
  case atStart => exact ⟨0, by omega, rfl, rfl⟩
  case round =>
    obtain ⟨k, hk, rfl, hok⟩ := hrel
    by_cases hlt : k < n
    · obtain ⟨b, off, rfl, hc⟩ := HV.out.2 k hlt
      have HBAD := hid (fun h => freqTo_bad fs k h n hlt)
      have HST := hid (show freqTo fs (k + 1) = (freqTo fs k && inF (fs.getD k 0)) from rfl)
      generalize fs.getD k 0 = X at *
      by_cases hX : 0 ≤ X ∧ X ≤ 100000
      · have hnx := hid (show freqTo fs (k + 1) = true by rw [HST.out, hok.out, (inF_iff X).2 hX]; rfl)
        have hin := in_yes hX
        clear HBAD HST hX
        go_wp2_with (go_at_call 46; refine (spec_in _ _ _ _).mono ?_; rw [hin]; rintro e w' ⟨rfl, rfl⟩)
        go_round
        case rel => exact ⟨k + 1, by omega, by go_num, hnx.out⟩
        case measure => simp [intOf]; omega
      · have hout := hid (show R = false by rw [HF.out, HBAD.out ((inF_no X).2 hX), Bool.false_and])
        have hin := in_no hX
        clear HBAD HST hX
        go_wp2_with (go_at_call 46; refine (spec_in _ _ _ _).mono ?_; rw [hin]; rintro e w' ⟨rfl, rfl⟩)
        go_ret
        exact ⟨ret_bool hout.out.symm, rfl⟩
    · obtain rfl : k = n := by omega
      have hout := hid (show R = decide ((k : Int) = 256) by rw [HF.out, hok.out, Bool.true_and])
      clear HF
      by_cases h : (k : Int) = 256
      · have hd : ((k : Int) == 256) = true := by simpa using h
        have ho2 := hid (show R = true by rw [hout.out, decide_eq_true h])
        clear h hout
        go_wp2
        go_ret
        exact ⟨ret_bool ho2.out.symm, rfl⟩
      · have hd : ((k : Int) == 256) = false := by simpa using h
        have ho2 := hid (show R = false by rw [hout.out, decide_eq_false h])
        clear h hout
        go_wp2
        go_ret
        exact ⟨ret_bool ho2.out.symm, rfl⟩
end Go.Proofs.Ytmdmolofiblbmaa
