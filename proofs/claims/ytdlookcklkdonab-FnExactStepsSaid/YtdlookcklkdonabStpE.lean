/- Contracts of the comparison and of the marks of steps. -/
import Derived.Test.YtdlookcklkdonabStp
import Derived.Deep.WholeRow
import Derived.Deep.CutRange
namespace Go.Proofs.Ytdlookcklkdonab
open Go.RowKit
set_option linter.unusedVariables false

/-- The rests of the steps of a block are short. -/
theorem stepTo_short (xs : List Int) : ∀ k, ∀ s ∈ (stepTo xs k).1, s.2.2.length ≤ 11
  | 0, s, hs => by simp [stepTo] at hs
  | k + 1, s, hs => by
    by_cases h : xs.getD k 0 = 0
    · rw [stepTo_zero xs k h] at hs
      exact stepTo_short xs k s hs
    · rw [stepTo_num xs k h] at hs
      simp only [List.mem_append, List.mem_singleton] at hs
      rcases hs with (hs | hs) | hs
      · exact stepTo_short xs k s hs
      · rw [(List.mem_replicate.1 hs).2]; simp [skip]
      · rw [hs]; exact restL_len _
theorem stepsR_short (d : Int) (xs : List Int) : ∀ s ∈ stepsR d xs, s.2.2.length ≤ 11 := by
  intro s hs
  unfold stepsR stepsOf at hs
  split at hs
  · split at hs
    · simp only [List.mem_append, List.mem_singleton] at hs
      rcases hs with hs | hs
      · exact stepTo_short xs 63 s hs
      · rw [hs]; simp
    · exact stepTo_short xs 63 s hs
  · simp at hs
theorem stepsR_len (d : Int) (xs : List Int) : (stepsR d xs).length ≤ 64 := by
  have := stepTo_len xs 63
  unfold stepsR stepsOf
  split
  · split
    · simp only [List.length_append, List.length_singleton]; omega
    · omega
  · simp
theorem nthS_mem (S : List (Int × Int × List Int)) (j : Nat) (h : j < S.length) : nthS S j ∈ S := by
  simp only [nthS, List.getD]
  rw [List.getElem?_eq_getElem h]
  exact List.getElem_mem h
theorem nthS_set_self (S : List (Int × Int × List Int)) (k : Nat) (x : Int × Int × List Int) (h : k < S.length) : nthS (S.set k x) k = x := by
  simp [nthS, List.getD, h]
theorem nthS_set_ne (S : List (Int × Int × List Int)) (k j : Nat) (x : Int × Int × List Int) (h : j ≠ k) : nthS (S.set k x) j = nthS S j := by
  simp only [nthS, List.getD]
  rw [List.getElem?_set_ne (fun e => h e.symm)]

set_option maxHeartbeats 800000 in
theorem eqStep_same (d e : Int) (a0 b0 : Option Addr) (c0 d0 : Nat) (xs : List Int) (w : World) (h0 : xs.length ≤ 1048576) (hv : View .i64 w a0 xs.length xs) (hv' : View .i64 w b0 xs.length xs) :
    Calls Try.prog 51 #[.agg #[.int .i64 d, .int .i64 e, .slice a0 xs.length c0], .agg #[.int .i64 d, .int .i64 e, .slice b0 xs.length d0]] w fun e w' => e = .returned (.bool true) ∧ Below w.heap.size w w' := by
  have B0 := hid (((Below.refl w.heap.size w).alloc (Nat.le_refl _) (.cells #[.int .i64 d, .int .i64 e, .slice a0 xs.length c0] 67)).alloc (by simp) (.cells #[.int .i64 d, .int .i64 e, .slice b0 xs.length d0] 67))
  have U0 := hid hv
  have X0 := hid hv'
  clear hv hv'
  have hdd : (d != d) = false := by simp
  have hee : (e != e) = false := by simp
  go_enter Try.func51, Try.ntmps51
  go_wp2_with fail
  refine (eqInts_same a0 b0 xs.length c0 d0 xs _ (by omega) (U0.out.below (Nat.le_refl _) B0.out) (X0.out.below (Nat.le_refl _) B0.out)).mono ?_
  generalize (w.alloc _).alloc _ = wa at *
  rintro e w1 ⟨rfl, hb1⟩
  have BB1 := hid (B0.out.trans (hb1.mono B0.out.size))
  clear hb1
  go_wp2
  go_ret
  exact ⟨rfl, BB1.out⟩

set_option maxRecDepth 100000 in
set_option maxHeartbeats 1600000 in
/-- Two rows of steps that read as the same. -/
theorem eqStepS_same (ao bo : Option Addr) (cap cap' : Nat) (S : List (Int × Int × List Int)) (w : World) (hn : S.length ≤ 1048576) (hs : ∀ s ∈ S, s.2.2.length ≤ 11) (ha : SRow w ao S) (hb : SRow w bo S) :
    Calls Try.prog 23 #[.slice ao S.length cap, .slice bo S.length cap'] w fun e w' => e = .returned (.bool true) ∧ Below w.heap.size w w' := by
  have HA := hid ha
  have HB := hid hb
  have HS := hid (fun k (hk : k < S.length) => hs _ (nthS_mem S k hk))
  clear ha hb hs
  have hnn : ((S.length : Int) != (S.length : Int)) = false := by simp
  go_enter Try.func23, Try.ntmps23
  go_wp2_with fail
  go_loopw [5] (fun i wr => ∃ k : Nat, k ≤ S.length ∧ i = .int .i64 k ∧ Hid (Below w.heap.size w wr)) (fun i _ => S.length - (intOf i).toNat)
  case atStart => exact ⟨0, by omega, rfl, Below.refl _ _⟩
  case round =>
    obtain ⟨k, hk, rfl, hbr⟩ := hrel
    by_cases hlt : k < S.length
    · obtain ⟨b, off, a, c, rfl, hc1, hc2, hc3, hvw⟩ := HA.out.below hbr.out k hlt
      obtain ⟨b', off', a', c', rfl, hc1', hc2', hc3', hvw'⟩ := HB.out.below hbr.out k hlt
      have hlt' : (k : Int) < (S.length : Int) := by omega
      have h11 := HS.out k hlt
      have HEQ := hid (fun q (hq : Below wr.heap.size wr q) => eqStep_same (nthS S k).1 (nthS S k).2.1 a a' c c' (nthS S k).2.2 q (by omega) (hvw.below (Nat.le_refl _) hq) (hvw'.below (Nat.le_refl _) hq))
      generalize (nthS S k).1 = D at *
      generalize (nthS S k).2.1 = E at *
      generalize (nthS S k).2.2 = XS at *
      clear hvw hvw'
      go_wp2_with fail
      go_cut [26] from 17 to 26 (fun s wx => s = .bool false ∧ Below wr.heap.size wr wx)
      case first =>
        go_region_with (go_at_call 51; refine (HEQ.out _ ?_).mono ?_; · first | exact Below.refl _ _ | exact (Below.refl _ _).drew | exact (Below.refl _ _).drew.drew
                        rintro e w2 ⟨rfl, hb2⟩
                        have hc2 : Below wr.heap.size wr w2 := by first | exact hb2 | exact Below.trans (Below.refl _ _).drew hb2 | exact Below.trans (Below.refl _ _).drew.drew hb2)
        all_goals
          go_wp2_with fail
          go_meet
          first | exact ⟨rfl, hc2⟩ | exact ⟨rfl, hc2.drew⟩
      case rest =>
        obtain ⟨rfl, hb9⟩ := hcut
        have B9 := hid (hbr.out.trans (hb9.mono hbr.out.size))
        clear hb9
        go_wp2_with fail
        go_roundw
        case rel => exact ⟨k + 1, by omega, by go_num, B9.out⟩
        case measure => simp [intOf]; omega
    · obtain rfl : k = S.length := by omega
      go_wp2_with fail
      go_ret
      exact ⟨rfl, hbr.out⟩
end Go.Proofs.Ytdlookcklkdonab
