/- Rows of steps that are parameters or copies: contracts of their size, their copy and their comparison. -/
import Derived.Test.YtdlookcklkdonabStpE
import Derived.Test.YtdlookcklkdonabRows4
namespace Go.Proofs.Ytdlookcklkdonab
open Go.RowKit
set_option linter.unusedVariables false

set_option maxHeartbeats 800000 in
theorem szStep (d e : Int) (a0 : Option Addr) (n0 c0 : Nat) (l : Int) (w : World) (hn0 : n0 ≤ 9223372036854775807) (h0 : 0 ≤ l) (h1 : l ≤ 1048576) :
    Calls Try.prog 52 #[.agg #[.int .i64 d, .int .i64 e, .slice a0 n0 c0], .int .i64 l] w fun e w' => e = .returned (.int .i64 (lft l n0)) ∧ Below w.heap.size w w' := by
  have HS := hid (szInts a0 n0 c0 l (w.alloc (.cells #[.int .i64 d, .int .i64 e, .slice a0 n0 c0] 70)) hn0 h0 h1)
  by_cases h : l - (n0 : Int) < 0
  · have e0 : lft l n0 = -1 := by unfold lft; rw [if_pos h]
    rw [e0] at HS ⊢
    go_enter Try.func52, Try.ntmps52
    go_wp2_with (go_at_call 48; refine HS.out.mono ?_; rintro e w1 ⟨rfl, rfl⟩)
    go_ret
    exact ⟨rfl, (Below.refl w.heap.size w).alloc (Nat.le_refl _) _⟩
  · have e0 : lft l n0 = l - n0 := by unfold lft; rw [if_neg h]
    rw [e0] at HS ⊢
    go_enter Try.func52, Try.ntmps52
    go_wp2_with (go_at_call 48; refine HS.out.mono ?_; rintro e w1 ⟨rfl, rfl⟩)
    go_ret
    exact ⟨rfl, (Below.refl w.heap.size w).alloc (Nat.le_refl _) _⟩

set_option maxRecDepth 100000 in
set_option maxHeartbeats 1600000 in
theorem szStepS (ao : Option Addr) (cap : Nat) (L : List (Int × Int × List Int)) (w : World) (hn : L.length ≤ 9223372036854775807) (hs : ∀ j, j < L.length → (nthS L j).2.2.length ≤ 9223372036854775807) (hv : SRow w ao L) :
    Calls Try.prog 28 #[.slice ao L.length cap, .int .i64 1048576] w fun e w' => ∃ r : Int, e = .returned (.int .i64 r) ∧ (r < 0 ∨ L.length ≤ 1048576 ∧ ∀ j, j < L.length → (nthS L j).2.2.length ≤ 1048576) ∧ Below w.heap.size w w' := by
  have HV := hid hv
  have HS := hid hs
  clear hv hs
  by_cases hl : (1048576 : Int) - L.length < 0
  · go_enter Try.func28, Try.ntmps28
    go_wp2_with fail
    go_ret
    exact ⟨_, rfl, .inl (by decide), Below.refl _ _⟩
  · have hl2 : L.length ≤ 1048576 := by omega
    go_enter Try.func28, Try.ntmps28
    go_wp2_with fail
    go_loopw [1, 5] (fun l i wr => ∃ (k : Nat) (q : Int), k ≤ L.length ∧ i = .int .i64 k ∧ l = .int .i64 q ∧ (0 ≤ q ∧ q ≤ 1048576) ∧ Hid (∀ j, j < k → (nthS L j).2.2.length ≤ 1048576) ∧ Hid (Below w.heap.size w wr)) (fun _ i _ => L.length - (intOf i).toNat)
    case atStart => exact ⟨0, 1048576 - L.length, by omega, rfl, rfl, by omega, fun j hj => by omega, Below.refl _ _⟩
    case round =>
      obtain ⟨k, q, hk, rfl, rfl, ⟨hq0, hq1⟩, hall, hb⟩ := hrel
      by_cases hlt : k < L.length
      · obtain ⟨b, off, a, c, rfl, hc1, hc2, hc3, hvw⟩ := HV.out.below hb.out k hlt
        have hlt' : (k : Int) < (L.length : Int) := by omega
        have HSZ := hid (szStep (nthS L k).1 (nthS L k).2.1 a (nthS L k).2.2.length c q wr (HS.out k hlt) hq0 hq1)
        have HNX := hid (fun (h : (nthS L k).2.2.length ≤ 1048576) j (hj : j < k + 1) => (show (nthS L j).2.2.length ≤ 1048576 by
          by_cases e : j = k
          · rw [e]; exact h
          · exact hall.out j (by omega)))
        generalize (nthS L k).1 = D at *
        generalize (nthS L k).2.1 = E at *
        generalize (nthS L k).2.2.length = N at *
        by_cases hneg : q - (N : Int) < 0
        · have e0 : lft q N = -1 := by unfold lft; rw [if_pos hneg]
          rw [e0] at HSZ
          go_wp2_with fail
          refine HSZ.out.mono ?_
          rintro e w2 ⟨rfl, hb2⟩
          have B2 := hid (hb.out.trans (hb2.mono hb.out.size))
          go_wp2_with fail
          go_ret
          exact ⟨_, rfl, .inl (by decide), B2.out⟩
        · have e0 : lft q N = q - N := by unfold lft; rw [if_neg hneg]
          rw [e0] at HSZ
          have HNY := hid (HNX.out (by omega))
          go_wp2_with fail
          refine HSZ.out.mono ?_
          rintro e w2 ⟨rfl, hb2⟩
          have B2 := hid (hb.out.trans (hb2.mono hb.out.size))
          go_wp2_with fail
          go_roundw
          case rel => exact ⟨k + 1, q - N, by omega, by go_num, rfl, by omega, HNY.out, B2.out⟩
          case measure => simp [intOf]; omega
      · obtain rfl : k = L.length := by omega
        go_wp2_with fail
        go_ret
        exact ⟨_, rfl, .inr ⟨hl2, hall.out⟩, hb.out⟩

set_option maxRecDepth 100000 in
set_option maxHeartbeats 1600000 in
/-- Two rows of steps that read as the same, of any rests. -/
theorem eqStepS_all (ao bo : Option Addr) (cap cap' : Nat) (S : List (Int × Int × List Int)) (w : World) (hn : S.length ≤ 1048576) (hs : ∀ j, j < S.length → (nthS S j).2.2.length ≤ 1048576) (ha : SRow w ao S) (hb : SRow w bo S) :
    Calls Try.prog 23 #[.slice ao S.length cap, .slice bo S.length cap'] w fun e w' => e = .returned (.bool true) ∧ Below w.heap.size w w' := by
  have HA := hid ha
  have HB := hid hb
  have HS := hid hs
  clear ha hb hs
  have hnn : ((S.length : Int) != (S.length : Int)) = false := by simp
  go_enter Try.func23, Try.ntmps23
  go_wp2_with fail
  go_loopw [5] (fun i wr => ∃ k : Nat, k ≤ S.length ∧ i = .int .i64 k ∧ Hid (Below w.heap.size w wr)) (fun i _ => S.length - (intOf i).toNat)
  case atStart => exact ⟨0, by omega, rfl, Below.refl _ _⟩
  case round =>
    obtain ⟨k, hk, rfl, hbr⟩ := hrel
    by_cases hlt : k < S.length
    · obtain ⟨b, off, a, c, rfl, hc1, hc2, hc3, hvw⟩ := HA.out.below hbr.out k hlt
      obtain ⟨b', off', a', c', rfl, hc1', hc2', hc3', hvw'⟩ := HB.out.below hbr.out k hlt
      have hlt' : (k : Int) < (S.length : Int) := by omega
      have h11 := HS.out k hlt
      have HEQ := hid (fun q (hq : Below wr.heap.size wr q) => eqStep_same (nthS S k).1 (nthS S k).2.1 a a' c c' (nthS S k).2.2 q h11 (hvw.below (Nat.le_refl _) hq) (hvw'.below (Nat.le_refl _) hq))
      generalize (nthS S k).1 = D at *
      generalize (nthS S k).2.1 = E at *
      generalize (nthS S k).2.2 = XS at *
      clear hvw hvw'
      go_wp2_with fail
      go_cut [26] from 17 to 26 (fun s wx => s = .bool false ∧ Below wr.heap.size wr wx)
      case first =>
        go_region_with (go_at_call 51; refine (HEQ.out _ ?_).mono ?_; · first | exact Below.refl _ _ | exact (Below.refl _ _).drew | exact (Below.refl _ _).drew.drew
                        rintro e w2 ⟨rfl, hb2⟩
                        have hc2 : Below wr.heap.size wr w2 := by first | exact hb2 | exact Below.trans (Below.refl _ _).drew hb2 | exact Below.trans (Below.refl _ _).drew.drew hb2)
        all_goals
          go_wp2_with fail
          go_meet
          first | exact ⟨rfl, hc2⟩ | exact ⟨rfl, hc2.drew⟩
      case rest =>
        obtain ⟨rfl, hb9⟩ := hcut
        have B9 := hid (hbr.out.trans (hb9.mono hbr.out.size))
        clear hb9
        go_wp2_with fail
        go_roundw
        case rel => exact ⟨k + 1, by omega, by go_num, B9.out⟩
        case measure => simp [intOf]; omega
    · obtain rfl : k = S.length := by omega
      go_wp2_with fail
      go_ret
      exact ⟨rfl, hbr.out⟩
end Go.Proofs.Ytdlookcklkdonab
