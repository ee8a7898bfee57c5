/- Contracts of markIntS and heldIntS, and of NumBits of the program and of the specification. -/
import Derived.Test.YtedabeemmhfmlaaInts
namespace Go.Proofs.Ytedabeemmhfmlaa
open Go.RowKit
set_option linter.unusedVariables false

/-- The marks 1, 2, ... -/
def marks (n : Nat) : List Int := (List.range n).map fun (i : Nat) => (i : Int) + 1
theorem marks_length (n : Nat) : (marks n).length = n := by simp [marks]
theorem marks_get (n j : Nat) (h : j < n) : (marks n).getD j 0 = (j : Int) + 1 := by simp [marks, List.getD, h]

set_option maxHeartbeats 800000 in
/-- The marks are written into the slice, and nowhere else. -/
theorem mark_any (base : Nat) (v : Value) (ys : List Int) (w : World) (hn : ys.length ≤ 1000000000) (ho : Own w base 3 .i64 v ys) :
    Calls Try.prog 29 #[v, .int .i64 1] w fun e w' => e = .returned (.int .i64 ((ys.length : Int) + 1)) ∧ Own w' base 3 .i64 v (marks ys.length) ∧ Below base w w' := by
  rcases ho.2.2 with ⟨rfl, h0⟩ | ⟨g, cap, cur, rfl, _⟩
  · have e : ys = [] := List.length_eq_zero_iff.1 h0
    subst e
    have HO := hid ho
    clear ho
    go_enter Try.func29, Try.ntmps29
    go_wp2
    go_loop [1, 5] (fun m i => m = .int .i64 1 ∧ i = .int .i64 0) (fun _ _ => 0)
    case atStart => exact ⟨rfl, rfl⟩
    case round =>
      obtain ⟨rfl, rfl⟩ := hrel
      go_wp2
      go_ret
      exact ⟨rfl, HO.out, Below.refl _ _⟩
  · have HO := hid ho
    have hge := ho.ge.1
    generalize hN : ys.length = n at *
    have HN := hid hN
    clear ho hN
    go_enter Try.func29, Try.ntmps29
    go_wp2
    go_loopw [1, 5] (fun m i wr => ∃ (k : Nat) (zs : List Int), k ≤ n ∧ i = .int .i64 k ∧ m = .int .i64 ((k : Int) + 1) ∧ Own wr base 3 .i64 (.slice (some ⟨g, 0, none⟩) n cap) zs ∧ Hid (zs.length = n ∧ ∀ j, j < k → zs.getD j 0 = (j : Int) + 1) ∧ Below base w wr) (fun _ i _ => n - (intOf i).toNat)
    case atStart => exact ⟨0, ys, by omega, rfl, rfl, HO.out, ⟨HN.out, fun j hj => by omega⟩, Below.refl _ _⟩
    case round =>
      obtain ⟨k, zs, hk, rfl, rfl, hown, hzs, hb⟩ := hrel
      by_cases hlt : k < n
      · have hold := hown.at k (by have := hzs.out.1; omega)
        have hfree := hown.free k
        have HNEW := hid (hown.store k ((k : Int) + 1))
        generalize zs.getD k 0 = Y at *
        go_wp2
        go_roundw
        case rel =>
          refine ⟨k + 1, _, by omega, by go_num, by go_num, HNEW.out, ⟨by simp; exact hzs.out.1, fun j hj => ?_⟩, hb.setCell (p := ⟨g, k, none⟩) hge _⟩
          by_cases e : j = k
          · subst e
            simp [List.getD, hzs.out.1, hlt]
          · rw [← hzs.out.2 j (by omega)]
            simp [List.getD, show k ≠ j from fun h => e h.symm]
        case measure => simp [intOf]; omega
      · obtain rfl : k = n := by omega
        have hxy : zs = marks k := list_eq_of_getD (by rw [hzs.out.1, marks_length]) (fun i hi => by rw [hzs.out.2 i (by rw [← hzs.out.1]; exact hi), marks_get k i (by rw [← hzs.out.1]; exact hi)])
        subst hxy
        go_wp2
        go_ret
        exact ⟨rfl, hown, hb⟩

set_option maxHeartbeats 800000 in
theorem held_any (ao : Option Addr) (n cap : Nat) (w : World) (hn : n ≤ 1000000000) (hv : View .i64 w ao n (marks n)) :
    Calls Try.prog 30 #[.slice ao n cap, .int .i64 1] w fun e w' => e = .returned (.int .i64 ((n : Int) + 1)) ∧ w = w' := by
  have HV := hid hv
  clear hv
  go_enter Try.func30, Try.ntmps30
  go_wp2
  go_loop [1, 5] (fun m i => ∃ k : Nat, k ≤ n ∧ i = .int .i64 k ∧ m = .int .i64 ((k : Int) + 1)) (fun _ i => n - (intOf i).toNat)
  case atStart => exact ⟨0, by omega, rfl, rfl⟩
  case round =>
    obtain ⟨k, hk, rfl, rfl⟩ := hrel
    by_cases hlt : k < n
    · obtain ⟨b, off, rfl, hc⟩ := HV.out.2 k hlt
      rw [marks_get n k hlt] at hc
      go_wp2
      go_round
      case rel => exact ⟨k + 1, by omega, by go_num, by go_num⟩
      case measure => simp [intOf]; omega
    · obtain rfl : k = n := by omega
      go_wp2
      go_ret
      exact ⟨rfl, rfl⟩

theorem pow2_mono (t : Nat) : ∀ d, (2 : Int) ^ t ≤ 2 ^ (t + d)
  | 0 => Int.le_refl _
  | d + 1 => by
    have h := pow2_mono t d
    have e : (2 : Int) ^ (t + (d + 1)) = 2 * 2 ^ (t + d) := by rw [← Nat.add_assoc, Int.pow_succ]; omega
    have p : (0 : Int) < 2 ^ t := Int.pow_pos (by decide)
    omega

set_option maxHeartbeats 800000 in
theorem pow2_any (k : Nat) (w : World) (hk : k ≤ 32) : Calls Try.prog 68 #[.int .i64 k] w fun e w' => e = .returned (.int .i64 (2 ^ k)) ∧ w = w' := by
  go_enter Try.func68, Try.ntmps68
  go_wp2
  go_loop [3, 4] (fun n i => ∃ j : Nat, j ≤ k ∧ i = .int .i64 j ∧ n = .int .i64 (2 ^ j)) (fun _ i => k - (intOf i).toNat)
  case atStart => exact ⟨0, by omega, rfl, rfl⟩
  case round =>
    obtain ⟨j, hj, rfl, rfl⟩ := hrel
    by_cases hlt : j < k
    · have hst : Hid ((2 : Int) ^ (j + 1) = 2 * 2 ^ j) := by show _ = _; rw [Int.pow_succ]; omega
      have p0 : (0 : Int) < 2 ^ j := Int.pow_pos (by decide)
      have p1 : (2 : Int) ^ j ≤ 4294967296 := by
        have h := pow2_mono j (32 - j)
        rw [show j + (32 - j) = 32 by omega] at h
        exact h
      generalize (2 : Int) ^ j = P at *
      go_wp2
      go_round
      case rel => exact ⟨j + 1, by omega, by go_num, val_int hst.out.symm⟩
      case measure => simp [intOf]; omega
    · obtain rfl : j = k := by omega
      generalize hP : (2 : Int) ^ j = P at *
      have HP := hid hP
      clear hP
      go_wp2
      go_ret
      exact ⟨ret_int HP.out.symm, rfl⟩
end Go.Proofs.Ytedabeemmhfmlaa
