/- Contracts of the marks and of the power; plain facts. -/
import Derived.Test.YtnnakmgngkpghaaBitsN
import Derived.Test.YtnnakmgngkpghaaNext
namespace Go.Proofs.Ytnnakmgngkpghaa
open Go.RowKit
set_option linter.unusedVariables false

theorem Own.lower {k : IntKind} {w : World} {base base' : Nat} {e : TypeId} {v : Value} {xs : List Int} (h : Own w base e k v xs) (hb : base' ≤ base) : Own w base' e k v xs := by
  refine ⟨Nat.le_trans hb h.1, h.2.1, ?_⟩
  rcases h.2.2 with h0 | ⟨g, cap, cur, hv, hg, r⟩
  · exact .inl h0
  · exact .inr ⟨g, cap, cur, hv, Nat.le_trans hb hg, r⟩

/-- The bits of a text. -/
def rbS (s : ByteArray) (j : Nat) : Int := bt s (j / 8) / 2 ^ (7 - j % 8) % 2

theorem rbS_bit (s : ByteArray) (j : Nat) : Bit (rbS s j) := by unfold rbS Bit; omega

theorem rbS_at (s : ByteArray) (j t : Nat) (h : t < 8) : rbS s (8 * j + t) = bt s j / 2 ^ (7 - t) % 2 := by
  unfold rbS
  rw [show (8 * j + t) / 8 = j by omega, show (8 * j + t) % 8 = t by omega]

theorem rbS_byte (s : ByteArray) (j : Nat) : num (rbS s) (8 * j) 8 = bt s j := by
  have h0 := bt_nonneg s j
  have h1 := bt_lt s j
  simp only [num]
  rw [rbS_at s j 0 (by decide), rbS_at s j 1 (by decide), rbS_at s j 2 (by decide), rbS_at s j 3 (by decide), rbS_at s j 4 (by decide), rbS_at s j 5 (by decide), rbS_at s j 6 (by decide), rbS_at s j 7 (by decide)]
  generalize bt s j = X at *
  rw [show (2 : Int) ^ (7 - 0) = 128 by decide, show (2 : Int) ^ (7 - 1) = 64 by decide, show (2 : Int) ^ (7 - 2) = 32 by decide, show (2 : Int) ^ (7 - 3) = 16 by decide, show (2 : Int) ^ (7 - 4) = 8 by decide, show (2 : Int) ^ (7 - 5) = 4 by decide, show (2 : Int) ^ (7 - 6) = 2 by decide, show (2 : Int) ^ (7 - 7) = 1 by decide]
  omega

theorem start_text (s : ByteArray) : RSt (rbS s) (8 * s.size) 0 0 0 s :=
  ⟨by omega, by decide, by decide, by decide, by simp [num], fun j hj => by rw [show 0 + 0 + 8 * j = 8 * j by omega, rbS_byte]⟩

theorem bl_step (s : ByteArray) (k t : Nat) (h : t < 8) (hk : k < s.size) : bl (rbS s) (8 * k + (t + 1)) = bl (rbS s) (8 * k + t) ++ [(s[k].toNat : Int) / 2 ^ (7 - t) % 2] := by
  rw [← Nat.add_assoc, bl, rbS_at s k t h, bt_eq s k hk]

/-- What stands at the inner loop's head behind t rounds. -/
def half (t : Nat) : Int := if t < 8 then 2 ^ (7 - t) else 0

/-- The marks 1, 2, ... -/
def marks (n : Nat) : List Int := (List.range n).map fun (i : Nat) => (i : Int) + 1

theorem marks_length (n : Nat) : (marks n).length = n := by simp [marks]

theorem marks_get (n j : Nat) (h : j < n) : (marks n).getD j 0 = (j : Int) + 1 := by simp [marks, List.getD, h]

set_option maxHeartbeats 800000 in
/-- The marks are written into the slice, and nowhere else. -/
theorem mark_any (base : Nat) (v : Value) (ys : List Int) (w : World) (hn : ys.length ≤ 1000000000) (ho : Own w base 3 .i64 v ys) :
    Calls Try.prog 11 #[v, .int .i64 1] w fun e w' => e = .returned (.int .i64 ((ys.length : Int) + 1)) ∧ Own w' base 3 .i64 v (marks ys.length) ∧ Below base w w' := by
  rcases ho.2.2 with ⟨rfl, h0⟩ | ⟨g, cap, cur, rfl, _⟩
  · have e : ys = [] := List.length_eq_zero_iff.1 h0
    subst e
    have HO := hid ho
    clear ho
    go_enter Try.func11, Try.ntmps11
    go_wp2
    go_loop [1, 5] (fun m i => m = .int .i64 1 ∧ i = .int .i64 0) (fun _ _ => 0)
    case atStart => exact ⟨rfl, rfl⟩
    case round =>
      obtain ⟨rfl, rfl⟩ := hrel
      go_wp2
      go_ret
      exact ⟨rfl, HO.out, Below.refl _ _⟩
  · have HO := hid ho
    have hge := ho.ge.1
    generalize hN : ys.length = n at *
    have HN := hid hN
    clear ho hN
    go_enter Try.func11, Try.ntmps11
    go_wp2
    go_loopw [1, 5] (fun m i wr => ∃ (k : Nat) (zs : List Int), k ≤ n ∧ i = .int .i64 k ∧ m = .int .i64 ((k : Int) + 1) ∧ Own wr base 3 .i64 (.slice (some ⟨g, 0, none⟩) n cap) zs ∧ Hid (zs.length = n ∧ ∀ j, j < k → zs.getD j 0 = (j : Int) + 1) ∧ Below base w wr) (fun _ i _ => n - (intOf i).toNat)
    case atStart => exact ⟨0, ys, by omega, rfl, rfl, HO.out, ⟨HN.out, fun j hj => by omega⟩, Below.refl _ _⟩
    case round =>
      obtain ⟨k, zs, hk, rfl, rfl, hown, hzs, hb⟩ := hrel
      by_cases hlt : k < n
      · have hold := hown.at k (by have := hzs.out.1; omega)
        have hfree := hown.free k
        have HNEW := hid (hown.store k ((k : Int) + 1))
        generalize zs.getD k 0 = Y at *
        go_wp2
        go_roundw
        case rel =>
          refine ⟨k + 1, _, by omega, by go_num, by go_num, HNEW.out, ⟨by simp; exact hzs.out.1, fun j hj => ?_⟩, hb.setCell (p := ⟨g, k, none⟩) hge _⟩
          by_cases e : j = k
          · subst e
            simp [List.getD, hzs.out.1, hlt]
          · rw [← hzs.out.2 j (by omega)]
            simp [List.getD, show k ≠ j from fun h => e h.symm]
        case measure => simp [intOf]; omega
      · obtain rfl : k = n := by omega
        have hxy : zs = marks k := list_eq_of_getD (by rw [hzs.out.1, marks_length]) (fun i hi => by rw [hzs.out.2 i (by rw [← hzs.out.1]; exact hi), marks_get k i (by rw [← hzs.out.1]; exact hi)])
        subst hxy
        go_wp2
        go_ret
        exact ⟨rfl, hown, hb⟩

set_option maxHeartbeats 800000 in
theorem held_any (ao : Option Addr) (n cap : Nat) (w : World) (hn : n ≤ 1000000000) (hv : View .i64 w ao n (marks n)) :
    Calls Try.prog 12 #[.slice ao n cap, .int .i64 1] w fun e w' => e = .returned (.int .i64 ((n : Int) + 1)) ∧ w = w' := by
  have HV := hid hv
  clear hv
  go_enter Try.func12, Try.ntmps12
  go_wp2
  go_loop [1, 5] (fun m i => ∃ k : Nat, k ≤ n ∧ i = .int .i64 k ∧ m = .int .i64 ((k : Int) + 1)) (fun _ i => n - (intOf i).toNat)
  case atStart => exact ⟨0, by omega, rfl, rfl⟩
  case round =>
    obtain ⟨k, hk, rfl, rfl⟩ := hrel
    by_cases hlt : k < n
    · obtain ⟨b, off, rfl, hc⟩ := HV.out.2 k hlt
      rw [marks_get n k hlt] at hc
      go_wp2
      go_round
      case rel => exact ⟨k + 1, by omega, by go_num, by go_num⟩
      case measure => simp [intOf]; omega
    · obtain rfl : k = n := by omega
      go_wp2
      go_ret
      exact ⟨rfl, rfl⟩

set_option maxHeartbeats 800000 in
theorem pow2_any (k : Nat) (w : World) (hk : k ≤ 32) : Calls Try.prog 55 #[.int .i64 k] w fun e w' => e = .returned (.int .i64 (2 ^ k)) ∧ w = w' := by
  go_enter Try.func55, Try.ntmps55
  go_wp2
  go_loop [3, 4] (fun n i => ∃ j : Nat, j ≤ k ∧ i = .int .i64 j ∧ n = .int .i64 (2 ^ j)) (fun _ i => k - (intOf i).toNat)
  case atStart => exact ⟨0, by omega, rfl, rfl⟩
  case round =>
    obtain ⟨j, hj, rfl, rfl⟩ := hrel
    by_cases hlt : j < k
    · have hst : Hid ((2 : Int) ^ (j + 1) = 2 * 2 ^ j) := by show _ = _; rw [Int.pow_succ]; omega
      have p0 : (0 : Int) < 2 ^ j := Int.pow_pos (by decide)
      have p1 : (2 : Int) ^ j ≤ 4294967296 := by
        have h := pow2_mono j (32 - j)
        rw [show j + (32 - j) = 32 by omega] at h
        exact h
      generalize (2 : Int) ^ j = P at *
      go_wp2
      go_round
      case rel => exact ⟨j + 1, by omega, by go_num, val_int hst.out.symm⟩
      case measure => simp [intOf]; omega
    · obtain rfl : j = k := by omega
      generalize hP : (2 : Int) ^ j = P at *
      have HP := hid hP
      clear hP
      go_wp2
      go_ret
      exact ⟨ret_int HP.out.symm, rfl⟩

end Go.Proofs.Ytnnakmgngkpghaa
