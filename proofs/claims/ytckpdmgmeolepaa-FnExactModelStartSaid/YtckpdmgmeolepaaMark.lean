/- Contracts of the marks and of the power; plain facts. -/
import Derived.Test.YtckpdmgmeolepaaBitsN
import Derived.Test.YtckpdmgmeolepaaNext
namespace Go.Proofs.Ytckpdmgmeolepaa
open Go.RowKit
set_option linter.unusedVariables false

theorem Own.lower {k : IntKind} {w : World} {base base' : Nat} {e : TypeId} {v : Value} {xs : List Int} (h : Own w base e k v xs) (hb : base' ≤ base) : Own w base' e k v xs := by
  refine ⟨Nat.le_trans hb h.1, h.2.1, ?_⟩
  rcases h.2.2 with h0 | ⟨g, cap, cur, hv, hg, r⟩
  · exact .inl h0
  · exact .inr ⟨g, cap, cur, hv, Nat.le_trans hb hg, r⟩

/-- The bits of a text. -/
def rbS (s : ByteArray) (j : Nat) : Int := bt s (j / 8) / 2 ^ (7 - j % 8) % 2

theorem rbS_bit (s : ByteArray) (j : Nat) : Bit (rbS s j) := by unfold rbS Bit; omega

theorem rbS_at (s : ByteArray) (j t : Nat) (h : t < 8) : rbS s (8 * j + t) = bt s j / 2 ^ (7 - t) % 2 := by
  unfold rbS
  rw [show (8 * j + t) / 8 = j by omega, show (8 * j + t) % 8 = t by omega]

theorem rbS_byte (s : ByteArray) (j : Nat) : num (rbS s) (8 * j) 8 = bt s j := by
  have h0 := bt_nonneg s j
  have h1 := bt_lt s j
  simp only [num]
  rw [rbS_at s j 0 (by decide), rbS_at s j 1 (by decide), rbS_at s j 2 (by decide), rbS_at s j 3 (by decide), rbS_at s j 4 (by decide), rbS_at s j 5 (by decide), rbS_at s j 6 (by decide), rbS_at s j 7 (by decide)]
  generalize bt s j = X at *
  rw [show (2 : Int) ^ (7 - 0) = 128 by decide, show (2 : Int) ^ (7 - 1) = 64 by decide, show (2 : Int) ^ (7 - 2) = 32 by decide, show (2 : Int) ^ (7 - 3) = 16 by decide, show (2 : Int) ^ (7 - 4) = 8 by decide, show (2 : Int) ^ (7 - 5) = 4 by decide, show (2 : Int) ^ (7 - 6) = 2 by decide, show (2 : Int) ^ (7 - 7) = 1 by decide]
  omega

theorem start_text (s : ByteArray) : RSt (rbS s) (8 * s.size) 0 0 0 s :=
  ⟨by omega, by decide, by decide, by decide, by simp [num], fun j hj => by rw [show 0 + 0 + 8 * j = 8 * j by omega, rbS_byte]⟩

theorem bl_step (s : ByteArray) (k t : Nat) (h : t < 8) (hk : k < s.size) : bl (rbS s) (8 * k + (t + 1)) = bl (rbS s) (8 * k + t) ++ [(s[k].toNat : Int) / 2 ^ (7 - t) % 2] := by
  rw [← Nat.add_assoc, bl, rbS_at s k t h, bt_eq s k hk]

/-- What stands at the inner loop's head behind t rounds. -/
def half (t : Nat) : Int := if t < 8 then 2 ^ (7 - t) else 0

/-- The marks 1, 2, ... -/
def marks (n : Nat) : List Int := (List.range n).map fun (i : Nat) => (i : Int) + 1

theorem marks_length (n : Nat) : (marks n).length = n := by simp [marks]

theorem marks_get (n j : Nat) (h : j < n) : (marks n).getD j 0 = (j : Int) + 1 := by simp [marks, List.getD, h]

set_option maxHeartbeats 800000 in
theorem pow2_any (k : Nat) (w : World) (hk : k ≤ 32) : Calls Try.prog 39 #[.int .i64 k] w fun e w' => e = .returned (.int .i64 (2 ^ k)) ∧ w = w' := by
  go_enter Try.func39, Try.ntmps39
  go_wp2
  go_loop [3, 4] (fun n i => ∃ j : Nat, j ≤ k ∧ i = .int .i64 j ∧ n = .int .i64 (2 ^ j)) (fun _ i => k - (intOf i).toNat)
  case atStart => exact ⟨0, by omega, rfl, rfl⟩
  case round =>
    obtain ⟨j, hj, rfl, rfl⟩ := hrel
    by_cases hlt : j < k
    · have hst : Hid ((2 : Int) ^ (j + 1) = 2 * 2 ^ j) := by show _ = _; rw [Int.pow_succ]; omega
      have p0 : (0 : Int) < 2 ^ j := Int.pow_pos (by decide)
      have p1 : (2 : Int) ^ j ≤ 4294967296 := by
        have h := pow2_mono j (32 - j)
        rw [show j + (32 - j) = 32 by omega] at h
        exact h
      generalize (2 : Int) ^ j = P at *
      go_wp2
      go_round
      case rel => exact ⟨j + 1, by omega, by go_num, val_int hst.out.symm⟩
      case measure => simp [intOf]; omega
    · obtain rfl : j = k := by omega
      generalize hP : (2 : Int) ^ j = P at *
      have HP := hid hP
      clear hP
      go_wp2
      go_ret
      exact ⟨ret_int HP.out.symm, rfl⟩

end Go.Proofs.Ytckpdmgmeolepaa
