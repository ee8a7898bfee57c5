/- Contracts of GetBits and NumBits, of the program and of the specification. -/
import Derived.Test.YtcikmgdfelejpaaJGb
namespace Go.Proofs.Ytcikmgdfelejpaa
open Go.RowKit
set_option linter.unusedVariables false


set_option maxHeartbeats 800000 in
theorem impl_getBits (s : ByteArray) (w : World) (hs : s.size ≤ 60000) :
    Calls Try.prog 65 #[.string s] w fun e w' => ∃ v, e = .returned v ∧ Own w' w.heap.size 3 .i64 v (bl (rbS s) (8 * s.size)) ∧ Below w.heap.size w w' := by
  have hl : decide ((60000 : Int) < (s.size : Int)) = false := by simp; omega
  have HA := hid (all_any (rbS s) (rbS_bit s) w.heap.size (8 * s.size) 0 0 s (w.alloc (.cells #[.int .u32 0, .int .i64 0, .string s] 136)) (by omega) (start_text s) (heap_alloc_new w _))
  go_enter Try.func65, Try.ntmps65
  go_wp2_with fail
  refine HA.out.mono ?_
  rintro e w1 ⟨v, rfl, ho, hb⟩
  obtain ⟨ao, cap, rfl⟩ := ho.shape
  go_wp2
  go_ret
  exact ⟨_, rfl, ho.lower (by omega), ((Below.refl _ _).alloc (Nat.le_refl _) _).trans hb⟩

set_option maxHeartbeats 800000 in
theorem impl_getBits_no (s : ByteArray) (w : World) (h : 60000 < s.size) (hs : s.size ≤ 1048576) :
    Calls Try.prog 65 #[.string s] w fun e w' => ∃ v, e = .returned v ∧ Own w' w.heap.size 3 .i64 v [] ∧ Below w.heap.size w w' := by
  have hl : (60000 : Int) < (s.size : Int) := by omega
  go_enter Try.func65, Try.ntmps65
  go_wp2
  go_ret
  exact ⟨_, rfl, Own.empty _ _ _ _ (Nat.le_refl _), (Below.refl _ _).alloc (Nat.le_refl _) _⟩

set_option maxHeartbeats 800000 in
theorem spec_getBits_no (s : ByteArray) (w : World) (h : 60000 < s.size) (hs : s.size ≤ 1048576) :
    Calls Try.prog 63 #[.string s] w fun e w' => ∃ v, e = .returned v ∧ Own w' w.heap.size 3 .i64 v [] ∧ Below w.heap.size w w' := by
  have hl : (60000 : Int) < (s.size : Int) := by omega
  go_enter Try.func63, Try.ntmps63
  go_wp2
  go_ret
  exact ⟨_, rfl, Own.empty _ _ _ _ (Nat.le_refl _), (Below.refl _ _).alloc (Nat.le_refl _) _⟩

set_option maxRecDepth 100000 in
set_option maxHeartbeats 3200000 in
theorem spec_getBits (s : ByteArray) (w : World) (hs : s.size ≤ 60000) :
    Calls Try.prog 63 #[.string s] w fun e w' => ∃ v, e = .returned v ∧ Own w' w.heap.size 3 .i64 v (bl (rbS s) (8 * s.size)) ∧ Below w.heap.size w w' := by
  have hl : decide ((60000 : Int) < (s.size : Int)) = false := by simp; omega
  go_enter Try.func63, Try.ntmps63
  go_wp2
  go_loopw [3, 4] (fun v i wr => ∃ k : Nat, k ≤ s.size ∧ i = .int .i64 k ∧ Own wr w.heap.size 3 .i64 v (bl (rbS s) (8 * k)) ∧ Below w.heap.size w wr) (fun _ i _ => s.size - (intOf i).toNat)
  case atStart => exact ⟨0, by omega, rfl, Own.empty _ _ _ _ (Nat.le_refl _), (Below.refl _ _).alloc (Nat.le_refl _) _⟩
  case round =>
    obtain ⟨k, hk, rfl, hown, hb⟩ := hrel
    by_cases hlt : k < s.size
    · have hbl := byte_lt s[k]
      have hb0 : (0 : Int) ≤ (s[k].toNat : Int) := by omega
      have hlt' : (k : Int) < (s.size : Int) := by omega
      go_wp2
      go_loopw [3, 5] (fun v b wq => ∃ t : Nat, t ≤ 8 ∧ b = .int .i64 (half t) ∧ Own wq w.heap.size 3 .i64 v (bl (rbS s) (8 * k + t)) ∧ Below w.heap.size w wq) (fun _ b _ => (intOf b).toNat)
      case atStart => exact ⟨0, by omega, rfl, hown, hb⟩
      case round =>
        obtain ⟨t, ht, rfl, hownq, hbq⟩ := hrel
        have hlen := bl_length (rbS s) (8 * k + t)
        obtain rfl | rfl | rfl | rfl | rfl | rfl | rfl | rfl | rfl : t = 0 ∨ t = 1 ∨ t = 2 ∨ t = 3 ∨ t = 4 ∨ t = 5 ∨ t = 6 ∨ t = 7 ∨ t = 8 := by omega
        · have hst : Hid (bl (rbS s) (8 * k + 1) = bl (rbS s) (8 * k + 0) ++ [(s[k].toNat : Int) / 128 % 2]) := by
            have h := bl_step s k 0 (by decide) hlt
            rw [show (2 : Int) ^ (7 - 0) = 128 by decide] at h
            show _ = _
            exact h
          rw [show half 0 = 128 from by decide]
          go_wp2_with (at_builtin; refine wpList_push _ rfl _ _ 22 rfl _ 3 .i64 0 8 Try.underlying22 Try.info3 _ _ rfl hownq ((s[k].toNat : Int) / 128 % 2) rfl (by omega) (by decide) ?_)
          intro v1 w1 hown1 hb1
          go_wp2
          go_roundw
          case rel => exact ⟨1, by decide, rfl, by rw [hst.out]; exact hown1, hbq.trans hb1⟩
          case measure => simp [intOf]
        · have hst : Hid (bl (rbS s) (8 * k + 2) = bl (rbS s) (8 * k + 1) ++ [(s[k].toNat : Int) / 64 % 2]) := by
            have h := bl_step s k 1 (by decide) hlt
            rw [show (2 : Int) ^ (7 - 1) = 64 by decide] at h
            show _ = _
            exact h
          rw [show half 1 = 64 from by decide]
          go_wp2_with (at_builtin; refine wpList_push _ rfl _ _ 22 rfl _ 3 .i64 0 8 Try.underlying22 Try.info3 _ _ rfl hownq ((s[k].toNat : Int) / 64 % 2) rfl (by omega) (by decide) ?_)
          intro v1 w1 hown1 hb1
          go_wp2
          go_roundw
          case rel => exact ⟨2, by decide, rfl, by rw [hst.out]; exact hown1, hbq.trans hb1⟩
          case measure => simp [intOf]
        · have hst : Hid (bl (rbS s) (8 * k + 3) = bl (rbS s) (8 * k + 2) ++ [(s[k].toNat : Int) / 32 % 2]) := by
            have h := bl_step s k 2 (by decide) hlt
            rw [show (2 : Int) ^ (7 - 2) = 32 by decide] at h
            show _ = _
            exact h
          rw [show half 2 = 32 from by decide]
          go_wp2_with (at_builtin; refine wpList_push _ rfl _ _ 22 rfl _ 3 .i64 0 8 Try.underlying22 Try.info3 _ _ rfl hownq ((s[k].toNat : Int) / 32 % 2) rfl (by omega) (by decide) ?_)
          intro v1 w1 hown1 hb1
          go_wp2
          go_roundw
          case rel => exact ⟨3, by decide, rfl, by rw [hst.out]; exact hown1, hbq.trans hb1⟩
          case measure => simp [intOf]
        · have hst : Hid (bl (rbS s) (8 * k + 4) = bl (rbS s) (8 * k + 3) ++ [(s[k].toNat : Int) / 16 % 2]) := by
            have h := bl_step s k 3 (by decide) hlt
            rw [show (2 : Int) ^ (7 - 3) = 16 by decide] at h
            show _ = _
            exact h
          rw [show half 3 = 16 from by decide]
          go_wp2_with (at_builtin; refine wpList_push _ rfl _ _ 22 rfl _ 3 .i64 0 8 Try.underlying22 Try.info3 _ _ rfl hownq ((s[k].toNat : Int) / 16 % 2) rfl (by omega) (by decide) ?_)
          intro v1 w1 hown1 hb1
          go_wp2
          go_roundw
          case rel => exact ⟨4, by decide, rfl, by rw [hst.out]; exact hown1, hbq.trans hb1⟩
          case measure => simp [intOf]
        · have hst : Hid (bl (rbS s) (8 * k + 5) = bl (rbS s) (8 * k + 4) ++ [(s[k].toNat : Int) / 8 % 2]) := by
            have h := bl_step s k 4 (by decide) hlt
            rw [show (2 : Int) ^ (7 - 4) = 8 by decide] at h
            show _ = _
            exact h
          rw [show half 4 = 8 from by decide]
          go_wp2_with (at_builtin; refine wpList_push _ rfl _ _ 22 rfl _ 3 .i64 0 8 Try.underlying22 Try.info3 _ _ rfl hownq ((s[k].toNat : Int) / 8 % 2) rfl (by omega) (by decide) ?_)
          intro v1 w1 hown1 hb1
          go_wp2
          go_roundw
          case rel => exact ⟨5, by decide, rfl, by rw [hst.out]; exact hown1, hbq.trans hb1⟩
          case measure => simp [intOf]
        · have hst : Hid (bl (rbS s) (8 * k + 6) = bl (rbS s) (8 * k + 5) ++ [(s[k].toNat : Int) / 4 % 2]) := by
            have h := bl_step s k 5 (by decide) hlt
            rw [show (2 : Int) ^ (7 - 5) = 4 by decide] at h
            show _ = _
            exact h
          rw [show half 5 = 4 from by decide]
          go_wp2_with (at_builtin; refine wpList_push _ rfl _ _ 22 rfl _ 3 .i64 0 8 Try.underlying22 Try.info3 _ _ rfl hownq ((s[k].toNat : Int) / 4 % 2) rfl (by omega) (by decide) ?_)
          intro v1 w1 hown1 hb1
          go_wp2
          go_roundw
          case rel => exact ⟨6, by decide, rfl, by rw [hst.out]; exact hown1, hbq.trans hb1⟩
          case measure => simp [intOf]
        · have hst : Hid (bl (rbS s) (8 * k + 7) = bl (rbS s) (8 * k + 6) ++ [(s[k].toNat : Int) / 2 % 2]) := by
            have h := bl_step s k 6 (by decide) hlt
            rw [show (2 : Int) ^ (7 - 6) = 2 by decide] at h
            show _ = _
            exact h
          rw [show half 6 = 2 from by decide]
          go_wp2_with (at_builtin; refine wpList_push _ rfl _ _ 22 rfl _ 3 .i64 0 8 Try.underlying22 Try.info3 _ _ rfl hownq ((s[k].toNat : Int) / 2 % 2) rfl (by omega) (by decide) ?_)
          intro v1 w1 hown1 hb1
          go_wp2
          go_roundw
          case rel => exact ⟨7, by decide, rfl, by rw [hst.out]; exact hown1, hbq.trans hb1⟩
          case measure => simp [intOf]
        · have hst : Hid (bl (rbS s) (8 * k + 8) = bl (rbS s) (8 * k + 7) ++ [(s[k].toNat : Int) % 2]) := by
            have h := bl_step s k 7 (by decide) hlt
            rw [show (2 : Int) ^ (7 - 7) = 1 by decide] at h
            show _ = _
            rw [h, Int.ediv_one]
          rw [show half 7 = 1 from by decide]
          go_wp2_with (at_builtin; refine wpList_push _ rfl _ _ 22 rfl _ 3 .i64 0 8 Try.underlying22 Try.info3 _ _ rfl hownq ((s[k].toNat : Int) % 2) rfl (by omega) (by decide) ?_)
          intro v1 w1 hown1 hb1
          go_wp2
          go_roundw
          case rel => exact ⟨8, by decide, rfl, by rw [hst.out]; exact hown1, hbq.trans hb1⟩
          case measure => simp [intOf]
        · rw [show half 8 = 0 from by decide]
          go_wp2
          go_roundw
          case rel => exact ⟨k + 1, by omega, by go_num, by rw [show 8 * (k + 1) = 8 * k + 8 by omega]; exact hownq, hbq⟩
          case measure => simp [intOf]; omega
    · obtain rfl : k = s.size := by omega
      obtain ⟨ao, cap, rfl⟩ := hown.shape
      go_wp2
      go_ret
      exact ⟨_, rfl, hown, hb⟩
end Go.Proofs.Ytcikmgdfelejpaa
