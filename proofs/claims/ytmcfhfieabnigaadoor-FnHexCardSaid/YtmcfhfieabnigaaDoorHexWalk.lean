/- The contracts of HexText, of the program and of the specification. -/
import Derived.Test.YtmcfhfieabnigaaDoorDigit
namespace Go.Proofs.YtmcfhfieabnigaaDoor
open Go.RowKit
set_option linter.unusedVariables false

/-- The sixteen digits. -/
def hexs : ByteArray := ⟨#[48, 49, 50, 51, 52, 53, 54, 55, 56, 57, 97, 98, 99, 100, 101, 102]⟩
theorem hexs_size : hexs.size = 16 := rfl

/-- Two digits for each of the first k bytes. -/
def hexTo (b : Nat → Int) : Nat → List Int
  | 0 => []
  | k + 1 => hexTo b k ++ [bt hexs (b k / 16).toNat, bt hexs (b k % 16).toNat]

theorem hexTo_length (b : Nat → Int) : ∀ k, (hexTo b k).length = 2 * k
  | 0 => rfl
  | k + 1 => by simp [hexTo, hexTo_length b k]; omega

theorem hexTo_step (s : ByteArray) (k : Nat) (h : k < s.size) (h1 : ((s[k].toNat : Int) / 16).toNat < hexs.size) (h2 : ((s[k].toNat : Int) % 16).toNat < hexs.size) :
    hexTo (bt s) (k + 1) = hexTo (bt s) k ++ [((hexs[((s[k].toNat : Int) / 16).toNat]'h1).toNat : Int), ((hexs[((s[k].toNat : Int) % 16).toNat]'h2).toNat : Int)] := by
  rw [hexTo, bt_eq s k h, bt_eq hexs _ h1, bt_eq hexs _ h2]

set_option maxHeartbeats 1600000 in
theorem spec_hexText (s : ByteArray) (w : World) (hs : s.size ≤ 60000) :
    Calls Tryd.prog 19 #[.string s] w fun e w' => e = .returned (.string (strOfNums (hexTo (bt s) s.size))) ∧ Below w.heap.size w w' := by
  have hl : decide ((60000 : Int) < (s.size : Int)) = false := by simp; omega
  go_enter Tryd.func19, Tryd.ntmps19
  go_wp2
  go_loopw [3, 4] (fun v i wr => ∃ k : Nat, k ≤ s.size ∧ i = .int .i64 k ∧ Own wr w.heap.size 5 .u8 v (hexTo (bt s) k) ∧ Below w.heap.size w wr) (fun _ i _ => s.size - (intOf i).toNat)
  case atStart =>
    exact ⟨0, by omega, rfl, Own.empty _ _ _ _ (Nat.le_refl _), (Below.refl _ _).alloc (Nat.le_refl _) _⟩
  case round =>
    obtain ⟨k, hk, rfl, hown, hb⟩ := hrel
    by_cases hlt : k < s.size
    · have hlen := hexTo_length (bt s) k
      have hbl := byte_lt s[k]
      have hlt' : (k : Int) < (s.size : Int) := by omega
      have q0 : (0 : Int) ≤ (s[k].toNat : Int) / 16 := by omega
      have q1 : (s[k].toNat : Int) / 16 < 16 := by omega
      have q2 : (0 : Int) ≤ (s[k].toNat : Int) % 16 := by omega
      have q3 : (s[k].toNat : Int) % 16 < 16 := by omega
      have e1 : IntKind.u8.wrap ((s[k].toNat : Int) / 16) = (s[k].toNat : Int) / 16 := by rw [IntKind.wrap_u8]; omega
      have e2 : (s[k].toNat : Int).tmod 16 = (s[k].toNat : Int) % 16 := Int.tmod_eq_emod_of_nonneg (by omega)
      have hst := show Hid _ from hexTo_step s k hlt (by rw [hexs_size]; omega) (by rw [hexs_size]; omega)
      go_wp2
      go_region_law (refine step_push2 wr.drew rfl (.tmp 15) (.tmp 26) 22 rfl _ 5 .u8 0 1 Tryd.underlying22 Tryd.info5 _ _ rfl hown.drew1 _ _ rfl (by omega) (by decide) ?_; intro v1 w1 hown1 hb1)
      all_goals
        go_wp2
        go_roundw
        case rel => exact ⟨k + 1, by omega, by go_num, by rw [hst.out]; exact hown1, hb.drew.trans hb1⟩
        case measure => simp [intOf]; omega
    · obtain rfl : k = s.size := by omega
      have hc := Own.conv Tryd.underlying22 Tryd.underlying5 Tryd.underlying9 hown
      go_wp2
      go_ret
      exact ⟨rfl, hb⟩

set_option maxHeartbeats 1600000 in
theorem impl_hexText (s : ByteArray) (w : World) (hs : s.size ≤ 60000) :
    Calls Tryd.prog 8 #[.string s] w fun e w' => e = .returned (.string (strOfNums (hexTo (bt s) s.size))) ∧ Below w.heap.size w w' := by
  have hl : decide ((60000 : Int) < (s.size : Int)) = false := by simp; omega
  go_enter Tryd.func8, Tryd.ntmps8
  go_wp2_with (at_make; refine wpList_mk0 w rfl _ _ 22 rfl w.heap.size 5 .u8 0 1 Tryd.underlying22 Tryd.info5 _ _ (2 * s.size) rfl (by first | rfl | (simp; done)) (by omega) (by decide) (Nat.le_refl _) ?_)
  intro w0 hown0 hb0
  go_wp2
  go_loopw [3, 14] (fun v i wr => ∃ k : Nat, k ≤ s.size ∧ i = .int .i64 k ∧ Own wr w.heap.size 5 .u8 v (hexTo (bt s) k) ∧ Below w.heap.size w wr) (fun _ i _ => s.size - (intOf i).toNat)
  case atStart =>
    exact ⟨0, by omega, rfl, hown0, hb0⟩
  case round =>
    obtain ⟨k, hk, rfl, hown, hb⟩ := hrel
    by_cases hlt : k < s.size
    · have hlen := hexTo_length (bt s) k
      have hbl := byte_lt s[k]
      have hlt' : (k : Int) < (s.size : Int) := by omega
      have q0 : (0 : Int) ≤ (s[k].toNat : Int) / 16 := by omega
      have q1 : (s[k].toNat : Int) / 16 < 16 := by omega
      have q2 : (0 : Int) ≤ (s[k].toNat : Int) % 16 := by omega
      have q3 : (s[k].toNat : Int) % 16 < 16 := by omega
      have e1 : IntKind.u8.wrap ((s[k].toNat : Int) / 16) = (s[k].toNat : Int) / 16 := by rw [IntKind.wrap_u8]; omega
      have e2 : (s[k].toNat : Int).tmod 16 = (s[k].toNat : Int) % 16 := Int.tmod_eq_emod_of_nonneg (by omega)
      have hst := show Hid _ from hexTo_step s k hlt (by rw [hexs_size]; omega) (by rw [hexs_size]; omega)
      go_wp2
      go_region_law (refine step_push2 wr.drew rfl (.tmp 17) (.tmp 28) 22 rfl _ 5 .u8 0 1 Tryd.underlying22 Tryd.info5 _ _ rfl hown.drew1 _ _ rfl (by omega) (by decide) ?_; intro v1 w1 hown1 hb1)
      all_goals
        go_wp2
        go_roundw
        case rel => exact ⟨k + 1, by omega, by go_num, by rw [hst.out]; exact hown1, hb.drew.trans hb1⟩
        case measure => simp [intOf]; omega
    · obtain rfl : k = s.size := by omega
      have hc := Own.conv Tryd.underlying22 Tryd.underlying5 Tryd.underlying9 hown
      go_wp2
      go_ret
      exact ⟨rfl, hb⟩

theorem spec_hexText_no (s : ByteArray) (w : World) (h : 60000 < s.size) (hs : s.size ≤ 1048576) :
    Calls Tryd.prog 19 #[.string s] w fun e w' => e = .returned (.string ⟨#[]⟩) ∧ Below w.heap.size w w' := by
  have hl : (60000 : Int) < (s.size : Int) := by omega
  go_enter Tryd.func19, Tryd.ntmps19
  go_wp2
  go_ret
  exact ⟨rfl, (Below.refl _ _).alloc (Nat.le_refl _) _⟩

theorem impl_hexText_no (s : ByteArray) (w : World) (h : 60000 < s.size) (hs : s.size ≤ 1048576) :
    Calls Tryd.prog 8 #[.string s] w fun e w' => e = .returned (.string ⟨#[]⟩) ∧ Below w.heap.size w w' := by
  have hl : (60000 : Int) < (s.size : Int) := by omega
  go_enter Tryd.func8, Tryd.ntmps8
  go_wp2
  go_ret
  exact ⟨rfl, Below.refl _ _⟩

end Go.Proofs.YtmcfhfieabnigaaDoor
