/- The contracts of GetWord, of the program and of the specification. -/
import Derived.Test.YtkeabkedbbjccaaDoorRows
import Derived.Test.YtkeabkedbbjccaaDoorView
import Derived.WalkKit
import Derived.WalkSpells
import Derived.WalkLawsBesides
import Derived.Deep.QuietTactic
import Derived.BigQuiet
import Derived.Laws.BytesArg
import Derived.Outline
import Derived.OpenShut
namespace Go.Proofs.YtkeabkedbbjccaaDoor
open Go.RowKit
set_option linter.unusedVariables false

def wordOf (a b c d : UInt8) : Int := (a.toNat : Int) * 16777216 + (b.toNat : Int) * 65536 + (c.toNat : Int) * 256 + (d.toNat : Int)

theorem spec_val (a b c d : UInt8) : wrap64 (wrap64 (wrap64 (wrap64 (wrap64 (a.toNat : Int) * 16777216) + wrap64 (wrap64 (b.toNat : Int) * 65536)) + wrap64 (wrap64 (c.toNat : Int) * 256)) + wrap64 (d.toNat : Int)) % 4294967296 = wordOf a b c d := by
  have ha := byte_lt a
  have hb := byte_lt b
  have hc := byte_lt c
  have hd := byte_lt d
  have ha0 : (0 : Int) ≤ a.toNat := by omega
  have hb0 : (0 : Int) ≤ b.toNat := by omega
  have hc0 : (0 : Int) ≤ c.toNat := by omega
  have hd0 : (0 : Int) ≤ d.toNat := by omega
  unfold wordOf
  generalize (a.toNat : Int) = x at *
  generalize (b.toNat : Int) = y at *
  generalize (c.toNat : Int) = z at *
  generalize (d.toNat : Int) = t at *
  rw [w64 (x := x) (by omega) (by omega), w64 (x := y) (by omega) (by omega), w64 (x := z) (by omega) (by omega), w64 (x := t) (by omega) (by omega),
    w64 (x := x * 16777216) (by omega) (by omega), w64 (x := y * 65536) (by omega) (by omega), w64 (x := z * 256) (by omega) (by omega),
    w64 (x := x * 16777216 + y * 65536) (by omega) (by omega), w64 (x := x * 16777216 + y * 65536 + z * 256) (by omega) (by omega), w64 (x := x * 16777216 + y * 65536 + z * 256 + t) (by omega) (by omega)]
  omega

theorem join (i : Nat) (x y : Int) (hx₀ : 0 ≤ x) (hx : x % 2 ^ i = 0) (hx₁ : x < 2 ^ 32) (hy₀ : 0 ≤ y) (hy : y < 2 ^ i) (hy₁ : y < 2 ^ 32) : bits .or .u32 x y = x + y :=
  bits_join .u32 32 (by decide) (fun n h0 h1 => by rw [IntKind.wrap_u32]; omega) i x y hx₀ hx hx₁ hy₀ hy hy₁

theorem impl_val (a b c d : UInt8) : bits .or .u32 (bits .or .u32 (bits .or .u32 ((a.toNat : Int) % 4294967296 * 16777216 % 4294967296) ((b.toNat : Int) % 4294967296 * 65536 % 4294967296)) ((c.toNat : Int) % 4294967296 * 256 % 4294967296)) ((d.toNat : Int) % 4294967296) = wordOf a b c d := by
  have ha := byte_lt a
  have hb := byte_lt b
  have hc := byte_lt c
  have hd := byte_lt d
  rw [show (a.toNat : Int) % 4294967296 * 16777216 % 4294967296 = (a.toNat : Int) * 16777216 by omega, show (b.toNat : Int) % 4294967296 * 65536 % 4294967296 = (b.toNat : Int) * 65536 by omega,
    show (c.toNat : Int) % 4294967296 * 256 % 4294967296 = (c.toNat : Int) * 256 by omega, show (d.toNat : Int) % 4294967296 = (d.toNat : Int) by omega]
  rw [join 24 ((a.toNat : Int) * 16777216) ((b.toNat : Int) * 65536) (by omega) (by omega) (by omega) (by omega) (by omega) (by omega)]
  rw [join 16 ((a.toNat : Int) * 16777216 + (b.toNat : Int) * 65536) ((c.toNat : Int) * 256) (by omega) (by omega) (by omega) (by omega) (by omega) (by omega)]
  rw [join 8 _ _ (by omega) (by omega) (by omega) (by omega) (by omega) (by omega)]
  rfl

theorem spec_in (x a b : Int) (w : World) :
    Calls Tryd.prog 37 #[.int .i64 x, .int .i64 a, .int .i64 b] w fun e w' => e = .returned (.bool (decide (a ≤ x ∧ x ≤ b))) ∧ w' = w := by
  by_cases h1 : a ≤ x <;> by_cases h2 : x ≤ b
  all_goals
    go_enter Tryd.func37, Tryd.ntmps37
    go_wp2
    go_ret
    exact ⟨by simp [h1, h2], rfl⟩

set_option maxHeartbeats 400000 in
theorem spec_getWord_yes (s : ByteArray) (k : Nat) (w : World) (hs : s.size ≤ 1048576) (h : k + 4 ≤ s.size) :
    Calls Tryd.prog 35 #[.string s, .int .i64 k] w fun e w' => e = .returned (.int .u32 (wordOf s[k] s[k + 1] s[k + 2] s[k + 3])) ∧ ∃ n, w' = w.drewN n := by
  have hd : decide ((k : Int) ≤ (s.size : Int) - 4) = true := by simp; omega
  have k0 : (k : Int) < (s.size : Int) := by omega
  have k1 : (k : Int) + 1 < (s.size : Int) := by omega
  have k2 : (k : Int) + 2 < (s.size : Int) := by omega
  have k3 : (k : Int) + 3 < (s.size : Int) := by omega
  have n1 : (0 : Int) ≤ (k : Int) + 1 := by omega
  have n2 : (0 : Int) ≤ (k : Int) + 2 := by omega
  have n3 : (0 : Int) ≤ (k : Int) + 3 := by omega
  have j1 : IntKind.i64.wrap ((k : Int) + 1) = (k : Int) + 1 := by rw [IntKind.wrap_i64]; omega
  have j2 : IntKind.i64.wrap ((k : Int) + 2) = (k : Int) + 2 := by rw [IntKind.wrap_i64]; omega
  have j3 : IntKind.i64.wrap ((k : Int) + 3) = (k : Int) + 3 := by rw [IntKind.wrap_i64]; omega
  go_enter Tryd.func35, Tryd.ntmps35
  go_wp2_with (go_at_call 37; refine (spec_in _ _ _ _).mono ?_; rintro e w' ⟨rfl, rfl⟩)
  go_quiet (fail)
  go_wp2
  go_ret
  exact ⟨ret_int (spec_val _ _ _ _), _, rfl⟩
set_option maxHeartbeats 400000 in
theorem impl_getWord_yes (s : ByteArray) (k : Nat) (w : World) (hs : s.size ≤ 1048576) (h : k + 4 ≤ s.size) :
    Calls Tryd.prog 10 #[.string s, .int .i64 k] w fun e w' => e = .returned (.int .u32 (wordOf s[k] s[k + 1] s[k + 2] s[k + 3])) ∧ ∃ n, w' = w.drewN n := by
  have k0 : (k : Int) < (s.size : Int) := by omega
  have k1 : (k : Int) + 1 < (s.size : Int) := by omega
  have k2 : (k : Int) + 2 < (s.size : Int) := by omega
  have k3 : (k : Int) + 3 < (s.size : Int) := by omega
  have n1 : (0 : Int) ≤ (k : Int) + 1 := by omega
  have n2 : (0 : Int) ≤ (k : Int) + 2 := by omega
  have n3 : (0 : Int) ≤ (k : Int) + 3 := by omega
  have j1 : IntKind.i64.wrap ((k : Int) + 1) = (k : Int) + 1 := by rw [IntKind.wrap_i64]; omega
  have j2 : IntKind.i64.wrap ((k : Int) + 2) = (k : Int) + 2 := by rw [IntKind.wrap_i64]; omega
  have j3 : IntKind.i64.wrap ((k : Int) + 3) = (k : Int) + 3 := by rw [IntKind.wrap_i64]; omega
  go_enter Tryd.func10, Tryd.ntmps10
  go_wp2
  go_quiet (fail)
  go_wp2
  go_ret
  exact ⟨ret_int (impl_val _ _ _ _), _, rfl⟩

set_option maxHeartbeats 400000 in
theorem spec_getWord_no (s : ByteArray) (i : Int) (w : World) (hs : s.size ≤ 1048576) (h : i < 0 ∨ (s.size : Int) - 4 < i) :
    Calls Tryd.prog 35 #[.string s, .int .i64 i] w fun e w' => e = .returned (.int .u32 0) ∧ ∃ n, w' = w.drewN n := by
  have hd : decide (0 ≤ i ∧ i ≤ (s.size : Int) - 4) = false := by simp; omega
  go_enter Tryd.func35, Tryd.ntmps35
  go_wp2_with (go_at_call 37; refine (spec_in _ _ _ _).mono ?_; rw [hd]; rintro e w' ⟨rfl, rfl⟩)
  go_ret
  exact ⟨rfl, 0, rfl⟩

set_option maxHeartbeats 400000 in
theorem impl_getWord_no (s : ByteArray) (i : Int) (w : World) (hs : s.size ≤ 1048576) (h : i < 0 ∨ (s.size : Int) - 4 < i) :
    Calls Tryd.prog 10 #[.string s, .int .i64 i] w fun e w' => e = .returned (.int .u32 0) ∧ ∃ n, w' = w.drewN n := by
  by_cases hi : i < 0
  · clear h
    go_enter Tryd.func10, Tryd.ntmps10
    go_wp2
    go_ret
    exact ⟨rfl, 0, rfl⟩
  · have h2 : (s.size : Int) - 4 < i := by omega
    clear h
    go_enter Tryd.func10, Tryd.ntmps10
    go_wp2
    go_ret
    exact ⟨rfl, 0, rfl⟩

end Go.Proofs.YtkeabkedbbjccaaDoor
