/- The contracts of HexBytes, of the program and of the specification. -/
import Derived.Test.YtmcfhfieabnigaaDoorRows
import Derived.Test.YtmcfhfieabnigaaDoorStuffPlain
import Derived.Deep.QuietTactic
import Derived.BigQuiet
namespace Go.Proofs.YtmcfhfieabnigaaDoor
open Go.RowKit
set_option linter.unusedVariables false

theorem Tryd.info5 : (Tryd.prog.info? 5).map (fun i => (i.zero, i.size, i.bytes)) = some (some (.int .u8 0), 1, 1) := by kernel_rfl

/-- A digit's value; -1 for what is none. -/
def dg (c : Int) : Int := if 48 ≤ c ∧ c ≤ 57 then c - 48 else if 97 ≤ c ∧ c ≤ 102 then c - 87 else -1
theorem dg_low (c : Int) : -1 ≤ dg c := by unfold dg; split <;> (try split) <;> omega
theorem dg_high (c : Int) : dg c ≤ 15 := by unfold dg; split <;> (try split) <;> omega

theorem spec_in (x a b : Int) (w : World) :
    Calls Tryd.prog 26 #[.int .i64 x, .int .i64 a, .int .i64 b] w fun e w' => e = .returned (.bool (decide (a ≤ x ∧ x ≤ b))) ∧ w = w' := by
  by_cases h1 : a ≤ x <;> by_cases h2 : x ≤ b
  all_goals
    go_enter Tryd.func26, Tryd.ntmps26
    go_wp2
    go_ret
    exact ⟨by simp [h1, h2], rfl⟩

theorem spec_digit (c : Int) (w : World) (h0 : 0 ≤ c) (h1 : c < 256) : Calls Tryd.prog 20 #[.int .u8 c] w fun e w' => e = .returned (.int .i64 (dg c)) ∧ w' = w := by
  by_cases ha : 48 ≤ c ∧ c ≤ 57
  · have hd : decide ((48 : Int) ≤ c ∧ c ≤ 57) = true := by simpa using ha
    go_enter Tryd.func20, Tryd.ntmps20
    go_wp2_with (go_at_call 26; refine (spec_in _ _ _ _).mono ?_; rw [hd]; rintro e w' ⟨rfl, rfl⟩)
    go_ret
    exact ⟨ret_int (by unfold dg; rw [if_pos ha]), rfl⟩
  · have hd : decide ((48 : Int) ≤ c ∧ c ≤ 57) = false := by simpa using ha
    by_cases hb : 97 ≤ c ∧ c ≤ 102
    · have hd2 : decide ((97 : Int) ≤ c ∧ c ≤ 102) = true := by simpa using hb
      go_enter Tryd.func20, Tryd.ntmps20
      go_wp2_with (go_at_call 26; refine (spec_in _ _ _ _).mono ?_; (first | rw [hd] | rw [hd2]); rintro e w' ⟨rfl, rfl⟩)
      go_ret
      exact ⟨ret_int (by unfold dg; rw [if_neg ha, if_pos hb]), rfl⟩
    · have hd2 : decide ((97 : Int) ≤ c ∧ c ≤ 102) = false := by simpa using hb
      go_enter Tryd.func20, Tryd.ntmps20
      go_wp2_with (go_at_call 26; refine (spec_in _ _ _ _).mono ?_; (first | rw [hd] | rw [hd2]); rintro e w' ⟨rfl, rfl⟩)
      go_ret
      exact ⟨ret_int (by unfold dg; rw [if_neg ha, if_neg hb]), rfl⟩

theorem impl_digit (c : Int) (w : World) (h0 : 0 ≤ c) (h1 : c < 256) : Calls Tryd.prog 18 #[.int .u8 c] w fun e w' => e = .returned (.int .i64 (dg c)) ∧ w' = w := by
  by_cases a1 : 48 ≤ c <;> by_cases a2 : c ≤ 57 <;> by_cases a3 : 97 ≤ c <;> by_cases a4 : c ≤ 102
  all_goals
    first
    | (exfalso; omega)
    | (go_enter Tryd.func18, Tryd.ntmps18
       go_wp2
       go_ret
       exact ⟨ret_int (by unfold dg; split <;> (try split) <;> omega), rfl⟩)
/-- Both digits of pair k are digits. -/
def okAt (b : Nat → Int) (k : Nat) : Bool := decide (0 ≤ dg (b (2 * k))) && decide (0 ≤ dg (b (2 * k + 1)))
def allOk (b : Nat → Int) : Nat → Bool
  | 0 => true
  | k + 1 => allOk b k && okAt b k
theorem allOk_at (b : Nat → Int) : ∀ n, allOk b n = true → ∀ k, k < n → okAt b k = true
  | 0, _, k, hk => by omega
  | n + 1, h, k, hk => by
    simp only [allOk, Bool.and_eq_true] at h
    by_cases e : k = n
    · subst e; exact h.2
    · exact allOk_at b n h.1 k (by omega)
/-- The bytes of the first k pairs. -/
def bytesTo (b : Nat → Int) : Nat → List Int
  | 0 => []
  | k + 1 => bytesTo b k ++ [16 * dg (b (2 * k)) + dg (b (2 * k + 1))]
theorem bytesTo_length (b : Nat → Int) : ∀ k, (bytesTo b k).length = k
  | 0 => rfl
  | k + 1 => by simp [bytesTo, bytesTo_length b k]
end Go.Proofs.YtmcfhfieabnigaaDoor
