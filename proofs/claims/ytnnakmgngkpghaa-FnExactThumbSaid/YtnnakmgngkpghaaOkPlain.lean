/- Plain facts on right codes, and a block that holds an array. No function of the program is named here. -/
import Derived.Test.YtnnakmgngkpghaaCod
import Derived.Deep.WholeRow
namespace Go.Proofs.Ytnnakmgngkpghaa
open Go.RowKit
set_option linter.unusedVariables false

theorem Arr.new (w : World) (cs : Array Value) (t : TypeId) : Arr (w.alloc (.cells cs t)) w.heap.size cs t := heap_alloc_new w _
/-- x is a symbol. -/
def inB (x : Int) : Bool := decide (0 ≤ x ∧ x ≤ 255)
/-- x is one of the first k numbers. -/
def hasTo (xs : List Int) : Nat → Int → Bool
  | 0, _ => false
  | k + 1, x => x == xs.getD k 0 || hasTo xs k x
/-- The first k numbers are symbols, no two alike. -/
def apartTo (xs : List Int) : Nat → Bool
  | 0 => true
  | k + 1 => apartTo xs k && (inB (xs.getD k 0) && !hasTo xs k (xs.getD k 0))
theorem apartTo_bad (xs : List Int) (k : Nat) (h : (inB (xs.getD k 0) && !hasTo xs k (xs.getD k 0)) = false) : ∀ n, k < n → apartTo xs n = false
  | n + 1, hn => by
    rw [apartTo]
    by_cases e : k = n
    · subst e; rw [h, Bool.and_false]
    · rw [apartTo_bad xs k h n (by omega), Bool.false_and]
theorem apartTo_le (xs : List Int) : ∀ n k, k ≤ n → apartTo xs n = true → apartTo xs k = true
  | 0, k, hk, h => by rw [show k = 0 by omega]; rfl
  | n + 1, k, hk, h => by
    by_cases e : k = n + 1
    · rw [e]; exact h
    · rw [apartTo] at h
      exact apartTo_le xs n k (by omega) (by simp only [Bool.and_eq_true] at h; exact h.1)
theorem hasTo_iff (xs : List Int) (x : Int) : ∀ k, hasTo xs k x = true ↔ ∃ j, j < k ∧ xs.getD j 0 = x
  | 0 => by simp [hasTo]
  | k + 1 => by
    rw [hasTo, Bool.or_eq_true, hasTo_iff xs x k]
    constructor
    · rintro (h | ⟨j, hj, h⟩)
      · exact ⟨k, by omega, by simpa using (beq_iff_eq.1 h).symm⟩
      · exact ⟨j, by omega, h⟩
    · rintro ⟨j, hj, h⟩
      by_cases e : j = k
      · subst e; left; rw [h]; simp
      · exact .inr ⟨j, by omega, h⟩

/-- How many symbols the first k counts tell. -/
def told (cs : List Int) : Nat → Int
  | 0 => 0
  | k + 1 => told cs k + cs.getD k 0
/-- How much room their codes take. -/
def room (cs : List Int) : Nat → Int
  | 0 => 0
  | k + 1 => room cs k + cs.getD k 0 * 2 ^ (15 - k)
def okTo (cs : List Int) : Nat → Bool
  | 0 => true
  | k + 1 => okTo cs k && inB (cs.getD k 0)
theorem okTo_bad (cs : List Int) (k : Nat) (h : inB (cs.getD k 0) = false) : ∀ n, k < n → okTo cs n = false
  | n + 1, hn => by
    rw [okTo]
    by_cases e : k = n
    · subst e; rw [h, Bool.and_false]
    · rw [okTo_bad cs k h n (by omega), Bool.false_and]
theorem inB_iff (x : Int) : inB x = true ↔ 0 ≤ x ∧ x ≤ 255 := by simp [inB]
theorem inB_no (x : Int) : inB x = false ↔ ¬ (0 ≤ x ∧ x ≤ 255) := by simp [inB]
theorem okTo_at (cs : List Int) : ∀ n, okTo cs n = true → ∀ k, k < n → 0 ≤ cs.getD k 0 ∧ cs.getD k 0 ≤ 255
  | n + 1, h, k, hk => by
    simp only [okTo, Bool.and_eq_true] at h
    by_cases e : k = n
    · subst e; exact (inB_iff _).1 h.2
    · exact okTo_at cs n h.1 k (by omega)
theorem told_bounds (cs : List Int) : ∀ n, okTo cs n = true → 0 ≤ told cs n ∧ told cs n ≤ 255 * n
  | 0, _ => by simp [told]
  | n + 1, h => by
    simp only [okTo, Bool.and_eq_true] at h
    have := told_bounds cs n h.1
    have := (inB_iff _).1 h.2
    rw [told]
    omega
theorem pow2_le (k : Nat) (h : k ≤ 15) : (1 : Int) ≤ 2 ^ k ∧ (2 : Int) ^ k ≤ 32768 := by
  have h1 := pow2_mono 0 k
  have h2 := pow2_mono k (15 - k)
  rw [Nat.zero_add] at h1
  rw [show k + (15 - k) = 15 by omega] at h2
  exact ⟨h1, h2⟩
theorem mul_bounds (x p : Int) (h0 : 0 ≤ x) (h1 : x ≤ 255) (p0 : 1 ≤ p) (p1 : p ≤ 32768) : 0 ≤ x * p ∧ x * p ≤ 8355840 := by
  refine ⟨Int.mul_nonneg h0 (by omega), ?_⟩
  have := Int.mul_le_mul h1 p1 (by omega) (by omega)
  omega
theorem room_bounds (cs : List Int) : ∀ n, n ≤ 16 → okTo cs n = true → 0 ≤ room cs n ∧ room cs n ≤ 8355840 * n
  | 0, _, _ => by simp [room]
  | n + 1, hn, h => by
    simp only [okTo, Bool.and_eq_true] at h
    have := room_bounds cs n (by omega) h.1
    have hx := (inB_iff _).1 h.2
    have hp := pow2_le (15 - n) (by omega)
    have := mul_bounds _ _ hx.1 hx.2 hp.1 hp.2
    rw [room]
    omega

/-- The counts are those of codes. -/
def goodC (cs : List Int) : Bool := decide (cs.length = 16) && (okTo cs 16 && (decide (1 ≤ told cs 16 ∧ told cs 16 ≤ 255) && decide (room cs 16 ≤ 65535)))
/-- How many symbols good counts tell; -1 for others. -/
def toldR (cs : List Int) : Int := if goodC cs = true then told cs 16 else -1
/-- The codes are right. -/
def rightC (cs ss : List Int) : Bool := decide (toldR cs = (ss.length : Int)) && apartTo ss ss.length

theorem goodC_iff (cs : List Int) : goodC cs = true ↔ cs.length = 16 ∧ okTo cs 16 = true ∧ (1 ≤ told cs 16 ∧ told cs 16 ≤ 255) ∧ room cs 16 ≤ 65535 := by
  simp [goodC]
theorem toldR_no {cs : List Int} (h : ¬ (cs.length = 16 ∧ okTo cs 16 = true ∧ (1 ≤ told cs 16 ∧ told cs 16 ≤ 255) ∧ room cs 16 ≤ 65535)) : toldR cs = -1 := by
  unfold toldR
  rw [if_neg (fun e => h ((goodC_iff cs).1 e))]
theorem toldR_yes {cs : List Int} (h : cs.length = 16 ∧ okTo cs 16 = true ∧ (1 ≤ told cs 16 ∧ told cs 16 ≤ 255) ∧ room cs 16 ≤ 65535) : toldR cs = told cs 16 := by
  unfold toldR
  rw [if_pos ((goodC_iff cs).2 h)]
theorem right_iff (cs ss : List Int) : rightC cs ss = true ↔ (cs.length = 16 ∧ okTo cs 16 = true ∧ (1 ≤ told cs 16 ∧ told cs 16 ≤ 255) ∧ room cs 16 ≤ 65535) ∧ told cs 16 = ss.length ∧ apartTo ss ss.length = true := by
  unfold rightC
  rw [Bool.and_eq_true, decide_eq_true_eq]
  by_cases h : cs.length = 16 ∧ okTo cs 16 = true ∧ (1 ≤ told cs 16 ∧ told cs 16 ≤ 255) ∧ room cs 16 ≤ 65535
  · rw [toldR_yes h]
    exact ⟨fun ⟨a, b⟩ => ⟨h, a, b⟩, fun ⟨_, a, b⟩ => ⟨a, b⟩⟩
  · rw [toldR_no h]
    exact ⟨fun ⟨a, b⟩ => by omega, fun ⟨a, _⟩ => absurd a h⟩
theorem right_no {cs ss : List Int} (h : ¬ ((cs.length = 16 ∧ okTo cs 16 = true ∧ (1 ≤ told cs 16 ∧ told cs 16 ≤ 255) ∧ room cs 16 ≤ 65535) ∧ told cs 16 = ss.length ∧ apartTo ss ss.length = true)) : rightC cs ss = false := by
  rw [← Bool.not_eq_true, right_iff]
  exact h
end Go.Proofs.Ytnnakmgngkpghaa
