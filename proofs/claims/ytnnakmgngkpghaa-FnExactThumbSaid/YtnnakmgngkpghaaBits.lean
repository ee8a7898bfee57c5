/- Contracts of the two tests for bits, of the specification's BitsNum, and of the writer's put where there is room. -/
import Derived.Test.YtnnakmgngkpghaaInts
namespace Go.Proofs.Ytnnakmgngkpghaa
open Go.RowKit
set_option linter.unusedVariables false

def Bit (x : Int) : Prop := x = 0 ∨ x = 1

theorem isBit_yes (x : Int) (h : Bit x) (w : World) : Calls Try.prog 71 #[.int .i64 x] w fun e w' => e = .returned (.bool true) ∧ w = w' := by
  rcases h with rfl | rfl
  all_goals
    go_enter Try.func71, Try.ntmps71
    go_wp2
    go_ret
    exact ⟨rfl, rfl⟩
theorem isBit_no (x : Int) (h : ¬ Bit x) (w : World) : Calls Try.prog 71 #[.int .i64 x] w fun e w' => e = .returned (.bool false) ∧ w = w' := by
  have h0 : (x == 0) = false := by simp only [beq_eq_false_iff_ne]; intro e; exact h (.inl e)
  have h1 : (x == 1) = false := by simp only [beq_eq_false_iff_ne]; intro e; exact h (.inr e)
  clear h
  go_enter Try.func71, Try.ntmps71
  go_wp2
  go_ret
  exact ⟨rfl, rfl⟩

set_option maxHeartbeats 800000 in
theorem areBits_yes (ao : Option Addr) (n cap : Nat) (xs : List Int) (w : World) (hn : n ≤ 1048576) (hv : View .i64 w ao n xs) (hall : ∀ j, j < n → Bit (xs.getD j 0)) :
    Calls Try.prog 60 #[.slice ao n cap] w fun e w' => e = .returned (.bool true) ∧ w = w' := by
  have HV := hid (hv)
  have HA := hid (hall)
  clear hv hall
  go_enter Try.func60, Try.ntmps60
  go_wp2
  go_loop [7] (fun i => ∃ k : Nat, k ≤ n ∧ i = .int .i64 k) (fun i => n - (intOf i).toNat)
  case atStart => exact ⟨0, by omega, rfl⟩
  case round =>
    obtain ⟨k, hk, rfl⟩ := hrel
    by_cases hlt : k < n
    · obtain ⟨b, off, rfl, hc⟩ := HV.out.2 k hlt
      have hbit := HA.out k hlt
      generalize xs.getD k 0 = X at *
      have HI := hid (fun q : World => isBit_yes X hbit q)
      clear hbit
      go_wp2_with (go_at_call 71; refine (HI.out _).mono ?_; rintro e w' ⟨rfl, rfl⟩)
      go_round
      case rel => exact ⟨k + 1, by omega, by go_num⟩
      case measure => simp [intOf]; omega
    · obtain rfl : k = n := by omega
      go_wp2
      go_ret
      exact ⟨rfl, rfl⟩

set_option maxHeartbeats 800000 in
theorem areBits_no (ao : Option Addr) (n cap : Nat) (xs : List Int) (w : World) (hn : n ≤ 1048576) (hv : View .i64 w ao n xs) (hall : ¬ ∀ j, j < n → Bit (xs.getD j 0)) :
    Calls Try.prog 60 #[.slice ao n cap] w fun e w' => e = .returned (.bool false) ∧ w = w' := by
  have HV := hid (hv)
  have HA := hid (hall)
  clear hv hall
  go_enter Try.func60, Try.ntmps60
  go_wp2
  go_loop [7] (fun i => ∃ k : Nat, k ≤ n ∧ i = .int .i64 k ∧ Hid (∀ j, j < k → Bit (xs.getD j 0))) (fun i => n - (intOf i).toNat)
  case atStart => exact ⟨0, by omega, rfl, fun j hj => by omega⟩
  case round =>
    obtain ⟨k, hk, rfl, hgood⟩ := hrel
    by_cases hlt : k < n
    · obtain ⟨b, off, rfl, hc⟩ := HV.out.2 k hlt
      by_cases hbit : Bit (xs.getD k 0)
      · have hg2 : Hid (∀ j, j < k + 1 → Bit (xs.getD j 0)) := fun j hj => by
          by_cases e : j = k
          · subst e; exact hbit
          · exact hgood.out j (by omega)
        have HI := hid (fun q : World => isBit_yes _ hbit q)
        generalize xs.getD k 0 = X at *
        clear hbit
        go_wp2_with (go_at_call 71; refine (HI.out _).mono ?_; rintro e w' ⟨rfl, rfl⟩)
        go_round
        case rel => exact ⟨k + 1, by omega, by go_num, hg2⟩
        case measure => simp [intOf]; omega
      · have HI := hid (fun q : World => isBit_no _ hbit q)
        generalize xs.getD k 0 = X at *
        clear hbit
        go_wp2_with (go_at_call 71; refine (HI.out _).mono ?_; rintro e w' ⟨rfl, rfl⟩)
        go_ret
        exact ⟨rfl, rfl⟩
    · exfalso
      exact HA.out (fun j hj => hgood.out j (by omega))

set_option maxHeartbeats 800000 in
theorem specBits_yes (ao : Option Addr) (n cap : Nat) (xs : List Int) (w : World) (hn : n ≤ 1048576) (hv : View .i64 w ao n xs) (hall : ∀ j, j < n → Bit (xs.getD j 0)) :
    Calls Try.prog 50 #[.slice ao n cap] w fun e w' => e = .returned (.bool true) ∧ w = w' := by
  have HV := hid (hv)
  have HA := hid (hall)
  clear hv hall
  go_enter Try.func50, Try.ntmps50
  go_wp2
  go_loop [3] (fun i => ∃ k : Nat, k ≤ n ∧ i = .int .i64 k) (fun i => n - (intOf i).toNat)
  case atStart => exact ⟨0, by omega, rfl⟩
  case round =>
    obtain ⟨k, hk, rfl⟩ := hrel
    by_cases hlt : k < n
    · obtain ⟨b, off, rfl, hc⟩ := HV.out.2 k hlt
      have hbit := HA.out k hlt
      have hd : decide ((0 : Int) ≤ xs.getD k 0 ∧ xs.getD k 0 ≤ 1) = true := by rcases hbit with h | h <;> rw [h] <;> decide
      generalize xs.getD k 0 = X at *
      clear hbit
      go_wp2_with (go_at_call 36; refine (spec_in _ _ _ _).mono ?_; rw [hd]; rintro e w' ⟨rfl, rfl⟩)
      go_round
      case rel => exact ⟨k + 1, by omega, by go_num⟩
      case measure => simp [intOf]; omega
    · obtain rfl : k = n := by omega
      go_wp2
      go_ret
      exact ⟨rfl, rfl⟩

set_option maxHeartbeats 800000 in
theorem specBits_no (ao : Option Addr) (n cap : Nat) (xs : List Int) (w : World) (hn : n ≤ 1048576) (hv : View .i64 w ao n xs) (hall : ¬ ∀ j, j < n → Bit (xs.getD j 0)) :
    Calls Try.prog 50 #[.slice ao n cap] w fun e w' => e = .returned (.bool false) ∧ w = w' := by
  have HV := hid (hv)
  have HA := hid (hall)
  clear hv hall
  go_enter Try.func50, Try.ntmps50
  go_wp2
  go_loop [3] (fun i => ∃ k : Nat, k ≤ n ∧ i = .int .i64 k ∧ Hid (∀ j, j < k → Bit (xs.getD j 0))) (fun i => n - (intOf i).toNat)
  case atStart => exact ⟨0, by omega, rfl, fun j hj => by omega⟩
  case round =>
    obtain ⟨k, hk, rfl, hgood⟩ := hrel
    by_cases hlt : k < n
    · obtain ⟨b, off, rfl, hc⟩ := HV.out.2 k hlt
      by_cases hbit : Bit (xs.getD k 0)
      · have hg2 : Hid (∀ j, j < k + 1 → Bit (xs.getD j 0)) := fun j hj => by
          by_cases e : j = k
          · subst e; exact hbit
          · exact hgood.out j (by omega)
        have hd : decide ((0 : Int) ≤ xs.getD k 0 ∧ xs.getD k 0 ≤ 1) = true := by rcases hbit with h | h <;> rw [h] <;> decide
        generalize xs.getD k 0 = X at *
        clear hbit
        go_wp2_with (go_at_call 36; refine (spec_in _ _ _ _).mono ?_; rw [hd]; rintro e w' ⟨rfl, rfl⟩)
        go_round
        case rel => exact ⟨k + 1, by omega, by go_num, hg2⟩
        case measure => simp [intOf]; omega
      · have hd : decide ((0 : Int) ≤ xs.getD k 0 ∧ xs.getD k 0 ≤ 1) = false := by
          simp only [decide_eq_false_iff_not]
          intro h
          apply hbit
          unfold Bit
          omega
        generalize xs.getD k 0 = X at *
        clear hbit
        go_wp2_with (go_at_call 36; refine (spec_in _ _ _ _).mono ?_; rw [hd]; rintro e w' ⟨rfl, rfl⟩)
        go_ret
        exact ⟨rfl, rfl⟩
    · exfalso
      exact HA.out (fun j hj => hgood.out j (by omega))

/-- The number of c bits from place s on. -/
def num (b : Nat → Int) (s : Nat) : Nat → Int
  | 0 => 0
  | c + 1 => 2 * num b s c + b (s + c)

theorem num_bd (b : Nat → Int) (hb : ∀ j, Bit (b j)) (s : Nat) : ∀ c, 0 ≤ num b s c ∧ num b s c < 2 ^ c
  | 0 => by simp [num]
  | c + 1 => by
    have h := num_bd b hb s c
    have e : (2 : Int) ^ (c + 1) = 2 * 2 ^ c := by rw [Int.pow_succ]; omega
    have hbit := hb (s + c)
    rw [e]
    simp only [num]
    rcases hbit with h2 | h2 <;> rw [h2] <;> omega

theorem pow2_mono (t : Nat) : ∀ d, (2 : Int) ^ t ≤ 2 ^ (t + d)
  | 0 => Int.le_refl _
  | d + 1 => by
    have h := pow2_mono t d
    have e : (2 : Int) ^ (t + (d + 1)) = 2 * 2 ^ (t + d) := by rw [← Nat.add_assoc, Int.pow_succ]; omega
    have p : (0 : Int) < 2 ^ t := Int.pow_pos (by decide)
    omega

theorem num_le (b : Nat → Int) (hb : ∀ j, Bit (b j)) (s c m : Nat) (h : c ≤ m) : num b s c < 2 ^ m := by
  have h1 := num_bd b hb s c
  have h2 := pow2_mono c (m - c)
  rw [show c + (m - c) = m by omega] at h2
  omega

/-- The bits of a list; 1 behind its end. -/
def pad (xs : List Int) (j : Nat) : Int := if j < xs.length then xs.getD j 0 else 1
theorem pad_in (xs : List Int) (j : Nat) (h : j < xs.length) : pad xs j = xs.getD j 0 := by unfold pad; rw [if_pos h]
theorem pad_out (xs : List Int) (j : Nat) (h : ¬ j < xs.length) : pad xs j = 1 := by unfold pad; rw [if_neg h]
theorem pad_bit (xs : List Int) (h : ∀ j, j < xs.length → Bit (xs.getD j 0)) (j : Nat) : Bit (pad xs j) := by
  unfold pad
  split
  · exact h j (by assumption)
  · exact .inr rfl

/-- The writer: its word, how many bits it holds, what has been written. -/
def Wr (w : World) (B : Nat) (x h : Int) (v : Value) : Prop := w.heap[B]? = some (.cells #[.int .u32 x, .int .i64 h, v] 103 (0, 0))

theorem Wr.cells {w : World} {B : Nat} {x h : Int} {v : Value} (hw : Wr w B x h v) :
    w.cell? ⟨B, 0, none⟩ = some (.int .u32 x) ∧ w.cell? ⟨B, 1, none⟩ = some (.int .i64 h) ∧ w.cell? ⟨B, 2, none⟩ = some v ∧ w.frozen? ⟨B, 0, none⟩ = false ∧ w.frozen? ⟨B, 1, none⟩ = false ∧ w.frozen? ⟨B, 2, none⟩ = false := by
  unfold Wr at hw
  simp [World.cell?, World.frozen?, hw]

theorem Wr.set0 {w : World} {B : Nat} {x h y : Int} {v : Value} (hw : Wr w B x h v) : Wr (w.setCell ⟨B, 0, none⟩ (.int .u32 y)) B y h v := heap_setCell_same w B 0 _ 103 _ hw
theorem Wr.set1 {w : World} {B : Nat} {x h y : Int} {v : Value} (hw : Wr w B x h v) : Wr (w.setCell ⟨B, 1, none⟩ (.int .i64 y)) B x y v := heap_setCell_same w B 1 _ 103 _ hw
theorem Wr.set2 {w : World} {B : Nat} {x h : Int} {v u : Value} (hw : Wr w B x h v) : Wr (w.setCell ⟨B, 2, none⟩ u) B x h u := heap_setCell_same w B 2 _ 103 _ hw

theorem or_bit (x b : Int) (h0 : 0 ≤ x) (h1 : x < 2147483648) (hb : Bit b) : bits .or .u32 (x * 2) b = 2 * x + b := by
  rw [bits_join .u32 32 (by decide) (fun n h0 h1 => by rw [IntKind.wrap_u32]; omega) 1 (x * 2) b (by omega) (by omega) (by omega) (by rcases hb with h | h <;> omega) (by rcases hb with h | h <;> omega) (by rcases hb with h | h <;> omega)]
  omega

set_option maxHeartbeats 800000 in
/-- A bit is put where there is room for it. -/
theorem put_room (B : Nat) (x h b : Int) (v : Value) (w : World) (hw : Wr w B x h v) (h0 : 0 ≤ h) (h1 : h < 32) (x0 : 0 ≤ x) (x1 : x < 2147483648) (hb : Bit b) :
    Calls Try.prog 72 #[.pointer (some ⟨B, 0, none⟩), .int .i64 b] w fun e w' => e = .returned (.tuple #[]) ∧ w' = (w.setCell ⟨B, 0, none⟩ (.int .u32 (2 * x + b))).setCell ⟨B, 1, none⟩ (.int .i64 (h + 1)) := by
  obtain ⟨c0, c1, c2, f0, f1, f2⟩ := hw.cells
  have hq : (h == 32) = false := by simp; omega
  have ho := or_bit x b x0 x1 hb
  have b0 : 0 ≤ b := by rcases hb with h | h <;> omega
  have b1 : b ≤ 1 := by rcases hb with h | h <;> omega
  have HW := hid (hw)
  clear hb hw
  go_enter Try.func72, Try.ntmps72
  go_wp2

  go_end0
  exact ⟨rfl, rfl⟩
end Go.Proofs.Ytnnakmgngkpghaa
