/- Contracts of the specification's PutBits, and the walks of the laws FnExactPutBits and FnExactBitsNum. -/
import Derived.Test.YtcikmgdfelejpaaJPutBits
namespace Go.Proofs.Ytcikmgdfelejpaa
open Go.RowKit
set_option linter.unusedVariables false

set_option maxHeartbeats 1600000 in
theorem spec_putBits (ao : Option Addr) (n cap : Nat) (xs : List Int) (w : World) (hn : n ≤ 480000) (hv : View .i64 w ao n xs) (hall : ∀ j, j < n → Bit (xs.getD j 0)) :
    Calls Try.prog 59 #[.slice ao n cap] w fun e w' => e = .returned (.string (strOfNums (packTo (pad xs) ((n + 7) / 8)))) ∧ Below w.heap.size w w' := by
  have HC := hid (specBits_yes ao n cap xs w (by omega) hv hall)
  have hl : decide ((480000 : Int) < (n : Int)) = false := by simp; omega
  have HB := hid (pad_bit xs (by rw [hv.1]; exact hall))
  have HV := hid hv
  clear hv hall
  go_enter Try.func59, Try.ntmps59
  go_wp2_with (go_at_call 52; refine HC.out.mono ?_; rintro e w' ⟨rfl, rfl⟩)
  go_loopw [3, 4] (fun v i wr => ∃ J p : Nat, p < n + 8 ∧ i = .int .i64 p ∧ Hid (p = 8 * J) ∧ Own wr w.heap.size 5 .u8 v (packTo (pad xs) J) ∧ Below w.heap.size w wr) (fun _ i _ => n + 8 - (intOf i).toNat)
  case atStart => exact ⟨0, 0, by omega, rfl, rfl, Own.empty _ _ _ _ (Nat.le_refl _), (Below.refl _ _).alloc (Nat.le_refl _) _⟩
  case round =>
    obtain ⟨J, p, hp, rfl, hpJ, hown, hb⟩ := hrel
    by_cases hlt : p < n
    · have hlt' : (p : Int) < (n : Int) := by omega
      go_wp2
      go_loop [5, 6, 7] (fun x k _ => ∃ t q : Nat, t ≤ 8 ∧ x = .int .i64 (num (pad xs) p t) ∧ k = .int .i64 q ∧ Hid (q = p + t)) (fun _ k _ => p + 8 - (intOf k).toNat)
      case atStart => exact ⟨0, p, by omega, rfl, rfl, rfl⟩
      case round =>
        obtain ⟨t, q, ht, rfl, rfl, hq⟩ := hrel
        have x0 := (num_bd (pad xs) HB.out p t).1
        have x1 := num_le (pad xs) HB.out p t 8 ht
        have hq1 : q ≤ p + 8 := by have := hq.out; omega
        by_cases ht8 : t < 8
        · have hqlt : q < p + 8 := by have := hq.out; omega
          have hqlt' : (q : Int) < (p : Int) + 8 := by omega
          have hst : Hid (num (pad xs) p (t + 1) = 2 * num (pad xs) p t + pad xs q) := by
            show _ = _
            rw [num, hq.out]
          have hbit := HB.out q
          have hx0 : 0 ≤ pad xs q := by rcases hbit with h | h <;> omega
          have hx1 : pad xs q ≤ 1 := by rcases hbit with h | h <;> omega
          clear hbit
          by_cases hqn : q < n
          · obtain ⟨b, off, rfl, hc⟩ := HV.out.2 q hqn
            have hcr : wr.cell? ⟨b, off + q, none⟩ = some (.int .i64 (pad xs q)) := by
              rw [pad_in xs q (by rw [HV.out.1]; exact hqn)]
              exact (hb.cell (p := ⟨b, off + q, none⟩) (World.block_lt_of_cell? w _ hc)).trans hc
            have hqn' : (q : Int) < (n : Int) := by omega
            generalize pad xs q = Y at *
            generalize num (pad xs) p t = X at *
            clear hc
            go_wp2
            go_round
            case rel => exact ⟨t + 1, q + 1, by omega, val_int hst.out.symm, by go_num, by show _ = _; have := hq.out; omega⟩
            case measure => simp [intOf]; omega
          · have hqn' : ¬ (q : Int) < (n : Int) := by omega
            have hY := hid (pad_out xs q (by rw [HV.out.1]; exact hqn))
            rw [hY.out] at hst
            generalize num (pad xs) p t = X at *
            go_wp2
            go_round
            case rel => exact ⟨t + 1, q + 1, by omega, val_int hst.out.symm, by go_num, by show _ = _; have := hq.out; omega⟩
            case measure => simp [intOf]; omega
        · obtain rfl : t = 8 := by omega
          have hlen := packTo_length (pad xs) J
          have hJn : J ≤ n := by have := hpJ.out; omega
          have hq8 : ¬ (q : Int) < (p : Int) + 8 := by have := hq.out; omega
          have hst : Hid (packTo (pad xs) (J + 1) = packTo (pad xs) J ++ [num (pad xs) p 8]) := by
            show _ = _
            rw [packTo, hpJ.out]
          generalize num (pad xs) p 8 = X at *
          have x2 : X ≤ 255 := by omega
          go_wp2_with (at_builtin; refine wpList_push _ rfl _ _ 129 rfl _ 5 .u8 0 1 Try.underlying129 Try.info5 _ _ rfl hown X rfl (by omega) (by decide) ?_)
          intro v1 w1 hown1 hb1
          go_wp2
          go_roundw
          case rel => exact ⟨J + 1, p + 8, by omega, by go_num, by show _ = _; have := hpJ.out; omega, by rw [hst.out]; exact hown1, hb.trans hb1⟩
          case measure => simp [intOf]; omega
    · have hge : ¬ (p : Int) < (n : Int) := by omega
      have hJ : Hid (J = (n + 7) / 8) := by show _ = _; have := hpJ.out; omega
      have hc := Own.conv Try.underlying129 Try.underlying5 Try.underlying9 hown
      go_wp2
      go_ret
      exact ⟨ret_str (by rw [hJ.out]), hb⟩

set_option maxHeartbeats 800000 in
theorem spec_putBits_no (ao : Option Addr) (n cap : Nat) (xs : List Int) (w : World) (hn : n ≤ 1048576) (hv : View .i64 w ao n xs) (hbad : 480000 < n ∨ ¬ ∀ j, j < n → Bit (xs.getD j 0)) :
    Calls Try.prog 59 #[.slice ao n cap] w fun e w' => e = .returned (.string ⟨#[]⟩) ∧ Below w.heap.size w w' := by
  by_cases h : (480000 : Int) < (n : Int)
  · clear hbad
    go_enter Try.func59, Try.ntmps59
    go_wp2
    go_ret
    exact ⟨rfl, Below.refl _ _⟩
  · have HC := hid (specBits_no ao n cap xs w hn hv (by rcases hbad with h2 | h2; omega; exact h2))
    have hl : decide ((480000 : Int) < (n : Int)) = false := by simp; omega
    clear hbad hv
    go_enter Try.func59, Try.ntmps59
    go_wp2_with (go_at_call 52; refine HC.out.mono ?_; rintro e w' ⟨rfl, rfl⟩)
    go_ret
    exact ⟨rfl, Below.refl _ _⟩

/-- Both PutBits come to one text. -/
theorem both_putBits (n : Nat) (xs : List Int) (hn : n ≤ 1048576) : ∃ s : ByteArray,
    (∀ ao cap w, View .i64 w ao n xs → Calls Try.prog 59 #[.slice ao n cap] w fun e w' => e = .returned (.string s) ∧ Below w.heap.size w w') ∧
    (∀ ao cap w, View .i64 w ao n xs → Calls Try.prog 61 #[.slice ao n cap] w fun e w' => e = .returned (.string s) ∧ Below w.heap.size w w') := by
  by_cases h : 480000 < n ∨ ¬ ∀ j, j < n → Bit (xs.getD j 0)
  · exact ⟨⟨#[]⟩, fun ao cap w hv => spec_putBits_no ao n cap xs w hn hv h, fun ao cap w hv => impl_putBits_no ao n cap xs w hn hv h⟩
  · have h1 : ¬ 480000 < n := fun h2 => h (.inl h2)
    have h3 : ∀ j, j < n → Bit (xs.getD j 0) := Classical.byContradiction (fun h2 => h (.inr h2))
    exact ⟨_, fun ao cap w hv => spec_putBits ao n cap xs w (by omega) hv h3, fun ao cap w hv => impl_putBits ao n cap xs w (by omega) hv h3⟩

theorem both_bitsNum (n : Nat) (xs : List Int) (hn : n ≤ 1048576) : ∃ s : Int,
    (∀ ao cap w, View .i64 w ao n xs → Calls Try.prog 112 #[.slice ao n cap] w fun e w' => e = .returned (.int .i64 s) ∧ w = w') ∧
    (∀ ao cap w, View .i64 w ao n xs → Calls Try.prog 114 #[.slice ao n cap] w fun e w' => e = .returned (.int .i64 s) ∧ Below w.heap.size w w') := by
  by_cases h : 32 < n ∨ ¬ ∀ j, j < n → Bit (xs.getD j 0)
  · exact ⟨-1, fun ao cap w hv => spec_bitsNum_no ao n cap xs w hn hv h, fun ao cap w hv => impl_bitsNum_no ao n cap xs w hn hv h⟩
  · have h1 : ¬ 32 < n := fun h2 => h (.inl h2)
    have h3 : ∀ j, j < n → Bit (xs.getD j 0) := Classical.byContradiction (fun h2 => h (.inr h2))
    exact ⟨_, fun ao cap w hv => spec_bitsNum ao n cap xs w (by omega) hv h3, fun ao cap w hv => impl_bitsNum ao n cap xs w (by omega) hv h3⟩

end Go.Proofs.Ytcikmgdfelejpaa
