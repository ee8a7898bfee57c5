/- The contract of l02Least. -/
import Derived.Test.YtmdmolofiblbmaaTm
import Derived.BigQuiet
import Derived.Deep.CutRange
namespace Go.Proofs.Ytmdmolofiblbmaa
open Go.RowKit
set_option linter.unusedVariables false

set_option maxRecDepth 100000 in
set_option maxHeartbeats 6400000 in
theorem spec_least (v : Value) (base : Nat) (E : List TE) (w : World) (hT : TrL w base v E) (hn : 1 ≤ E.length) (hl : E.length ≤ 1000) :
    Calls Try.prog 64 #[v] w fun e w' => e = .returned (.int .i64 (least E)) ∧ ∃ q, w' = w.drewN q := by
  have HT := hid hT
  obtain ⟨ao, cap, rfl⟩ := hT.shape
  obtain ⟨g, rfl⟩ : ∃ g, ao = some ⟨g, 0, none⟩ := by
    rcases hT.2.1.2 with ⟨hv, h0⟩ | ⟨g, c, cur, hv, _⟩
    · omega
    · cases hv
      exact ⟨g, rfl⟩
  have HC := hid (fun j (hj : j < E.length) => (show w.cell? ⟨g, j * 3, none⟩ = some (.int .i64 (nthE E j).w) ∧ w.cell? ⟨g, j * 3 + 1, none⟩ = some (.int .i64 (nthE E j).l) from ⟨hT.cells _ _ (flE_at E j hj).1, hT.cells _ _ (flE_at E j hj).2.1⟩))
  have HL : Hid (least E = leastTo E (E.length - 1)) := rfl
  generalize hN : E.length = N at *
  clear hT hN
  go_enter Try.func64, Try.ntmps64
  go_wp2_with fail
  go_loopw [3, 4] (fun b i wr => ∃ k : Nat, k + 1 ≤ N ∧ i = .int .i64 ((k + 1 : Nat) : Int) ∧ b = .int .i64 (leastTo E k) ∧ ∃ q, wr = w.drewN q) (fun _ i _ => N - (intOf i).toNat)
  case atStart => exact ⟨0, by omega, rfl, rfl, 0, rfl⟩
  case round =>
    obtain ⟨k, hk, rfl, rfl, q, rfl⟩ := hrel
    by_cases hlt : k + 1 < N
    · have hlt' : ((k + 1 : Nat) : Int) < (N : Int) := by omega
      have hle := leastTo_le E k
      obtain ⟨a0, a1⟩ := HC.out (k + 1) hlt
      obtain ⟨b0, b1⟩ := HC.out (leastTo E k) (by omega)
      have hbl : (leastTo E k : Int) < (N : Int) := by omega
      have HST : Hid (leastTo E (k + 1) = if bet (nthE E (k + 1)) (nthE E (leastTo E k)) = true then k + 1 else leastTo E k) := rfl
      obtain ⟨m, hm⟩ : ∃ m, leastTo E k = m := ⟨_, rfl⟩
      rw [hm] at HST b0 b1 hbl hle ⊢
      obtain ⟨i, hi⟩ : ∃ i, k + 1 = i := ⟨_, rfl⟩
      have HIK := hid hi
      have HM := hid hm
      rw [hi] at HST a0 a1 hlt' hlt ⊢
      have HLT := hid hlt
      clear hm hi
      by_cases h1 : (nthE E i).w < (nthE E m).w
      · have HR : Hid (leastTo E (k + 1) = i) := by
          show _ = _
          rw [HIK.out, HST.out, if_pos (bet_lt h1)]
        generalize (nthE E i).w = W1 at *
        generalize (nthE E m).w = W2 at *
        generalize (nthE E i).l = L1 at *
        generalize (nthE E m).l = L2 at *
        go_wp2_with fail
        go_quiet (fail)
        go_wp2_with fail
        go_roundw
        case rel => exact ⟨k + 1, by have h8 := HLT.out; have h9 := HIK.out; omega, by rw [← HIK.out]; go_num, by rw [HR.out], _, rfl⟩
        case measure => have h8 := HLT.out; simp [intOf]; omega
      · by_cases h2 : (nthE E i).w = (nthE E m).w
        · by_cases h3 : (nthE E i).l < (nthE E m).l
          · have HR : Hid (leastTo E (k + 1) = i) := by
              show _ = _
              rw [HIK.out, HST.out, if_pos (by rw [bet_eq h2]; exact decide_eq_true h3)]
            rw [h2] at a0
            clear h1 h2
            generalize (nthE E m).w = W2 at *
            generalize (nthE E i).l = L1 at *
            generalize (nthE E m).l = L2 at *
            go_wp2_with fail
            go_quiet (fail)
            go_wp2_with fail
            go_roundw
            case rel => exact ⟨k + 1, by have h8 := HLT.out; have h9 := HIK.out; omega, by rw [← HIK.out]; go_num, by rw [HR.out], _, rfl⟩
            case measure => have h8 := HLT.out; simp [intOf]; omega
          · have HR : Hid (leastTo E (k + 1) = m) := by
              show _ = _
              rw [HIK.out, HST.out, if_neg (by rw [bet_eq h2, decide_eq_false h3]; decide)]
            rw [h2] at a0
            clear h1 h2
            generalize (nthE E m).w = W2 at *
            generalize (nthE E i).l = L1 at *
            generalize (nthE E m).l = L2 at *
            go_wp2_with fail
            go_quiet (fail)
            go_wp2_with fail
            go_roundw
            case rel => exact ⟨k + 1, by have h8 := HLT.out; have h9 := HIK.out; omega, by rw [← HIK.out]; go_num, by rw [HR.out], _, rfl⟩
            case measure => have h8 := HLT.out; simp [intOf]; omega
        · have HR : Hid (leastTo E (k + 1) = m) := by
            show _ = _
            rw [HIK.out, HST.out, if_neg (by rw [bet_gt h1 h2]; decide)]
          generalize (nthE E i).w = W1 at *
          generalize (nthE E m).w = W2 at *
          generalize (nthE E i).l = L1 at *
          generalize (nthE E m).l = L2 at *
          go_wp2_with fail
          go_quiet (fail)
          go_wp2_with fail
          go_roundw
          case rel => exact ⟨k + 1, by have h8 := HLT.out; have h9 := HIK.out; omega, by rw [← HIK.out]; go_num, by rw [HR.out], _, rfl⟩
          case measure => have h8 := HLT.out; simp [intOf]; omega
    · obtain rfl : k + 1 = N := by omega
      have hd : ¬ ((k + 1 : Nat) : Int) < ((k + 1 : Nat) : Int) := by omega
      rw [Nat.add_sub_cancel] at HL
      have HLL := hid HL.out
      clear hlt
      go_wp2_with fail
      go_ret
      exact ⟨ret_int (by rw [HLL.out]), _, rfl⟩
end Go.Proofs.Ytmdmolofiblbmaa
