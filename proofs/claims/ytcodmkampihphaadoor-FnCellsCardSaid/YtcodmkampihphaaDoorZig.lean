/- The way over the square; the contract of the specification's Zigzag; what the program's array of the way holds. -/
import Derived.Test.YtcodmkampihphaaDoorRows
import Derived.Test.YtcodmkampihphaaDoorInts
import Derived.Lib.LaidTab
import Derived.Deep.QuietTactic
import Derived.BigQuiet
namespace Go.Proofs.YtcodmkampihphaaDoor
open Go.RowKit
set_option linter.unusedVariables false

/-- The way over the square. -/
def zt : List Int := [0, 1, 8, 16, 9, 2, 3, 10, 17, 24, 32, 25, 18, 11, 4, 5, 12, 19, 26, 33, 40, 48, 41, 34, 27, 20, 13, 6, 7, 14, 21, 28, 35, 42, 49, 56, 57, 50, 43, 36, 29, 22, 15, 23, 30, 37, 44, 51, 58, 59, 52, 45, 38, 31, 39, 46, 53, 60, 61, 54, 47, 55, 62, 63]
theorem zt_len : zt.length = 64 := rfl
theorem zt_bd : ∀ k : Fin 64, 0 ≤ zt.getD k.val 0 ∧ zt.getD k.val 0 ≤ 63 := by decide +kernel
/-- The row of a place of the way, and its column. -/
def zr (k : Int) : Int := if 0 ≤ k ∧ k ≤ 63 then zt.getD k.toNat 0 / 8 else -1
def zc (k : Int) : Int := if 0 ≤ k ∧ k ≤ 63 then zt.getD k.toNat 0 % 8 else -1
theorem zr_in {k : Int} (h : 0 ≤ k ∧ k ≤ 63) : zr k = zt.getD k.toNat 0 / 8 := by unfold zr; rw [if_pos h]
theorem zc_in {k : Int} (h : 0 ≤ k ∧ k ≤ 63) : zc k = zt.getD k.toNat 0 % 8 := by unfold zc; rw [if_pos h]
theorem zr_out {k : Int} (h : ¬ (0 ≤ k ∧ k ≤ 63)) : zr k = -1 := by unfold zr; rw [if_neg h]
theorem zc_out {k : Int} (h : ¬ (0 ≤ k ∧ k ≤ 63)) : zc k = -1 := by unfold zc; rw [if_neg h]

/-- Whether the place i of the diagonal d lies in the square. -/
def inSq (d i : Nat) : Bool := decide (d - i ≤ 7) && decide (i ≤ 7)
/-- How many of the first i places of a diagonal lie in the square. -/
def dia (d : Nat) : Nat → Nat
  | 0 => 0
  | i + 1 => dia d i + (if inSq d i then 1 else 0)
/-- How many places lie in the diagonals ahead. -/
def dias : Nat → Nat
  | 0 => 0
  | d + 1 => dias d + dia d (d + 1)
theorem dias15 : dias 15 = 64 := by decide +kernel
theorem dia_all : ∀ d : Fin 15, ∀ i : Fin 15, i.val ≤ d.val → inSq d.val i.val = true → zt.getD (dias d.val + dia d.val i.val) 0 = (if d.val % 2 = 0 then 8 * ((d.val : Int) - i.val) + i.val else 8 * (i.val : Int) + (d.val - i.val)) := by decide +kernel
theorem dia_bd : ∀ d : Fin 15, ∀ i : Fin 16, dias d.val + dia d.val i.val ≤ 64 := by decide +kernel
theorem inSq_iff (d i : Nat) (h : i ≤ d) : inSq d i = true ↔ ((d : Int) - i ≤ 7 ∧ (i : Int) ≤ 7) := by
  unfold inSq
  rw [Bool.and_eq_true, decide_eq_true_eq, decide_eq_true_eq]
  omega
theorem dia_yes (d i : Nat) (h : (d : Int) - i ≤ 7 ∧ (i : Int) ≤ 7) (hi : i ≤ d) : dia d (i + 1) = dia d i + 1 := by
  rw [dia, (inSq_iff d i hi).2 h]
  rfl
theorem dia_no (d i : Nat) (h : ¬ ((d : Int) - i ≤ 7 ∧ (i : Int) ≤ 7)) (hi : i ≤ d) : dia d (i + 1) = dia d i := by
  have : inSq d i = false := by
    rw [← Bool.not_eq_true, inSq_iff d i hi]
    exact h
  rw [dia, this]
  rfl
theorem even_at (d i : Nat) (hd : d < 15) (hi : i ≤ d) (he : d % 2 = 0) (h : (d : Int) - i ≤ 7 ∧ (i : Int) ≤ 7) : zt.getD (dias d + dia d i) 0 = 8 * ((d : Int) - i) + i := by
  have := dia_all ⟨d, hd⟩ ⟨i, by omega⟩ hi ((inSq_iff d i hi).2 h)
  simpa [he] using this
theorem odd_at (d i : Nat) (hd : d < 15) (hi : i ≤ d) (he : ¬ d % 2 = 0) (h : (d : Int) - i ≤ 7 ∧ (i : Int) ≤ 7) : zt.getD (dias d + dia d i) 0 = 8 * (i : Int) + ((d : Int) - i) := by
  have := dia_all ⟨d, hd⟩ ⟨i, by omega⟩ hi ((inSq_iff d i hi).2 h)
  simp only [if_neg he] at this
  exact this

theorem ret_two {k : IntKind} {a b c d : Int} (h : a = b) (h2 : c = d) : Ending.returned (.tuple #[.int k a, .int k c]) = .returned (.tuple #[.int k b, .int k d]) := by rw [h, h2]
theorem gTab : Tryd.prog.globalNamed "loop.example/g00120/impl.zigzagWay" = some 0 := by kernel_rfl
def WayAt (w : World) : Prop := Lib.TabIs Tryd.prog w "loop.example/g00120/impl.zigzagWay" .i64 zt
theorem WayAt.cell {w : World} (h : WayAt w) (i : Nat) (hi : i < 64) : w.cell? ⟨0, i, none⟩ = some (.int .i64 (zt.getD i 0)) := Lib.TabIs.cell h gTab i (by rw [zt_len]; exact hi)

set_option maxHeartbeats 1600000 in
theorem spec_zigzag (k : Int) (w : World) :
    Calls Tryd.prog 40 #[.int .i64 k] w fun e w' => e = .returned (.tuple #[.int .i64 (zr k), .int .i64 (zc k)]) ∧ w = w' := by
  by_cases a : 0 ≤ k ∧ k ≤ 63
  · have h1 := hid (zr_in a)
    have h2 := hid (zc_in a)
    have HS := hid (spec_in k 0 63 w)
    rw [show decide ((0 : Int) ≤ k ∧ k ≤ 63) = true by simpa using a] at HS
    obtain ⟨j, rfl⟩ := Int.eq_ofNat_of_zero_le a.1
    have hj : j < 64 := by omega
    rw [show ((j : Int)).toNat = j by omega] at h1 h2
    clear a
    go_enter Tryd.func40, Tryd.ntmps40
    go_wp2_with fail
    refine HS.out.mono ?_
    rintro e w1 ⟨rfl, rfl⟩
    go_wp2_with fail
    go_loop [4, 5] (fun n d => ∃ D : Nat, D ≤ 15 ∧ n = .int .i64 (dias D) ∧ d = .int .i64 D ∧ Hid (dias D ≤ j)) (fun _ d => 15 - (intOf d).toNat)
    case atStart => exact ⟨0, by omega, rfl, rfl, Nat.zero_le _⟩
    case round =>
      obtain ⟨D, hD, rfl, rfl, hle⟩ := hrel
      by_cases hlt : D < 15
      · have hb0 := dia_bd ⟨D, hlt⟩ 0
        go_wp2_with fail
        go_loop [4, 6] (fun n i => ∃ I : Nat, I ≤ D + 1 ∧ n = .int .i64 (dias D + dia D I) ∧ i = .int .i64 I ∧ Hid (dias D + dia D I ≤ j)) (fun _ i => D + 1 - (intOf i).toNat)
        case atStart => exact ⟨0, by omega, rfl, rfl, hle.out⟩
        case round =>
          obtain ⟨I, hI, rfl, rfl, hle2⟩ := hrel
          by_cases hi : I ≤ D
          · have hbd := dia_bd ⟨D, hlt⟩ ⟨I, by omega⟩
            have HY := hid (fun h => dia_yes D I h hi)
            have HN := hid (fun h => dia_no D I h hi)
            have HE := hid (fun he h => even_at D I hlt hi he h)
            have HO := hid (fun he h => odd_at D I hlt hi he h)
            simp only at hbd
            by_cases hq : (D : Int) - I ≤ 7 ∧ (I : Int) ≤ 7
            · have q1 := hq.1
              have q2 := hq.2
              have HY2 := hid (HY.out hq)
              by_cases he : D % 2 = 0
              · have he2 : ((D : Int) % 2 == 0) = true := by simp; omega
                have HZ := hid (HE.out he hq)
                by_cases hk : dias D + dia D I = j
                · have hk2 : (((dias D : Nat) : Int) + (dia D I : Nat) == (j : Int)) = true := by simp; omega
                  rw [hk] at HZ
                  clear HY HN HE HO hq HY2
                  go_wp2_with fail
                  go_ret2
                  exact ⟨ret_two (by rw [h1.out, HZ.out]; omega) (by rw [h2.out, HZ.out]; omega), rfl⟩
                · have hk2 : (((dias D : Nat) : Int) + (dia D I : Nat) == (j : Int)) = false := by simp; omega
                  clear HY HN HE HO hq HZ
                  go_wp2_with fail
                  go_round
                  case rel => exact ⟨I + 1, by omega, val_int (by rw [HY2.out]; omega), by go_num, by show _ ≤ _; have := hle2.out; rw [HY2.out]; omega⟩
                  case measure => simp [intOf]; omega
              · have he2 : ((D : Int) % 2 == 0) = false := by simp; omega
                have HZ := hid (HO.out he hq)
                by_cases hk : dias D + dia D I = j
                · have hk2 : (((dias D : Nat) : Int) + (dia D I : Nat) == (j : Int)) = true := by simp; omega
                  rw [hk] at HZ
                  clear HY HN HE HO hq HY2
                  go_wp2_with fail
                  go_ret2
                  exact ⟨ret_two (by rw [h1.out, HZ.out]; omega) (by rw [h2.out, HZ.out]; omega), rfl⟩
                · have hk2 : (((dias D : Nat) : Int) + (dia D I : Nat) == (j : Int)) = false := by simp; omega
                  clear HY HN HE HO hq HZ
                  go_wp2_with fail
                  go_round
                  case rel => exact ⟨I + 1, by omega, val_int (by rw [HY2.out]; omega), by go_num, by show _ ≤ _; have := hle2.out; rw [HY2.out]; omega⟩
                  case measure => simp [intOf]; omega
            · have HN2 := hid (HN.out hq)
              clear HY HN HE HO
              by_cases he : D % 2 = 0
              · have he2 : ((D : Int) % 2 == 0) = true := by simp; omega
                go_wp2_with fail
                all_goals first
                  | (exfalso; omega)
                  | (go_round
                     case rel => exact ⟨I + 1, by omega, val_int (by rw [HN2.out]), by go_num, by show _ ≤ _; rw [HN2.out]; exact hle2.out⟩
                     case measure => simp [intOf]; omega)
              · have he2 : ((D : Int) % 2 == 0) = false := by simp; omega
                go_wp2_with fail
                all_goals first
                  | (exfalso; omega)
                  | (go_round
                     case rel => exact ⟨I + 1, by omega, val_int (by rw [HN2.out]), by go_num, by show _ ≤ _; rw [HN2.out]; exact hle2.out⟩
                     case measure => simp [intOf]; omega)
          · obtain rfl : I = D + 1 := by omega
            go_wp2_with fail
            go_round
            case rel => exact ⟨D + 1, by omega, rfl, by go_num, hle2.out⟩
            case measure => simp [intOf]; omega
      · obtain rfl : D = 15 := by omega
        exfalso
        have := hle.out
        rw [dias15] at this
        omega
  · have h1 := hid (zr_out a)
    have h2 := hid (zc_out a)
    have HS := hid (spec_in k 0 63 w)
    rw [show decide ((0 : Int) ≤ k ∧ k ≤ 63) = false by simpa using a] at HS
    clear a
    go_enter Tryd.func40, Tryd.ntmps40
    go_wp2_with fail
    refine HS.out.mono ?_
    rintro e w1 ⟨rfl, rfl⟩
    go_wp2_with fail
    go_ret2
    exact ⟨ret_two h1.out.symm h2.out.symm, rfl⟩

theorem WayAt.below {w w' : World} (h : WayAt w) (hb : Below w.heap.size w w') : WayAt w' := by
  have h0 : (0 : Nat) < w.heap.size := World.block_lt_of_cell? w _ (h.cell 0 (by decide))
  have e := hb.block 0 h0
  unfold WayAt Lib.TabIs at *
  simp only [World.var?, gTab, Option.bind_some] at h ⊢
  rw [e]
  exact h

end Go.Proofs.YtcodmkampihphaaDoor
