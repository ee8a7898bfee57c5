/- Learn, and the laws of Learn and CoderMid. -/
import Derived.Test.YtokmkijpfmopiaaCo
namespace Go.Proofs.Ytokmkijpfmopiaa
open Go.RowKit
set_option linter.unusedVariables false

/-- What Learn answers. -/
def lrn (p b : Int) : Int := if isCh p = true ∧ (0 ≤ b ∧ b ≤ 1) then (if b = 1 then p + (4096 - p) / 16 else p - p / 16) else p
theorem lrn_no {p b : Int} (h : ¬ (isCh p = true ∧ (0 ≤ b ∧ b ≤ 1))) : p = lrn p b := by
  unfold lrn
  rw [if_neg h]

set_option maxHeartbeats 400000 in
theorem impl_learn (p b : Int) (w : World) :
    Calls Try.prog 11 #[.int .i64 p, .int .i64 b] w fun e w' => e = .returned (.int .i64 (lrn p b)) ∧ w = w' := by
  have HC := hid (impl_ch p w)
  have HB := hid (impl_bit b w)
  by_cases hp : isCh p = true
  · rw [hp] at HC
    by_cases hb : 0 ≤ b ∧ b ≤ 1
    · rw [decide_eq_true hb] at HB
      obtain ⟨h1, h2⟩ := (isCh_iff p).1 hp
      obtain rfl | rfl : b = 0 ∨ b = 1 := by omega
      · have HL : Hid (p - p / 16 = lrn p 0) := by
          show _ = _
          unfold lrn
          rw [if_pos ⟨hp, by decide⟩, if_neg (by decide)]
        have d0 : 0 ≤ p / 16 := by omega
        have d1 : p / 16 ≤ p := by omega
        clear hp hb
        generalize lrn p 0 = R at *
        go_enter Try.func11, Try.ntmps11
        go_wp2_with (first | (go_at_call 28; refine HC.out.mono ?_; rintro e w1 ⟨rfl, rfl⟩) | (go_at_call 29; refine HB.out.mono ?_; rintro e w1 ⟨rfl, rfl⟩))
        go_ret
        exact ⟨ret_int HL.out, rfl⟩
      · have HL : Hid (p + (4096 - p) / 16 = lrn p 1) := by
          show _ = _
          unfold lrn
          rw [if_pos ⟨hp, by decide⟩, if_pos rfl]
        have d0 : 0 ≤ (4096 - p) / 16 := by omega
        have d1 : (4096 - p) / 16 ≤ 4096 - p := by omega
        have d2 : 0 ≤ 4096 - p := by omega
        clear hp hb
        generalize lrn p 1 = R at *
        go_enter Try.func11, Try.ntmps11
        go_wp2_with (first | (go_at_call 28; refine HC.out.mono ?_; rintro e w1 ⟨rfl, rfl⟩) | (go_at_call 29; refine HB.out.mono ?_; rintro e w1 ⟨rfl, rfl⟩))
        go_ret
        exact ⟨ret_int HL.out, rfl⟩
    · rw [decide_eq_false hb] at HB
      have HL := hid (lrn_no (p := p) (b := b) (fun h => hb h.2))
      clear hp hb
      generalize lrn p b = R at *
      go_enter Try.func11, Try.ntmps11
      go_wp2_with (first | (go_at_call 28; refine HC.out.mono ?_; rintro e w1 ⟨rfl, rfl⟩) | (go_at_call 29; refine HB.out.mono ?_; rintro e w1 ⟨rfl, rfl⟩))
      go_ret
      exact ⟨ret_int HL.out, rfl⟩
  · have HL := hid (lrn_no (p := p) (b := b) (fun h => hp h.1))
    rw [Bool.not_eq_true] at hp
    rw [hp] at HC
    clear hp
    generalize lrn p b = R at *
    go_enter Try.func11, Try.ntmps11
    go_wp2_with (first | (go_at_call 28; refine HC.out.mono ?_; rintro e w1 ⟨rfl, rfl⟩) | (go_at_call 29; refine HB.out.mono ?_; rintro e w1 ⟨rfl, rfl⟩))
    go_ret
    exact ⟨ret_int HL.out, rfl⟩

set_option maxHeartbeats 400000 in
theorem spec_learn (p b : Int) (w : World) :
    Calls Try.prog 12 #[.int .i64 p, .int .i64 b] w fun e w' => e = .returned (.int .i64 (lrn p b)) ∧ w = w' := by
  have HC := hid (spec_ch p w)
  have HB := hid (spec_in b 0 1 w)
  by_cases hp : isCh p = true
  · rw [hp] at HC
    by_cases hb : 0 ≤ b ∧ b ≤ 1
    · rw [decide_eq_true hb] at HB
      obtain ⟨h1, h2⟩ := (isCh_iff p).1 hp
      obtain rfl | rfl : b = 0 ∨ b = 1 := by omega
      · have HL : Hid (p - p / 16 = lrn p 0) := by
          show _ = _
          unfold lrn
          rw [if_pos ⟨hp, by decide⟩, if_neg (by decide)]
        have d0 : 0 ≤ p / 16 := by omega
        have d1 : p / 16 ≤ p := by omega
        clear hp hb
        generalize lrn p 0 = R at *
        go_enter Try.func12, Try.ntmps12
        go_wp2_with (first | (go_at_call 30; refine HC.out.mono ?_; rintro e w1 ⟨rfl, rfl⟩) | (go_at_call 31; refine HB.out.mono ?_; rintro e w1 ⟨rfl, rfl⟩))
        go_ret
        exact ⟨ret_int HL.out, rfl⟩
      · have HL : Hid (p + (4096 - p) / 16 = lrn p 1) := by
          show _ = _
          unfold lrn
          rw [if_pos ⟨hp, by decide⟩, if_pos rfl]
        have d0 : 0 ≤ (4096 - p) / 16 := by omega
        have d1 : (4096 - p) / 16 ≤ 4096 - p := by omega
        have d2 : 0 ≤ 4096 - p := by omega
        clear hp hb
        generalize lrn p 1 = R at *
        go_enter Try.func12, Try.ntmps12
        go_wp2_with (first | (go_at_call 30; refine HC.out.mono ?_; rintro e w1 ⟨rfl, rfl⟩) | (go_at_call 31; refine HB.out.mono ?_; rintro e w1 ⟨rfl, rfl⟩))
        go_ret
        exact ⟨ret_int HL.out, rfl⟩
    · rw [decide_eq_false hb] at HB
      have HL := hid (lrn_no (p := p) (b := b) (fun h => hb h.2))
      clear hp hb
      generalize lrn p b = R at *
      go_enter Try.func12, Try.ntmps12
      go_wp2_with (first | (go_at_call 30; refine HC.out.mono ?_; rintro e w1 ⟨rfl, rfl⟩) | (go_at_call 31; refine HB.out.mono ?_; rintro e w1 ⟨rfl, rfl⟩))
      go_ret
      exact ⟨ret_int HL.out, rfl⟩
  · have HL := hid (lrn_no (p := p) (b := b) (fun h => hp h.1))
    rw [Bool.not_eq_true] at hp
    rw [hp] at HC
    clear hp
    generalize lrn p b = R at *
    go_enter Try.func12, Try.ntmps12
    go_wp2_with (first | (go_at_call 30; refine HC.out.mono ?_; rintro e w1 ⟨rfl, rfl⟩) | (go_at_call 31; refine HB.out.mono ?_; rintro e w1 ⟨rfl, rfl⟩))
    go_ret
    exact ⟨ret_int HL.out, rfl⟩

theorem law_learn (p b : Int) (w : World) :
    Calls Try.prog 8 #[.int .i64 p, .int .i64 b] w fun e w' => e = .returned (.bool true) ∧ Below w.heap.size w w' := by
  have HS := hid (spec_learn p b w)
  have HI := hid (impl_learn p b w)
  generalize lrn p b = R at *
  go_enter Try.func8, Try.ntmps8
  go_wp2_with fail
  refine HS.out.mono ?_
  rintro e w1 ⟨rfl, rfl⟩
  go_wp2_with fail
  refine HI.out.mono ?_
  rintro e w1 ⟨rfl, rfl⟩
  go_wp2_with fail
  go_ret
  exact ⟨rfl, Below.refl _ _⟩
theorem law_mid (lo hi p : Int) (w : World) (hl : (Lit.int .u32 lo).wf = true) (hh : (Lit.int .u32 hi).wf = true) :
    Calls Try.prog 5 #[.int .u32 lo, .int .u32 hi, .int .i64 p] w fun e w' => e = .returned (.bool true) ∧ Below w.heap.size w w' := by
  obtain ⟨l0, l1⟩ := bounds_u32 hl
  obtain ⟨h0, h1⟩ := bounds_u32 hh
  have HS := hid (spec_mid lo hi p w ⟨l0, by omega⟩ ⟨h0, by omega⟩)
  have HI := hid (impl_mid lo hi p w ⟨l0, by omega⟩ ⟨h0, by omega⟩)
  clear hl hh l0 l1 h0 h1
  generalize cMid lo hi p = R at *
  go_enter Try.func5, Try.ntmps5
  go_wp2_with fail
  refine HS.out.mono ?_
  rintro e w1 ⟨rfl, rfl⟩
  go_wp2_with fail
  refine HI.out.mono ?_
  rintro e w1 ⟨rfl, rfl⟩
  go_wp2_with fail
  go_ret
  exact ⟨rfl, Below.refl _ _⟩
end Go.Proofs.Ytokmkijpfmopiaa
