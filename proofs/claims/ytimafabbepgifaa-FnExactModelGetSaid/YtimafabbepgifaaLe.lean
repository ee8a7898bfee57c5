/- Learn, and the laws of Learn and CoderMid. -/
import Derived.Test.YtimafabbepgifaaCo
namespace Go.Proofs.Ytimafabbepgifaa
open Go.RowKit
set_option linter.unusedVariables false

/-- What Learn answers. -/
def lrn (p b : Int) : Int := if isCh p = true ∧ (0 ≤ b ∧ b ≤ 1) then (if b = 1 then p + (4096 - p) / 16 else p - p / 16) else p
theorem lrn_no {p b : Int} (h : ¬ (isCh p = true ∧ (0 ≤ b ∧ b ≤ 1))) : p = lrn p b := by
  unfold lrn
  rw [if_neg h]

set_option maxHeartbeats 400000 in
theorem impl_learn (p b : Int) (w : World) :
    Calls Try.prog 66 #[.int .i64 p, .int .i64 b] w fun e w' => e = .returned (.int .i64 (lrn p b)) ∧ w = w' := by
  have HC := hid (impl_ch p w)
  have HB := hid (impl_bit b w)
  by_cases hp : isCh p = true
  · rw [hp] at HC
    by_cases hb : 0 ≤ b ∧ b ≤ 1
    · rw [decide_eq_true hb] at HB
      obtain ⟨h1, h2⟩ := (isCh_iff p).1 hp
      obtain rfl | rfl : b = 0 ∨ b = 1 := by omega
      · have HL : Hid (p - p / 16 = lrn p 0) := by
          show _ = _
          unfold lrn
          rw [if_pos ⟨hp, by decide⟩, if_neg (by decide)]
        have d0 : 0 ≤ p / 16 := by omega
        have d1 : p / 16 ≤ p := by omega
        clear hp hb
        generalize lrn p 0 = R at *
        go_enter Try.func66, Try.ntmps66
        go_wp2_with (first | (go_at_call 68; refine HC.out.mono ?_; rintro e w1 ⟨rfl, rfl⟩) | (go_at_call 94; refine HB.out.mono ?_; rintro e w1 ⟨rfl, rfl⟩))
        go_ret
        exact ⟨ret_int HL.out, rfl⟩
      · have HL : Hid (p + (4096 - p) / 16 = lrn p 1) := by
          show _ = _
          unfold lrn
          rw [if_pos ⟨hp, by decide⟩, if_pos rfl]
        have d0 : 0 ≤ (4096 - p) / 16 := by omega
        have d1 : (4096 - p) / 16 ≤ 4096 - p := by omega
        have d2 : 0 ≤ 4096 - p := by omega
        clear hp hb
        generalize lrn p 1 = R at *
        go_enter Try.func66, Try.ntmps66
        go_wp2_with (first | (go_at_call 68; refine HC.out.mono ?_; rintro e w1 ⟨rfl, rfl⟩) | (go_at_call 94; refine HB.out.mono ?_; rintro e w1 ⟨rfl, rfl⟩))
        go_ret
        exact ⟨ret_int HL.out, rfl⟩
    · rw [decide_eq_false hb] at HB
      have HL := hid (lrn_no (p := p) (b := b) (fun h => hb h.2))
      clear hp hb
      generalize lrn p b = R at *
      go_enter Try.func66, Try.ntmps66
      go_wp2_with (first | (go_at_call 68; refine HC.out.mono ?_; rintro e w1 ⟨rfl, rfl⟩) | (go_at_call 94; refine HB.out.mono ?_; rintro e w1 ⟨rfl, rfl⟩))
      go_ret
      exact ⟨ret_int HL.out, rfl⟩
  · have HL := hid (lrn_no (p := p) (b := b) (fun h => hp h.1))
    rw [Bool.not_eq_true] at hp
    rw [hp] at HC
    clear hp
    generalize lrn p b = R at *
    go_enter Try.func66, Try.ntmps66
    go_wp2_with (first | (go_at_call 68; refine HC.out.mono ?_; rintro e w1 ⟨rfl, rfl⟩) | (go_at_call 94; refine HB.out.mono ?_; rintro e w1 ⟨rfl, rfl⟩))
    go_ret
    exact ⟨ret_int HL.out, rfl⟩

set_option maxHeartbeats 400000 in
theorem spec_learn (p b : Int) (w : World) :
    Calls Try.prog 77 #[.int .i64 p, .int .i64 b] w fun e w' => e = .returned (.int .i64 (lrn p b)) ∧ w = w' := by
  have HC := hid (spec_ch p w)
  have HB := hid (spec_in b 0 1 w)
  by_cases hp : isCh p = true
  · rw [hp] at HC
    by_cases hb : 0 ≤ b ∧ b ≤ 1
    · rw [decide_eq_true hb] at HB
      obtain ⟨h1, h2⟩ := (isCh_iff p).1 hp
      obtain rfl | rfl : b = 0 ∨ b = 1 := by omega
      · have HL : Hid (p - p / 16 = lrn p 0) := by
          show _ = _
          unfold lrn
          rw [if_pos ⟨hp, by decide⟩, if_neg (by decide)]
        have d0 : 0 ≤ p / 16 := by omega
        have d1 : p / 16 ≤ p := by omega
        clear hp hb
        generalize lrn p 0 = R at *
        go_enter Try.func77, Try.ntmps77
        go_wp2_with (first | (go_at_call 72; refine HC.out.mono ?_; rintro e w1 ⟨rfl, rfl⟩) | (go_at_call 51; refine HB.out.mono ?_; rintro e w1 ⟨rfl, rfl⟩))
        go_ret
        exact ⟨ret_int HL.out, rfl⟩
      · have HL : Hid (p + (4096 - p) / 16 = lrn p 1) := by
          show _ = _
          unfold lrn
          rw [if_pos ⟨hp, by decide⟩, if_pos rfl]
        have d0 : 0 ≤ (4096 - p) / 16 := by omega
        have d1 : (4096 - p) / 16 ≤ 4096 - p := by omega
        have d2 : 0 ≤ 4096 - p := by omega
        clear hp hb
        generalize lrn p 1 = R at *
        go_enter Try.func77, Try.ntmps77
        go_wp2_with (first | (go_at_call 72; refine HC.out.mono ?_; rintro e w1 ⟨rfl, rfl⟩) | (go_at_call 51; refine HB.out.mono ?_; rintro e w1 ⟨rfl, rfl⟩))
        go_ret
        exact ⟨ret_int HL.out, rfl⟩
    · rw [decide_eq_false hb] at HB
      have HL := hid (lrn_no (p := p) (b := b) (fun h => hb h.2))
      clear hp hb
      generalize lrn p b = R at *
      go_enter Try.func77, Try.ntmps77
      go_wp2_with (first | (go_at_call 72; refine HC.out.mono ?_; rintro e w1 ⟨rfl, rfl⟩) | (go_at_call 51; refine HB.out.mono ?_; rintro e w1 ⟨rfl, rfl⟩))
      go_ret
      exact ⟨ret_int HL.out, rfl⟩
  · have HL := hid (lrn_no (p := p) (b := b) (fun h => hp h.1))
    rw [Bool.not_eq_true] at hp
    rw [hp] at HC
    clear hp
    generalize lrn p b = R at *
    go_enter Try.func77, Try.ntmps77
    go_wp2_with (first | (go_at_call 72; refine HC.out.mono ?_; rintro e w1 ⟨rfl, rfl⟩) | (go_at_call 51; refine HB.out.mono ?_; rintro e w1 ⟨rfl, rfl⟩))
    go_ret
    exact ⟨ret_int HL.out, rfl⟩

end Go.Proofs.Ytimafabbepgifaa
