/- The laws of NextSlot and PlanNum. -/
import Derived.Test.YtimafabbepgifaaNs
import Derived.Test.YtimafabbepgifaaWo
import Derived.Test.YtimafabbepgifaaMk
namespace Go.Proofs.Ytimafabbepgifaa
open Go.RowKit
set_option linter.unusedVariables false

theorem nextS_or (l : List Int) : -2 ≤ (nextS l).1 ∧ (nextS l).1 ≤ 1000 := by
  rw [← next_eq]
  show -2 ≤ (outI (wkOver wk0 l)).1 ∧ _
  have hok := over_ok (l := l) WkOk.zero
  have e : nextI l = outI (wkOver wk0 l) := rfl
  rw [e]
  generalize wkOver wk0 l = R at *
  cases R with
  | none => exact ⟨by decide, by decide⟩
  | some s =>
    have ho := hok s rfl
    unfold outI
    simp only
    by_cases h4 : s.part = 4
    · rw [if_pos h4]
      exact ⟨by show (-2 : Int) ≤ -1; decide, by show (-1 : Int) ≤ 1000; decide⟩
    · rw [if_neg h4]
      have hb := ho.bounds h4
      have h12 : s.rest ≤ 11 ∨ s.part ≠ 3 := by
        rcases ho with ⟨h1, rfl⟩ | ⟨h1, h2, h3, h5⟩ | ⟨h1, h2, h3, h5, h6⟩ | ⟨h1, h2, h3, h5, h6, h7, h8⟩ | ⟨h1, h2, h3⟩
        · exact .inl (by decide)
        · omega
        · omega
        · omega
        · exact absurd h1 h4
      unfold wkSlot
      simp only
      have h13 : s.size ≤ 100 := by
        rcases ho with ⟨h1, rfl⟩ | ⟨h1, h2, h3, h5⟩ | ⟨h1, h2, h3, h5, h6⟩ | ⟨h1, h2, h3, h5, h6, h7, h8⟩ | ⟨h1, h2, h3⟩
        · decide
        · omega
        · omega
        · omega
        · exact absurd h1 h4
      have h14 : s.rest ≤ 11 := by
        rcases ho with ⟨h1, rfl⟩ | ⟨h1, h2, h3, h5⟩ | ⟨h1, h2, h3, h5, h6⟩ | ⟨h1, h2, h3, h5, h6, h7, h8⟩ | ⟨h1, h2, h3⟩
        · decide
        · omega
        · omega
        · omega
        · exact absurd h1 h4
      omega

set_option maxHeartbeats 400000 in
theorem spec_nextSlot (v : Value) (xs : List Int) (w : World) (hn : xs.length ≤ 1048576) (h : Vw w v xs) :
    Calls Try.prog 75 #[v] w fun e w' => e = .returned (.int .i64 (max (-1) (nextS xs).1)) ∧ ∃ q, w' = w.drewN q := by
  obtain ⟨ao, cap, rfl, hv, hc⟩ := h
  have HN := hid (spec_next ao xs.length cap xs w hn hc hv)
  have hb := nextS_or xs
  unfold nxV at HN
  generalize nextS xs = R at *
  obtain ⟨R1, R2⟩ := R
  simp only at *
  clear hv
  by_cases h0 : R1 < 0
  · have HM : Hid (-1 = max (-1) R1) := by show _ = _; omega
    go_enter Try.func75, Try.ntmps75
    go_wp2_with fail
    refine HN.out.mono ?_
    rintro e w1 ⟨rfl, q, rfl⟩
    go_wp2_with fail
    go_ret
    exact ⟨ret_int HM.out, q, rfl⟩
  · have HM : Hid (R1 = max (-1) R1) := by show _ = _; omega
    go_enter Try.func75, Try.ntmps75
    go_wp2_with fail
    refine HN.out.mono ?_
    rintro e w1 ⟨rfl, q, rfl⟩
    go_wp2_with fail
    go_ret
    exact ⟨ret_int HM.out, q, rfl⟩

end Go.Proofs.Ytimafabbepgifaa
