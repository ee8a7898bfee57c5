/- The laws of NextSlot and PlanNum. -/
import Derived.Test.YtckpdmgmeolepaaNs
import Derived.Test.YtckpdmgmeolepaaWo
import Derived.Test.YtckpdmgmeolepaaMk
namespace Go.Proofs.Ytckpdmgmeolepaa
open Go.RowKit
set_option linter.unusedVariables false

theorem nextS_or (l : List Int) : -2 ≤ (nextS l).1 ∧ (nextS l).1 ≤ 1000 := by
  rw [← next_eq]
  show -2 ≤ (outI (wkOver wk0 l)).1 ∧ _
  have hok := over_ok (l := l) WkOk.zero
  have e : nextI l = outI (wkOver wk0 l) := rfl
  rw [e]
  generalize wkOver wk0 l = R at *
  cases R with
  | none => exact ⟨by decide, by decide⟩
  | some s =>
    have ho := hok s rfl
    unfold outI
    simp only
    by_cases h4 : s.part = 4
    · rw [if_pos h4]
      exact ⟨by show (-2 : Int) ≤ -1; decide, by show (-1 : Int) ≤ 1000; decide⟩
    · rw [if_neg h4]
      have hb := ho.bounds h4
      have h12 : s.rest ≤ 11 ∨ s.part ≠ 3 := by
        rcases ho with ⟨h1, rfl⟩ | ⟨h1, h2, h3, h5⟩ | ⟨h1, h2, h3, h5, h6⟩ | ⟨h1, h2, h3, h5, h6, h7, h8⟩ | ⟨h1, h2, h3⟩
        · exact .inl (by decide)
        · omega
        · omega
        · omega
        · exact absurd h1 h4
      unfold wkSlot
      simp only
      have h13 : s.size ≤ 100 := by
        rcases ho with ⟨h1, rfl⟩ | ⟨h1, h2, h3, h5⟩ | ⟨h1, h2, h3, h5, h6⟩ | ⟨h1, h2, h3, h5, h6, h7, h8⟩ | ⟨h1, h2, h3⟩
        · decide
        · omega
        · omega
        · omega
        · exact absurd h1 h4
      have h14 : s.rest ≤ 11 := by
        rcases ho with ⟨h1, rfl⟩ | ⟨h1, h2, h3, h5⟩ | ⟨h1, h2, h3, h5, h6⟩ | ⟨h1, h2, h3, h5, h6, h7, h8⟩ | ⟨h1, h2, h3⟩
        · decide
        · omega
        · omega
        · omega
        · exact absurd h1 h4
      omega

set_option maxHeartbeats 400000 in
theorem spec_nextSlot (v : Value) (xs : List Int) (w : World) (hn : xs.length ≤ 1048576) (h : Vw w v xs) :
    Calls Try.prog 20 #[v] w fun e w' => e = .returned (.int .i64 (max (-1) (nextS xs).1)) ∧ ∃ q, w' = w.drewN q := by
  obtain ⟨ao, cap, rfl, hv, hc⟩ := h
  have HN := hid (spec_next ao xs.length cap xs w hn hc hv)
  have hb := nextS_or xs
  unfold nxV at HN
  generalize nextS xs = R at *
  obtain ⟨R1, R2⟩ := R
  simp only at *
  clear hv
  by_cases h0 : R1 < 0
  · have HM : Hid (-1 = max (-1) R1) := by show _ = _; omega
    go_enter Try.func20, Try.ntmps20
    go_wp2_with fail
    refine HN.out.mono ?_
    rintro e w1 ⟨rfl, q, rfl⟩
    go_wp2_with fail
    go_ret
    exact ⟨ret_int HM.out, q, rfl⟩
  · have HM : Hid (R1 = max (-1) R1) := by show _ = _; omega
    go_enter Try.func20, Try.ntmps20
    go_wp2_with fail
    refine HN.out.mono ?_
    rintro e w1 ⟨rfl, q, rfl⟩
    go_wp2_with fail
    go_ret
    exact ⟨ret_int HM.out, q, rfl⟩

set_option maxHeartbeats 400000 in
theorem spec_planNum (v : Value) (xs : List Int) (w : World) (hn : xs.length ≤ 1048576) (h : Vw w v xs) :
    Calls Try.prog 22 #[v] w fun e w' => e = .returned (pnV xs) ∧ ∃ q, w' = w.drewN q := by
  obtain ⟨ao, cap, rfl, hv, hc⟩ := h
  have HN := hid (spec_next ao xs.length cap xs w hn hc hv)
  unfold pnV
  unfold nxV at HN
  generalize nextS xs = R at *
  obtain ⟨R1, R2⟩ := R
  simp only at *
  clear hv
  by_cases h0 : R1 = -1
  · subst h0
    rw [if_pos rfl]
    go_enter Try.func22, Try.ntmps22
    go_wp2_with fail
    refine HN.out.mono ?_
    rintro e w1 ⟨rfl, q, rfl⟩
    go_wp2_with fail
    go_ret2
    exact ⟨rfl, q, rfl⟩
  · rw [if_neg h0]
    have h1 : (R1 != -1) = true := by simpa using h0
    go_enter Try.func22, Try.ntmps22
    go_wp2_with fail
    refine HN.out.mono ?_
    rintro e w1 ⟨rfl, q, rfl⟩
    go_wp2_with fail
    go_ret2
    exact ⟨rfl, q, rfl⟩

theorem impl_nextSlot (v : Value) (xs : List Int) (w : World) (hn : xs.length ≤ 1048576) (h : Vw w v xs) :
    Calls Try.prog 15 #[v] w fun e w' => e = .returned (.int .i64 (max (-1) (nextS xs).1)) ∧ Below w.heap.size w w' := by
  obtain ⟨ao, cap, rfl, hv, hc⟩ := h
  exact impl_next ao xs.length cap xs w hn hv
theorem impl_planNum_v (v : Value) (xs : List Int) (w : World) (hn : xs.length ≤ 1048576) (h : Vw w v xs) :
    Calls Try.prog 16 #[v] w fun e w' => e = .returned (pnV xs) ∧ Below w.heap.size w w' := by
  obtain ⟨ao, cap, rfl, hv, hc⟩ := h
  exact impl_planNum ao xs.length cap xs w hn hv

set_option maxRecDepth 100000 in
set_option maxHeartbeats 1600000 in
theorem law_next (ao : Option Addr) (n cap : Nat) (z0 : List Int) (w : World) (hr0 : IsRow .i64 w ao n cap z0) :
    Calls Try.prog 5 #[.slice ao n cap] w fun e w' => e = .returned (.bool true) ∧ Below w.heap.size w w' := by
  have hv := hr0.view
  have hcap : n ≤ cap := by
    rcases hr0 with ⟨_, rfl, rfl, _⟩ | ⟨x, _, h, _⟩
    · exact Nat.le_refl _
    · exact h
  have e0 := hv.1
  generalize z0.take n = bs at *
  clear hr0
  subst e0
  have HV := hid (show Vw w (.slice ao bs.length cap) bs from ⟨ao, cap, rfl, hv, hcap⟩)
  clear hv hcap
  by_cases hb0 : (1048576 : Int) < (bs.length : Int)
  · generalize bs.length = n at *
    go_enter Try.func5, Try.ntmps5
    go_wp2_with fail
    go_ret
    exact ⟨rfl, Below.refl _ _⟩
  · have hd0 : decide ((1048576 : Int) < (bs.length : Int)) = false := decide_eq_false hb0
    have k0 : bs.length ≤ 1048576 := by omega
    have HT0 := hid (fun q (hq : Below w.heap.size w q) => toInts_v (.slice ao bs.length cap) bs q k0 (HV.out.below (Nat.le_refl _) hq))
    have HS := hid (fun v q hv => spec_nextSlot v bs q k0 hv)
    have HI := hid (fun v q hv => impl_nextSlot v bs q k0 hv)
    have HQ0 := hid (fun v u q h1 h2 => eq_own v u bs q k0 h1 h2)
    generalize max (-1) (nextS bs).1 = R at *
    clear hb0 k0
    generalize bs.length = N at *
    go_enter Try.func5, Try.ntmps5
    go_wp2_with fail
    refine (HT0.out _ (Below.refl _ _)).mono ?_
    rintro e w1 ⟨v1, rfl, ho1, B1⟩
    have B1 := hid B1
    have V1 := hid ho1.vw
    clear ho1
    go_wp2_with fail
    refine (HS.out v1 w1 V1.out).mono ?_
    rintro e w3 ⟨rfl, q3, rfl⟩
    have B3 := hid (belowN B1.out q3)
    clear V1 B1
    generalize w1.drewN q3 = w3 at *
    go_wp2_with fail
    refine (HT0.out _ B3.out).mono ?_
    rintro e w4 ⟨x0, rfl, ho4, hb4⟩
    have B4 := hid (B3.out.trans (hb4.mono B3.out.size))
    have X0 := hid ho4.vw
    clear ho4 hb4 B3
    go_wp2_with fail
    refine (HI.out x0 w4 X0.out).mono ?_
    rintro e w6 ⟨rfl, hb6⟩
    have B6 := hid (B4.out.trans (hb6.mono B4.out.size))
    have Y0 := hid (X0.out.below (Nat.le_refl _) hb6)
    clear hb6 X0 B4
    go_wp2_with fail
    refine (HT0.out _ B6.out).mono ?_
    rintro e w7 ⟨v7, rfl, ho7, hb7⟩
    have B7 := hid (B6.out.trans (hb7.mono B6.out.size))
    have Z0 := hid (Y0.out.below (Nat.le_refl _) hb7)
    have V7 := hid ho7.vw
    clear ho7 hb7 Y0 B6
    go_wp2_with fail
    refine (HQ0.out x0 v7 w7 Z0.out V7.out).mono ?_
    rintro e w8 ⟨rfl, hb8⟩
    have B8 := hid (B7.out.trans (hb8.mono B7.out.size))
    clear hb8 Z0 V7 B7
    go_wp2_with fail
    go_ret
    exact ⟨rfl, B8.out⟩

set_option maxRecDepth 100000 in
set_option maxHeartbeats 1600000 in
theorem law_planNum (ao : Option Addr) (n cap : Nat) (z0 : List Int) (w : World) (hr0 : IsRow .i64 w ao n cap z0) :
    Calls Try.prog 6 #[.slice ao n cap] w fun e w' => e = .returned (.bool true) ∧ Below w.heap.size w w' := by
  have hv := hr0.view
  have hcap : n ≤ cap := by
    rcases hr0 with ⟨_, rfl, rfl, _⟩ | ⟨x, _, h, _⟩
    · exact Nat.le_refl _
    · exact h
  have e0 := hv.1
  generalize z0.take n = bs at *
  clear hr0
  subst e0
  have HV := hid (show Vw w (.slice ao bs.length cap) bs from ⟨ao, cap, rfl, hv, hcap⟩)
  clear hv hcap
  by_cases hb0 : (1048576 : Int) < (bs.length : Int)
  · generalize bs.length = n at *
    go_enter Try.func6, Try.ntmps6
    go_wp2_with fail
    go_ret
    exact ⟨rfl, Below.refl _ _⟩
  · have hd0 : decide ((1048576 : Int) < (bs.length : Int)) = false := decide_eq_false hb0
    have k0 : bs.length ≤ 1048576 := by omega
    have HT0 := hid (fun q (hq : Below w.heap.size w q) => toInts_v (.slice ao bs.length cap) bs q k0 (HV.out.below (Nat.le_refl _) hq))
    have HS := hid (fun v q hv => spec_planNum v bs q k0 hv)
    have HI := hid (fun v q hv => impl_planNum_v v bs q k0 hv)
    have HQ0 := hid (fun v u q h1 h2 => eq_own v u bs q k0 h1 h2)
    obtain ⟨P1, P2, hP⟩ : ∃ P1 P2, pnV bs = .tuple #[.int .i64 P1, .bool P2] := by
      unfold pnV
      split
      · exact ⟨_, _, rfl⟩
      · exact ⟨_, _, rfl⟩
    rw [hP] at HS HI
    clear hP
    clear hb0 k0
    generalize bs.length = N at *
    go_enter Try.func6, Try.ntmps6
    go_wp2_with fail
    refine (HT0.out _ (Below.refl _ _)).mono ?_
    rintro e w1 ⟨v1, rfl, ho1, B1⟩
    have B1 := hid B1
    have V1 := hid ho1.vw
    clear ho1
    go_wp2_with fail
    refine (HS.out v1 w1 V1.out).mono ?_
    rintro e w3 ⟨rfl, q3, rfl⟩
    have B3 := hid (belowN B1.out q3)
    clear V1 B1
    generalize w1.drewN q3 = w3 at *
    go_wp2_with fail
    refine (HT0.out _ B3.out).mono ?_
    rintro e w4 ⟨x0, rfl, ho4, hb4⟩
    have B4 := hid (B3.out.trans (hb4.mono B3.out.size))
    have X0 := hid ho4.vw
    clear ho4 hb4 B3
    go_wp2_with fail
    refine (HI.out x0 w4 X0.out).mono ?_
    rintro e w6 ⟨rfl, hb6⟩
    have B6 := hid (B4.out.trans (hb6.mono B4.out.size))
    have Y0 := hid (X0.out.below (Nat.le_refl _) hb6)
    clear hb6 X0 B4
    go_wp2_with fail
    refine (HT0.out _ B6.out).mono ?_
    rintro e w7 ⟨v7, rfl, ho7, hb7⟩
    have B7 := hid (B6.out.trans (hb7.mono B6.out.size))
    have Z0 := hid (Y0.out.below (Nat.le_refl _) hb7)
    have V7 := hid ho7.vw
    clear ho7 hb7 Y0 B6
    go_wp2_with fail
    refine (HQ0.out x0 v7 w7 Z0.out V7.out).mono ?_
    rintro e w8 ⟨rfl, hb8⟩
    have B8 := hid (B7.out.trans (hb8.mono B7.out.size))
    clear hb8 Z0 V7 B7
    go_wp2_with fail
    go_ret
    exact ⟨rfl, B8.out⟩

end Go.Proofs.Ytckpdmgmeolepaa
