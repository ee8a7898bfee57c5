/- Contracts of the program's walk over decisions: take, and the walk over a row. -/
import Derived.Test.YtckpdmgmeolepaaWf
namespace Go.Proofs.Ytckpdmgmeolepaa
open Go.RowKit
set_option linter.unusedVariables false

theorem end_yes {s : Wk} (h : s.part = 3 ∧ s.rest = s.size - 1) : wkEnd s = { s with part := 4 } := by unfold wkEnd; rw [if_pos h]
theorem end_no {s : Wk} (h : ¬ (s.part = 3 ∧ s.rest = s.size - 1)) : wkEnd s = s := by unfold wkEnd; rw [if_neg h]

set_option maxRecDepth 100000 in
set_option maxHeartbeats 1600000 in
theorem wk_take (b : Nat) (s : Wk) (x : Int) (w : World) (hx : x = 0 ∨ x = 1) (hs : WkOk s) (h4 : s.part ≠ 4) (hB : Blk w b (wkC s) 56) :
    Calls Try.prog 58 #[.pointer (some ⟨b, 0, none⟩), .int .i64 x] w fun e w' => e = .returned (.tuple #[]) ∧ Blk w' b (wkC (wkTake s x)) 56 ∧ Ef b w w' := by
  have HZ := hid (fun q (hq : Blk q b (wkC s) 56) => wk_zero b s x q hx hq)
  have HB := hid hB
  obtain ⟨sa, sb, sc, sd, se⟩ := s
  have bd := hs.bounds h4
  simp only at bd
  obtain ⟨b1, b2, ⟨b3, b4⟩, ⟨b5, b6⟩, b7, b8⟩ := bd
  obtain rfl | rfl | rfl | rfl : sa = 0 ∨ sa = 1 ∨ sa = 2 ∨ sa = 3 := by omega
  · have q0 := hB.cell (i := 0) rfl
    have HE : Hid (∀ w' : World, Blk w' b (wkC (wkZero ⟨0, sb, sc, sd, se⟩ x)) 56 → wkTake ⟨0, sb, sc, sd, se⟩ x = wkZero ⟨0, sb, sc, sd, se⟩ x ∧ ∃ u : Int, u ≠ 3 ∧ w'.cell? ⟨b, 0, none⟩ = some (.int .i64 u)) := by
      intro w' hw
      rcases hx with rfl | rfl
      · exact ⟨end_no (fun h => absurd (show (1 : Int) = 3 from h.1) (by decide)), 1, by decide, hw.cell rfl⟩
      · exact ⟨end_no (fun h => absurd (show (4 : Int) = 3 from h.1) (by decide)), 4, by decide, hw.cell rfl⟩
    clear hs hB h4 b1 b2 b3 b4 b5 b6 b7 b8
    go_enter Try.func58, Try.ntmps58
    go_wp2_with fail
    refine (HZ.out w HB.out).mono ?_
    rintro e w1 ⟨rfl, hb1, he1⟩
    obtain ⟨hT, u, hu, hc⟩ := HE.out w1 hb1
    have HB1 := hid hb1
    have HE1 := hid he1
    have HT := hid hT
    have hu' : (u == 3) = false := by simpa using hu
    clear hb1 he1 hT HE HZ HB q0 hu
    go_wp2_with fail
    go_quiet (fail)
    go_wp2_with fail
    go_end0
    rw [HT.out]
    exact ⟨rfl, HB1.out, HE1.out.drewN _⟩
  · have q0 := hB.cell (i := 0) rfl
    have q1 := hB.cell (i := 1) rfl
    have z0 := hB.free 0
    have z1 := hB.free 1
    have HT : Hid (wkTake ⟨1, sb, sc, sd, se⟩ x = ⟨2, decide (x = 1), sc, sd, se⟩) := end_no (fun h => absurd (show (2 : Int) = 3 from h.1) (by decide))
    have hd : (x == 1) = decide (x = 1) := by rcases hx with rfl | rfl <;> rfl
    clear hs hB h4 b1 b2 HZ
    go_enter Try.func58, Try.ntmps58
    go_wp2_with fail
    go_quiet (fail)
    go_wp2_with fail
    go_end0
    rw [HT.out]
    refine ⟨rfl, ?_, ((Ef.set _ _ _).trans (Ef.set _ _ _)).drewN _⟩
    first
      | exact (HB.out.set 1 _).set 0 _
      | (rw [hd]; exact (HB.out.set 1 _).set 0 _)
  · have q0 := hB.cell (i := 0) rfl
    have q2 := hB.cell (i := 2) rfl
    have q4 := hB.cell (i := 4) rfl
    have z0 := hB.free 0
    have z2 := hB.free 2
    have hss : se = 0 ∧ 1 ≤ sc ∧ sc ≤ 10 := by
      rcases hs with ⟨h1, h2⟩ | ⟨h1, h2, h3, h4⟩ | ⟨h1, h2, h3, h4, h5⟩ | ⟨h1, h2, h3, h4, h5, h6, h7⟩ | ⟨h1, h2, h3⟩
      · exact absurd (show (2 : Int) = 0 from h1) (by decide)
      · exact absurd (show (2 : Int) = 1 from h1) (by decide)
      · exact ⟨h5, h2, h3⟩
      · exact absurd (show (2 : Int) = 3 from h1) (by decide)
      · exact absurd (show (2 : Int) = 4 from h1) (by decide)
    obtain ⟨rfl, hs1, hs2⟩ := hss
    have hst : wkStep ⟨2, sb, sc, sd, 0⟩ x = if x = 0 ∨ sc + x = 11 then ⟨3, sb, sc + x, sd, 0⟩ else ⟨2, sb, sc + x, sd, 0⟩ := by
      unfold wkStep
      rw [if_neg (by show ¬ (2 : Int) = 0; decide), if_neg (by show ¬ (2 : Int) = 1; decide), if_pos rfl]
    rcases hx with rfl | rfl
    · rw [if_pos (.inl rfl), Int.add_zero] at hst
      by_cases e1 : sc = 1
      · subst e1
        have HT : Hid (wkTake ⟨2, sb, 1, sd, 0⟩ 0 = ⟨4, sb, 1, sd, 0⟩) := by
          show _ = _
          unfold wkTake
          rw [hst]
          exact end_yes ⟨rfl, by show (0 : Int) = 1 - 1; decide⟩
        clear hs hB h4 b1 b2 b3 b4 b5 b6 b7 b8 HZ hst hs1 hs2
        go_enter Try.func58, Try.ntmps58
        go_wp2_with fail
        go_quiet (fail)
        go_wp2_with fail
        go_end0
        rw [HT.out]
        exact ⟨rfl, ((HB.out.set 2 _).set 0 _).set 0 _, (((Ef.set _ _ _).trans (Ef.set _ _ _)).drewN _).trans (Ef.set _ _ _)⟩
      · have HT : Hid (wkTake ⟨2, sb, sc, sd, 0⟩ 0 = ⟨3, sb, sc, sd, 0⟩) := by
          show _ = _
          unfold wkTake
          rw [hst]
          exact end_no (fun h => e1 (by have := h.2; simp only at this; omega))
        have e3 : (0 == sc - 1) = false := by simp; omega
        clear hs hB h4 b1 b2 HZ hst
        go_enter Try.func58, Try.ntmps58
        go_wp2_with fail
        go_quiet (fail)
        go_wp2_with fail
        go_end0
        rw [HT.out]
        exact ⟨rfl, (HB.out.set 2 _).set 0 _, ((Ef.set _ _ _).trans (Ef.set _ _ _)).drewN _⟩
    · by_cases e1 : sc = 10
      · subst e1
        rw [if_pos (.inr rfl)] at hst
        have HT : Hid (wkTake ⟨2, sb, 10, sd, 0⟩ 1 = ⟨3, sb, 11, sd, 0⟩) := by
          show _ = _
          unfold wkTake
          rw [hst]
          exact end_no (fun h => absurd (show (0 : Int) = 10 + 1 - 1 from h.2) (by decide))
        clear hs hB h4 b1 b2 b3 b4 b5 b6 b7 b8 HZ hst hs1 hs2
        go_enter Try.func58, Try.ntmps58
        go_wp2_with fail
        go_quiet (fail)
        go_wp2_with fail
        go_end0
        rw [HT.out]
        exact ⟨rfl, (HB.out.set 2 _).set 0 _, ((Ef.set _ _ _).trans (Ef.set _ _ _)).drewN _⟩
      · rw [if_neg (by omega)] at hst
        have HT : Hid (wkTake ⟨2, sb, sc, sd, 0⟩ 1 = ⟨2, sb, sc + 1, sd, 0⟩) := by
          show _ = _
          unfold wkTake
          rw [hst]
          exact end_no (fun h => absurd (show (2 : Int) = 3 from h.1) (by decide))
        have e3 : (sc + 1 == 11) = false := by simp; omega
        clear hs hB h4 b1 b2 HZ hst
        go_enter Try.func58, Try.ntmps58
        go_wp2_with fail
        go_quiet (fail)
        go_wp2_with fail
        go_end0
        rw [HT.out]
        exact ⟨rfl, HB.out.set 2 _, (Ef.set _ _ _).drewN _⟩
  · have q0 := hB.cell (i := 0) rfl
    have q2 := hB.cell (i := 2) rfl
    have q3 := hB.cell (i := 3) rfl
    have q4 := hB.cell (i := 4) rfl
    have z0 := hB.free 0
    have z3 := hB.free 3
    have z4 := hB.free 4
    have hst : wkStep ⟨3, sb, sc, sd, se⟩ x = ⟨3, sb, sc, sd * 2 + x, se + 1⟩ := by
      unfold wkStep
      rw [if_neg (by show ¬ (3 : Int) = 0; decide), if_neg (by show ¬ (3 : Int) = 1; decide), if_neg (by show ¬ (3 : Int) = 2; decide), if_pos rfl]
    have HO := hid (wk_or sd x b7 (by omega) hx)
    have d0 : 0 ≤ sd * 2 := by omega
    by_cases e2 : se + 1 = sc - 1
    · have HT : Hid (wkTake ⟨3, sb, sc, sd, se⟩ x = ⟨4, sb, sc, sd * 2 + x, se + 1⟩) := by
        show _ = _
        unfold wkTake
        rw [hst]
        exact end_yes ⟨rfl, e2⟩
      have e3 : (se + 1 == sc - 1) = true := by simpa using e2
      clear hs hB h4 b1 b2 HZ hst hx e2
      go_enter Try.func58, Try.ntmps58
      go_wp2_with fail
      go_quiet (fail)
      go_wp2_with fail
      go_end0
      rw [HT.out, ← HO.out]
      exact ⟨rfl, ((HB.out.set 3 _).set 4 _).set 0 _, (((Ef.set _ _ _).trans (Ef.set _ _ _)).drewN _).trans (Ef.set _ _ _)⟩
    · have HT : Hid (wkTake ⟨3, sb, sc, sd, se⟩ x = ⟨3, sb, sc, sd * 2 + x, se + 1⟩) := by
        show _ = _
        unfold wkTake
        rw [hst]
        exact end_no (fun h => e2 h.2)
      have e3 : (se + 1 == sc - 1) = false := by simpa using e2
      clear hs hB h4 b1 b2 HZ hst hx e2
      go_enter Try.func58, Try.ntmps58
      go_wp2_with fail
      go_quiet (fail)
      go_wp2_with fail
      go_end0
      rw [HT.out, ← HO.out]
      exact ⟨rfl, (HB.out.set 3 _).set 4 _, ((Ef.set _ _ _).trans (Ef.set _ _ _)).drewN _⟩
end Go.Proofs.Ytckpdmgmeolepaa
