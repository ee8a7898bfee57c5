/- Contracts of the program's walk over decisions: its small functions. -/
import Derived.Test.YtckpdmgmeolepaaBl
import Derived.Test.YtckpdmgmeolepaaWk
import Derived.Deep.QuietTactic
import Derived.BigQuiet
import Derived.Deep.RegionHeld3
import Derived.Laws.EntriesVeiled
namespace Go.Proofs.Ytckpdmgmeolepaa
open Go.RowKit
set_option linter.unusedVariables false

def wkC (s : Wk) : List Value := [.int .i64 s.part, .bool s.below, .int .i64 s.size, .int .i64 s.amount, .int .i64 s.rest]
def wkV (s : Wk) : Value := .agg #[.int .i64 s.part, .bool s.below, .int .i64 s.size, .int .i64 s.amount, .int .i64 s.rest]

theorem wk_bit (x : Int) (w : World) :
    Calls Try.prog 57 #[.int .i64 x] w fun e w' => e = .returned (.bool (isBi x)) ∧ w = w' := by
  unfold isBi
  by_cases h1 : x = 0
  · subst h1
    go_enter Try.func57, Try.ntmps57
    go_wp2
    go_ret
    exact ⟨ret_bool rfl, rfl⟩
  · by_cases h2 : x = 1
    · subst h2
      go_enter Try.func57, Try.ntmps57
      go_wp2
      go_ret
      exact ⟨ret_bool rfl, rfl⟩
    · rw [decide_eq_false (show ¬ (0 ≤ x ∧ x ≤ 1) by omega)]
      have h3 : (x == 1) = false := by simpa using h2
      go_enter Try.func57, Try.ntmps57
      go_wp2
      go_ret
      exact ⟨ret_bool (by simpa using h1), rfl⟩

theorem wk_told (s : Wk) (w : World) :
    Calls Try.prog 42 #[wkV s] w fun e w' => e = .returned (.bool (decide (s.part = 4))) ∧ Below w.heap.size w w' := by
  obtain ⟨a, b, c, d, e⟩ := s
  unfold wkV
  go_enter Try.func42, Try.ntmps42
  go_wp2_with fail
  go_ret
  exact ⟨ret_bool rfl, (Below.refl _ _).alloc (Nat.le_refl _) _⟩

theorem wk_number (s : Wk) (w : World) (h0 : 0 ≤ s.amount) (h1 : s.amount ≤ 1000000) :
    Calls Try.prog 44 #[wkV s] w fun e w' => e = .returned (.int .i64 (wkNum s)) ∧ Below w.heap.size w w' := by
  obtain ⟨a, b, c, d, e⟩ := s
  unfold wkV wkNum
  simp only at h0 h1 ⊢
  cases b
  · go_enter Try.func44, Try.ntmps44
    go_wp2_with fail
    go_ret
    exact ⟨rfl, (Below.refl _ _).alloc (Nat.le_refl _) _⟩
  · go_enter Try.func44, Try.ntmps44
    go_wp2_with fail
    go_ret
    exact ⟨rfl, (Below.refl _ _).alloc (Nat.le_refl _) _⟩

theorem slot0 (a c d e : Int) (b : Bool) (w : World) :
    Calls Try.prog 59 #[.agg #[.int .i64 a, .bool b, .int .i64 c, .int .i64 d, .int .i64 e]] w fun e w' => e = .returned (.int .i64 0) ∧ Below w.heap.size w w' := by
  go_enter Try.func59, Try.ntmps59
  go_wp2_with fail
  go_ret
  exact ⟨rfl, by first | exact (Below.refl _ _).alloc (Nat.le_refl _) _ | exact Below.refl _ _⟩
theorem slot1 (a c d e : Int) (b : Bool) (w : World) :
    Calls Try.prog 60 #[.agg #[.int .i64 a, .bool b, .int .i64 c, .int .i64 d, .int .i64 e]] w fun e w' => e = .returned (.int .i64 1) ∧ Below w.heap.size w w' := by
  go_enter Try.func60, Try.ntmps60
  go_wp2_with fail
  go_ret
  exact ⟨rfl, by first | exact (Below.refl _ _).alloc (Nat.le_refl _) _ | exact Below.refl _ _⟩
theorem slot2 (a c d e : Int) (b : Bool) (w : World) (h2 : 0 ≤ c) (h3 : c ≤ 1000) :
    Calls Try.prog 61 #[.agg #[.int .i64 a, .bool b, .int .i64 c, .int .i64 d, .int .i64 e]] w fun e w' => e = .returned (.int .i64 (1 + c)) ∧ Below w.heap.size w w' := by
  go_enter Try.func61, Try.ntmps61
  go_wp2_with fail
  go_ret
  exact ⟨rfl, (Below.refl _ _).alloc (Nat.le_refl _) _⟩
theorem slot3 (a c d e : Int) (b : Bool) (w : World) (h2 : 0 ≤ e) (h3 : e ≤ 1000) :
    Calls Try.prog 62 #[.agg #[.int .i64 a, .bool b, .int .i64 c, .int .i64 d, .int .i64 e]] w fun x w' => x = .returned (.int .i64 (12 + e)) ∧ Below w.heap.size w w' := by
  go_enter Try.func62, Try.ntmps62
  go_wp2_with fail
  go_ret
  exact ⟨rfl, (Below.refl _ _).alloc (Nat.le_refl _) _⟩

theorem new_two (w : World) (l m : List Value) (t u : TypeId) : Blk ((w.alloc (.cells l.toArray t)).alloc (.cells m.toArray u)) w.heap.size l t ∧ Blk ((w.alloc (.cells l.toArray t)).alloc (.cells m.toArray u)) (w.heap.size + 1) m u ∧ Below w.heap.size w ((w.alloc (.cells l.toArray t)).alloc (.cells m.toArray u)) := by
  refine ⟨(Blk.new w l t).below ((Below.refl (w.alloc (.cells l.toArray t)).heap.size (w.alloc (.cells l.toArray t))).alloc (Nat.le_refl _) (.cells m.toArray u)) (by simp), ?_, ((Below.refl w.heap.size w).alloc (Nat.le_refl _) _).alloc (by simp) _⟩
  have := Blk.new (w.alloc (.cells l.toArray t)) m u
  rw [show (w.alloc (.cells l.toArray t)).heap.size = w.heap.size + 1 by simp] at this
  exact this

set_option maxRecDepth 100000 in
set_option maxHeartbeats 1600000 in
theorem wk_slot (s : Wk) (w : World) (h0 : 0 ≤ s.part) (h1 : s.part ≤ 3) (h2 : 0 ≤ s.size ∧ s.size ≤ 1000) (h3 : 0 ≤ s.rest ∧ s.rest ≤ 1000) :
    Calls Try.prog 43 #[wkV s] w fun e w' => e = .returned (.int .i64 (wkSlot s)) ∧ Below w.heap.size w w' := by
  obtain ⟨a, b, c, d, e⟩ := s
  simp only at h0 h1 h2 h3
  unfold wkV wkSlot
  simp only
  obtain ⟨n1, n2, n3⟩ := new_two w [.int .i64 a, .bool b, .int .i64 c, .int .i64 d, .int .i64 e] [.func (.func 59) #[] #[], .func (.func 60) #[] #[], .func (.func 61) #[] #[], .func (.func 62) #[] #[]] 56 79
  have N1 := hid n1
  have N2 := hid n2
  have N3 := hid n3
  clear n1 n2 n3
  obtain rfl | rfl | rfl | rfl : a = 0 ∨ a = 1 ∨ a = 2 ∨ a = 3 := by omega
  · go_enter Try.func43, Try.ntmps43
    go_wp2_with fail
    generalize (w.alloc (.cells #[.int .i64 0, .bool b, .int .i64 c, .int .i64 d, .int .i64 e] 56)).alloc (.cells #[.func (.func 59) #[] #[], .func (.func 60) #[] #[], .func (.func 61) #[] #[], .func (.func 62) #[] #[]] 79) = w2 at *
    have q0 := N1.out.cell (i := 0) rfl
    have q1 := N1.out.cell (i := 1) rfl
    have q2 := N1.out.cell (i := 2) rfl
    have q3 := N1.out.cell (i := 3) rfl
    have q4 := N1.out.cell (i := 4) rfl
    have p0 := N2.out.cell (i := 0) rfl
    go_region_with (go_at_call 59; refine (slot0 _ _ _ _ _ _).mono ?_; rintro e w3 ⟨rfl, hb⟩)
    all_goals
      have HB3 := hid (N3.out.trans (((below_drewN w2 1).trans hb).mono N3.out.size))
      go_wp2_with fail
      go_ret
      exact ⟨rfl, HB3.out⟩
  · go_enter Try.func43, Try.ntmps43
    go_wp2_with fail
    generalize (w.alloc (.cells #[.int .i64 1, .bool b, .int .i64 c, .int .i64 d, .int .i64 e] 56)).alloc (.cells #[.func (.func 59) #[] #[], .func (.func 60) #[] #[], .func (.func 61) #[] #[], .func (.func 62) #[] #[]] 79) = w2 at *
    have q0 := N1.out.cell (i := 0) rfl
    have q1 := N1.out.cell (i := 1) rfl
    have q2 := N1.out.cell (i := 2) rfl
    have q3 := N1.out.cell (i := 3) rfl
    have q4 := N1.out.cell (i := 4) rfl
    have p0 := N2.out.cell (i := 1) rfl
    go_region_with (go_at_call 60; refine (slot1 _ _ _ _ _ _).mono ?_; rintro e w3 ⟨rfl, hb⟩)
    all_goals
      have HB3 := hid (N3.out.trans (((below_drewN w2 1).trans hb).mono N3.out.size))
      go_wp2_with fail
      go_ret
      exact ⟨rfl, HB3.out⟩
  · go_enter Try.func43, Try.ntmps43
    go_wp2_with fail
    generalize (w.alloc (.cells #[.int .i64 2, .bool b, .int .i64 c, .int .i64 d, .int .i64 e] 56)).alloc (.cells #[.func (.func 59) #[] #[], .func (.func 60) #[] #[], .func (.func 61) #[] #[], .func (.func 62) #[] #[]] 79) = w2 at *
    have q0 := N1.out.cell (i := 0) rfl
    have q1 := N1.out.cell (i := 1) rfl
    have q2 := N1.out.cell (i := 2) rfl
    have q3 := N1.out.cell (i := 3) rfl
    have q4 := N1.out.cell (i := 4) rfl
    have p0 := N2.out.cell (i := 2) rfl
    go_region_with (go_at_call 61; refine (slot2 _ _ _ _ _ _ h2.1 h2.2).mono ?_; rintro e w3 ⟨rfl, hb⟩)
    all_goals
      have HB3 := hid (N3.out.trans (((below_drewN w2 1).trans hb).mono N3.out.size))
      go_wp2_with fail
      go_ret
      exact ⟨rfl, HB3.out⟩
  · go_enter Try.func43, Try.ntmps43
    go_wp2_with fail
    generalize (w.alloc (.cells #[.int .i64 3, .bool b, .int .i64 c, .int .i64 d, .int .i64 e] 56)).alloc (.cells #[.func (.func 59) #[] #[], .func (.func 60) #[] #[], .func (.func 61) #[] #[], .func (.func 62) #[] #[]] 79) = w2 at *
    have q0 := N1.out.cell (i := 0) rfl
    have q1 := N1.out.cell (i := 1) rfl
    have q2 := N1.out.cell (i := 2) rfl
    have q3 := N1.out.cell (i := 3) rfl
    have q4 := N1.out.cell (i := 4) rfl
    have p0 := N2.out.cell (i := 3) rfl
    go_region_with (go_at_call 62; refine (slot3 _ _ _ _ _ _ h3.1 h3.2).mono ?_; rintro e w3 ⟨rfl, hb⟩)
    all_goals
      have HB3 := hid (N3.out.trans (((below_drewN w2 1).trans hb).mono N3.out.size))
      go_wp2_with fail
      go_ret
      exact ⟨rfl, HB3.out⟩

theorem wk_or (a x : Int) (h0 : 0 ≤ a) (h1 : a ≤ 1000000) (hx : x = 0 ∨ x = 1) : bits .or .i64 (a * 2) x = a * 2 + x :=
  bits_join .i64 63 (by decide) (fun n h0 h1 => by rw [IntKind.wrap_i64]; omega) 1 (a * 2) x (by omega) (by omega) (by omega) (by omega) (by omega) (by omega)

theorem wk_zero (b : Nat) (s : Wk) (x : Int) (w : World) (hx : x = 0 ∨ x = 1) (hB : Blk w b (wkC s) 56) :
    Calls Try.prog 69 #[.pointer (some ⟨b, 0, none⟩), .int .i64 x] w fun e w' => e = .returned (.tuple #[]) ∧ Blk w' b (wkC (wkZero s x)) 56 ∧ Ef b w w' := by
  obtain ⟨sa, sb, sc, sd, se⟩ := s
  have z0 := hB.free 0
  have z2 := hB.free 2
  have z3 := hB.free 3
  have q0 := hB.cell (i := 0) rfl
  have q2 := hB.cell (i := 2) rfl
  have q3 := hB.cell (i := 3) rfl
  have HB := hid hB
  clear hB
  rcases hx with rfl | rfl
  · go_enter Try.func69, Try.ntmps69
    go_wp2_with fail
    go_end0
    exact ⟨rfl, ((HB.out.set 0 _).set 2 _).set 3 _, ((Ef.set _ _ _).trans (Ef.set _ _ _)).trans (Ef.set _ _ _)⟩
  · go_enter Try.func69, Try.ntmps69
    go_wp2_with fail
    refine bodyPost_ret (v := .tuple #[]) (by simp [results, Try.results69, go_sem]) rfl ?_
    exact ⟨rfl, HB.out.set 0 _, Ef.set _ _ _⟩

/-- What a walk has wk_told so far is right. -/
def WkOk (s : Wk) : Prop := (s.part = 0 ∧ s = wk0) ∨ (s.part = 1 ∧ s.size = 1 ∧ s.amount = 1 ∧ s.rest = 0) ∨ (s.part = 2 ∧ 1 ≤ s.size ∧ s.size ≤ 10 ∧ s.amount = 1 ∧ s.rest = 0) ∨ (s.part = 3 ∧ 2 ≤ s.size ∧ s.size ≤ 11 ∧ 0 ≤ s.rest ∧ s.rest < s.size - 1 ∧ 0 ≤ s.amount ∧ s.amount < 2 ^ (s.rest.toNat + 1)) ∨ (s.part = 4 ∧ 0 ≤ s.amount ∧ s.amount < 2048)
theorem WkOk.zero : WkOk wk0 := .inl ⟨rfl, rfl⟩
theorem pow_le_2048 (n : Nat) (h : n ≤ 11) : (2 : Int) ^ n ≤ 2048 := by
  have h1 : (2 : Nat) ^ n ≤ 2 ^ 11 := Nat.pow_le_pow_right (by decide) h
  have h2 : ((2 ^ n : Nat) : Int) ≤ ((2 ^ 11 : Nat) : Int) := by omega
  simpa using h2
theorem WkOk.bounds {s : Wk} (h : WkOk s) (hp : s.part ≠ 4) : 0 ≤ s.part ∧ s.part ≤ 3 ∧ (0 ≤ s.size ∧ s.size ≤ 1000) ∧ (0 ≤ s.rest ∧ s.rest ≤ 1000) ∧ 0 ≤ s.amount ∧ s.amount < 2048 := by
  rcases h with ⟨h1, rfl⟩ | ⟨h1, h2, h3, h4⟩ | ⟨h1, h2, h3, h4, h5⟩ | ⟨h1, h2, h3, h4, h5, h6, h7⟩ | ⟨h1, h2, h3⟩
  · decide
  · omega
  · omega
  · have := pow_le_2048 (s.rest.toNat + 1) (by omega)
    omega
  · exact absurd h1 hp
theorem WkOk.amount {s : Wk} (h : WkOk s) : 0 ≤ s.amount ∧ s.amount < 2048 := by
  by_cases hp : s.part = 4
  · rcases h with ⟨h1, rfl⟩ | ⟨h1, h2, h3, h4⟩ | ⟨h1, h2, h3, h4, h5⟩ | ⟨h1, h2, h3, h4, h5, h6, h7⟩ | ⟨h1, h2, h3⟩
    · decide
    · omega
    · omega
    · omega
    · exact ⟨h2, h3⟩
  · exact (h.bounds hp).2.2.2.2
theorem wkEnd_ok {be : Bool} {n a r : Int} (h : 1 ≤ n ∧ n ≤ 11 ∧ 0 ≤ r ∧ r ≤ n - 1 ∧ 0 ≤ a ∧ a < 2 ^ (r.toNat + 1)) : WkOk (wkEnd ⟨3, be, n, a, r⟩) := by
  obtain ⟨h1, h2, h3, h4, h5, h6⟩ := h
  unfold wkEnd
  by_cases e : r = n - 1
  · rw [if_pos ⟨rfl, e⟩]
    have := pow_le_2048 (r.toNat + 1) (by omega)
    exact .inr (.inr (.inr (.inr ⟨rfl, h5, by show a < 2048; omega⟩)))
  · rw [if_neg (fun h => e h.2)]
    exact .inr (.inr (.inr (.inl ⟨rfl, by show 2 ≤ n; omega, h2, h3, by show r < n - 1; omega, h5, h6⟩)))
theorem WkOk.take {s : Wk} (h : WkOk s) {x : Int} (hx : x = 0 ∨ x = 1) : WkOk (wkTake s x) := by
  unfold wkTake
  rcases h with ⟨h1, rfl⟩ | ⟨h1, h2, h3, h4⟩ | ⟨h1, h2, h3, h4, h5⟩ | ⟨h1, h2, h3, h4, h5, h6, h7⟩ | ⟨h1, h2, h3⟩
  · rcases hx with rfl | rfl
    · exact .inr (.inl (by decide))
    · exact .inr (.inr (.inr (.inr (by decide))))
  · obtain ⟨sa, sb, sc, sd, se⟩ := s
    simp only at h1 h2 h3 h4
    subst h1 h2 h3 h4
    rcases hx with rfl | rfl
    · exact .inr (.inr (.inl ⟨rfl, by show (1 : Int) ≤ 1; decide, by show (1 : Int) ≤ 10; decide, rfl, rfl⟩))
    · exact .inr (.inr (.inl ⟨rfl, by show (1 : Int) ≤ 1; decide, by show (1 : Int) ≤ 10; decide, rfl, rfl⟩))
  · obtain ⟨sa, sb, sc, sd, se⟩ := s
    simp only at h1 h2 h3 h4 h5
    subst h1 h4 h5
    unfold wkStep
    rw [if_neg (by show ¬ (2 : Int) = 0; decide), if_neg (by show ¬ (2 : Int) = 1; decide), if_pos rfl]
    simp only
    by_cases e : x = 0 ∨ sc + x = 11
    · rw [if_pos e]
      exact wkEnd_ok ⟨by omega, by omega, by decide, by omega, by decide, by decide⟩
    · rw [if_neg e]
      unfold wkEnd
      rw [if_neg (fun h => absurd (show (2 : Int) = 3 from h.1) (by decide))]
      exact .inr (.inr (.inl ⟨rfl, by show 1 ≤ sc + x; omega, by show sc + x ≤ 10; omega, rfl, rfl⟩))
  · obtain ⟨sa, sb, sc, sd, se⟩ := s
    simp only at h1 h2 h3 h4 h5 h6 h7
    subst h1
    unfold wkStep
    rw [if_neg (by show ¬ (3 : Int) = 0; decide), if_neg (by show ¬ (3 : Int) = 1; decide), if_neg (by show ¬ (3 : Int) = 2; decide), if_pos rfl]
    simp only
    refine wkEnd_ok ⟨by omega, by omega, by omega, by omega, by omega, ?_⟩
    rw [show (se + 1).toNat + 1 = (se.toNat + 1) + 1 by omega, Int.pow_succ]
    omega
  · obtain ⟨sa, sb, sc, sd, se⟩ := s
    simp only at h1 h2 h3
    subst h1
    unfold wkStep
    rw [if_neg (by show ¬ (4 : Int) = 0; decide), if_neg (by show ¬ (4 : Int) = 1; decide), if_neg (by show ¬ (4 : Int) = 2; decide), if_neg (by show ¬ (4 : Int) = 3; decide)]
    unfold wkEnd
    rw [if_neg (fun h => absurd (show (4 : Int) = 3 from h.1) (by decide))]
    exact .inr (.inr (.inr (.inr ⟨rfl, h2, h3⟩)))
end Go.Proofs.Ytckpdmgmeolepaa
