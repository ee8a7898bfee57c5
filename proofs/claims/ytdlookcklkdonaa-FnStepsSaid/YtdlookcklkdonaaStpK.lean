/- Contracts of the small methods of the program's reader of steps. -/
import Derived.Test.YtdlookcklkdonaaStpR
import Derived.Test.YtdlookcklkdonaaShift
namespace Go.Proofs.Ytdlookcklkdonaa
open Go.RowKit
set_option linter.unusedVariables false

/-- Which kind of step it is. -/
def kind (r n : Int) : Int := if r < 0 ∨ 15 < r ∨ n < 0 ∨ 10 < n then 0 else if 0 < n then 1 else if r = 15 then 2 else if r = 0 then 3 else 0

set_option maxHeartbeats 1600000 in
theorem kindOf_any (r n : Int) (ao : Option Addr) (l c : Nat) (w : World) : Calls Try.prog 59 #[.agg #[.int .i64 r, .int .i64 n, .slice ao l c]] w fun e w' => e = .returned (.int .i64 (kind r n)) ∧ Below w.heap.size w w' := by
  have HB := hid ((Below.refl w.heap.size w).alloc (Nat.le_refl _) (.cells #[.int .i64 r, .int .i64 n, .slice ao l c] 65))
  have HK := hid (show kind r n = if r < 0 ∨ 15 < r ∨ n < 0 ∨ 10 < n then 0 else if 0 < n then 1 else if r = 15 then 2 else if r = 0 then 3 else 0 from rfl)
  generalize kind r n = K at *
  by_cases h1 : r < 0
  · rw [if_pos (.inl h1)] at HK
    go_enter Try.func59, Try.ntmps59
    go_wp2_with fail
    go_ret
    exact ⟨ret_int HK.out.symm, HB.out⟩
  · by_cases h2 : 15 < r
    · rw [if_pos (.inr (.inl h2))] at HK
      go_enter Try.func59, Try.ntmps59
      go_wp2_with fail
      go_ret
      exact ⟨ret_int HK.out.symm, HB.out⟩
    · by_cases h3 : n < 0
      · rw [if_pos (.inr (.inr (.inl h3)))] at HK
        go_enter Try.func59, Try.ntmps59
        go_wp2_with fail
        go_ret
        exact ⟨ret_int HK.out.symm, HB.out⟩
      · by_cases h4 : 10 < n
        · rw [if_pos (.inr (.inr (.inr h4)))] at HK
          go_enter Try.func59, Try.ntmps59
          go_wp2_with fail
          go_ret
          exact ⟨ret_int HK.out.symm, HB.out⟩
        · rw [if_neg (by omega)] at HK
          by_cases h5 : 0 < n
          · rw [if_pos h5] at HK
            go_enter Try.func59, Try.ntmps59
            go_wp2_with fail
            go_ret
            exact ⟨ret_int HK.out.symm, HB.out⟩
          · rw [if_neg h5] at HK
            by_cases h6 : r = 15
            · rw [if_pos h6] at HK
              subst h6
              go_enter Try.func59, Try.ntmps59
              go_wp2_with fail
              go_ret
              exact ⟨ret_int HK.out.symm, HB.out⟩
            · rw [if_neg h6] at HK
              have h6' : (r == 15) = false := by simpa using h6
              by_cases h7 : r = 0
              · rw [if_pos h7] at HK
                subst h7
                go_enter Try.func59, Try.ntmps59
                go_wp2_with fail
                go_ret
                exact ⟨ret_int HK.out.symm, HB.out⟩
              · rw [if_neg h7] at HK
                have h7' : (r == 0) = false := by simpa using h7
                go_enter Try.func59, Try.ntmps59
                go_wp2_with fail
                go_ret
                exact ⟨ret_int HK.out.symm, HB.out⟩

/-- The reader in block b: its numbers, a slice of its own, and the kind of the last step. -/
def RdA (w : World) (b base : Nat) (ac : List Int) (kd : Int) : Prop := base ≤ b ∧ ∃ v, Two w b v (.int .i64 kd) 69 ∧ Own w base 3 .i64 v ac
theorem RdA.below {w w' : World} {b base : Nat} {ac : List Int} {kd : Int} (h : RdA w b base ac kd) (hb : Below w.heap.size w w') : RdA w' b base ac kd := by
  obtain ⟨h0, v, h1, h2⟩ := h
  exact ⟨h0, v, h1.below hb h1.lt, h2.below hb⟩
/-- A store into a block of another type leaves own numbers alone. -/
theorem Own.setTwo {w : World} {base b i : Nat} {v x y : Value} {t : TypeId} {xs : List Int} (h : Own w base 3 .i64 v xs) (ht : Two w b x y t) (hne : t ≠ 3) (u : Value) : Own (w.setCell ⟨b, i, none⟩ u) base 3 .i64 v xs := by
  refine ⟨by simpa using h.1, h.2.1, ?_⟩
  rcases h.2.2 with h0 | ⟨g, cap, cur, hv, hg, hh, r⟩
  · exact .inl h0
  · refine .inr ⟨g, cap, cur, hv, hg, ?_, r⟩
    rw [heap_setCell_other _ ⟨b, i, none⟩ g _ (fun e => by
      have e' : g = b := e
      subst e'
      unfold Two at ht
      rw [hh] at ht
      cases ht
      exact hne rfl)]
    exact hh

set_option maxHeartbeats 800000 in
theorem whole_any (b base : Nat) (ac : List Int) (kd : Int) (w : World) (hl : ac.length ≤ 1000) (h : RdA w b base ac kd) : Calls Try.prog 44 #[.pointer (some ⟨b, 0, none⟩)] w fun e w' => e = .returned (.bool (decide (ac.length = 63))) ∧ w = w' := by
  obtain ⟨h0, v, h1, h2⟩ := h
  obtain ⟨vo, vc, rfl⟩ := h2.shape
  obtain ⟨q1, q2, q3, q4⟩ := h1.cells
  have hd : ((ac.length : Int) == 63) = decide (ac.length = 63) := by
    by_cases e : ac.length = 63
    · simp [e]
    · simp [e]; omega
  clear h1 h2
  go_enter Try.func44, Try.ntmps44
  go_wp2_with fail
  go_ret
  exact ⟨rfl, rfl⟩

set_option maxHeartbeats 800000 in
theorem hasRoom_any (b base : Nat) (ac : List Int) (kd r : Int) (w : World) (hl : ac.length ≤ 1000) (hr : 0 ≤ r ∧ r ≤ 1000) (h : RdA w b base ac kd) : Calls Try.prog 60 #[.pointer (some ⟨b, 0, none⟩), .int .i64 r] w fun e w' => e = .returned (.bool (decide ((ac.length : Int) + r < 63))) ∧ w = w' := by
  obtain ⟨h0, v, h1, h2⟩ := h
  obtain ⟨vo, vc, rfl⟩ := h2.shape
  obtain ⟨q1, q2, q3, q4⟩ := h1.cells
  clear h1 h2
  go_enter Try.func60, Try.ntmps60
  go_wp2_with fail
  go_ret
  exact ⟨rfl, rfl⟩

set_option maxHeartbeats 1600000 in
theorem zeros_any (b base : Nat) (ac : List Int) (kd : Int) (n : Nat) (w : World) (hl : ac.length ≤ 1000) (hn : n ≤ 1000) (h : RdA w b base ac kd) : Calls Try.prog 61 #[.pointer (some ⟨b, 0, none⟩), .int .i64 n] w fun e w' => e = .returned (.tuple #[]) ∧ RdA w' b base (ac ++ List.replicate n 0) kd ∧ Below base w w' := by
  have HR := hid h
  have hb0 := h.1
  clear h
  go_enter Try.func61, Try.ntmps61
  go_wp2_with fail
  go_loopw [5] (fun i wr => ∃ k : Nat, k ≤ n ∧ i = .int .i64 k ∧ Hid (RdA wr b base (ac ++ List.replicate k 0) kd) ∧ Hid (Below base w wr)) (fun i _ => n - (intOf i).toNat)
  case atStart => exact ⟨0, by omega, rfl, by show RdA _ _ _ _ _; simpa using HR.out, Below.refl _ _⟩
  case round =>
    obtain ⟨k, hk, rfl, hrd, hb⟩ := hrel
    by_cases hlt : k < n
    · have hlt' : (k : Int) < (n : Int) := by omega
      obtain ⟨_, v, h1, h2⟩ := hrd.out
      obtain ⟨q1, q2, q3, q4⟩ := h1.cells
      have H1 := hid h1
      have H2 := hid h2
      have hL : (ac ++ List.replicate k (0 : Int)).length < 1000000 := by simp; omega
      have HE := hid (show ac ++ List.replicate (k + 1) (0 : Int) = (ac ++ List.replicate k 0) ++ [0] by rw [List.replicate_succ', List.append_assoc])
      generalize ac ++ List.replicate k (0 : Int) = A at *
      obtain ⟨vo, vc, rfl⟩ := h2.shape
      clear h1 h2
      go_wp2_with (at_builtin; refine wpList_pushT _ rfl _ _ 26 rfl base 3 .i64 0 8 Try.underlying26 Try.info3 _ A rfl H2.out 0 rfl (by omega) (by decide) ?_)
      intro v9 w9 ho9 hb9 hk9
      have T9 := hid (show Two w9 b (.slice vo A.length vc) (.int .i64 kd) 69 from hk9 b _ 69 (by decide) H1.out)
      obtain ⟨s9, c9, hv9⟩ := ho9.shape
      rw [List.length_append, List.length_singleton] at hv9
      subst hv9
      obtain ⟨p1, p2, p3, p4⟩ := T9.out.cells
      have HO9 := hid (ho9.setTwo (i := 0) T9.out (by decide) (.slice s9 (A.length + 1) c9))
      have HT9 := hid (T9.out.set0 (.slice s9 (A.length + 1) c9))
      have HB9 := hid ((hb.out.trans hb9).setCell (p := ⟨b, 0, none⟩) hb0 (.slice s9 (A.length + 1) c9))
      clear ho9 hb9 hk9 q1 q2 q3 q4
      go_wp2_with fail
      go_roundw
      case rel => exact ⟨k + 1, by omega, by go_num, by rw [HE.out]; exact ⟨hb0, _, HT9.out, HO9.out⟩, HB9.out⟩
      case measure => simp [intOf]; omega
    · obtain rfl : k = n := by omega
      go_wp2_with fail
      go_end0
      exact ⟨rfl, hrd.out, hb.out⟩
end Go.Proofs.Ytdlookcklkdonaa
