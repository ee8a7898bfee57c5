/- Contracts of what is drawn for FnPlan. -/
import Derived.Test.YtckpdmgmeolepaaDraw
import Derived.Test.YtckpdmgmeolepaaMark
namespace Go.Proofs.Ytckpdmgmeolepaa
open Go.RowKit
set_option linter.unusedVariables false


set_option maxHeartbeats 800000 in
/-- Two slices that read as the same numbers. -/
theorem same_same (ao bo : Option Addr) (n cap cap' : Nat) (xs : List Int) (w : World) (hn : n ≤ 4194304) (ha : View .i64 w ao n xs) (hb : View .i64 w bo n xs) :
    Calls Try.prog 12 #[.slice ao n cap, .slice bo n cap'] w fun e w' => e = .returned (.bool true) ∧ Below w.heap.size w w' := by
  have HA := show Hid _ from ha
  have HB := show Hid _ from hb
  clear ha hb
  go_enter Try.func12, Try.ntmps12
  go_wp2
  go_loopw [5] (fun i wr => ∃ k : Nat, k ≤ n ∧ i = .int .i64 k ∧ ∃ q, wr = w.drewN q) (fun i _ => n - (intOf i).toNat)
  case atStart => exact ⟨0, by omega, rfl, 0, rfl⟩
  case round =>
    obtain ⟨k, hk, rfl, q, rfl⟩ := hrel
    by_cases hlt : k < n
    · obtain ⟨b, off, rfl, hc⟩ := HA.out.2 k hlt
      obtain ⟨b', off', rfl, hc'⟩ := HB.out.2 k hlt
      have hlt' : (k : Int) < (n : Int) := by omega
      generalize xs.getD k 0 = X at *
      go_wp2
      go_quiet (fail)
      go_wp2
      go_roundw
      case rel => exact ⟨k + 1, by omega, by go_num, _, rfl⟩
      case measure => simp [intOf]; omega
    · obtain rfl : k = n := by omega
      go_wp2
      go_ret
      exact ⟨rfl, belowN (Below.refl _ _) _⟩

theorem big_any (ao : Option Addr) (n cap : Nat) (w : World) :
    Calls Try.prog 9 #[.slice ao n cap] w fun e w' => e = .returned (.bool (decide ((1048576 : Int) < (n : Int)))) ∧ w = w' := by
  go_enter Try.func9, Try.ntmps9
  go_wp2
  go_ret
  exact ⟨rfl, rfl⟩

theorem coef_bd (j : Nat) (hj : j < 10) : -9223372036854775807 ≤ [0, 1, -1, 2047, -2047, 2048, -2048, 512, -511, 9223372036854775807].getD j (0 : Int) ∧ [0, 1, -1, 2047, -2047, 2048, -2048, 512, -511, 9223372036854775807].getD j (0 : Int) ≤ 9223372036854775807 := by
  obtain rfl | rfl | rfl | rfl | rfl | rfl | rfl | rfl | rfl | rfl : j = 0 ∨ j = 1 ∨ j = 2 ∨ j = 3 ∨ j = 4 ∨ j = 5 ∨ j = 6 ∨ j = 7 ∨ j = 8 ∨ j = 9 := by omega
  all_goals decide

set_option maxRecDepth 100000 in
set_option maxHeartbeats 1600000 in
theorem coef_any (w0 : World) (ao : Option Addr) (n cap C : Nat) (zs : List Int) (w : World) (hcode : Code w0 ao n zs) (hcur : Cur w0 ao n cap C w) :
    Calls Try.prog 32 #[.pointer (some ⟨C, 0, none⟩)] w fun e w' => ∃ x : Int, e = .returned (.int .i64 x) ∧ (-9223372036854775807 ≤ x ∧ x ≤ 9223372036854775807) ∧ Cur w0 ao n cap C w' ∧ Eff C w w' := by
  have HC := hid hcode
  have HF := hid (once_any w0 ao n cap C zs 3 w hcode hcur)
  clear hcode hcur
  go_enter Try.func32, Try.ntmps32
  go_wp2_with fail
  refine HF.out.mono ?_
  rintro e w1 ⟨b, rfl, hc1, he1⟩
  have hlt := hc1.lt
  have HC1 := hid hc1
  have HE1 := hid he1
  clear hc1 he1
  cases b with
  | true =>
    go_wp2_with fail
    refine (pick_any w0 ao n cap C zs w1.heap.size 10 _ [0, 1, -1, 2047, -2047, 2048, -2048, 512, -511, 9223372036854775807] _ HC.out (HC1.out.below ((Below.refl _ _).alloc (Nat.le_refl _) _)) (by decide) rfl (by decide) hlt ?_).mono ?_
    · intro j hj
      obtain rfl | rfl | rfl | rfl | rfl | rfl | rfl | rfl | rfl | rfl : j = 0 ∨ j = 1 ∨ j = 2 ∨ j = 3 ∨ j = 4 ∨ j = 5 ∨ j = 6 ∨ j = 7 ∨ j = 8 ∨ j = 9 := by omega
      all_goals simp
    · rintro e w2 ⟨j, hj, rfl, hc2, he2⟩
      have hbd := hid (coef_bd j hj)
      generalize List.getD _ j (0 : Int) = Y at *
      have HC2 := hid hc2
      have HE2 := hid ((HE1.out.alloc _).trans he2)
      clear hc2 he2
      go_wp2
      go_ret
      exact ⟨_, rfl, hbd.out, HC2.out, HE2.out⟩
  | false =>
    go_wp2_with fail
    refine (below_any w0 ao n cap C zs 4095 w1 HC.out HC1.out).mono ?_
    rintro e w2 ⟨x, rfl, ⟨hx0, hx1⟩, hc2, he2⟩
    have hx2 : x < 4095 := by omega
    have HC2 := hid hc2
    have HE2 := hid (HE1.out.trans he2)
    clear hc2 he2 hx1
    go_wp2
    go_ret
    exact ⟨_, rfl, ⟨by omega, by omega⟩, HC2.out, HE2.out⟩

set_option maxHeartbeats 800000 in
theorem draw_num (ao : Option Addr) (n cap : Nat) (zs : List Int) (w : World) (hcode : Code w ao n zs) :
    Calls Try.prog 10 #[.slice ao n cap] w fun e w' => ∃ x : Int, e = .returned (.int .i64 x) ∧ (-9223372036854775807 ≤ x ∧ x ≤ 9223372036854775807) ∧ Below w.heap.size w w' := by
  have HC := hid hcode
  clear hcode
  go_enter Try.func10, Try.ntmps10
  go_wp2_with fail
  refine (new_any ao n cap zs w HC.out).mono ?_
  rintro e w1 ⟨C, rfl, hc1, hb1⟩
  have HC1 := hid hc1
  have B1 := hid hb1
  have hCw := hc1.1
  clear hc1 hb1
  go_wp2_with fail
  refine (coef_any w ao n cap C zs w1 HC.out HC1.out).mono ?_
  rintro e w3 ⟨x, rfl, hx, hc3, he3⟩
  have HB3 := hid (B1.out.trans ((he3.below (Nat.le_of_lt HC1.out.lt)).mono hCw))
  have HX := hid hx
  clear hc3 he3 hx
  go_wp2
  go_ret
  exact ⟨_, rfl, HX.out, HB3.out⟩

end Go.Proofs.Ytckpdmgmeolepaa
