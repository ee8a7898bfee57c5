/- Contracts of the law's own helpers and of what is drawn for FnBits. -/
import Derived.Test.YtdimglmabmkddaaBitsBack
import Derived.Test.YtdimglmabmkddaaList
import Derived.Test.YtdimglmabmkddaaPutLaw
namespace Go.Proofs.Ytdimglmabmkddaa
open Go.RowKit
set_option linter.unusedVariables false

theorem big_any (ao : Option Addr) (n cap : Nat) (w : World) : Calls Try.prog 9 #[.slice ao n cap] w fun e w' => e = .returned (.bool (decide ((1048576 : Int) < (n : Int)))) ∧ w = w' := by
  go_enter Try.func9, Try.ntmps9
  go_wp2
  go_ret
  exact ⟨rfl, rfl⟩

set_option maxHeartbeats 800000 in
theorem same_yes (ao bo : Option Addr) (n cap cap' : Nat) (xs : List Int) (w : World) (hn : n ≤ 4194304) (ha : View .i64 w ao n xs) (hb : View .i64 w bo n xs) :
    Calls Try.prog 14 #[.slice ao n cap, .slice bo n cap'] w fun e w' => e = .returned (.bool true) ∧ Below w.heap.size w w' := by
  have HA := hid ha
  have HB := hid hb
  clear ha hb
  go_enter Try.func14, Try.ntmps14
  go_wp2
  go_loopw [5] (fun i wr => ∃ k : Nat, k ≤ n ∧ i = .int .i64 k ∧ ∃ q, wr = w.drewN q) (fun i _ => n - (intOf i).toNat)
  case atStart => exact ⟨0, by omega, rfl, 0, rfl⟩
  case round =>
    obtain ⟨k, hk, rfl, q, rfl⟩ := hrel
    by_cases hlt : k < n
    · obtain ⟨b, off, rfl, hc⟩ := HA.out.2 k hlt
      obtain ⟨b', off', rfl, hc'⟩ := HB.out.2 k hlt
      have hlt' : (k : Int) < (n : Int) := by omega
      generalize xs.getD k 0 = X at *
      go_wp2
      go_quiet (fail)
      go_wp2
      go_roundw
      case rel => exact ⟨k + 1, by omega, by go_num, _, rfl⟩
      case measure => simp [intOf]; omega
    · obtain rfl : k = n := by omega
      go_wp2
      go_ret
      exact ⟨rfl, belowN (Below.refl _ _) _⟩

set_option maxHeartbeats 800000 in
theorem draw_putBits (ao : Option Addr) (n cap : Nat) (zs : List Int) (w : World) (hcode : Code w ao n zs) :
    Calls Try.prog 10 #[.slice ao n cap] w fun e w' => ∃ v : Value, e = .returned v ∧ ∃ xs : List Int, xs.length < 90 ∧ Own w' w.heap.size 3 .i64 v xs ∧ Below w.heap.size w w' := by
  have HC := hid hcode
  have hn := hcode.1
  clear hcode
  go_enter Try.func10, Try.ntmps10
  go_wp2_with fail
  refine (new_any ao n cap zs w HC.out).mono ?_
  rintro e w1 ⟨C, rfl, hc1, hb1⟩
  have HC1 := hid hc1
  have B1 := hid hb1
  have hCw := hc1.1
  clear hc1 hb1
  go_wp2_with fail
  refine (size_any ao n cap 90 w1 hn (by decide)).mono ?_
  rintro e w2 ⟨m, rfl, ⟨hm0, hm1⟩, rfl⟩
  go_wp2_with fail
  refine (below_any w ao n cap C zs m w1 HC.out HC1.out).mono ?_
  rintro e w3 ⟨x, rfl, ⟨hx0, hx1⟩, hc3, he3⟩
  obtain ⟨k, rfl⟩ := Int.eq_ofNat_of_zero_le hx0
  have hk : k < 90 := by omega
  have HC3 := hid hc3
  have HB3 := hid (B1.out.trans ((he3.below (Nat.le_of_lt HC1.out.lt)).mono hCw))
  clear hc3 he3 hx1
  go_wp2_with fail
  refine (list_any w ao n cap C zs k w3 (by omega) HC.out HC3.out).mono ?_
  rintro e w4 ⟨v, rfl, xs, hxs, ho4, hc4, he4⟩
  obtain ⟨a4, p4, rfl⟩ := ho4.shape
  have HO := hid (ho4.lower HB3.out.size)
  have HB4 := hid (HB3.out.trans ((he4.below (Nat.le_of_lt HC3.out.lt)).mono hCw))
  have HX := hid hxs
  clear ho4 hc4 he4 hxs
  go_wp2
  go_ret
  exact ⟨_, rfl, xs, by have := HX.out; omega, HO.out, HB4.out⟩
end Go.Proofs.Ytdimglmabmkddaa
