/- DrawLogParts. -/
import Derived.Test.YtphhgfgmlfdkiaaAny
namespace Go.Proofs.Ytphhgfgmlfdkiaa
open Go.RowKit
set_option linter.unusedVariables false

theorem pick_mem (l : List Int) (P : Int → Prop) (h : ∀ x ∈ l, P x) (j : Nat) (hj : j < l.length) : P (l.getD j 0) := by
  have : l.getD j 0 = l[j] := by simp [List.getD, hj]
  rw [this]
  exact h _ (List.getElem_mem hj)

set_option maxRecDepth 100000 in
set_option maxHeartbeats 3200000 in
theorem draw_parts (ao : Option Addr) (n cap : Nat) (zs : List Int) (w : World) (hcode : Code w ao n zs) :
    Calls Try.prog 19 #[.slice ao n cap] w fun e w' => ∃ q s, e = .returned (.tuple #[.int .i64 q, .string s]) ∧ s.size ≤ 233 ∧ Below w.heap.size w w' := by
  have HC := hid hcode
  clear hcode
  go_enter Try.func19, Try.ntmps19
  go_wp2_with fail
  refine (new_any ao n cap zs w HC.out).mono ?_
  rintro e w1 ⟨C, rfl, hc1, hb1⟩
  have HC1 := hid hc1
  have B1 := hid hb1
  have hCw := hc1.1
  have hC1 := hc1.lt
  clear hc1 hb1
  go_wp2_with fail
  refine (below_any w ao n cap C zs _ _ HC.out HC1.out).mono ?_
  rintro e w2 ⟨z, rfl, hz, hc2, he2⟩
  replace HC1 := hid hc2
  have HE := hid he2
  clear hc2 he2
  have hz9 : 0 ≤ z ∧ z ≤ 9 := by omega
  go_wp2_with fail
  refine (once_any w ao n cap C zs _ _ HC.out HC1.out).mono ?_
  rintro e w3 ⟨b, rfl, hc3, he3⟩
  replace HC1 := hid hc3
  replace HE := hid (HE.out.trans he3)
  clear hc3 he3
  have hlt := HC1.out.lt
  have KEY : Hid (∀ wx, Eff C w1 wx → Below w.heap.size w wx) := hid (fun wx hx => B1.out.trans ((hx.below (by omega)).mono hCw))
  cases b
  case' true =>
    go_wp2_with fail
    refine (pick_any w ao n cap C zs w3.heap.size 4 _ [0, -1, 1000000000, 1000000001] _ HC.out (HC1.out.below ((Below.refl _ _).alloc (Nat.le_refl _) _)) (by decide) rfl (by decide) hlt ?_).mono ?_
    · intro j hj
      obtain rfl | rfl | rfl | rfl : j = 0 ∨ j = 1 ∨ j = 2 ∨ j = 3 := by omega
      all_goals simp
    rintro e w4 ⟨j, hj, rfl, hc4, he4⟩
    generalize List.getD ([0, -1, 1000000000, 1000000001] : List Int) j 0 = Y at *
    replace HC1 := hid hc4
    replace HE := hid ((HE.out.alloc _).trans he4)
    clear hc4 he4 hlt
    have hlt := HC1.out.lt
  case' false => generalize 1 + z = Y at *
  all_goals
    go_wp2_with fail
    refine (pick_any w ao n cap C zs _ 8 _ [0, 1, 115, 116, 117, 232, 233, 30] _ HC.out (HC1.out.below ((Below.refl _ _).alloc (Nat.le_refl _) _)) (by decide) rfl (by decide) hlt ?_).mono ?_
    · intro j hj
      obtain rfl | rfl | rfl | rfl | rfl | rfl | rfl | rfl : j = 0 ∨ j = 1 ∨ j = 2 ∨ j = 3 ∨ j = 4 ∨ j = 5 ∨ j = 6 ∨ j = 7 := by omega
      all_goals simp
    rintro e w5 ⟨i, hi, rfl, hc5, he5⟩
    have hi2 := pick_mem ([0, 1, 115, 116, 117, 232, 233, 30] : List Int) (fun x => 0 ≤ x ∧ x ≤ 233) (by decide) i hi
    generalize List.getD ([0, 1, 115, 116, 117, 232, 233, 30] : List Int) i 0 = X at *
    obtain ⟨m, rfl⟩ : ∃ m : Nat, X = m := ⟨X.toNat, by omega⟩
    replace HC1 := hid hc5
    replace HE := hid ((HE.out.alloc _).trans he5)
    clear hc5 he5 hlt
    go_wp2_with fail
    refine (any_any w ao n cap C zs m _ (by omega) HC.out HC1.out).mono ?_
    rintro e w6 ⟨t, rfl, ht, hc6, he6⟩
    have hm : m ≤ 233 := by omega
    replace HE := hid (HE.out.trans he6)
    have HB := hid (KEY.out _ HE.out)
    have HT := hid (show t.size ≤ 233 by omega)
    clear hc6 he6 ht HE KEY hi2 hm
    go_wp2_with fail
    refine bodyPost_ret (v := .tuple #[.int .i64 Y, .string t]) (by simp [results, Try.results19, go_sem]) rfl ?_
    exact ⟨_, _, rfl, HT.out, HB.out⟩
end Go.Proofs.Ytphhgfgmlfdkiaa
