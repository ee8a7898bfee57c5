/- The draws of the laws FnSum and FnWords. -/
import Derived.Test.YtkeabkedbbjccaaDoorAny
namespace Go.Proofs.YtkeabkedbbjccaaDoor
open Go.RowKit
set_option linter.unusedVariables false

theorem big_any (ao : Option Addr) (n cap : Nat) (w : World) :
    Calls Tryd.prog 7 #[.slice ao n cap] w fun e w' => e = .returned (.bool (decide ((1048576 : Int) < (n : Int)))) ∧ w = w' := by
  go_enter Tryd.func7, Tryd.ntmps7
  go_wp2
  go_ret
  exact ⟨rfl, rfl⟩

def sl : List Int := [0, 1, 3, 55, 56, 57, 63, 64, 119, 120, 20]
theorem sl_bd : ∀ j : Fin 11, 0 ≤ sl.getD j.val 0 ∧ sl.getD j.val 0 ≤ 120 := by decide +kernel

set_option maxHeartbeats 1600000 in
theorem draw_sum (ao : Option Addr) (n cap : Nat) (zs : List Int) (w : World) (hcode : Code w ao n zs) :
    Calls Tryd.prog 8 #[.slice ao n cap] w fun e w' => ∃ s : ByteArray, e = .returned (.string s) ∧ s.size ≤ 120 ∧ Below w.heap.size w w' := by
  have HC := hid hcode
  clear hcode
  go_enter Tryd.func8, Tryd.ntmps8
  go_wp2_with fail
  refine (new_any ao n cap zs w HC.out).mono ?_
  rintro e w1 ⟨C, rfl, hc1, hb1⟩
  have HC1 := hid hc1
  have B1 := hid hb1
  have hCw := hc1.1
  have hlt := hc1.lt
  clear hc1 hb1
  go_wp2_with fail
  refine (pick_any w ao n cap C zs w1.heap.size 11 _ sl _ HC.out (HC1.out.below ((Below.refl _ _).alloc (Nat.le_refl _) _)) (by decide) rfl (by decide) hlt ?_).mono ?_
  · intro q hq
    obtain rfl | rfl | rfl | rfl | rfl | rfl | rfl | rfl | rfl | rfl | rfl : q = 0 ∨ q = 1 ∨ q = 2 ∨ q = 3 ∨ q = 4 ∨ q = 5 ∨ q = 6 ∨ q = 7 ∨ q = 8 ∨ q = 9 ∨ q = 10 := by omega
    all_goals simp [sl]
  · rintro e w2 ⟨j, hj, rfl, hc2, he2⟩
    have hbd := sl_bd ⟨j, hj⟩
    simp only at hbd
    generalize sl.getD j 0 = M at *
    obtain ⟨m, rfl⟩ := Int.eq_ofNat_of_zero_le hbd.1
    have hm : m ≤ 120 := by omega
    have HE2 := hid ((((Eff.refl C w1).alloc _).trans he2).below (Nat.le_of_lt hlt))
    have HC2 := hid hc2
    clear hc2 he2 hbd
    go_wp2_with fail
    refine (any_any w ao n cap C zs m w2 (by omega) HC.out HC2.out).mono ?_
    rintro e w3 ⟨s, rfl, hs, hc3, he3⟩
    have B2 := hid (B1.out.trans (HE2.out.mono hCw))
    have B3 := hid (B2.out.trans ((he3.below (Nat.le_of_lt HC2.out.lt)).mono hCw))
    have HS := hid hs
    clear hc3 he3 hs
    go_wp2
    go_ret
    exact ⟨_, rfl, by rw [HS.out]; exact hm, B3.out⟩

set_option maxHeartbeats 1600000 in
theorem draw_block (w0 : World) (ao : Option Addr) (n cap C : Nat) (zs : List Int) (w : World) (hcode : Code w0 ao n zs) (hcur : Cur w0 ao n cap C w) :
    Calls Tryd.prog 32 #[.pointer (some ⟨C, 0, none⟩)] w fun e w' => ∃ s : ByteArray, e = .returned (.string s) ∧ s.size ≤ 120 ∧ Cur w0 ao n cap C w' ∧ Eff C w w' := by
  have HC := hid hcode
  have HU := hid hcur
  clear hcode hcur
  go_enter Tryd.func32, Tryd.ntmps32
  go_wp2_with fail
  refine (once_any w0 ao n cap C zs 12 _ HC.out HU.out).mono ?_
  rintro e w1 ⟨b, rfl, hc1, he1⟩
  have HC1 := hid hc1
  have HE1 := hid he1
  have hlt := hc1.lt
  clear hc1 he1
  cases b with
  | false =>
    go_wp2_with fail
    refine (any_any w0 ao n cap C zs 64 w1 (by omega) HC.out HC1.out).mono ?_
    rintro e w3 ⟨s, rfl, hs, hc3, he3⟩
    have HS := hid hs
    have HC3 := hid hc3
    have HE3 := hid (HE1.out.trans he3)
    clear hc3 he3 hs
    go_wp2
    go_ret
    exact ⟨_, rfl, by rw [HS.out]; omega, HC3.out, HE3.out⟩
  | true =>
    go_wp2_with fail
    refine (pick_any w0 ao n cap C zs w1.heap.size 3 _ [0, 63, 65] _ HC.out (HC1.out.below ((Below.refl _ _).alloc (Nat.le_refl _) _)) (by decide) rfl (by decide) hlt ?_).mono ?_
    · intro q hq
      obtain rfl | rfl | rfl : q = 0 ∨ q = 1 ∨ q = 2 := by omega
      all_goals simp
    · rintro e w2 ⟨j, hj, rfl, hc2, he2⟩
      have hbd : 0 ≤ ([0, 63, 65] : List Int).getD j 0 ∧ ([0, 63, 65] : List Int).getD j 0 ≤ 65 := by
        obtain rfl | rfl | rfl : j = 0 ∨ j = 1 ∨ j = 2 := by omega
        all_goals decide
      generalize ([0, 63, 65] : List Int).getD j 0 = M at *
      obtain ⟨m, rfl⟩ := Int.eq_ofNat_of_zero_le hbd.1
      have hm : m ≤ 65 := by omega
      have HE2 := hid ((HE1.out.alloc _).trans he2)
      have HC2 := hid hc2
      clear hc2 he2 hbd
      go_wp2_with fail
      refine (any_any w0 ao n cap C zs m w2 (by omega) HC.out HC2.out).mono ?_
      rintro e w3 ⟨s, rfl, hs, hc3, he3⟩
      have HS := hid hs
      have HC3 := hid hc3
      have HE3 := hid (HE2.out.trans he3)
      clear hc3 he3 hs
      go_wp2
      go_ret
      exact ⟨_, rfl, by rw [HS.out]; omega, HC3.out, HE3.out⟩

theorem draw_words (ao : Option Addr) (n cap : Nat) (zs : List Int) (w : World) (hcode : Code w ao n zs) :
    Calls Tryd.prog 16 #[.slice ao n cap] w fun e w' => ∃ s : ByteArray, e = .returned (.string s) ∧ s.size ≤ 120 ∧ Below w.heap.size w w' := by
  have HC := hid hcode
  clear hcode
  go_enter Tryd.func16, Tryd.ntmps16
  go_wp2_with fail
  refine (new_any ao n cap zs w HC.out).mono ?_
  rintro e w1 ⟨C, rfl, hc1, hb1⟩
  have HC1 := hid hc1
  have B1 := hid hb1
  have hCw := hc1.1
  have hlt := hc1.lt
  clear hc1 hb1
  go_wp2_with fail
  refine (draw_block w ao n cap C zs w1 HC.out HC1.out).mono ?_
  rintro e w2 ⟨s, rfl, hs, hc2, he2⟩
  have B2 := hid (B1.out.trans ((he2.below (Nat.le_of_lt hlt)).mono hCw))
  have HS := hid hs
  clear hc2 he2 hs
  go_wp2
  go_ret
  exact ⟨_, rfl, HS.out, B2.out⟩
end Go.Proofs.YtkeabkedbbjccaaDoor
