/- The contract of the drawn word. -/
import Derived.Test.YtmcfhfieabnigaaDoorDraw
namespace Go.Proofs.YtmcfhfieabnigaaDoor
open Go.RowKit
set_option linter.unusedVariables false

theorem u32_wrap (x : Int) : 0 ≤ x % 4294967296 ∧ x % 4294967296 < 4294967296 := by omega

set_option maxRecDepth 100000 in
set_option maxHeartbeats 1600000 in
theorem word_any (w0 : World) (ao : Option Addr) (n cap C : Nat) (zs : List Int) (w : World) (hcode : Code w0 ao n zs) (hcur : Cur w0 ao n cap C w) :
    Calls Tryd.prog 22 #[.pointer (some ⟨C, 0, none⟩)] w fun e w' => ∃ x : Int, e = .returned (.int .u32 x) ∧ (0 ≤ x ∧ x < 4294967296) ∧ Cur w0 ao n cap C w' ∧ Eff C w w' := by
  have HC := hid hcode
  have HF := hid (below_any w0 ao n cap C zs 4 w hcode hcur)
  clear hcode hcur
  go_enter Tryd.func22, Tryd.ntmps22
  go_wp2_with fail
  refine HF.out.mono ?_
  rintro e w1 ⟨x, rfl, ⟨hx0, hx1⟩, hc1, he1⟩
  have hlt := hc1.lt
  have HC1 := hid hc1
  have HE1 := hid he1
  clear hc1 he1
  by_cases h0 : x = 0
  · subst h0
    go_wp2_with fail
    refine (pick_any w0 ao n cap C zs w1.heap.size 11 _ [0, 1, 2, 31, 32, 255, 256, 2147483647, 2147483648, 4294967295, 4294967294] _ HC.out (HC1.out.below ((Below.refl _ _).alloc (Nat.le_refl _) _)) (by decide) rfl (by decide) hlt ?_).mono ?_
    · intro j hj
      obtain rfl | rfl | rfl | rfl | rfl | rfl | rfl | rfl | rfl | rfl | rfl : j = 0 ∨ j = 1 ∨ j = 2 ∨ j = 3 ∨ j = 4 ∨ j = 5 ∨ j = 6 ∨ j = 7 ∨ j = 8 ∨ j = 9 ∨ j = 10 := by omega
      all_goals simp
    · rintro e w2 ⟨j, hj, rfl, hc2, he2⟩
      generalize List.getD _ j 0 = Y
      have HC2 := hid hc2
      have HE2 := hid ((HE1.out.alloc _).trans he2)
      clear hc2 he2
      go_wp2
      go_ret
      exact ⟨_, rfl, u32_wrap _, HC2.out, HE2.out⟩
  · have h0' : (x == 0) = false := by simpa using h0
    by_cases h1 : x = 1
    · subst h1
      go_wp2_with fail
      refine (below_any w0 ao n cap C zs 300 _ HC.out HC1.out).mono ?_
      rintro e w2 ⟨y, rfl, ⟨hy0, hy1⟩, hc2, he2⟩
      have HC2 := hid hc2
      have HE2 := hid (HE1.out.trans he2)
      have hy2 : y < 300 := by omega
      clear hc2 he2 hy1
      go_wp2
      go_ret
      exact ⟨_, rfl, ⟨by omega, by omega⟩, HC2.out, HE2.out⟩
    · have h1' : (x == 1) = false := by simpa using h1
      go_wp2_with fail
      refine (below_any w0 ao n cap C zs 65536 _ HC.out HC1.out).mono ?_
      rintro e w2 ⟨y, rfl, ⟨hy0, hy1⟩, hc2, he2⟩
      have HC2 := hid hc2
      have HE2 := hid (HE1.out.trans he2)
      have hy2 : y < 65536 := by omega
      clear hc2 he2 hy1
      go_wp2_with fail
      refine (below_any w0 ao n cap C zs 65536 _ HC.out HC2.out).mono ?_
      rintro e w3 ⟨z, rfl, ⟨hz0, hz1⟩, hc3, he3⟩
      have HC3 := hid hc3
      have HE3 := hid (HE2.out.trans he3)
      have hz2 : z < 65536 := by omega
      clear hc3 he3 hz1
      go_wp2
      go_ret
      exact ⟨_, rfl, ⟨by omega, by omega⟩, HC3.out, HE3.out⟩
end Go.Proofs.YtmcfhfieabnigaaDoor
