/- Contracts of what is drawn for FnNums. -/
import Derived.Test.YtdimglmabmkddaaWord
import Derived.Test.YtdimglmabmkddaaMark
namespace Go.Proofs.Ytdimglmabmkddaa
open Go.RowKit
set_option linter.unusedVariables false

set_option maxRecDepth 100000 in
set_option maxHeartbeats 1600000 in
theorem num_any (w0 : World) (ao : Option Addr) (n cap C : Nat) (zs : List Int) (w : World) (hcode : Code w0 ao n zs) (hcur : Cur w0 ao n cap C w) :
    Calls Try.prog 46 #[.pointer (some ⟨C, 0, none⟩)] w fun e w' => ∃ x : Int, e = .returned (.int .i64 x) ∧ Cur w0 ao n cap C w' ∧ Eff C w w' := by
  have HC := hid hcode
  have HF := hid (once_any w0 ao n cap C zs 4 w hcode hcur)
  clear hcode hcur
  go_enter Try.func46, Try.ntmps46
  go_wp2_with fail
  refine HF.out.mono ?_
  rintro e w1 ⟨b, rfl, hc1, he1⟩
  have hlt := hc1.lt
  have HC1 := hid hc1
  have HE1 := hid he1
  clear hc1 he1
  cases b with
  | true =>
    go_wp2_with fail
    refine (pick_any w0 ao n cap C zs w1.heap.size 8 _ [0, 127, 128, 16383, 16384, 1000000000, 1000000001, -1] _ HC.out (HC1.out.below ((Below.refl _ _).alloc (Nat.le_refl _) _)) (by decide) rfl (by decide) hlt ?_).mono ?_
    · intro j hj
      obtain rfl | rfl | rfl | rfl | rfl | rfl | rfl | rfl : j = 0 ∨ j = 1 ∨ j = 2 ∨ j = 3 ∨ j = 4 ∨ j = 5 ∨ j = 6 ∨ j = 7 := by omega
      all_goals simp
    · rintro e w2 ⟨j, hj, rfl, hc2, he2⟩
      generalize List.getD _ j 0 = Y
      have HC2 := hid hc2
      have HE2 := hid ((HE1.out.alloc _).trans he2)
      clear hc2 he2
      go_wp2
      go_ret
      exact ⟨_, rfl, HC2.out, HE2.out⟩
  | false =>
    go_wp2_with fail
    refine (word_any w0 ao n cap C zs w1 HC.out HC1.out).mono ?_
    rintro e w2 ⟨x, rfl, ⟨hx0, hx1⟩, hc2, he2⟩
    have HC2 := hid hc2
    have HE2 := hid (HE1.out.trans he2)
    clear hc2 he2
    go_wp2
    go_ret
    exact ⟨_, rfl, HC2.out, HE2.out⟩

set_option maxHeartbeats 800000 in
theorem draw_putNum (ao : Option Addr) (n cap : Nat) (zs : List Int) (w : World) (hcode : Code w ao n zs) :
    Calls Try.prog 19 #[.slice ao n cap] w fun e w' => ∃ x : Int, e = .returned (.int .i64 x) ∧ Below w.heap.size w w' := by
  have HC := hid hcode
  clear hcode
  go_enter Try.func19, Try.ntmps19
  go_wp2_with fail
  refine (new_any ao n cap zs w HC.out).mono ?_
  rintro e w1 ⟨C, rfl, hc1, hb1⟩
  have HC1 := hid hc1
  have B1 := hid hb1
  have hCw := hc1.1
  clear hc1 hb1
  go_wp2_with fail
  refine (num_any w ao n cap C zs w1 HC.out HC1.out).mono ?_
  rintro e w3 ⟨x, rfl, hc3, he3⟩
  have HB3 := hid (B1.out.trans ((he3.below (Nat.le_of_lt HC1.out.lt)).mono hCw))
  clear hc3 he3
  go_wp2
  go_ret
  exact ⟨_, rfl, HB3.out⟩

set_option maxHeartbeats 800000 in
theorem draw_putWord (ao : Option Addr) (n cap : Nat) (zs : List Int) (w : World) (hcode : Code w ao n zs) :
    Calls Try.prog 23 #[.slice ao n cap] w fun e w' => ∃ x : Int, e = .returned (.int .u32 x) ∧ (0 ≤ x ∧ x < 4294967296) ∧ Below w.heap.size w w' := by
  have HC := hid hcode
  clear hcode
  go_enter Try.func23, Try.ntmps23
  go_wp2_with fail
  refine (new_any ao n cap zs w HC.out).mono ?_
  rintro e w1 ⟨C, rfl, hc1, hb1⟩
  have HC1 := hid hc1
  have B1 := hid hb1
  have hCw := hc1.1
  clear hc1 hb1
  go_wp2_with fail
  refine (word_any w ao n cap C zs w1 HC.out HC1.out).mono ?_
  rintro e w3 ⟨x, rfl, hx, hc3, he3⟩
  have HB3 := hid (B1.out.trans ((he3.below (Nat.le_of_lt HC1.out.lt)).mono hCw))
  have HX := hid hx
  clear hc3 he3 hx
  go_wp2
  go_ret
  exact ⟨_, rfl, HX.out, HB3.out⟩

theorem pows (k : Nat) : (1 : Int) ≤ 2 ^ k := by have : (0 : Int) < 2 ^ k := Int.pow_pos (by decide); omega

set_option maxRecDepth 100000 in
set_option maxHeartbeats 3200000 in
theorem draw_numBits (ao : Option Addr) (n cap : Nat) (zs : List Int) (w : World) (hcode : Code w ao n zs) :
    Calls Try.prog 15 #[.slice ao n cap] w fun e w' => ∃ x m : Int, e = .returned (.tuple #[.int .i64 x, .int .i64 m]) ∧ Below w.heap.size w w' := by
  have HC := hid hcode
  clear hcode
  go_enter Try.func15, Try.ntmps15
  go_wp2_with fail
  refine (new_any ao n cap zs w HC.out).mono ?_
  rintro e w1 ⟨C, rfl, hc1, hb1⟩
  have HC1 := hid hc1
  have B1 := hid hb1
  have hCw := hc1.1
  clear hc1 hb1
  go_wp2_with fail
  refine (below_any w ao n cap C zs 34 w1 HC.out HC1.out).mono ?_
  rintro e w2 ⟨x, rfl, ⟨hx0, hx1⟩, hc2, he2⟩
  obtain ⟨k, rfl⟩ := Int.eq_ofNat_of_zero_le hx0
  have hk : k < 34 := by omega
  have HC2 := hid hc2
  have HE2 := hid he2
  clear hc2 he2 hx1
  go_wp2_with fail
  refine (word_any w ao n cap C zs w2 HC.out HC2.out).mono ?_
  rintro e w3 ⟨y, rfl, ⟨hy0, hy1⟩, hc3, he3⟩
  have HC3 := hid hc3
  have HE3 := hid (HE2.out.trans he3)
  clear hc3 he3 HE2 HC2
  by_cases hk33 : k < 33
  · have hd : (k : Int) < 33 := by omega
    go_wp2_with fail
    refine (once_any w ao n cap C zs 6 w3 HC.out HC3.out).mono ?_
    rintro e w4 ⟨b4, rfl, hc4, he4⟩
    have HC4 := hid hc4
    have HE4 := hid (HE3.out.trans he4)
    clear hc4 he4
    cases b4 with
    | true =>
      go_wp2_with fail
      refine (once_any w ao n cap C zs 15 w4 HC.out HC4.out).mono ?_
      rintro e w5 ⟨b5, rfl, hc5, he5⟩
      have HC5 := hid hc5
      have HE5 := hid (HE4.out.trans he5)
      have hlt5 := hc5.lt
      clear hc5 he5
      cases b5 with
      | false =>
        have HB := hid (B1.out.trans ((HE5.out.below (Nat.le_of_lt HC1.out.lt)).mono hCw))
        go_wp2
        go_ret2
        exact ⟨_, _, rfl, HB.out⟩
      | true =>
        go_wp2_with fail
        refine (pick_any w ao n cap C zs w5.heap.size 3 _ [-1, 0, 1] _ HC.out (HC5.out.below ((Below.refl _ _).alloc (Nat.le_refl _) _)) (by decide) rfl (by decide) hlt5 ?_).mono ?_
        · intro j hj
          obtain rfl | rfl | rfl : j = 0 ∨ j = 1 ∨ j = 2 := by omega
          all_goals simp
        · rintro e w6 ⟨j, hj, rfl, hc6, he6⟩
          generalize List.getD _ j 0 = Y6
          have HC6 := hid hc6
          have HE6 := hid ((HE5.out.alloc _).trans he6)
          have hlt6 := hc6.lt
          clear hc6 he6
          go_wp2_with fail
          refine (pick_any w ao n cap C zs w6.heap.size 4 _ [-1, 0, 33, 1] _ HC.out (HC6.out.below ((Below.refl _ _).alloc (Nat.le_refl _) _)) (by decide) rfl (by decide) hlt6 ?_).mono ?_
          · intro j hj
            obtain rfl | rfl | rfl | rfl : j = 0 ∨ j = 1 ∨ j = 2 ∨ j = 3 := by omega
            all_goals simp
          · rintro e w7 ⟨j, hj, rfl, hc7, he7⟩
            generalize List.getD _ j 0 = Y7
            have HB := hid (B1.out.trans ((((HE6.out.alloc _).trans he7).below (Nat.le_of_lt HC1.out.lt)).mono hCw))
            clear hc7 he7
            go_wp2
            go_ret2
            exact ⟨_, _, rfl, HB.out⟩
    | false =>
      go_wp2_with fail
      refine (pow2_any k w4 (by omega)).mono ?_
      rintro e w4' ⟨rfl, rfl⟩
      have hp := pows k
      have hq : (2 : Int) ^ k ≤ 4294967296 := by
        have h := pow2_mono k (32 - k)
        rw [show k + (32 - k) = 32 by omega] at h
        exact h
      generalize (2 : Int) ^ k = P at *
      go_wp2_with fail
      refine (once_any w ao n cap C zs 15 w4 HC.out HC4.out).mono ?_
      rintro e w5 ⟨b5, rfl, hc5, he5⟩
      have HC5 := hid hc5
      have HE5 := hid (HE4.out.trans he5)
      have hlt5 := hc5.lt
      clear hc5 he5
      cases b5 with
      | false =>
        have HB := hid (B1.out.trans ((HE5.out.below (Nat.le_of_lt HC1.out.lt)).mono hCw))
        go_wp2
        go_ret2
        exact ⟨_, _, rfl, HB.out⟩
      | true =>
        go_wp2_with fail
        refine (pick_any w ao n cap C zs w5.heap.size 3 _ [-1, 0, 1] _ HC.out (HC5.out.below ((Below.refl _ _).alloc (Nat.le_refl _) _)) (by decide) rfl (by decide) hlt5 ?_).mono ?_
        · intro j hj
          obtain rfl | rfl | rfl : j = 0 ∨ j = 1 ∨ j = 2 := by omega
          all_goals simp
        · rintro e w6 ⟨j, hj, rfl, hc6, he6⟩
          generalize List.getD _ j 0 = Y6
          have HC6 := hid hc6
          have HE6 := hid ((HE5.out.alloc _).trans he6)
          have hlt6 := hc6.lt
          clear hc6 he6
          go_wp2_with fail
          refine (pick_any w ao n cap C zs w6.heap.size 4 _ [-1, 0, 33, 1] _ HC.out (HC6.out.below ((Below.refl _ _).alloc (Nat.le_refl _) _)) (by decide) rfl (by decide) hlt6 ?_).mono ?_
          · intro j hj
            obtain rfl | rfl | rfl | rfl : j = 0 ∨ j = 1 ∨ j = 2 ∨ j = 3 := by omega
            all_goals simp
          · rintro e w7 ⟨j, hj, rfl, hc7, he7⟩
            generalize List.getD _ j 0 = Y7
            have HB := hid (B1.out.trans ((((HE6.out.alloc _).trans he7).below (Nat.le_of_lt HC1.out.lt)).mono hCw))
            clear hc7 he7
            go_wp2
            go_ret2
            exact ⟨_, _, rfl, HB.out⟩
  · have hd : ¬ (k : Int) < 33 := by omega
    have hd2 : (33 : Int) ≤ (k : Int) := by omega
    go_wp2_with fail
    refine (once_any w ao n cap C zs 15 w3 HC.out HC3.out).mono ?_
    rintro e w5 ⟨b5, rfl, hc5, he5⟩
    have HC5 := hid hc5
    have HE5 := hid (HE3.out.trans he5)
    have hlt5 := hc5.lt
    clear hc5 he5
    cases b5 with
    | false =>
      have HB := hid (B1.out.trans ((HE5.out.below (Nat.le_of_lt HC1.out.lt)).mono hCw))
      go_wp2
      go_ret2
      exact ⟨_, _, rfl, HB.out⟩
    | true =>
      go_wp2_with fail
      refine (pick_any w ao n cap C zs w5.heap.size 3 _ [-1, 0, 1] _ HC.out (HC5.out.below ((Below.refl _ _).alloc (Nat.le_refl _) _)) (by decide) rfl (by decide) hlt5 ?_).mono ?_
      · intro j hj
        obtain rfl | rfl | rfl : j = 0 ∨ j = 1 ∨ j = 2 := by omega
        all_goals simp
      · rintro e w6 ⟨j, hj, rfl, hc6, he6⟩
        generalize List.getD _ j 0 = Y6
        have HC6 := hid hc6
        have HE6 := hid ((HE5.out.alloc _).trans he6)
        have hlt6 := hc6.lt
        clear hc6 he6
        go_wp2_with fail
        refine (pick_any w ao n cap C zs w6.heap.size 4 _ [-1, 0, 33, 1] _ HC.out (HC6.out.below ((Below.refl _ _).alloc (Nat.le_refl _) _)) (by decide) rfl (by decide) hlt6 ?_).mono ?_
        · intro j hj
          obtain rfl | rfl | rfl | rfl : j = 0 ∨ j = 1 ∨ j = 2 ∨ j = 3 := by omega
          all_goals simp
        · rintro e w7 ⟨j, hj, rfl, hc7, he7⟩
          generalize List.getD _ j 0 = Y7
          have HB := hid (B1.out.trans ((((HE6.out.alloc _).trans he7).below (Nat.le_of_lt HC1.out.lt)).mono hCw))
          clear hc7 he7
          go_wp2
          go_ret2
          exact ⟨_, _, rfl, HB.out⟩
end Go.Proofs.Ytdimglmabmkddaa
