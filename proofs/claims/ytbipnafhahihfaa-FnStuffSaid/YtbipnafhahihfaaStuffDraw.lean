/- Contracts of what is drawn for FnStuff. -/
import Derived.Test.YtbipnafhahihfaaStuffBack
import Derived.Test.YtbipnafhahihfaaAny
namespace Go.Proofs.Ytbipnafhahihfaa
open Go.RowKit
set_option linter.unusedVariables false

theorem big_any (ao : Option Addr) (n cap : Nat) (w : World) : Calls Try.prog 7 #[.slice ao n cap] w fun e w' => e = .returned (.bool (decide ((1048576 : Int) < (n : Int)))) ∧ w = w' := by
  go_enter Try.func7, Try.ntmps7
  go_wp2
  go_ret
  exact ⟨rfl, rfl⟩

theorem conv1 (w : World) (a : Int) : Sem.run Try.prog (convert 22 9 (.slice (some ⟨w.heap.size, 0, none⟩) 1 1)) (w.alloc (.cells #[.int .u8 a] 5)) =
    .ok (.string (strOfNums [a])) (w.alloc (.cells #[.int .u8 a] 5)) := by
  refine run_convert_bytes_arg _ 22 5 Try.underlying22 Try.underlying5 _ 0 1 1 [a] rfl ?_ 9 Try.underlying9
  intro i hi
  match i, hi with
  | 0, _ => simp
theorem conv2 (w : World) (a b : Int) : Sem.run Try.prog (convert 22 9 (.slice (some ⟨w.heap.size, 0, none⟩) 2 2)) (w.alloc (.cells #[.int .u8 a, .int .u8 b] 5)) =
    .ok (.string (strOfNums [a, b])) (w.alloc (.cells #[.int .u8 a, .int .u8 b] 5)) := by
  refine run_convert_bytes_arg _ 22 5 Try.underlying22 Try.underlying5 _ 0 2 2 [a, b] rfl ?_ 9 Try.underlying9
  intro i hi
  match i, hi with
  | 0, _ => simp
  | 1, _ => simp

set_option maxHeartbeats 800000 in
theorem draw_stuff (ao : Option Addr) (n cap : Nat) (zs : List Int) (w : World) (hcode : Code w ao n zs) :
    Calls Try.prog 8 #[.slice ao n cap] w fun e w' => ∃ s : ByteArray, e = .returned (.string s) ∧ s.size < 60 ∧ Below w.heap.size w w' := by
  have HC := hid hcode
  have hn := hcode.1
  clear hcode
  go_enter Try.func8, Try.ntmps8
  go_wp2_with fail
  refine (new_any ao n cap zs w HC.out).mono ?_
  rintro e w1 ⟨C, rfl, hc1, hb1⟩
  have HC1 := hid hc1
  have B1 := hid hb1
  have hCw := hc1.1
  clear hc1 hb1
  go_wp2_with fail
  refine (size_any ao n cap 60 w1 hn (by decide)).mono ?_
  rintro e w2 ⟨m, rfl, ⟨hm0, hm1⟩, rfl⟩
  go_wp2_with fail
  refine (below_any w ao n cap C zs m w1 HC.out HC1.out).mono ?_
  rintro e w3 ⟨x, rfl, ⟨hx0, hx1⟩, hc3, he3⟩
  obtain ⟨k, rfl⟩ := Int.eq_ofNat_of_zero_le hx0
  have hk : k < 60 := by omega
  have HC3 := hid hc3
  have HB3 := hid (B1.out.trans ((he3.below (Nat.le_of_lt HC1.out.lt)).mono hCw))
  clear hc3 he3 hx1
  go_wp2_with fail
  refine (any_any w ao n cap C zs k w3 (by omega) HC.out HC3.out).mono ?_
  rintro e w4 ⟨s, rfl, hs, hc4, he4⟩
  have HB4 := hid (HB3.out.trans ((he4.below (Nat.le_of_lt HC3.out.lt)).mono hCw))
  have HS := hid hs
  clear hc4 he4 hs
  go_wp2
  go_ret
  exact ⟨_, rfl, by rw [HS.out]; exact hk, HB4.out⟩

set_option maxHeartbeats 1600000 in
theorem draw_unstuff (ao : Option Addr) (n cap : Nat) (zs : List Int) (w : World) (hcode : Code w ao n zs) :
    Calls Try.prog 11 #[.slice ao n cap] w fun e w' => ∃ s : ByteArray, e = .returned (.string s) ∧ s.size < 1000 ∧ Below w.heap.size w w' := by
  have HC := hid hcode
  have hn := hcode.1
  clear hcode
  go_enter Try.func11, Try.ntmps11
  go_wp2_with fail
  refine (new_any ao n cap zs w HC.out).mono ?_
  rintro e w1 ⟨C, rfl, hc1, hb1⟩
  have HC1 := hid hc1
  have B1 := hid hb1
  have hCw := hc1.1
  clear hc1 hb1
  go_wp2_with fail
  refine (size_any ao n cap 60 w1 hn (by decide)).mono ?_
  rintro e w2 ⟨m, rfl, ⟨hm0, hm1⟩, rfl⟩
  go_wp2_with fail
  refine (below_any w ao n cap C zs m w1 HC.out HC1.out).mono ?_
  rintro e w3 ⟨x, rfl, ⟨hx0, hx1⟩, hc3, he3⟩
  obtain ⟨k, rfl⟩ := Int.eq_ofNat_of_zero_le hx0
  have hk : k < 60 := by omega
  have HC3 := hid hc3
  have HB3 := hid (B1.out.trans ((he3.below (Nat.le_of_lt HC1.out.lt)).mono hCw))
  clear hc3 he3 hx1
  go_wp2_with fail
  refine (any_any w ao n cap C zs k w3 (by omega) HC.out HC3.out).mono ?_
  rintro e w4 ⟨s, rfl, hs, hc4, he4⟩
  have HB4 := hid (HB3.out.trans ((he4.below (Nat.le_of_lt HC3.out.lt)).mono hCw))
  have HC4 := hid hc4
  have hs60 : s.size < 60 := by omega
  clear hc4 he4 hs HC3 HB3
  go_wp2_with fail
  refine (spec_stuff s w4 (by omega)).mono ?_
  rintro e w5 ⟨rfl, hb5⟩
  have HB5 := hid (HB4.out.trans (hb5.mono HB4.out.size))
  have HC5 := hid (HC4.out.below hb5)
  have hsz : (strOfNums (stuffTo (bt s) s.size)).size < 200 := by rw [strOfNums_size]; have := stuffTo_length (bt s) s.size; omega
  generalize strOfNums (stuffTo (bt s) s.size) = T at *
  clear hb5 HC4 HB4
  go_wp2_with fail
  refine (below_any w ao n cap C zs 5 w5 HC.out HC5.out).mono ?_
  rintro e w6 ⟨x, rfl, ⟨hx0, hx1⟩, hc6, he6⟩
  have HB6 := hid (HB5.out.trans ((he6.below (Nat.le_of_lt HC5.out.lt)).mono hCw))
  have hwsz : w.heap.size ≤ w6.heap.size := HB6.out.size
  clear hc6 he6 hx1
  have hcv1 := conv1 w6
  have hcv2 := conv2 w6
  have z1 : (strOfNums [255]).size = 1 := strOfNums_size _
  have z2 : (strOfNums [255, 1]).size = 2 := strOfNums_size _
  by_cases h0 : x = 0
  · subst h0
    go_wp2
    go_ret
    exact ⟨_, rfl, by rw [ByteArray.size_append, z1]; omega, HB6.out.alloc hwsz _⟩
  · have h0' : (x == 0) = false := by simpa using h0
    by_cases h1 : x = 1
    · subst h1
      go_wp2
      go_ret
      exact ⟨_, rfl, by rw [ByteArray.size_append, z2]; omega, HB6.out.alloc hwsz _⟩
    · have h1' : (x == 1) = false := by simpa using h1
      go_wp2
      go_ret
      exact ⟨_, rfl, by omega, HB6.out⟩
end Go.Proofs.Ytbipnafhahihfaa
