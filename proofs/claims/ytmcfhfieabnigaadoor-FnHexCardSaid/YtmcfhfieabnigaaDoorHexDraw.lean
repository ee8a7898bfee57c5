/- Contracts of what is drawn for FnHex. -/
import Derived.Test.YtmcfhfieabnigaaDoorHexPlain
import Derived.Test.YtmcfhfieabnigaaDoorAny
import Derived.Test.YtmcfhfieabnigaaDoorWord
namespace Go.Proofs.YtmcfhfieabnigaaDoor
open Go.RowKit
set_option linter.unusedVariables false

theorem big_any (ao : Option Addr) (n cap : Nat) (w : World) : Calls Tryd.prog 5 #[.slice ao n cap] w fun e w' => e = .returned (.bool (decide ((1048576 : Int) < (n : Int)))) ∧ w = w' := by
  go_enter Tryd.func5, Tryd.ntmps5
  go_wp2
  go_ret
  exact ⟨rfl, rfl⟩

set_option maxHeartbeats 800000 in
theorem draw_hexText (ao : Option Addr) (n cap : Nat) (zs : List Int) (w : World) (hcode : Code w ao n zs) :
    Calls Tryd.prog 6 #[.slice ao n cap] w fun e w' => ∃ s : ByteArray, e = .returned (.string s) ∧ s.size < 60 ∧ Below w.heap.size w w' := by
  have HC := hid hcode
  have hn := hcode.1
  clear hcode
  go_enter Tryd.func6, Tryd.ntmps6
  go_wp2_with fail
  refine (new_any ao n cap zs w HC.out).mono ?_
  rintro e w1 ⟨C, rfl, hc1, hb1⟩
  have HC1 := hid hc1
  have B1 := hid hb1
  have hCw := hc1.1
  clear hc1 hb1
  go_wp2_with fail
  refine (size_any ao n cap 60 w1 hn (by decide)).mono ?_
  rintro e w2 ⟨m, rfl, ⟨hm0, hm1⟩, rfl⟩
  go_wp2_with fail
  refine (below_any w ao n cap C zs m w1 HC.out HC1.out).mono ?_
  rintro e w3 ⟨x, rfl, ⟨hx0, hx1⟩, hc3, he3⟩
  obtain ⟨k, rfl⟩ := Int.eq_ofNat_of_zero_le hx0
  have hk : k < 60 := by omega
  have HC3 := hid hc3
  have HB3 := hid (B1.out.trans ((he3.below (Nat.le_of_lt HC1.out.lt)).mono hCw))
  clear hc3 he3 hx1
  go_wp2_with fail
  refine (any_any w ao n cap C zs k w3 (by omega) HC.out HC3.out).mono ?_
  rintro e w4 ⟨s, rfl, hs, hc4, he4⟩
  have HB4 := hid (HB3.out.trans ((he4.below (Nat.le_of_lt HC3.out.lt)).mono hCw))
  have HS := hid hs
  clear hc4 he4 hs
  go_wp2
  go_ret
  exact ⟨_, rfl, by rw [HS.out]; exact hk, HB4.out⟩

set_option maxHeartbeats 1600000 in
theorem draw_hexBytes (ao : Option Addr) (n cap : Nat) (zs : List Int) (w : World) (hcode : Code w ao n zs) :
    Calls Tryd.prog 9 #[.slice ao n cap] w fun e w' => ∃ s : ByteArray, e = .returned (.string s) ∧ s.size < 1000 ∧ Below w.heap.size w w' := by
  have HC := hid hcode
  have hn := hcode.1
  clear hcode
  go_enter Tryd.func9, Tryd.ntmps9
  go_wp2_with fail
  refine (new_any ao n cap zs w HC.out).mono ?_
  rintro e w1 ⟨C, rfl, hc1, hb1⟩
  have HC1 := hid hc1
  have B1 := hid hb1
  have hCw := hc1.1
  clear hc1 hb1
  go_wp2_with fail
  refine (size_any ao n cap 60 w1 hn (by decide)).mono ?_
  rintro e w2 ⟨m, rfl, ⟨hm0, hm1⟩, rfl⟩
  go_wp2_with fail
  refine (below_any w ao n cap C zs m w1 HC.out HC1.out).mono ?_
  rintro e w3 ⟨x, rfl, ⟨hx0, hx1⟩, hc3, he3⟩
  obtain ⟨k, rfl⟩ := Int.eq_ofNat_of_zero_le hx0
  have hk : k < 60 := by omega
  have HC3 := hid hc3
  have HB3 := hid (B1.out.trans ((he3.below (Nat.le_of_lt HC1.out.lt)).mono hCw))
  clear hc3 he3 hx1
  go_wp2_with fail
  refine (any_any w ao n cap C zs k w3 (by omega) HC.out HC3.out).mono ?_
  rintro e w4 ⟨s, rfl, hs, hc4, he4⟩
  have HB4 := hid (HB3.out.trans ((he4.below (Nat.le_of_lt HC3.out.lt)).mono hCw))
  have HC4 := hid hc4
  have hs60 : s.size < 60 := by omega
  clear hc4 he4 hs HC3 HB3
  go_wp2_with fail
  refine (spec_hexText s w4 (by omega)).mono ?_
  rintro e w5 ⟨rfl, hb5⟩
  have HB5 := hid (HB4.out.trans (hb5.mono HB4.out.size))
  have HC5 := hid (HC4.out.below hb5)
  have hsz : (strOfNums (hexTo (bt s) s.size)).size < 200 := by rw [strOfNums_size]; have := hexTo_length (bt s) s.size; omega
  generalize strOfNums (hexTo (bt s) s.size) = T at *
  clear hb5 HC4 HB4
  go_wp2_with fail
  refine (below_any w ao n cap C zs 6 w5 HC.out HC5.out).mono ?_
  rintro e w6 ⟨x, rfl, ⟨hx0, hx1⟩, hc6, he6⟩
  have HB6 := hid (HB5.out.trans ((he6.below (Nat.le_of_lt HC5.out.lt)).mono hCw))
  have hwsz : w.heap.size ≤ w6.heap.size := HB6.out.size
  clear hc6 he6 hx1
  by_cases h0 : x = 0
  · subst h0
    go_wp2
    go_ret
    exact ⟨_, rfl, by rw [ByteArray.size_append]; show _ + 1 < 1000; omega, HB6.out⟩
  · have h0' : (x == 0) = false := by simpa using h0
    by_cases h1 : x = 1
    · subst h1
      go_wp2
      go_ret
      exact ⟨_, rfl, by rw [ByteArray.size_append]; show _ + 2 < 1000; omega, HB6.out⟩
    · have h1' : (x == 1) = false := by simpa using h1
      go_wp2
      go_ret
      exact ⟨_, rfl, by omega, HB6.out⟩

set_option maxHeartbeats 800000 in
theorem draw_decText (ao : Option Addr) (n cap : Nat) (zs : List Int) (w : World) (hcode : Code w ao n zs) :
    Calls Tryd.prog 11 #[.slice ao n cap] w fun e w' => ∃ x : Int, e = .returned (.int .i64 x) ∧ (-9223372036854775808 ≤ x ∧ x ≤ 9223372036854775807) ∧ Below w.heap.size w w' := by
  have HC := hid hcode
  have hn := hcode.1
  clear hcode
  go_enter Tryd.func11, Tryd.ntmps11
  go_wp2_with fail
  refine (new_any ao n cap zs w HC.out).mono ?_
  rintro e w1 ⟨C, rfl, hc1, hb1⟩
  have HC1 := hid hc1
  have B1 := hid hb1
  have hCw := hc1.1
  clear hc1 hb1
  go_wp2_with fail
  refine (once_any w ao n cap C zs 6 w1 HC.out HC1.out).mono ?_
  rintro e w3 ⟨b, rfl, hc3, he3⟩
  have HC3 := hid hc3
  have HB3 := hid (B1.out.trans ((he3.below (Nat.le_of_lt HC1.out.lt)).mono hCw))
  clear hc3 he3
  cases b with
  | true =>
    go_wp2
    go_ret
    exact ⟨_, rfl, ⟨by decide, by decide⟩, HB3.out⟩
  | false =>
    go_wp2_with fail
    refine (word_any w ao n cap C zs w3 HC.out HC3.out).mono ?_
    rintro e w4 ⟨x, rfl, ⟨hx0, hx1⟩, hc4, he4⟩
    have HB4 := hid (HB3.out.trans ((he4.below (Nat.le_of_lt HC3.out.lt)).mono hCw))
    clear hc4 he4
    go_wp2
    go_ret
    exact ⟨_, rfl, ⟨by omega, by omega⟩, HB4.out⟩
end Go.Proofs.YtmcfhfieabnigaaDoor
