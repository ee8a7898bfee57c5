/- The contracts of DecText, of the program and of the specification: both hand back the decimal text. -/
import Derived.Test.YtmcfhfieabnigaaDoorRows
import Derived.Shelf.Strconv.Itoa3
import Derived.Lib.LaidTab
import Derived.Lib.AppendIntMem
import Derived.WalkKit
import Derived.WalkSpells
import Derived.WalkLawsBesides
import Derived.Below
import Derived.Outline
import Derived.OpenShut
namespace Go.Proofs.YtmcfhfieabnigaaDoor
open Go.RowKit Go.Shelf
set_option linter.unusedVariables false

def Tryd.laysItoa_ren : Go.Shelf.Ren := { f := fun x => match x with | 171 => 23 | 243 => 27 | 246 => 28 | 283 => 29 | 284 => 30 | 285 => 31 | 286 => 32 | 129 => 34 | 317 => 33 | 318 => 35 | 319 => 36 | 320 => 37 | 337 => 38 | 338 => 39 | n => n, t := fun x => match x with | 3 => 3 | 9 => 9 | 2 => 2 | 4 => 4 | 171 => 48 | 0 => 0 | 53 => 49 | 37 => 22 | 5 => 5 | 173 => 52 | 212 => 56 | 51 => 38 | 20 => 20 | 213 => 57 | 46 => 46 | 232 => 60 | 233 => 61 | n => n, g := fun x => match x with | 17 => 0 | 18 => 1 | 19 => 2 | n => n }
theorem Tryd.laysItoa : LaysM.n171 Tryd.prog Tryd.laysItoa_ren := {
  mixed := by kernel_rfl
  f129 := Tryd.func34.trans (by kernel_rfl)
  f171 := Tryd.func23.trans (by kernel_rfl)
  f243 := Tryd.func27.trans (by kernel_rfl)
  f246 := Tryd.func28.trans (by kernel_rfl)
  f283 := Tryd.func29.trans (by kernel_rfl)
  f284 := Tryd.func30.trans (by kernel_rfl)
  f285 := Tryd.func31.trans (by kernel_rfl)
  f286 := Tryd.func32.trans (by kernel_rfl)
  f317 := Tryd.func33.trans (by kernel_rfl)
  f318 := Tryd.func35.trans (by kernel_rfl)
  f319 := Tryd.func36.trans (by kernel_rfl)
  f320 := Tryd.func37.trans (by kernel_rfl)
  f337 := Tryd.func38.trans (by kernel_rfl)
  f338 := Tryd.func39.trans (by kernel_rfl)
  t0 := Tryd.underlying0
  a0 := Tryd.isAgg0
  z0 := Tryd.sizeOf0
  v0 := Tryd.zeroValue0
  t2 := Tryd.underlying2
  a2 := Tryd.isAgg2
  z2 := Tryd.sizeOf2
  v2 := Tryd.zeroValue2
  t3 := Tryd.underlying3
  a3 := Tryd.isAgg3
  z3 := Tryd.sizeOf3
  v3 := Tryd.zeroValue3
  t4 := Tryd.underlying4
  a4 := Tryd.isAgg4
  z4 := Tryd.sizeOf4
  v4 := Tryd.zeroValue4
  t5 := Tryd.underlying5
  a5 := Tryd.isAgg5
  z5 := Tryd.sizeOf5
  v5 := Tryd.zeroValue5
  t9 := Tryd.underlying9
  a9 := Tryd.isAgg9
  z9 := Tryd.sizeOf9
  v9 := Tryd.zeroValue9
  t20 := Tryd.underlying20
  a20 := Tryd.isAgg20
  z20 := Tryd.sizeOf20
  v20 := Tryd.zeroValue20
  t37 := Tryd.underlying22
  a37 := Tryd.isAgg22
  z37 := Tryd.sizeOf22
  v37 := Tryd.zeroValue22
  t46 := Tryd.underlying46
  a46 := Tryd.isAgg46
  z46 := Tryd.sizeOf46
  v46 := Tryd.zeroValue46
  t51 := Tryd.underlying38
  a51 := Tryd.isAgg38
  z51 := Tryd.sizeOf38
  v51 := Tryd.zeroValue38
  t53 := Tryd.underlying49
  a53 := Tryd.isAgg49
  z53 := Tryd.sizeOf49
  v53 := Tryd.zeroValue49
  t171 := Tryd.underlying48
  a171 := Tryd.isAgg48
  z171 := Tryd.sizeOf48
  v171 := Tryd.zeroValue48
  t173 := Tryd.underlying52
  a173 := Tryd.isAgg52
  z173 := Tryd.sizeOf52
  v173 := Tryd.zeroValue52
  t212 := Tryd.underlying56
  a212 := Tryd.isAgg56
  z212 := Tryd.sizeOf56
  v212 := Tryd.zeroValue56
  t213 := Tryd.underlying57
  a213 := Tryd.isAgg57
  z213 := Tryd.sizeOf57
  t232 := Tryd.underlying60
  a232 := Tryd.isAgg60
  z232 := Tryd.sizeOf60
  v232 := Tryd.zeroValue60
  t233 := Tryd.underlying61
  a233 := Tryd.isAgg61
  z233 := Tryd.sizeOf61
  v233 := Tryd.zeroValue61
  g17 := by kernel_rfl
  g18 := by kernel_rfl
  g19 := by kernel_rfl
  i0 := by kernel_rfl
  i2 := by kernel_rfl
  i3 := by kernel_rfl
  i4 := by kernel_rfl
  i5 := by kernel_rfl
  i9 := by kernel_rfl
  i20 := by kernel_rfl
  i37 := by kernel_rfl
  i46 := by kernel_rfl
  i51 := by kernel_rfl
  i53 := by kernel_rfl
  i171 := by kernel_rfl
  i173 := by kernel_rfl
  i212 := by kernel_rfl
  i232 := by kernel_rfl
  i233 := by kernel_rfl
  m17 := by kernel_rfl
  m18 := by kernel_rfl
  m19 := by kernel_rfl }

theorem grow_below (w : World) (k : Nat) (os : Array Obj) : Below w.heap.size w (Sort.grow (w.drewN k) os) := Lib.below_grow _ w (Nat.le_refl _) k os
theorem impl_decText (n : Int) (h0 : -9223372036854775808 ≤ n) (h1 : n ≤ 9223372036854775807) (w : World) (htab : Lib.TabIs Tryd.prog w "internal/strconv.uint64pow10" .u64 Lib.pow10Tab) :
    Calls Tryd.prog 12 #[.int .i64 n] w fun e w' => e = .returned (.string ⟨(Lib.itoa n).toArray⟩) ∧ Below w.heap.size w w' := by
  go_enter Tryd.func12, Tryd.ntmps12
  go_wp2_with fail
  refine (Any.strconv_Itoa Tryd.laysItoa n h0 h1 w htab).mono ?_
  rintro e w1 ⟨rfl, k, os, rfl⟩
  go_wp2
  go_ret
  exact ⟨rfl, grow_below _ _ _⟩

/-- What stands at hand when k is still to be told and N is the whole. -/
def DecAt (N k : Nat) (ds : List UInt8) : Prop := (k = 0 ∧ ds = Lib.decDigits N) ∨ (0 < k ∧ Lib.decDigits k ++ ds = Lib.decDigits N)

theorem decAt_step {N k : Nat} {ds : List UInt8} (hk : 0 < k) (h : DecAt N k ds) : DecAt N (k / 10) (UInt8.ofNat (48 + k % 10) :: ds) := by
  rcases h with ⟨rfl, _⟩ | ⟨_, h⟩
  · omega
  · rw [Lib.decDigits] at h
    split at h
    · left
      refine ⟨by omega, ?_⟩
      rw [← h, show k % 10 = k by omega]
      rfl
    · right
      refine ⟨by omega, ?_⟩
      rw [← h]
      simp

theorem digit_cut (d : Nat) (h : d < 10) (ds : List UInt8) : (⟨#[48, 49, 50, 51, 52, 53, 54, 55, 56, 57]⟩ : ByteArray).extract d (d + 1) ++ ⟨ds.toArray⟩ = ⟨(UInt8.ofNat (48 + d) :: ds).toArray⟩ := by
  have e : (⟨#[48, 49, 50, 51, 52, 53, 54, 55, 56, 57]⟩ : ByteArray).extract d (d + 1) = ⟨#[UInt8.ofNat (48 + d)]⟩ := by
    obtain rfl | rfl | rfl | rfl | rfl | rfl | rfl | rfl | rfl | rfl : d = 0 ∨ d = 1 ∨ d = 2 ∨ d = 3 ∨ d = 4 ∨ d = 5 ∨ d = 6 ∨ d = 7 ∨ d = 8 ∨ d = 9 := by omega
    all_goals decide
  rw [e]
  apply ByteArray.ext
  apply Array.ext'
  rw [ByteArray.data_append, Array.toList_append]
  rfl

theorem val_str {a b : ByteArray} (h : a = b) : Value.string a = .string b := by rw [h]

/-- A fact that the walk does not look into. -/
structure Kept (p : Prop) : Prop where
  out : p
theorem ret_text {a b : ByteArray} (h : a = b) : Ending.returned (.string a) = .returned (.string b) := by rw [h]
theorem dec_end {N : Nat} {ds : List UInt8} (h : DecAt N 0 ds) : ds = Lib.decDigits N := by
  rcases h with ⟨_, h⟩ | ⟨h, _⟩
  · exact h
  · omega
theorem cut_size (d : Nat) (h : d < 10) : ((⟨#[48, 49, 50, 51, 52, 53, 54, 55, 56, 57]⟩ : ByteArray).extract d (d + 1)).size = 1 := by
  rw [ByteArray.size_extract]
  have e : (⟨#[48, 49, 50, 51, 52, 53, 54, 55, 56, 57]⟩ : ByteArray).size = 10 := rfl
  omega

set_option maxHeartbeats 800000 in
theorem spec_decText_pos (N : Nat) (h0 : 0 < N) (h1 : (N : Int) ≤ 9223372036854775807) (w : World) :
    Calls Tryd.prog 13 #[.int .i64 N] w fun e w' => e = .returned (.string ⟨(Lib.decDigits N).toArray⟩) ∧ w' = w := by
  have hz : ((N : Int) == 0) = false := by simp; omega
  have hneg : ¬ (N : Int) < 0 := by omega
  go_enter Tryd.func13, Tryd.ntmps13
  go_wp2
  go_loop [3, 4] (fun o m => ∃ (k : Nat) (S : ByteArray), S.size + k ≤ N ∧ o = .string S ∧ m = .int .i64 k ∧ Kept (∃ ds : List UInt8, S = ⟨ds.toArray⟩ ∧ DecAt N k ds)) (fun _ m => (intOf m).toNat)
  case atStart => exact ⟨N, ⟨#[]⟩, by simp [ByteArray.size], rfl, rfl, ⟨[], rfl, .inr ⟨h0, by simp⟩⟩⟩
  case round =>
    obtain ⟨k, S, hk, rfl, rfl, hat⟩ := hrel
    by_cases hk0 : k = 0
    · subst hk0
      go_wp2
      go_ret
      obtain ⟨ds, e, hd⟩ := hat.out
      exact ⟨ret_text (by rw [e, dec_end hd]), rfl⟩
    · have hkz : ((k : Int) != 0) = true := by simp; omega
      have hk1 : 0 < (k : Int) := by omega
      have hsz := cut_size (k % 10) (by omega)
      have hat2 : Kept (∃ ds : List UInt8, (⟨#[48, 49, 50, 51, 52, 53, 54, 55, 56, 57]⟩ : ByteArray).extract (k % 10) (k % 10 + 1) ++ S = ⟨ds.toArray⟩ ∧ DecAt N (k / 10) ds) := by
        obtain ⟨ds, e, hd⟩ := hat.out
        exact ⟨_, by rw [e]; exact digit_cut (k % 10) (by omega) ds, decAt_step (by omega) hd⟩
      have hd9 : (k : Int) % 10 + 1 ≤ 10 := by omega
      have hd0 : 0 ≤ (k : Int) % 10 := by omega
      have hm : decide ((k : Int) % 10 < 0) = false := by simp; omega
      clear hat
      go_wp2
      go_round
      case rel => exact ⟨k / 10, _, by simp [hsz]; omega, rfl, by go_num, hat2⟩
      case measure => simp [intOf]; omega

theorem minus_text (l : List UInt8) : (⟨#[45]⟩ : ByteArray) ++ ⟨l.toArray⟩ = ⟨(45 :: l).toArray⟩ := by
  apply ByteArray.ext
  apply Array.ext'
  rw [ByteArray.data_append, Array.toList_append]
  rfl
theorem tmod_neg (k : Nat) : Int.tmod (-(k : Int)) 10 = -((k % 10 : Nat) : Int) := by
  rw [Int.neg_tmod, Int.tmod_eq_emod_of_nonneg (by omega)]; omega
theorem tdiv_neg (k : Nat) : Int.tdiv (-(k : Int)) 10 = -((k / 10 : Nat) : Int) := by
  rw [Int.neg_tdiv, Int.tdiv_eq_ediv_of_nonneg (by omega)]; omega

set_option maxHeartbeats 1600000 in
theorem spec_decText_neg (N : Nat) (h0 : 0 < N) (h1 : (N : Int) ≤ 9223372036854775808) (w : World) :
    Calls Tryd.prog 13 #[.int .i64 (-(N : Int))] w fun e w' => e = .returned (.string ⟨(45 :: Lib.decDigits N).toArray⟩) ∧ w' = w := by
  have hz : ((-(N : Int)) == 0) = false := by simp; omega
  have hneg : (-(N : Int)) < 0 := by omega
  go_enter Tryd.func13, Tryd.ntmps13
  go_wp2
  go_loop [3, 4] (fun o m => ∃ (k : Nat) (S : ByteArray), k ≤ N ∧ o = .string S ∧ m = .int .i64 (-(k : Int)) ∧ Kept (∃ ds : List UInt8, S = ⟨ds.toArray⟩ ∧ DecAt N k ds) ∧ Kept (2 * S.size + k ≤ N + 1 ∧ (k = 0 ∨ 2 * S.size + k ≤ N))) (fun _ m => (-(intOf m)).toNat)
  case atStart => exact ⟨N, ⟨#[]⟩, Nat.le_refl _, rfl, rfl, ⟨[], rfl, .inr ⟨h0, by simp⟩⟩, ⟨by simp [ByteArray.size]⟩⟩
  case round =>
    obtain ⟨k, S, hk, rfl, rfl, hat, hS⟩ := hrel
    by_cases hk0 : k = 0
    · subst hk0
      have hS' : S.size ≤ 4700000000000000000 := by have := hS.out; omega
      go_wp2
      go_ret
      obtain ⟨ds, e, hd⟩ := hat.out
      exact ⟨ret_text (by rw [e, dec_end hd, minus_text]), rfl⟩
    · have hkz : ((-(k : Int)) != 0) = true := by simp; omega
      have hk1 : (-(k : Int)) < 0 := by omega
      have t1 := tmod_neg k
      have t2 := tdiv_neg k
      have hsz := cut_size (k % 10) (by omega)
      have hat2 : Kept (∃ ds : List UInt8, (⟨#[48, 49, 50, 51, 52, 53, 54, 55, 56, 57]⟩ : ByteArray).extract (k % 10) (k % 10 + 1) ++ S = ⟨ds.toArray⟩ ∧ DecAt N (k / 10) ds) := by
        obtain ⟨ds, e, hd⟩ := hat.out
        exact ⟨_, by rw [e]; exact digit_cut (k % 10) (by omega) ds, decAt_step (by omega) hd⟩
      have hS' : S.size ≤ 4700000000000000000 := by have := hS.out; omega
      have hS2 : Kept (2 * ((⟨#[48, 49, 50, 51, 52, 53, 54, 55, 56, 57]⟩ : ByteArray).extract (k % 10) (k % 10 + 1) ++ S).size + k / 10 ≤ N + 1 ∧ (k / 10 = 0 ∨ 2 * ((⟨#[48, 49, 50, 51, 52, 53, 54, 55, 56, 57]⟩ : ByteArray).extract (k % 10) (k % 10 + 1) ++ S).size + k / 10 ≤ N)) := by
        have := hS.out
        rw [ByteArray.size_append, hsz]
        exact ⟨by omega⟩
      clear hat hS
      by_cases hr : k % 10 = 0
      · have hm : ((k : Int)) % 10 = 0 := by omega
        rw [hr] at hat2 hS2 hsz
        go_wp2
        go_round
        case rel => exact ⟨k / 10, _, by omega, rfl, by go_num, hat2, hS2⟩
        case measure => simp [intOf]; omega
      · have hm : 0 < (k : Int) % 10 := by omega
        go_wp2
        go_round
        case rel => exact ⟨k / 10, _, by omega, rfl, by go_num, hat2, hS2⟩
        case measure => simp [intOf]; omega

theorem spec_decText (n : Int) (h0 : -9223372036854775808 ≤ n) (h1 : n ≤ 9223372036854775807) (w : World) :
    Calls Tryd.prog 13 #[.int .i64 n] w fun e w' => e = .returned (.string ⟨(Lib.itoa n).toArray⟩) ∧ w' = w := by
  by_cases hz : n = 0
  · subst hz
    have e : Lib.itoa 0 = [48] := by
      rw [show (0 : Int) = ((0 : Nat) : Int) from rfl, Lib.itoa_nonneg, Lib.decDigits_one (by decide)]
      rfl
    rw [e]
    go_enter Tryd.func13, Tryd.ntmps13
    go_wp2
    go_ret
    exact ⟨rfl, rfl⟩
  · by_cases hp : 0 ≤ n
    · obtain ⟨N, rfl⟩ := Int.eq_ofNat_of_zero_le hp
      rw [Lib.itoa_nonneg]
      exact spec_decText_pos N (by omega) h1 w
    · obtain ⟨N, hN⟩ := Int.eq_ofNat_of_zero_le (show 0 ≤ -n by omega)
      obtain rfl : n = -(N : Int) := by omega
      rw [Lib.itoa_neg N (by omega)]
      exact spec_decText_neg N (by omega) (by omega) w

set_option maxHeartbeats 800000 in
/-- The law's own walk. -/
theorem law_decText (n : Int) (h0 : -9223372036854775808 ≤ n) (h1 : n ≤ 9223372036854775807) (w : World) (htab : Lib.TabIs Tryd.prog w "internal/strconv.uint64pow10" .u64 Lib.pow10Tab) :
    Calls Tryd.prog 4 #[.int .i64 n] w fun e w' => e = .returned (.bool true) ∧ Below w.heap.size w w' := by
  have HS : Kept (Calls Tryd.prog 13 #[.int .i64 n] w fun e w' => e = .returned (.string ⟨(Lib.itoa n).toArray⟩) ∧ w' = w) := ⟨spec_decText n h0 h1 w⟩
  have HI : Kept (Calls Tryd.prog 12 #[.int .i64 n] w fun e w' => e = .returned (.string ⟨(Lib.itoa n).toArray⟩) ∧ Below w.heap.size w w') := ⟨impl_decText n h0 h1 w htab⟩
  generalize (⟨(Lib.itoa n).toArray⟩ : ByteArray) = T at *
  clear htab
  go_enter Tryd.func4, Tryd.ntmps4
  go_wp2_with fail
  refine HS.out.mono ?_
  rintro e w1 ⟨rfl, rfl⟩
  go_wp2_with fail
  refine HI.out.mono ?_
  rintro e w2 ⟨rfl, hb⟩
  have HB : Kept (Below w1.heap.size w1 w2) := ⟨hb⟩
  clear hb
  go_wp2
  go_ret
  exact ⟨rfl, HB.out⟩
end Go.Proofs.YtmcfhfieabnigaaDoor
