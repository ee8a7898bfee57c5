/- The contracts of PutNum, of the program and of the specification: both hand back the same bytes. -/
import Derived.Test.YtfhhcjemmkjkhabRows
import Derived.Test.YtfhhcjemmkjkhabAid
namespace Go.Proofs.Ytfhhcjemmkjkhab
open Go.RowKit
set_option linter.unusedVariables false

theorem spec_in (x a b : Int) (w : World) :
    Calls Try.prog 15 #[.int .i64 x, .int .i64 a, .int .i64 b] w fun e w' => e = .returned (.bool (decide (a ≤ x ∧ x ≤ b))) ∧ w = w' := by
  by_cases h1 : a ≤ x <;> by_cases h2 : x ≤ b
  all_goals
    go_enter Try.func15, Try.ntmps15
    go_wp2
    go_ret
    exact ⟨by simp [h1, h2], rfl⟩

/-- The bytes of a number: seven bits each, from the lowest on. -/
def nb : Nat → Int → List Int
  | 0, x => [x]
  | f + 1, x => if x < 128 then [x] else (x % 128 + 128) :: nb f (x / 128)

theorem nb_small (f : Nat) (x : Int) (h : x < 128) : nb f x = [x] := by
  cases f <;> simp [nb, h]

theorem nb_big (f : Nat) (x : Int) (h : ¬ x < 128) (hf : x.toNat ≤ f) : ∃ g, f = g + 1 ∧ (x / 128).toNat ≤ g ∧ nb f x = (x % 128 + 128) :: nb g (x / 128) := by
  obtain ⟨g, rfl⟩ : ∃ g, f = g + 1 := ⟨f - 1, by omega⟩
  exact ⟨g, rfl, by omega, by simp [nb, h]⟩

theorem Try.info5 : (Try.prog.info? 5).map (fun i => (i.zero, i.size, i.bytes)) = some (some (.int .u8 0), 1, 1) := by kernel_rfl

set_option maxHeartbeats 400000 in
theorem impl_putNum (x : Int) (w : World) (h0 : 0 ≤ x) (h1 : x ≤ 1000000000) :
    Calls Try.prog 12 #[.int .i64 x] w fun e w' => e = .returned (.string (strOfNums (nb x.toNat x))) ∧ Below w.heap.size w w' := by
  go_enter Try.func12, Try.ntmps12
  go_wp2
  go_loopw [0, 3] (fun i v wr => ∃ (y : Int) (f : Nat) (xs : List Int), i = .int .i64 y ∧ 0 ≤ y ∧ y ≤ x ∧ y.toNat ≤ f ∧ Own wr w.heap.size 5 .u8 v xs ∧ xs.length + y.toNat ≤ x.toNat ∧ Hid (xs ++ nb f y = nb x.toNat x) ∧ Below w.heap.size w wr) (fun i _ _ => (intOf i).toNat)
  case atStart =>
    exact ⟨x, x.toNat, [], rfl, h0, Int.le_refl _, Nat.le_refl _, Own.empty _ _ _ _ (Nat.le_refl _), by simp, rfl, (Below.refl _ _).alloc (Nat.le_refl _) _⟩
  case round =>
    obtain ⟨y, f, xs, rfl, hy0, hy1, hf, hown, hlen, hinv, hb⟩ := hrel
    by_cases hy : y < 128
    · go_wp2_with (at_builtin; refine wpList_push _ rfl _ _ 31 rfl _ 5 .u8 0 1 Try.underlying31 Try.info5 _ xs rfl hown y rfl (by omega) (by decide) ?_)
      intro v' w1 hown1 hb1
      have hc := Own.conv Try.underlying31 Try.underlying5 Try.underlying9 hown1
      go_wp2
      go_ret
      exact ⟨ret_str (by rw [← hinv.out, nb_small f y hy]), hb.trans hb1⟩
    · go_wp2_with (at_builtin; refine wpList_push _ rfl _ _ 31 rfl _ 5 .u8 0 1 Try.underlying31 Try.info5 _ xs rfl hown (y % 128 + 128) rfl (by omega) (by decide) ?_)
      intro v' w1 hown1 hb1
      go_wp2
      go_roundw
      case rel =>
        obtain ⟨g, rfl, hg, hn⟩ := nb_big f y (by omega) hf
        exact ⟨y / 128, g, xs ++ [y % 128 + 128], rfl, by omega, by omega, hg, hown1, by simp; omega, show _ = _ by rw [← hinv.out, hn]; simp, hb.trans hb1⟩
      case measure => simp [intOf]; omega

set_option maxHeartbeats 400000 in
theorem spec_putNum (x : Int) (w : World) (h0 : 0 ≤ x) (h1 : x ≤ 1000000000) :
    Calls Try.prog 11 #[.int .i64 x] w fun e w' => e = .returned (.string (strOfNums (nb x.toNat x))) ∧ Below w.heap.size w w' := by
  have hd : decide (0 ≤ x ∧ x ≤ 1000000000) = true := by simp; omega
  go_enter Try.func11, Try.ntmps11
  go_wp2_with (go_at_call 15; refine (spec_in _ _ _ _).mono ?_; rw [hd]; rintro e w' ⟨rfl, rfl⟩)
  go_loopw [0, 3] (fun i v wr => ∃ (y : Int) (f : Nat) (xs : List Int), i = .int .i64 y ∧ 0 ≤ y ∧ y ≤ x ∧ y.toNat ≤ f ∧ Own wr w.heap.size 5 .u8 v xs ∧ xs.length + y.toNat ≤ x.toNat ∧ Hid (xs ++ nb f y = nb x.toNat x) ∧ Below w.heap.size w wr) (fun i _ _ => (intOf i).toNat)
  case atStart =>
    exact ⟨x, x.toNat, [], rfl, h0, Int.le_refl _, Nat.le_refl _, Own.empty _ _ _ _ (Nat.le_refl _), by simp, rfl, (Below.refl _ _).alloc (Nat.le_refl _) _⟩
  case round =>
    obtain ⟨y, f, xs, rfl, hy0, hy1, hf, hown, hlen, hinv, hb⟩ := hrel
    by_cases hy : y < 128
    · go_wp2_with (at_builtin; refine wpList_push _ rfl _ _ 31 rfl _ 5 .u8 0 1 Try.underlying31 Try.info5 _ xs rfl hown y rfl (by omega) (by decide) ?_)
      intro v' w1 hown1 hb1
      have hc := Own.conv Try.underlying31 Try.underlying5 Try.underlying9 hown1
      go_wp2
      go_ret
      exact ⟨ret_str (by rw [← hinv.out, nb_small f y hy]), hb.trans hb1⟩
    · go_wp2_with (at_builtin; refine wpList_push _ rfl _ _ 31 rfl _ 5 .u8 0 1 Try.underlying31 Try.info5 _ xs rfl hown (128 + y % 128) rfl (by omega) (by decide) ?_)
      intro v' w1 hown1 hb1
      go_wp2
      go_roundw
      case rel =>
        obtain ⟨g, rfl, hg, hn⟩ := nb_big f y (by omega) hf
        exact ⟨y / 128, g, xs ++ [y % 128 + 128], rfl, by omega, by omega, hg, by rw [Int.add_comm]; exact hown1, by simp; omega, show _ = _ by rw [← hinv.out, hn]; simp, hb.trans hb1⟩
      case measure => simp [intOf]; omega

set_option maxHeartbeats 400000 in
theorem impl_putNum_no (x : Int) (w : World) (h : x < 0 ∨ 1000000000 < x) :
    Calls Try.prog 12 #[.int .i64 x] w fun e w' => e = .returned (.string ⟨#[]⟩) ∧ w' = w := by
  by_cases h0 : x < 0
  · clear h
    go_enter Try.func12, Try.ntmps12
    go_wp2
    go_ret
    exact ⟨rfl, rfl⟩
  · have h2 : 1000000000 < x := by omega
    clear h
    go_enter Try.func12, Try.ntmps12
    go_wp2
    go_ret
    exact ⟨rfl, rfl⟩

set_option maxHeartbeats 400000 in
theorem spec_putNum_no (x : Int) (w : World) (h : x < 0 ∨ 1000000000 < x) :
    Calls Try.prog 11 #[.int .i64 x] w fun e w' => e = .returned (.string ⟨#[]⟩) ∧ w' = w := by
  have hd : decide (0 ≤ x ∧ x ≤ 1000000000) = false := by simp; omega
  go_enter Try.func11, Try.ntmps11
  go_wp2_with (go_at_call 15; refine (spec_in _ _ _ _).mono ?_; rw [hd]; rintro e w' ⟨rfl, rfl⟩)
  go_ret
  exact ⟨rfl, rfl⟩

/-- The law's own walk. -/
theorem law_putNum (x : Int) (hx : (Lit.int .i64 x).wf = true) (w : World) :
    Calls Try.prog 5 #[.int .i64 x] w fun e w' => e = .returned (.bool true) ∧ Below w.heap.size w w' := by
  clear hx
  by_cases h : x < 0 ∨ 1000000000 < x
  · go_enter Try.func5, Try.ntmps5
    go_wp2_with fail
    refine (spec_putNum_no _ _ h).mono ?_
    rintro e w1 ⟨rfl, rfl⟩
    go_wp2_with fail
    refine (impl_putNum_no _ _ h).mono ?_
    rintro e w1 ⟨rfl, rfl⟩
    go_wp2
    go_ret
    exact ⟨rfl, Below.refl _ _⟩
  · have h0 : 0 ≤ x := by omega
    have h1 : x ≤ 1000000000 := by omega
    clear h
    go_enter Try.func5, Try.ntmps5
    go_wp2_with fail
    refine (spec_putNum _ _ h0 h1).mono ?_
    rintro e w1 ⟨rfl, hb1⟩
    go_wp2_with fail
    refine (impl_putNum _ _ h0 h1).mono ?_
    rintro e w2 ⟨rfl, hb2⟩
    go_wp2
    go_ret
    exact ⟨rfl, hb1.trans (hb2.mono hb1.size)⟩
end Go.Proofs.Ytfhhcjemmkjkhab
