/- The contracts of PutNum, of the program and of the specification: both hand back the same bytes. -/
import Derived.Test.YtflfgdgkpmlhnaaInts
namespace Go.Proofs.Ytflfgdgkpmlhnaa
open Go.RowKit
set_option linter.unusedVariables false

/-- The bytes of a number: seven bits each, from the lowest on. -/
def nb : Nat → Int → List Int
  | 0, x => [x]
  | f + 1, x => if x < 128 then [x] else (x % 128 + 128) :: nb f (x / 128)

theorem nb_small (f : Nat) (x : Int) (h : x < 128) : nb f x = [x] := by
  cases f <;> simp [nb, h]

theorem nb_big (f : Nat) (x : Int) (h : ¬ x < 128) (hf : x.toNat ≤ f) : ∃ g, f = g + 1 ∧ (x / 128).toNat ≤ g ∧ nb f x = (x % 128 + 128) :: nb g (x / 128) := by
  obtain ⟨g, rfl⟩ : ∃ g, f = g + 1 := ⟨f - 1, by omega⟩
  exact ⟨g, rfl, by omega, by simp [nb, h]⟩

set_option maxHeartbeats 400000 in
theorem impl_putNum (x : Int) (w : World) (h0 : 0 ≤ x) (h1 : x ≤ 1000000000) :
    Calls Try.prog 60 #[.int .i64 x] w fun e w' => e = .returned (.string (strOfNums (nb x.toNat x))) ∧ Below w.heap.size w w' := by
  go_enter Try.func60, Try.ntmps60
  go_wp2
  go_loopw [0, 3] (fun i v wr => ∃ (y : Int) (f : Nat) (xs : List Int), i = .int .i64 y ∧ 0 ≤ y ∧ y ≤ x ∧ y.toNat ≤ f ∧ Own wr w.heap.size 5 .u8 v xs ∧ xs.length + y.toNat ≤ x.toNat ∧ Hid (xs ++ nb f y = nb x.toNat x) ∧ Below w.heap.size w wr) (fun i _ _ => (intOf i).toNat)
  case atStart =>
    exact ⟨x, x.toNat, [], rfl, h0, Int.le_refl _, Nat.le_refl _, Own.empty _ _ _ _ (Nat.le_refl _), by simp, rfl, (Below.refl _ _).alloc (Nat.le_refl _) _⟩
  case round =>
    obtain ⟨y, f, xs, rfl, hy0, hy1, hf, hown, hlen, hinv, hb⟩ := hrel
    by_cases hy : y < 128
    · go_wp2_with (at_builtin; refine wpList_push _ rfl _ _ 62 rfl _ 5 .u8 0 1 Try.underlying62 Try.info5 _ xs rfl hown y rfl (by omega) (by decide) ?_)
      intro v' w1 hown1 hb1
      have hc := Own.conv Try.underlying62 Try.underlying5 Try.underlying9 hown1
      go_wp2
      go_ret
      exact ⟨ret_str (by rw [← hinv.out, nb_small f y hy]), hb.trans hb1⟩
    · go_wp2_with (at_builtin; refine wpList_push _ rfl _ _ 62 rfl _ 5 .u8 0 1 Try.underlying62 Try.info5 _ xs rfl hown (y % 128 + 128) rfl (by omega) (by decide) ?_)
      intro v' w1 hown1 hb1
      go_wp2
      go_roundw
      case rel =>
        obtain ⟨g, rfl, hg, hn⟩ := nb_big f y (by omega) hf
        exact ⟨y / 128, g, xs ++ [y % 128 + 128], rfl, by omega, by omega, hg, hown1, by simp; omega, show _ = _ by rw [← hinv.out, hn]; simp, hb.trans hb1⟩
      case measure => simp [intOf]; omega

set_option maxHeartbeats 400000 in
theorem spec_putNum (x : Int) (w : World) (h0 : 0 ≤ x) (h1 : x ≤ 1000000000) :
    Calls Try.prog 47 #[.int .i64 x] w fun e w' => e = .returned (.string (strOfNums (nb x.toNat x))) ∧ Below w.heap.size w w' := by
  have hd : decide (0 ≤ x ∧ x ≤ 1000000000) = true := by simp; omega
  go_enter Try.func47, Try.ntmps47
  go_wp2_with (go_at_call 41; refine (spec_in _ _ _ _).mono ?_; rw [hd]; rintro e w' ⟨rfl, rfl⟩)
  go_loopw [0, 3] (fun i v wr => ∃ (y : Int) (f : Nat) (xs : List Int), i = .int .i64 y ∧ 0 ≤ y ∧ y ≤ x ∧ y.toNat ≤ f ∧ Own wr w.heap.size 5 .u8 v xs ∧ xs.length + y.toNat ≤ x.toNat ∧ Hid (xs ++ nb f y = nb x.toNat x) ∧ Below w.heap.size w wr) (fun i _ _ => (intOf i).toNat)
  case atStart =>
    exact ⟨x, x.toNat, [], rfl, h0, Int.le_refl _, Nat.le_refl _, Own.empty _ _ _ _ (Nat.le_refl _), by simp, rfl, (Below.refl _ _).alloc (Nat.le_refl _) _⟩
  case round =>
    obtain ⟨y, f, xs, rfl, hy0, hy1, hf, hown, hlen, hinv, hb⟩ := hrel
    by_cases hy : y < 128
    · go_wp2_with (at_builtin; refine wpList_push _ rfl _ _ 62 rfl _ 5 .u8 0 1 Try.underlying62 Try.info5 _ xs rfl hown y rfl (by omega) (by decide) ?_)
      intro v' w1 hown1 hb1
      have hc := Own.conv Try.underlying62 Try.underlying5 Try.underlying9 hown1
      go_wp2
      go_ret
      exact ⟨ret_str (by rw [← hinv.out, nb_small f y hy]), hb.trans hb1⟩
    · go_wp2_with (at_builtin; refine wpList_push _ rfl _ _ 62 rfl _ 5 .u8 0 1 Try.underlying62 Try.info5 _ xs rfl hown (128 + y % 128) rfl (by omega) (by decide) ?_)
      intro v' w1 hown1 hb1
      go_wp2
      go_roundw
      case rel =>
        obtain ⟨g, rfl, hg, hn⟩ := nb_big f y (by omega) hf
        exact ⟨y / 128, g, xs ++ [y % 128 + 128], rfl, by omega, by omega, hg, by rw [Int.add_comm]; exact hown1, by simp; omega, show _ = _ by rw [← hinv.out, hn]; simp, hb.trans hb1⟩
      case measure => simp [intOf]; omega

end Go.Proofs.Ytflfgdgkpmlhnaa
