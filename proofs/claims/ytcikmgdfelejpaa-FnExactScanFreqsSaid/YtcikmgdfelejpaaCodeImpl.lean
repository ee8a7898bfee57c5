/- Contracts of has, bitsOf and CodeOf of the program. -/
import Derived.Test.YtcikmgdfelejpaaCodePlain
namespace Go.Proofs.Ytcikmgdfelejpaa
open Go.RowKit Go.Maps
set_option linter.unusedVariables false

/-- The two cells of a symbol's key. -/
theorem BookAt.key {w : World} {C M : Nat} {ss : List Int} {K : List (Nat × Int)} (h : BookAt w C M ss K) (j : Nat) (hj : j < 256) :
    w.cell? ⟨C, 1 + j * 2, none⟩ = some (.int .i64 (bookTo ss K j).1) ∧ w.cell? ⟨C, 1 + j * 2 + 1, none⟩ = some (.int .i64 (bookTo ss K j).2) := by
  obtain ⟨⟨arr, h1, h2, h3, h4⟩, _⟩ := h
  exact ⟨(h1.cell _).trans (h4 j hj).1, (h1.cell _).trans (h4 j hj).2⟩

set_option maxHeartbeats 800000 in
theorem has_any (C M : Nat) (ss : List Int) (K : List (Nat × Int)) (sym : Int) (w : World) (hb : BookAt w C M ss K) :
    Calls Try.prog 76 #[.pointer (some ⟨C, 0, none⟩), .int .i64 sym] w fun e w' => e = .returned (.bool (inB sym && decide (0 < ((bookTo ss K sym.toNat).1 : Int)))) ∧ w' = w := by
  by_cases hs : 0 ≤ sym ∧ sym ≤ 255
  · have hin := (inB_iff _).2 hs
    obtain ⟨j, rfl⟩ := Int.eq_ofNat_of_zero_le hs.1
    obtain ⟨q1, q2⟩ := hb.key j (by omega)
    have hj6 : (j : Int) < 256 := by omega
    rw [hin, Bool.true_and]
    show Calls _ _ _ _ fun e w' => e = .returned (.bool (decide (0 < ((bookTo ss K j).1 : Int)))) ∧ w' = w
    generalize (bookTo ss K j).1 = L at *
    generalize (bookTo ss K j).2 = D at *
    clear hb
    go_enter Try.func76, Try.ntmps76
    go_wp2_with (go_at_call 96; refine (isSym_any _ _).mono ?_; rw [hin]; rintro e w' ⟨rfl, rfl⟩)
    go_ret
    exact ⟨ret_bool (by simp), rfl⟩
  · have hin := (inB_no _).2 hs
    rw [hin, Bool.false_and]
    clear hb hs
    go_enter Try.func76, Try.ntmps76
    go_wp2_with (go_at_call 96; refine (isSym_any _ _).mono ?_; rw [hin]; rintro e w' ⟨rfl, rfl⟩)
    go_ret
    exact ⟨rfl, rfl⟩

set_option maxHeartbeats 800000 in
theorem bitsOf_any (C M : Nat) (ss : List Int) (K : List (Nat × Int)) (j : Nat) (w : World) (hj : j < 256) (hb : BookAt w C M ss K) (hk : KeyOk (bookTo ss K j)) :
    Calls Try.prog 77 #[.pointer (some ⟨C, 0, none⟩), .int .i64 j] w fun e w' => ∃ v, e = .returned v ∧ Own w' w.heap.size 3 .i64 v (bitsK (bookTo ss K j)) ∧ Below w.heap.size w w' := by
  obtain ⟨q1, q2⟩ := hb.key j hj
  obtain ⟨⟨k1, k2⟩, k3, k4⟩ := hk
  have hj6 : (j : Int) < 256 := by omega
  have HN := hid (fun q : World => impl_numBits (bookTo ss K j).2 (bookTo ss K j).1 q (by omega) k3 k4)
  have HE := hid (show bitsK (bookTo ss K j) = bl (rbX (bookTo ss K j).2 (bookTo ss K j).1) (bookTo ss K j).1 from rfl)
  generalize bitsK (bookTo ss K j) = R at *
  generalize (bookTo ss K j).1 = L at *
  generalize (bookTo ss K j).2 = D at *
  have HB := hid ((Below.refl w.heap.size w).alloc (Nat.le_refl _) (.cells #[.int .i64 (L : Int), .int .i64 D] 140))
  clear hb k4
  go_enter Try.func77, Try.ntmps77
  go_wp2_with fail
  refine (HN.out _).mono ?_
  rintro e w1 ⟨v, rfl, hown, hb1⟩
  have HO := hid (hown.mono HB.out.size)
  have HB1 := hid (HB.out.trans (hb1.mono HB.out.size))
  clear hown hb1
  go_wp2
  go_ret
  exact ⟨_, rfl, by rw [HE.out]; exact HO.out, HB1.out⟩

end Go.Proofs.Ytcikmgdfelejpaa
