/- Plain facts of squares: a block comes back from its square, twice turned is itself. -/
import Derived.Test.YtcodmkampihphaaDoorLf
namespace Go.Proofs.YtcodmkampihphaaDoor
open Go.RowKit
set_option linter.unusedVariables false

theorem zt_apart : ∀ K : Fin 64, ∀ i : Fin 64, i ≠ K → (zt.getD i.val 0).toNat ≠ (zt.getD K.val 0).toNat := by decide +kernel
theorem zt_onto : ∀ i : Fin 64, ∃ K : Fin 64, (zt.getD K.val 0).toNat = i.val := by decide +kernel
theorem zt_lt (k : Nat) (h : k < 64) : (zt.getD k 0).toNat < 64 := by
  have := zt_nat k h
  omega
theorem zt_ne {i k : Nat} (hi : i < 64) (hk : k < 64) (h : i ≠ k) : (zt.getD i 0).toNat ≠ (zt.getD k 0).toNat :=
  zt_apart ⟨k, hk⟩ ⟨i, hi⟩ (fun e => h (by have := congrArg Fin.val e; exact this))
theorem sqTo_0 (d : Int) (xs : List Int) : ∀ k, k ≤ 63 → (sqTo d xs k).getD 0 0 = d
  | 0, _ => rfl
  | k + 1, h => by
    have hz : (zt.getD (k + 1) 0).toNat ≠ 0 := zt_ne (i := k + 1) (k := 0) (by omega) (by omega) (by omega)
    rw [sqTo, getD_set_ne hz, sqTo_0 d xs k (by omega)]
theorem sqTo_at (d : Int) (xs : List Int) : ∀ k, k ≤ 63 → ∀ j, j < k → (sqTo d xs k).getD (zt.getD (j + 1) 0).toNat 0 = xs.getD j 0
  | k + 1, h, j, hj => by
    rw [sqTo]
    by_cases e : j = k
    · subst e
      exact getD_set_self (by rw [sqTo_len]; exact zt_lt _ (by omega))
    · rw [getD_set_ne (fun e2 => zt_ne (i := k + 1) (k := j + 1) (by omega) (by omega) (by omega) e2)]
      exact sqTo_at d xs k (by omega) j (by omega)
theorem ac_sq (d : Int) (xs : List Int) (h : xs.length = 63) : acTo (sq d xs) 63 = xs :=
  list_eq_of_getD (by rw [acTo_len, h]) (fun i hi => by
    rw [acTo_len] at hi
    rw [acTo_at _ 63 i hi]
    exact sqTo_at d xs 63 (Nat.le_refl _) i hi)
theorem sq_0 (d : Int) (xs : List Int) : (sq d xs).getD 0 0 = d := sqTo_0 d xs 63 (Nat.le_refl _)
theorem sq_ac (M : List Int) (h : M.length = 64) : sq (M.getD 0 0) (acTo M 63) = M :=
  list_eq_of_getD (by rw [sq_len, h]) (fun i hi => by
    rw [sq_len] at hi
    obtain ⟨K, hK⟩ := zt_onto ⟨i, hi⟩
    simp only at hK
    by_cases e : K.val = 0
    · rw [e] at hK
      have : i = 0 := by rw [← hK]; decide
      subst this
      exact sq_0 _ _
    · obtain ⟨j, hj⟩ : ∃ j, K.val = j + 1 := ⟨K.val - 1, by omega⟩
      have hj63 : j < 63 := by have := K.isLt; omega
      rw [hj] at hK
      rw [← hK]
      have h1 := sqTo_at (M.getD 0 0) (acTo M 63) 63 (Nat.le_refl _) j hj63
      rw [acTo_at M 63 j hj63] at h1
      exact h1)
theorem mir_mir (S : List Int) (h : S.length = 64) : mirTo (mirTo S 64) 64 = S :=
  list_eq_of_getD (by rw [mirTo_len, mirTo_len]) (fun i hi => by
    rw [mirTo_len, mirTo_len, h] at hi
    rw [mirTo_at _ ((mirTo_len S 64).trans h) 64 (Nat.le_refl _) i, mirTo_at S h 64 (Nat.le_refl _) i]
    by_cases hp : i % 2 = 1
    · rw [if_pos ⟨hi, hp⟩, if_pos ⟨hi, hp⟩, Int.neg_neg]
    · rw [if_neg (fun e => hp e.2), if_neg (fun e => hp e.2)])
theorem trTo_at (S : List Int) : ∀ n, n ≤ 64 → ∀ k, k < n → (trTo S n).getD (8 * (k % 8) + k / 8) 0 = S.getD k 0
  | n + 1, hn, k, hk => by
    rw [trTo]
    by_cases e : k = n
    · subst e
      exact getD_set_self (by rw [trTo_len]; omega)
    · rw [getD_set_ne (by omega)]
      exact trTo_at S n (by omega) k (by omega)
theorem tr_tr (S : List Int) (h : S.length = 64) : trTo (trTo S 64) 64 = S :=
  list_eq_of_getD (by rw [trTo_len, h]) (fun i hi => by
    rw [trTo_len] at hi
    have e : i = 8 * ((8 * (i % 8) + i / 8) % 8) + (8 * (i % 8) + i / 8) / 8 := by omega
    have h1 := trTo_at (trTo S 64) 64 (Nat.le_refl _) (8 * (i % 8) + i / 8) (by omega)
    rw [← e] at h1
    rw [h1]
    exact trTo_at S 64 (Nat.le_refl _) i hi)
/-- What is turned is a block, and its square is what was turned. -/
theorem tb_ok {M : List Int} {d : Int} {xs : List Int} (h : blkOk d xs = true) (hM : Bd M) (hl : M.length = 64) : blkOk (tbD M d xs) (tbA M d xs) = true ∧ sq (tbD M d xs) (tbA M d xs) = M ∧ (tbA M d xs).length = 63 := by
  unfold tbD tbA
  rw [h, if_pos rfl, if_pos rfl]
  exact ⟨fcOk_bd hM, sq_ac M hl, acTo_len M 63⟩
/-- Turned back. -/
theorem tb_back {M S : List Int} {d1 d : Int} {x1 xs : List Int} (h1 : blkOk d1 x1 = true) (h : blkOk d xs = true) (hS : S = sq d xs) (hM : M = S) : tbD M d1 x1 = d ∧ tbA M d1 x1 = xs := by
  unfold tbD tbA
  rw [h1, if_pos rfl, if_pos rfl, hM, hS]
  exact ⟨sq_0 d xs, ac_sq d xs (blk_at h).2.1⟩
theorem cell_in {d : Int} {xs : List Int} (h : blkOk d xs = true) (i : Nat) (hi : i < 64) : cellV d xs ((i : Int) / 8) ((i : Int) % 8) = (sq d xs).getD i 0 := by
  unfold cellV
  rw [if_pos ⟨h, by unfold onSide; simp; omega, by unfold onSide; simp; omega⟩, show (8 * ((i : Int) / 8) + (i : Int) % 8).toNat = i by omega]
theorem cell_tr {d : Int} {xs : List Int} (h : blkOk d xs = true) (i : Nat) (hi : i < 64) : cellV d xs ((i : Int) % 8) ((i : Int) / 8) = (sq d xs).getD (8 * (i % 8) + i / 8) 0 := by
  unfold cellV
  rw [if_pos ⟨h, by unfold onSide; simp; omega, by unfold onSide; simp; omega⟩, show (8 * ((i : Int) % 8) + (i : Int) / 8).toNat = 8 * (i % 8) + i / 8 by omega]
end Go.Proofs.YtcodmkampihphaaDoor
