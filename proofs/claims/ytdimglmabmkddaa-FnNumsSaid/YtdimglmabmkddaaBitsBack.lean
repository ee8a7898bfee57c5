/- Plain facts: bits come back from their bytes. No program is named here. -/
import Derived.Test.YtdimglmabmkddaaGetB
namespace Go.Proofs.Ytdimglmabmkddaa
open Go.RowKit
set_option linter.unusedVariables false

theorem bit_of_num (b : Nat → Int) (hb : ∀ j, Bit (b j)) (s t : Nat) (ht : t < 8) : num b s 8 / 2 ^ (7 - t) % 2 = b (s + t) := by
  have h1 := num_split b s t (8 - t)
  have h2 := num_split b (s + t) 1 (7 - t)
  rw [show t + (8 - t) = 8 by omega] at h1
  rw [show 1 + (7 - t) = 8 - t by omega, show num b (s + t) 1 = b (s + t) from by rw [num, num]; simp] at h2
  have hR := num_bd b hb (s + t + 1) (7 - t)
  have hc := hb (s + t)
  have e : (2 : Int) ^ (8 - t) = 2 * 2 ^ (7 - t) := by rw [show 8 - t = (7 - t) + 1 by omega, Int.pow_succ]; omega
  have hp : (0 : Int) < 2 ^ (7 - t) := Int.pow_pos (by decide)
  rw [h2] at h1
  refine (split_bit _ (2 ^ (7 - t)) (b (s + t)) _ hp hc hR.1 hR.2 ?_).1
  rw [h1, e, Int.add_comm, Int.mul_comm (num b s t), Int.add_mul_emod_self_left]
  apply Int.emod_eq_of_lt
  · rcases hc with h | h <;> rw [h] <;> omega
  · rcases hc with h | h <;> rw [h] <;> omega

theorem packTo_get (b : Nat → Int) : ∀ J i, i < J → (packTo b J).getD i 0 = num b (8 * i) 8
  | J + 1, i, h => by
    have hl := packTo_length b J
    by_cases e : i = J
    · subst e
      simp [packTo, List.getD, hl]
    · have := packTo_get b J i (by omega)
      simp only [packTo, List.getD] at this ⊢
      rw [List.getElem?_append_left (by omega)]
      exact this

theorem packTo_congr (f g : Nat → Int) : ∀ J, (∀ j, j < 8 * J → f j = g j) → packTo f J = packTo g J
  | 0, _ => rfl
  | J + 1, h => by
    rw [packTo, packTo, packTo_congr f g J (fun j hj => h j (by omega))]
    congr 2
    simp only [num]
    rw [h (8 * J + 0) (by omega), h (8 * J + 1) (by omega), h (8 * J + 2) (by omega), h (8 * J + 3) (by omega), h (8 * J + 4) (by omega), h (8 * J + 5) (by omega), h (8 * J + 6) (by omega), h (8 * J + 7) (by omega)]

theorem bl_congr (f g : Nat → Int) : ∀ k, (∀ j, j < k → f j = g j) → bl f k = bl g k
  | 0, _ => rfl
  | k + 1, h => by rw [bl, bl, bl_congr f g k (fun j hj => h j (by omega)), h k (by omega)]

theorem bt_nums (xs : List Int) (i : Nat) (h : i < xs.length) (h0 : 0 ≤ xs.getD i 0) (h1 : xs.getD i 0 < 256) : bt (strOfNums xs) i = xs.getD i 0 := by
  rw [bt_eq _ _ (by rw [strOfNums_size]; exact h)]
  have e : (strOfNums xs)[i]'(by rw [strOfNums_size]; exact h) = UInt8.ofNat (xs.getD i 0).toNat := by
    have : (strOfNums xs).data.toList[i]? = some (UInt8.ofNat (xs.getD i 0).toNat) := by
      rw [strOfNums_data, List.getElem?_map]
      simp [List.getD, h]
    have h2 : (strOfNums xs).data.toList[i]? = some ((strOfNums xs)[i]'(by rw [strOfNums_size]; exact h)) := by
      rw [List.getElem?_eq_getElem (by rw [Array.length_toList]; show i < (strOfNums xs).size; rw [strOfNums_size]; exact h)]
      rfl
    rw [h2] at this
    exact Option.some.inj this
  rw [e]
  clear e
  generalize xs.getD i 0 = X at *
  rw [UInt8.toNat_ofNat']
  omega

/-- The bits of what was put are the bits, ones behind them. -/
theorem bits_back (b : Nat → Int) (hb : ∀ j, Bit (b j)) (J j : Nat) (h : j < 8 * J) : rbS (strOfNums (packTo b J)) j = b j := by
  have hg := packTo_get b J (j / 8) (by omega)
  have hn := num_bd b hb (8 * (j / 8)) 8
  have hbt := bt_nums (packTo b J) (j / 8) (by rw [packTo_length]; omega) (by rw [hg]; exact hn.1) (by rw [hg]; exact hn.2)
  unfold rbS
  rw [hbt, hg, bit_of_num b hb _ _ (by omega)]
  congr 1
  omega

theorem back_list (xs : List Int) (hall : ∀ j, j < xs.length → Bit (xs.getD j 0)) (J : Nat) : bl (rbS (strOfNums (packTo (pad xs) J))) (8 * J) = bl (pad xs) (8 * J) :=
  bl_congr _ _ _ (fun j hj => bits_back (pad xs) (pad_bit xs hall) J j hj)

theorem pad_bl (b : Nat → Int) (k j : Nat) (h : j < k) : pad (bl b k) j = b j := by
  rw [pad_in _ _ (by rw [bl_length]; exact h), bl_get b k j h]

/-- What comes back is put into the same bytes. -/
theorem put_back (b : Nat → Int) (J : Nat) : packTo (pad (bl b (8 * J))) ((8 * J + 7) / 8) = packTo b J := by
  rw [show (8 * J + 7) / 8 = J by omega]
  exact packTo_congr _ _ J (fun j hj => pad_bl b (8 * J) j hj)
end Go.Proofs.Ytdimglmabmkddaa
