/- Plain facts: bytes come back from their digits, and what is taken for digits is just the digits of those bytes. No program is named here. -/
import Derived.Test.YtmcfhfieabnigaaDoorHexB
import Derived.Test.YtmcfhfieabnigaaDoorHexWalk
namespace Go.Proofs.YtmcfhfieabnigaaDoor
open Go.RowKit
set_option linter.unusedVariables false

/-- The first k numbers. -/
def bl (b : Nat → Int) : Nat → List Int
  | 0 => []
  | k + 1 => bl b k ++ [b k]
theorem bl_length (b : Nat → Int) : ∀ k, (bl b k).length = k
  | 0 => rfl
  | k + 1 => by simp [bl, bl_length b k]
theorem bl_get (b : Nat → Int) : ∀ k j, j < k → (bl b k).getD j 0 = b j
  | k + 1, j, h => by
    have hl := bl_length b k
    by_cases e : j = k
    · subst e
      simp [bl, List.getD, hl]
    · have := bl_get b k j (by omega)
      simp only [bl, List.getD] at this ⊢
      rw [List.getElem?_append_left (by omega)]
      exact this

theorem bt_nums (xs : List Int) (i : Nat) (h : i < xs.length) (h0 : 0 ≤ xs.getD i 0) (h1 : xs.getD i 0 < 256) : bt (strOfNums xs) i = xs.getD i 0 := by
  rw [bt_eq _ _ (by rw [strOfNums_size]; exact h)]
  have e : (strOfNums xs)[i]'(by rw [strOfNums_size]; exact h) = UInt8.ofNat (xs.getD i 0).toNat := by
    have : (strOfNums xs).data.toList[i]? = some (UInt8.ofNat (xs.getD i 0).toNat) := by
      rw [strOfNums_data, List.getElem?_map]
      simp [List.getD, h]
    have h2 : (strOfNums xs).data.toList[i]? = some ((strOfNums xs)[i]'(by rw [strOfNums_size]; exact h)) := by
      rw [List.getElem?_eq_getElem (by rw [Array.length_toList]; show i < (strOfNums xs).size; rw [strOfNums_size]; exact h)]
      rfl
    rw [h2] at this
    exact Option.some.inj this
  rw [e]
  clear e
  generalize xs.getD i 0 = X at *
  rw [UInt8.toNat_ofNat']
  omega

/-- A text is the text of its bytes. -/
theorem nums_text (s : ByteArray) : strOfNums (bl (bt s) s.size) = s := by
  apply ByteArray.ext
  apply Array.ext'
  rw [strOfNums_data]
  apply List.ext_getElem?
  intro k
  rw [List.getElem?_map]
  have hd : s.data.size = s.size := rfl
  by_cases hk : k < s.size
  · have h1 : (bl (bt s) s.size)[k]? = some (bt s k) := by
      have := bl_get (bt s) s.size k hk
      rw [List.getD, List.getElem?_eq_getElem (by rw [bl_length]; exact hk)] at this
      rw [List.getElem?_eq_getElem (by rw [bl_length]; exact hk)]
      exact congrArg some (by simpa using this)
    rw [h1, Option.map_some, bt_eq s k hk, List.getElem?_eq_getElem (by rw [Array.length_toList]; omega)]
    simp
    rfl
  · have e1 : (bl (bt s) s.size)[k]? = none := List.getElem?_eq_none (by rw [bl_length]; omega)
    rw [e1, List.getElem?_eq_none (by rw [Array.length_toList]; omega)]
    rfl

theorem dg_hexs (d : Nat) (h : d < 16) : dg (bt hexs d) = d := by
  obtain rfl | rfl | rfl | rfl | rfl | rfl | rfl | rfl | rfl | rfl | rfl | rfl | rfl | rfl | rfl | rfl : d = 0 ∨ d = 1 ∨ d = 2 ∨ d = 3 ∨ d = 4 ∨ d = 5 ∨ d = 6 ∨ d = 7 ∨ d = 8 ∨ d = 9 ∨ d = 10 ∨ d = 11 ∨ d = 12 ∨ d = 13 ∨ d = 14 ∨ d = 15 := by omega
  all_goals decide
theorem hexs_dg (c : Int) (h : 0 ≤ dg c) : bt hexs (dg c).toNat = c := by
  have hc : (48 ≤ c ∧ c ≤ 57) ∨ (97 ≤ c ∧ c ≤ 102) := by
    unfold dg at h
    split at h
    · left; assumption
    · split at h
      · right; assumption
      · omega
  clear h
  obtain rfl | rfl | rfl | rfl | rfl | rfl | rfl | rfl | rfl | rfl | rfl | rfl | rfl | rfl | rfl | rfl : c = 48 ∨ c = 49 ∨ c = 50 ∨ c = 51 ∨ c = 52 ∨ c = 53 ∨ c = 54 ∨ c = 55 ∨ c = 56 ∨ c = 57 ∨ c = 97 ∨ c = 98 ∨ c = 99 ∨ c = 100 ∨ c = 101 ∨ c = 102 := by omega
  all_goals decide

theorem hexTo_get (b : Nat → Int) : ∀ k j, j < k → (hexTo b k).getD (2 * j) 0 = bt hexs (b j / 16).toNat ∧ (hexTo b k).getD (2 * j + 1) 0 = bt hexs (b j % 16).toNat
  | k + 1, j, h => by
    have hl := hexTo_length b k
    by_cases e : j = k
    · subst e
      simp only [hexTo, List.getD]
      rw [List.getElem?_append_right (by omega), List.getElem?_append_right (by omega), hl, Nat.sub_self, show 2 * j + 1 - 2 * j = 1 by omega]
      exact ⟨rfl, rfl⟩
    · have := hexTo_get b k j (by omega)
      simp only [hexTo, List.getD] at this ⊢
      rw [List.getElem?_append_left (by omega), List.getElem?_append_left (by omega)]
      exact this

/-- The text of a text's digits. -/
def hexOf (s : ByteArray) : ByteArray := strOfNums (hexTo (bt s) s.size)
theorem hexOf_size (s : ByteArray) : (hexOf s).size = 2 * s.size := by rw [hexOf, strOfNums_size, hexTo_length]
theorem hexOf_bt (s : ByteArray) (j : Nat) (h : j < s.size) : bt (hexOf s) (2 * j) = bt hexs (bt s j / 16).toNat ∧ bt (hexOf s) (2 * j + 1) = bt hexs (bt s j % 16).toNat := by
  obtain ⟨e0, e1⟩ := hexTo_get (bt s) s.size j h
  have hl := hexTo_length (bt s) s.size
  refine ⟨?_, ?_⟩
  · rw [hexOf, bt_nums _ _ (by omega) (by rw [e0]; exact bt_nonneg _ _) (by rw [e0]; exact bt_lt _ _), e0]
  · rw [hexOf, bt_nums _ _ (by omega) (by rw [e1]; exact bt_nonneg _ _) (by rw [e1]; exact bt_lt _ _), e1]
theorem hexOf_dg (s : ByteArray) (j : Nat) (h : j < s.size) : dg (bt (hexOf s) (2 * j)) = bt s j / 16 ∧ dg (bt (hexOf s) (2 * j + 1)) = bt s j % 16 := by
  obtain ⟨e0, e1⟩ := hexOf_bt s j h
  have a0 := bt_nonneg s j
  have a1 := bt_lt s j
  rw [e0, e1, dg_hexs _ (by omega), dg_hexs _ (by omega)]
  omega
theorem hexOf_all (s : ByteArray) : ∀ k, k ≤ s.size → allOk (bt (hexOf s)) k = true ∧ bytesTo (bt (hexOf s)) k = bl (bt s) k
  | 0, _ => ⟨rfl, rfl⟩
  | k + 1, h => by
    obtain ⟨h1, h2⟩ := hexOf_all s k (by omega)
    obtain ⟨e0, e1⟩ := hexOf_dg s k (by omega)
    have a0 := bt_nonneg s k
    have a1 := bt_lt s k
    refine ⟨?_, ?_⟩
    · rw [allOk, h1, okAt, e0, e1, decide_eq_true (by omega), decide_eq_true (by omega)]
      rfl
    · rw [bytesTo, bl, h2, e0, e1, show 16 * (bt s k / 16) + bt s k % 16 = bt s k by omega]

theorem hexR_hexOf (s : ByteArray) (hs : s.size ≤ 60000) : hexR (hexOf s) = (s, true) := by
  have hsz := hexOf_size s
  obtain ⟨h1, h2⟩ := hexOf_all s s.size (Nat.le_refl _)
  have e : (hexOf s).size / 2 = s.size := by omega
  rw [hexR_ok _ (by omega) (by rw [e]; exact h1), e, h2, nums_text]

theorem bytesTo_get (b : Nat → Int) : ∀ k j, j < k → (bytesTo b k).getD j 0 = 16 * dg (b (2 * j)) + dg (b (2 * j + 1))
  | k + 1, j, h => by
    have hl := bytesTo_length b k
    by_cases e : j = k
    · subst e
      simp [bytesTo, List.getD, hl]
    · have := bytesTo_get b k j (by omega)
      simp only [bytesTo, List.getD] at this ⊢
      rw [List.getElem?_append_left (by omega)]
      exact this
theorem okAt_dg (b : Nat → Int) (k : Nat) (h : okAt b k = true) : 0 ≤ dg (b (2 * k)) ∧ 0 ≤ dg (b (2 * k + 1)) := by
  simpa [okAt] using h

theorem hexOf_hexR (u : ByteArray) (h : (hexR u).2 = true) : hexOf (hexR u).1 = u ∧ (hexR u).1.size ≤ 60000 := by
  by_cases h1 : u.size % 2 ≠ 0 ∨ 120000 < u.size
  · rw [hexR_out u h1] at h; cases h
  · by_cases h2 : allOk (bt u) (u.size / 2) = true
    · rw [hexR_ok u h1 h2]
      obtain ⟨n, hn⟩ : ∃ n, n = u.size / 2 := ⟨_, rfl⟩
      rw [← hn] at h2 ⊢
      have hl := bytesTo_length (bt u) n
      have hv : ∀ j, j < n → bt (strOfNums (bytesTo (bt u) n)) j = 16 * dg (bt u (2 * j)) + dg (bt u (2 * j + 1)) := by
        intro j hj
        obtain ⟨d0, d1⟩ := okAt_dg _ _ (allOk_at _ _ h2 j hj)
        have g0 := dg_high (bt u (2 * j))
        have g1 := dg_high (bt u (2 * j + 1))
        have e := bytesTo_get (bt u) n j hj
        rw [bt_nums _ _ (by omega) (by omega) (by omega), e]
      have hh : ∀ k, k ≤ n → hexTo (bt (strOfNums (bytesTo (bt u) n))) k = bl (bt u) (2 * k) := by
        intro k
        induction k with
        | zero => intro _; rfl
        | succ k ih =>
          intro hk
          obtain ⟨d0, d1⟩ := okAt_dg _ _ (allOk_at _ _ h2 k (by omega))
          have g1 := dg_high (bt u (2 * k + 1))
          have x0 := hexs_dg _ d0
          have x1 := hexs_dg _ d1
          rw [hexTo, ih (by omega), hv k (by omega), show 2 * (k + 1) = 2 * k + 1 + 1 by omega, bl, bl, show (16 * dg (bt u (2 * k)) + dg (bt u (2 * k + 1))) / 16 = dg (bt u (2 * k)) by omega, show (16 * dg (bt u (2 * k)) + dg (bt u (2 * k + 1))) % 16 = dg (bt u (2 * k + 1)) by omega, x0, x1]
          simp
      have hsz : (strOfNums (bytesTo (bt u) n)).size = n := by rw [strOfNums_size, hl]
      refine ⟨?_, by show (strOfNums (bytesTo (bt u) n)).size ≤ 60000; omega⟩
      show strOfNums (hexTo (bt (strOfNums (bytesTo (bt u) n))) (strOfNums (bytesTo (bt u) n)).size) = u
      rw [hsz, hh n (Nat.le_refl _), show 2 * n = u.size by omega, nums_text]
    · unfold hexR at h
      rw [if_neg h1, if_neg h2] at h
      cases h
end Go.Proofs.YtmcfhfieabnigaaDoor
