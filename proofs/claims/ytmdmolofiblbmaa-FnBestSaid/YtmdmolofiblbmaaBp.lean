/- Plain: what BestCodes answers. -/
import Derived.Test.YtmdmolofiblbmaaTq
import Derived.Test.YtmdmolofiblbmaaCl
import Derived.Test.YtmdmolofiblbmaaMx
import Derived.Test.YtmdmolofiblbmaaFq
namespace Go.Proofs.Ytmdmolofiblbmaa
open Go.RowKit
set_option linter.unusedVariables false

theorem getD_eq {xs ys : List Int} {j : Nat} (h : xs[j]? = ys[j]?) : xs.getD j 0 = ys.getD j 0 := by simp only [List.getD, h]
theorem take_getD (xs : List Int) (n j : Nat) (h : j < n) : (xs.take n).getD j 0 = xs.getD j 0 := getD_eq (by rw [List.getElem?_take, if_pos h])
theorem pickTo_take (ls : List Int) (l : Int) (n : Nat) : ∀ k, k ≤ n → pickTo (ls.take n) l k = pickTo ls l k
  | 0, _ => rfl
  | k + 1, h => by rw [pickTo, pickTo, pickTo_take ls l n k (by omega), take_getD ls n k (by omega)]
theorem symsTo_take (ls : List Int) : ∀ i, symsTo (ls.take 256) i = symsTo ls i
  | 0 => rfl
  | i + 1 => by rw [symsTo, symsTo, symsTo_take ls i, pickTo_take ls _ 256 256 (Nat.le_refl _)]
theorem cntsTo_take (ls : List Int) : ∀ i, cntsTo (ls.take 256) i = cntsTo ls i
  | 0 => rfl
  | i + 1 => by rw [cntsTo, cntsTo, cntsTo_take ls i, pickTo_take ls _ 256 256 (Nat.le_refl _)]
theorem maxTo_take (ls : List Int) (n : Nat) : ∀ k, k < n → maxTo (ls.take n) k = maxTo ls k
  | 0, h => by rw [maxTo, maxTo, take_getD ls n 0 h]
  | k + 1, h => by rw [maxTo, maxTo, maxTo_take ls n k (by omega), take_getD ls n (k + 1) h]
/-- All lengths of the first k symbols are 8. -/
def evenTo (R : List Int) : Nat → List Int
  | 0 => R
  | k + 1 => if 0 < R.getD k 0 then (evenTo R k).set k 8 else evenTo R k
theorem evenTo_len (R : List Int) : ∀ k, (evenTo R k).length = R.length
  | 0 => rfl
  | k + 1 => by
    rw [evenTo]
    split
    · rw [List.length_set, evenTo_len R k]
    · exact evenTo_len R k
theorem evenTo_off (R : List Int) (j : Nat) : ∀ k, k ≤ j → (evenTo R k).getD j 0 = R.getD j 0
  | 0, _ => rfl
  | k + 1, h => by
    rw [evenTo]
    split
    · rw [getD_set_off _ _ _ _ (by omega), evenTo_off R j k (by omega)]
    · exact evenTo_off R j k (by omega)
/-- The lengths that are taken. -/
def bestL (R : List Int) : List Int := if 16 < maxTo R 255 then evenTo R 256 else R
theorem bestL_len (R : List Int) : (bestL R).length = R.length := by
  unfold bestL
  split
  · exact evenTo_len R 256
  · rfl
def np (fs : List Int) : Nat := (initP fs 256).length
def bB (fs : List Int) : Bool := freqs fs && decide (1 ≤ np fs ∧ np fs ≤ 255)
def bC (fs : List Int) : List Int := if bB fs = true then cntsTo (bestL (lensP fs)) 16 else []
def bS (fs : List Int) : List Int := if bB fs = true then symsTo (bestL (lensP fs)) 16 else []
theorem bC_len (fs : List Int) : (bC fs).length ≤ 16 := by
  unfold bC
  split
  · rw [cntsTo_len]; exact Nat.le_refl _
  · simp
theorem bS_len (fs : List Int) : (bS fs).length ≤ 4096 := by
  unfold bS
  split
  · exact symsTo_len _ 16
  · simp
theorem freqs_at {fs : List Int} (h : freqs fs = true) : fs.length = 256 ∧ ∀ j, j < 256 → 0 ≤ fs.getD j 0 ∧ fs.getD j 0 ≤ 100000 := by
  unfold freqs at h
  simp only [Bool.and_eq_true, decide_eq_true_eq] at h
  have hl : fs.length = 256 := by omega
  refine ⟨hl, fun j hj => freqTo_at fs fs.length h.1 j (by omega)⟩
theorem initP_least (fs : List Int) : ∀ k, (∀ x ∈ initP fs k, x.2.1 < (k : Int)) ∧ Apart (initP fs k)
  | 0 => ⟨fun x hx => (by cases hx), by unfold Apart; simp [initP]⟩
  | k + 1 => by
    obtain ⟨h1, h2⟩ := initP_least fs k
    rw [initP]
    split
    · refine ⟨fun x hx => ?_, ?_⟩
      · rcases List.mem_append.1 hx with h | h
        · have := h1 x h; omega
        · simp at h; subst h; show (k : Int) < _; omega
      · unfold Apart at *
        rw [List.map_append, List.nodup_append]
        refine ⟨h2, by simp, fun a ha b hb => ?_⟩
        obtain ⟨x, hx, rfl⟩ := List.mem_map.1 ha
        simp at hb
        subst hb
        have := h1 x hx
        omega
    · exact ⟨fun x hx => by have := h1 x hx; omega, h2⟩
theorem start_apart (fs : List Int) : Apart (initP fs 256 ++ [(0, 256, [256])]) := by
  obtain ⟨h1, h2⟩ := initP_least fs 256
  unfold Apart at *
  rw [List.map_append, List.nodup_append]
  refine ⟨h2, by simp, fun a ha b hb => ?_⟩
  obtain ⟨x, hx, rfl⟩ := List.mem_map.1 ha
  simp at hb
  subst hb
  have := h1 x hx
  omega
theorem TrQ.row {w : World} {base : Nat} {v : Value} {E : List TE} (h : TrQ w base v E) (hne : E ≠ []) : ∃ G c cur, v = .slice (some ⟨G, 0, none⟩) E.length c ∧ base ≤ G ∧ RowT w G cur E ∧ cur.length = c * 3 ∧ E.length ≤ c := by
  rcases h.2.1.2 with ⟨_, h0⟩ | ⟨g, cap, cur, hv, hg, hh, hc, _, hs, ht⟩
  · exact absurd (List.length_eq_zero_iff.1 h0) hne
  · refine ⟨g, cap, cur.toList, hv, hg, ⟨by unfold Blk; simpa using hh, ht, ?_⟩, by simpa using hs, hc⟩
    have : cur.toList.length = cap * 3 := by simpa using hs
    omega
end Go.Proofs.Ytmdmolofiblbmaa
