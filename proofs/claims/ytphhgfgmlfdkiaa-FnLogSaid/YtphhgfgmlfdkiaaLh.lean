/- Plain: what text says of what stands at a sector is what the record there is. -/
import Derived.Test.YtphhgfgmlfdkiaaTxt
namespace Go.Proofs.Ytphhgfgmlfdkiaa
open Go.RowKit
set_option linter.unusedVariables false

/-- How many sectors are looked at. -/
def cnt (E : List ByteArray) (p : Nat) : Nat := min (max (told (sAt E p)) 1) (E.length - p)
def standing (E : List ByteArray) (p c : Nat) : List ByteArray := (E.drop p).take c
theorem standing_len (E : List ByteArray) (p c : Nat) (h : p + c ≤ E.length) : (standing E p c).length = c := by
  simp [standing]
  omega
theorem standing_at (E : List ByteArray) (p c j : Nat) (h : j < c) : sAt (standing E p c) j = sAt E (p + j) := by
  simp only [standing, sAt, List.getD_eq_getElem?_getD]
  rw [List.getElem?_take, if_pos h, List.getElem?_drop]
theorem standing_join (E : List ByteArray) (p c : Nat) : ∀ k, k ≤ c → joinTo (standing E p c) 0 k = joinTo E p k
  | 0, _ => rfl
  | k + 1, h => by
    rw [joinTo, joinTo, standing_join E p c k (by omega), Nat.zero_add, standing_at E p c k (by omega)]
theorem standing_long (E : List ByteArray) (p c : Nat) : longTo (standing E p c) 0 c = true ↔ longTo E p c = true := by
  rw [longTo_iff, longTo_iff]
  constructor
  · intro h j hj
    have := h j hj
    rw [Nat.zero_add, standing_at E p c j hj] at this
    exact this
  · intro h j hj
    rw [Nat.zero_add, standing_at E p c j hj]
    exact h j hj
theorem tx_yes (E : List ByteArray) (p q : Nat) (hq : 1 ≤ q ∧ q ≤ 1000000000) (hp : p < E.length) (h : txB q (standing E p (cnt E p)) = true) : atR E p q = some (txS q (standing E p (cnt E p)), cnt E p) := by
  have hc1 : 1 ≤ cnt E p := by unfold cnt; omega
  have hc2 : p + cnt E p ≤ E.length := by unfold cnt; omega
  have hcd : cnt E p = min (max (told (sAt E p)) 1) (E.length - p) := rfl
  have hS : txS q (standing E p (cnt E p)) = joinTo (standing E p (cnt E p)) 0 (standing E p (cnt E p)).length := by unfold txS; rw [if_pos h]
  rw [hS]
  unfold txB at h
  simp only [Bool.and_eq_true, decide_eq_true_eq] at h
  rw [standing_len E p _ hc2] at h ⊢
  generalize cnt E p = c at *
  rw [standing_join E p c c (Nat.le_refl _)] at h ⊢
  obtain ⟨h1, h2⟩ := h
  rw [standing_long] at h1
  have hlen : (partsP q (joinTo E p c)).length = c := by rw [h2, standing_len E p c hc2]
  have hok : partOk q (joinTo E p c) = true := by
    cases hb : partOk (q : Int) (joinTo E p c) with
    | true => rfl
    | false =>
      unfold partsP at hlen
      rw [if_neg (by rw [hb]; exact Bool.noConfusion)] at hlen
      simp at hlen
      omega
  have hpp : partsP q (joinTo E p c) = partsTo q (joinTo E p c) (parts (joinTo E p c)) := by unfold partsP; rw [if_pos hok]
  have hpc : parts (joinTo E p c) = c := by
    have := hlen
    rw [hpp, partsTo_len] at this
    exact this
  have h0 : sAt E p = partB q (joinTo E p c) 0 := by
    have e1 := standing_at E p c 0 (by omega)
    rw [Nat.add_zero, ← h2, hpp, partsTo_at _ _ _ _ (by omega)] at e1
    exact e1.symm
  have h12 : 12 ≤ (sAt E p).size := by
    have := (longTo_iff E p c).1 h1 0 (by omega)
    rw [Nat.add_zero] at this
    exact this
  have htold : told (sAt E p) = c := by
    have e2 := told_yes (sAt E p) (by omega)
    have hsm : (joinTo E p c).size ≤ 60000 := by simp only [partOk, decide_eq_true_eq] at hok; exact hok.2.2
    have e3 := partB_w2 q (joinTo E p c) 0 (by unfold parts; omega) (by rw [← h0]; omega)
    have e4 : (told (sAt E p) : Int) = (parts (joinTo E p c) : Int) := by
      rw [← e2, ← e3]
      congr 1 <;> simp only [h0]
    omega
  have hR : recB E p q (told (sAt E p)) = true := by
    rw [htold]
    unfold recB
    rw [decide_eq_true hc2, h1, decide_eq_true (show partsP (q : Int) (joinTo E p c) = (E.drop p).take c from h2)]
    rfl
  rw [atR_yes ⟨hp, h12, hR⟩, htold]
theorem tx_no (E : List ByteArray) (p q : Nat) (hq : 1 ≤ q ∧ q ≤ 1000000000) (hp : p < E.length) (h : txB q (standing E p (cnt E p)) = false) : atR E p q = none := by
  cases ha : atR E p q with
  | none => rfl
  | some x =>
    obtain ⟨s, n⟩ := x
    have hpos := atR_pos hq ha
    unfold atR at ha
    split at ha
    · rename_i hc
      cases ha
      obtain ⟨h1, h2, h3⟩ := hc
      simp only [recB, Bool.and_eq_true, decide_eq_true_eq] at h3
      have hcn : cnt E p = told (sAt E p) := by unfold cnt; omega
      rw [hcn] at h
      generalize told (sAt E p) = c at *
      have : txB q (standing E p c) = true := by
        unfold txB
        rw [standing_len E p c hpos.2, standing_join E p c c (Nat.le_refl _), (standing_long E p c).2 h3.2.1, decide_eq_true (show partsP (q : Int) (joinTo E p c) = standing E p c from h3.2.2)]
        rfl
      rw [this] at h
      cases h
    · cases ha
end Go.Proofs.Ytphhgfgmlfdkiaa
