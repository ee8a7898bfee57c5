/- Plain: what a disk holds behind a write, a sync, a crash that keeps all or nothing. -/
import Derived.Test.YtlphojlccecnhaaCk
import Derived.Test.YtlphojlccecnhaaLk
import Derived.Test.YtlphojlccecnhaaWr
namespace Go.Proofs.Ytlphojlccecnhaa
open Go.RowKit
set_option linter.unusedVariables false

theorem cr_mp (S : List ByteArray) (L : List (Int × ByteArray)) (hok : ∀ j, j < L.length → hasS S.length (lAt L j).1 = true) : ∀ k, k ≤ L.length → ∀ j, j < S.length → sAt (crTo S L kpAll k) j = rdF (mpTo L k) S (j : Int)
  | 0, _, j, hj => by rw [rdF_none rfl, Int.toNat_natCast]; rfl
  | k + 1, h, j, hj => by
    have ih := cr_mp S L hok k (by omega) j hj
    obtain ⟨x, hx, hxn⟩ := hasS_nat2 (hok k (by omega))
    rw [crTo, if_pos (show kpAll k = true from rfl)]
    by_cases e : x = j
    · subst e
      rw [rdF_some (mpTo_hit L k _ hx), hx, Int.toNat_natCast, sAt_set_same _ _ _ (by rw [crTo_len]; exact hj)]
    · rw [hx, Int.toNat_natCast, sAt_set_ne _ _ _ _ e, ih]
      unfold rdF
      rw [mpTo_miss L k _ (by rw [hx]; omega)]
theorem ra_cr (S : List ByteArray) (L : List (Int × ByteArray)) (hok : ∀ j, j < L.length → hasS S.length (lAt L j).1 = true) : raL (mpTo L L.length) S = crTo S L kpAll L.length :=
  s_ext (by rw [raL_len, crTo_len]) (fun i hi => by
    rw [raL_len] at hi
    rw [raL_at _ _ _ hi, cr_mp S L hok _ (Nat.le_refl _) i hi])
theorem crTo_congr (S : List ByteArray) (L : List (Int × ByteArray)) (kp kp' : Nat → Bool) : ∀ k, (∀ j, j < k → kp j = kp' j) → crTo S L kp k = crTo S L kp' k
  | 0, _ => rfl
  | k + 1, h => by rw [crTo, crTo, h k (by omega), crTo_congr S L kp kp' k (fun j hj => h j (by omega))]
theorem crTo_none (S : List ByteArray) (L : List (Int × ByteArray)) (kp : Nat → Bool) (h : ∀ j, kp j = false) : ∀ k, crTo S L kp k = S
  | 0 => rfl
  | k + 1 => by rw [crTo, if_neg (by rw [h]; exact Bool.noConfusion), crTo_none S L kp h k]
theorem crTo_left (S : List ByteArray) (L : List (Int × ByteArray)) (x : Int × ByteArray) (kp : Nat → Bool) : ∀ k, k ≤ L.length → crTo S (L ++ [x]) kp k = crTo S L kp k
  | 0, _ => rfl
  | k + 1, h => by rw [crTo, crTo, crTo_left S L x kp k (by omega), lAt_left L x k (by omega)]

/-- Behind a write that could be. -/
theorem wr_facts {S : List ByteArray} {L : List (Int × ByteArray)} {i : Int} {s : ByteArray} (h : wrB S L i s = true) :
    okB S L = true ∧ okB S (L ++ [(i, s)]) = true ∧ drR S (L ++ [(i, s)]) i = (s, true)
    ∧ (∀ r, LkB r (bhS S (L ++ [(i, s)]) kpAll) [] S (L ++ [(i, s)]) → r = true)
    ∧ (∀ ks : List Int, ks = List.replicate (L ++ [(i, s)]).length 1 → bhS S (L ++ [(i, s)]) (kpOf ks) = bhS S (L ++ [(i, s)]) kpAll)
    ∧ bhS S (L ++ [(i, s)]) (kpOf []) = S
    ∧ (∀ k : Nat, (k : Int) ≠ i → sAt (bhS S (L ++ [(i, s)]) kpAll) k = sAt (bhS S L kpAll) k) := by
  have hh := h
  unfold wrB at hh
  simp only [Bool.and_eq_true, decide_eq_true_eq] at hh
  obtain ⟨h1, h2, h3, h4⟩ := hh
  have hd := okB_iff h1
  have hd' : DOk S (L ++ [(i, s)]) := by
    refine ⟨⟨hd.1.1, by simp; omega⟩, hd.2.1, fun j hj => ?_⟩
    by_cases e : j < L.length
    · rw [lAt_left L _ j e]; exact hd.2.2 j e
    · have : j = L.length := by simp at hj; omega
      subst this
      rw [lAt_last]
      exact ⟨h2, h3⟩
  have hk' := okB_yes hd'
  have hall : ∀ j, j < (L ++ [(i, s)]).length → hasS S.length (lAt (L ++ [(i, s)]) j).1 = true := fun j hj => (hd'.2.2 j hj).1
  have hlen : (L ++ [(i, s)]).length = L.length + 1 := by simp
  refine ⟨h1, hk', ?_, ?_, ?_, ?_, ?_⟩
  · rw [drR_yes hk' h2]
    unfold rdP
    rw [hlen, rdF_some (mpTo_hit _ _ _ (by rw [lAt_last])), lAt_last]
  · intro r hr
    refine hr.2 ⟨?_, hk', ?_⟩
    · rw [bhS_yes hk']; exact okB_yes (crTo_ok S _ _ hd')
    · rw [ra_cr S _ hall, bhS_yes hk']
      exact raL_none _
  · intro ks hks
    rw [bhS_yes hk', bhS_yes hk']
    refine crTo_congr _ _ _ _ _ (fun j hj => ?_)
    subst hks
    simp only [hlen] at hj
    simp [kpOf, kpAll, List.getD, hj]
  · rw [bhS_yes hk']
    exact crTo_none _ _ _ (fun j => by simp [kpOf]) _
  · intro k hk
    rw [bhS_yes hk', bhS_yes h1, hlen, crTo, if_pos (show kpAll L.length = true from rfl), lAt_last, crTo_left _ _ _ _ _ (Nat.le_refl _)]
    obtain ⟨x, hx, _⟩ := hasS_nat2 h2
    subst hx
    exact sAt_set_ne _ _ _ _ (by simp; omega)
end Go.Proofs.Ytlphojlccecnhaa
