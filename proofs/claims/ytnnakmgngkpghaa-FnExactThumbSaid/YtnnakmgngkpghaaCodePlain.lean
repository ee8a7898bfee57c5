/- Plain facts: which code a symbol has. No function of the program is named here. -/
import Derived.Test.YtnnakmgngkpghaaAll
namespace Go.Proofs.Ytnnakmgngkpghaa
open Go.RowKit Go.Maps
set_option linter.unusedVariables false

/-- A length and a code that fits it. -/
def KeyOk (x : Nat × Int) : Prop := (1 ≤ x.1 ∧ x.1 ≤ 16) ∧ 0 ≤ x.2 ∧ x.2 < 2 ^ x.1
theorem rowKeys_ok (cs : List Int) (h : okTo cs 16 = true) (hr : room cs 16 ≤ 65535) (i : Nat) (hi : i < 16) : ∀ (k : Nat), (k : Int) ≤ cs.getD i 0 → ∀ x ∈ rowKeys cs i k, KeyOk x
  | 0, _, x, hx => by simp [rowKeys] at hx
  | k + 1, hk, x, hx => by
    rw [rowKeys, List.mem_append] at hx
    rcases hx with hx | hx
    · exact rowKeys_ok cs h hr i hi k (by omega) x hx
    · have e : x = (i + 1, sc cs i + k) := by simpa using hx
      subst e
      have h1 := sc_nonneg cs h i (by omega)
      have h2 := (sc_lt cs h hr i hi).1
      exact ⟨⟨by omega, by omega⟩, by show 0 ≤ sc cs i + k; omega, by show sc cs i + k < 2 ^ (i + 1); omega⟩
theorem keysTo_ok (cs : List Int) (h : okTo cs 16 = true) (hr : room cs 16 ≤ 65535) : ∀ i, i ≤ 16 → ∀ x ∈ keysTo cs i, KeyOk x
  | 0, _, x, hx => by simp [keysTo] at hx
  | i + 1, hi, x, hx => by
    rw [keysTo, List.mem_append] at hx
    have hb := okTo_at cs 16 h i (by omega)
    rcases hx with hx | hx
    · exact keysTo_ok cs h hr i (by omega) x hx
    · exact rowKeys_ok cs h hr i (by omega) (cs.getD i 0).toNat (by omega) x hx

theorem go_mem (ss : List Int) (K : List (Nat × Int)) (j : Nat) : ∀ t, t ≤ K.length → bookTo.go ss K t j = (0, 0) ∨ bookTo.go ss K t j ∈ K
  | 0, _ => .inl rfl
  | t + 1, h => by
    rw [bookTo.go]
    split
    · right
      have : K.getD t (0, 0) = K[t] := by simp [List.getD, show t < K.length by omega]
      rw [this]
      exact List.getElem_mem _
    · exact go_mem ss K j t (by omega)
theorem book_mem (ss : List Int) (K : List (Nat × Int)) (j : Nat) : bookTo ss K j = (0, 0) ∨ bookTo ss K j ∈ K := go_mem ss K j _ (Nat.le_refl _)
theorem go_miss (ss : List Int) (K : List (Nat × Int)) (j : Nat) : ∀ t, (∀ p, p < t → ss.getD p 0 ≠ j) → bookTo.go ss K t j = (0, 0)
  | 0, _ => rfl
  | t + 1, h => by
    rw [bookTo.go, if_neg (fun e => h t (by omega) e.symm)]
    exact go_miss ss K j t (fun p hp => h p (by omega))
theorem go_hit (ss : List Int) (K : List (Nat × Int)) (j : Nat) : ∀ t, apartTo ss t = true → ∀ p, p < t → ss.getD p 0 = j → bookTo.go ss K t j = K.getD p (0, 0)
  | t + 1, h, p, hp, e => by
    simp only [apartTo, Bool.and_eq_true, Bool.not_eq_true'] at h
    rw [bookTo.go]
    by_cases ep : p = t
    · subst ep; rw [if_pos e.symm]
    · rw [if_neg]
      · exact go_hit ss K j t h.1 p (by omega) e
      · intro e2
        have : hasTo ss t (ss.getD t 0) = true := (hasTo_iff ss _ t).2 ⟨p, by omega, by rw [e, e2]⟩
        rw [this] at h
        exact Bool.noConfusion h.2.2

/-- The bits of a symbol's code, of right codes. -/
def codeL (cs ss : List Int) (sym : Int) : List Int := if inB sym = true then bitsK (bookTo ss (keysTo cs 16) sym.toNat) else []
/-- The bits of a symbol's code; nothing for codes that are not right. -/
def codeR (cs ss : List Int) (sym : Int) : List Int := if rightC cs ss = true then codeL cs ss sym else []
theorem codeL_out (cs ss : List Int) (sym : Int) (h : inB sym = false) : codeL cs ss sym = [] := by unfold codeL; rw [h]; rfl
theorem keys_len (cs ss : List Int) (h : rightC cs ss = true) : (keysTo cs 16).length = ss.length := by
  obtain ⟨⟨hl, hok, ht, hroom⟩, htold, hap⟩ := (right_iff cs ss).1 h
  have := keysTo_length cs 16 hok
  omega
theorem codeL_hit (cs ss : List Int) (h : rightC cs ss = true) (p : Nat) (hp : p < ss.length) (x : Nat × Int) (hx : (keysTo cs 16)[p]? = some x) : codeL cs ss (ss.getD p 0) = bitsK x := by
  obtain ⟨⟨hl, hok, ht, hroom⟩, htold, hap⟩ := (right_iff cs ss).1 h
  have hin := apart_in ss _ hap p hp
  unfold codeL
  rw [if_pos ((inB_iff _).2 hin), bookTo, keys_len cs ss h, go_hit ss _ _ _ hap p hp (by omega)]
  simp [List.getD, hx]
theorem codeL_miss (cs ss : List Int) (h : rightC cs ss = true) (sym : Int) (hm : ∀ p, p < ss.length → ss.getD p 0 ≠ sym) : codeL cs ss sym = [] := by
  unfold codeL
  split
  · rename_i hin
    have hb := (inB_iff _).1 hin
    rw [bookTo, keys_len cs ss h, go_miss ss _ _ _ (fun p hp e => hm p hp (by omega))]
    rfl
  · rfl
/-- What the book says of a symbol. -/
theorem book_key (cs ss : List Int) (h : rightC cs ss = true) (j : Nat) : bookTo ss (keysTo cs 16) j = (0, 0) ∨ KeyOk (bookTo ss (keysTo cs 16) j) := by
  obtain ⟨⟨hl, hok, ht, hroom⟩, htold, hap⟩ := (right_iff cs ss).1 h
  rcases book_mem ss (keysTo cs 16) j with h1 | h1
  · exact .inl h1
  · exact .inr (keysTo_ok cs hok hroom 16 (by omega) _ h1)
end Go.Proofs.Ytnnakmgngkpghaa
