/- Plain: how many records there can be. -/
import Derived.Test.YtphhgfgmlfdkiaaSlr
namespace Go.Proofs.Ytphhgfgmlfdkiaa
open Go.RowKit
set_option linter.unusedVariables false

theorem Run.part {E : List ByteArray} : ∀ (j k : Nat) (o : List ByteArray) (p : Nat), Run E (k + j) o p → ∃ o' p', Run E k o' p'
  | 0, k, o, p, h => ⟨o, p, h⟩
  | j + 1, k, o, p, h => by
    obtain ⟨o', p', _, _, h', _⟩ := (show Run E (k + j + 1) o p from h)
    exact Run.part j k o' p' h'
theorem Log.bound {E : List ByteArray} {o : List ByteArray} {p : Nat} (hE : E.length ≤ 1500) (h : Log E o p) : o.length ≤ 1500 ∧ p ≤ E.length := by
  have hl : o.length ≤ 1500 := by
    apply Classical.byContradiction
    intro hn
    obtain ⟨o', p', h'⟩ := Run.part (o.length - 1501) 1501 o p (by rw [show 1501 + (o.length - 1501) = o.length by omega]; exact h.1)
    have := h'.le (by omega)
    omega
  exact ⟨hl, (h.1.le (by omega)).2⟩
theorem LogR.len {S : List ByteArray} {L : List (Int × ByteArray)} {o : List ByteArray} {p : Nat} (h : LogR S L o p) : o.length ≤ 1500 ∧ p ≤ S.length := by
  rcases h with ⟨h1, h2⟩ | ⟨_, h2, h3⟩
  · have hD := okB_iff h1
    have h4 := eff_len S L
    have h5 := hD.1.1
    have := h2.bound (by omega)
    omega
  · subst h2
    subst h3
    simp
end Go.Proofs.Ytphhgfgmlfdkiaa
