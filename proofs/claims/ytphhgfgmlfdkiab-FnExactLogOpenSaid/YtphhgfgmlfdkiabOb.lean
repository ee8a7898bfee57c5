/- What LogOpen leaves is bounded; slices that stay while a disk is marked. -/
import Derived.Test.YtphhgfgmlfdkiabSop
import Derived.Test.YtphhgfgmlfdkiabEq
namespace Go.Proofs.Ytphhgfgmlfdkiab
open Go.RowKit
set_option linter.unusedVariables false

theorem OpR.len {S : List ByteArray} {L : List (Int × ByteArray)} {S' : List ByteArray} {L' : List (Int × ByteArray)} {o : List ByteArray} {p : Nat} (h : OpR S L S' L' o p) : S'.length = S.length ∧ L'.length ≤ L.length ∧ o.length ≤ 1500 := by
  rcases h with ⟨_, rfl, rfl, rfl, _⟩ | ⟨h0, o0, p0, hl, hh⟩
  · exact ⟨rfl, Nat.le_refl _, by simp⟩
  · have hd := (okB_iff h0).1.1
    have hb := Log.bound (h := hl) (by rw [eff_len]; exact hd)
    rcases hh with ⟨_, rfl, rfl, rfl, _⟩ | ⟨_, rfl, rfl, rfl, _⟩
    · exact ⟨crTo_len _ _ _ _, by simp, hb.1⟩
    · exact ⟨rfl, Nat.le_refl _, by simp⟩
/-- A slice that lies apart from the two that turned. -/
theorem OwG.frA {va vb : Value} {w w' : World} {base e sz : Nat} {v : Value} {n : Nat} {cs : List Value} (h : OwG w base e sz v n cs) (hf : Fr va vb w w') (ha : ∀ g, v.ownBlock = some g → some g ≠ va.ownBlock) (hb : ∀ g, v.ownBlock = some g → some g ≠ vb.ownBlock) : OwG w' base e sz v n cs := by
  refine ⟨Nat.le_trans h.1 hf.1, h.2.1, ?_⟩
  rcases h.2.2 with h0 | ⟨g, cap, cur, hv, hg', hh, r⟩
  · exact .inl h0
  · exact .inr ⟨g, cap, cur, hv, hg', (hf.2 g (Array.getElem?_eq_some_iff.1 hh).1 (ha g (by rw [hv]; rfl)) (hb g (by rw [hv]; rfl))).trans hh, r⟩
end Go.Proofs.Ytphhgfgmlfdkiab
