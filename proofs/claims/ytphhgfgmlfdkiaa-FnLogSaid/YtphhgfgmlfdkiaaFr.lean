/- What stays while a disk is marked. No statement is proved here. -/
import Derived.Test.YtphhgfgmlfdkiaaMk
namespace Go.Proofs.Ytphhgfgmlfdkiaa
open Go.RowKit
set_option linter.unusedVariables false

theorem OwG.tag {w : World} {base e sz : Nat} {v : Value} {n : Nat} {cs : List Value} (h : OwG w base e sz v n cs) {b : Nat} {l : List Value} {t : TypeId} (k : Blk w b l t) (ht : t ≠ e) : some b ≠ v.ownBlock := by
  intro eq
  rcases h.2.2 with ⟨hv, _⟩ | ⟨g, cap, cur, hv, _, hh, _⟩
  · rw [hv] at eq; simp [Value.ownBlock] at eq
  · rw [hv] at eq
    simp only [Value.ownBlock, Option.some.injEq] at eq
    subst eq
    unfold Blk at k
    rw [k] at hh
    cases hh
    exact ht rfl
theorem Blk.fr {w w' : World} {base base' n m : Nat} {va vb : Value} {cs ds : List Value} {b : Nat} {l : List Value} {t : TypeId} (h : Blk w b l t) (h1 : OwG w base 9 1 va n cs) (h2 : OwG w base' 69 2 vb m ds) (hf : Fr va vb w w') (t1 : t ≠ 9) (t2 : t ≠ 69) : Blk w' b l t :=
  (hf.2 b h.lt (h1.tag h t1) (h2.tag h t2)).trans h

theorem OwG.sub {w w' : World} {B base e sz : Nat} {v : Value} {n : Nat} {cs : List Value} (h : OwG w base e sz v n cs) (hb : Below B w w') (hl : ∀ g, v.ownBlock = some g → g < B) : OwG w' base e sz v n cs := by
  refine ⟨Nat.le_trans h.1 hb.size, h.2.1, ?_⟩
  rcases h.2.2 with h0 | ⟨g, cap, cur, hv, hg, hh, r⟩
  · exact .inl h0
  · exact .inr ⟨g, cap, cur, hv, hg, (hb.block g (hl g (by rw [hv]; rfl))).trans hh, r⟩
end Go.Proofs.Ytphhgfgmlfdkiaa
