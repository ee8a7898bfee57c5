/- What lies below stays. -/
import Derived.Test.YtnnakmgngkpghaaGreatRk
namespace Go.Proofs.YtnnakmgngkpghaaGreat
open Go.RowKit Go.Maps
set_option linter.unusedVariables false

/-- What lies below stays. -/
theorem Own.keepB {w w' : World} {b B : Nat} {v : Value} {xs : List Int} (h : Own w b 3 .i64 v xs) (hb : Below B w w') (hB : ∀ g, v.ownBlock = some g → g < B) : Own w' b 3 .i64 v xs := by
  refine ⟨Nat.le_trans h.1 hb.size, h.2.1, ?_⟩
  rcases h.2.2 with h0 | ⟨g, cap, cur, hv, hg, hh, r⟩
  · exact .inl h0
  · exact .inr ⟨g, cap, cur, hv, hg, (hb.block g (hB g (by rw [hv]; rfl))).trans hh, r⟩
end Go.Proofs.YtnnakmgngkpghaaGreat
