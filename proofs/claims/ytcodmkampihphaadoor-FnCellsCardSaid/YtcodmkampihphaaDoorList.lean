/- The contract of the drawn list of bits. -/
import Derived.Test.YtcodmkampihphaaDoorDraw
namespace Go.Proofs.YtcodmkampihphaaDoor
open Go.RowKit
set_option linter.unusedVariables false

theorem Cur.belowB {w0 w w' : World} {ao : Option Addr} {n cap C B : Nat} (h : Cur w0 ao n cap C w) (hB : C < B) (hb : Below B w w') : Cur w0 ao n cap C w' := by
  obtain ⟨h1, h2, i, x, hi, hh⟩ := h
  exact ⟨h1, h2.trans (hb.mono (by omega)), i, x, hi, (hb.block C hB).trans hh⟩
theorem Cur.setOther {w0 w : World} {ao : Option Addr} {n cap C : Nat} (h : Cur w0 ao n cap C w) (g j : Nat) (u : Value) (hg : C < g) : Cur w0 ao n cap C (w.setCell ⟨g, j, none⟩ u) :=
  h.belowB hg ((Below.refl g w).setCell (p := ⟨g, j, none⟩) (Nat.le_refl _) u)

end Go.Proofs.YtcodmkampihphaaDoor
