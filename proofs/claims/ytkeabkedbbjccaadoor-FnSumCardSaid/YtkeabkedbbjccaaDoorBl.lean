/- Rows of cells by their blocks. -/
import Derived.Test.YtkeabkedbbjccaaDoorRows
import Derived.Test.YtkeabkedbbjccaaDoorView
namespace Go.Proofs.YtkeabkedbbjccaaDoor
open Go.RowKit
set_option linter.unusedVariables false

/-- A row of cells, by its block. -/
def Blk (w : World) (b : Nat) (l : List Value) (t : TypeId) : Prop := w.heap[b]? = some (.cells l.toArray t (0, 0))
theorem Blk.lt {w : World} {b : Nat} {l : List Value} {t : TypeId} (h : Blk w b l t) : b < w.heap.size := (Array.getElem?_eq_some_iff.1 h).1
theorem Blk.cell {w : World} {b : Nat} {l : List Value} {t : TypeId} (h : Blk w b l t) {i : Nat} {v : Value} (hv : l[i]? = some v) : w.cell? ⟨b, i, none⟩ = some v := by
  rw [cell_of_row w b i _ t (0, 0) h]
  simpa using hv
theorem Blk.free {w : World} {b : Nat} {l : List Value} {t : TypeId} (h : Blk w b l t) (i : Nat) : w.frozen? ⟨b, i, none⟩ = false := frozen_of_row w b i _ t h
theorem Blk.set {w : World} {b : Nat} {l : List Value} {t : TypeId} (h : Blk w b l t) (i : Nat) (v : Value) : Blk (w.setCell ⟨b, i, none⟩ v) b (l.set i v) t := by
  have := heap_setCell_same w b i _ t v h
  unfold Blk
  rw [this]
  simp
theorem Blk.below {w w' : World} {B b : Nat} {l : List Value} {t : TypeId} (h : Blk w b l t) (hb : Below B w w') (hB : b < B) : Blk w' b l t := (hb.block b hB).trans h
theorem Blk.other {w : World} {b : Nat} {l : List Value} {t : TypeId} (h : Blk w b l t) {a : Addr} (ha : b ≠ a.block) (v : Value) : Blk (w.setCell a v) b l t := (heap_setCell_other w a b v ha).trans h
theorem Blk.new (w : World) (l : List Value) (t : TypeId) : Blk (w.alloc (.cells l.toArray t)) w.heap.size l t := heap_alloc_new w _
/-- Of what was there only block b may have turned. -/
def Ef (b : Nat) (w w' : World) : Prop := w.grownBy w' (some b)
theorem Ef.trans {C : Nat} {a b c : World} (h : Ef C a b) (k : Ef C b c) : Ef C a c :=
  ⟨k.os.trans h.os, k.tape.trans h.tape, k.output.trans h.output, Nat.le_trans h.size k.size, fun g hg hne => (k.block g (Nat.lt_of_lt_of_le hg h.size) hne).trans (h.block g hg hne)⟩
theorem Ef.ofBelow {C : Nat} {a w : World} (hb : Below a.heap.size a w) : Ef C a w := ⟨hb.os, hb.tape, hb.output, hb.size, fun k hk _ => hb.block k hk⟩
theorem Ef.refl (C : Nat) (w : World) : Ef C w w := World.grownBy.refl w _
theorem Ef.set {C : Nat} (w : World) (j : Nat) (u : Value) : Ef C w (w.setCell ⟨C, j, none⟩ u) :=
  ⟨rfl, rfl, rfl, by simp, fun k _ hk => heap_setCell_other w ⟨C, j, none⟩ k u (fun e => hk (by rw [e]))⟩
theorem Ef.drewN {C : Nat} {a w : World} (h : Ef C a w) (n : Nat) : Ef C a (w.drewN n) := ⟨h.os, h.tape, h.output, h.size, h.block⟩
theorem Ef.below {C B : Nat} {w w' : World} (h : Ef C w w') (hC : B ≤ C) (hs : B ≤ w.heap.size) : Below B w w' := ⟨h.os, h.tape, h.output, h.size, fun k hk => h.block k (by omega) (fun e => by have := Option.some.inj e; omega)⟩
theorem Blk.ef {w w' : World} {C b : Nat} {l : List Value} {t : TypeId} (h : Blk w b l t) (he : Ef C w w') (hne : b ≠ C) : Blk w' b l t := (he.block b h.lt (fun e => hne (Option.some.inj e))).trans h

end Go.Proofs.YtkeabkedbbjccaaDoor
