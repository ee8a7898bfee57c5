/- Disks as values: what is read of one, and one that is the call's own. No statement is proved here. -/
import Derived.Test.YtphhgfgmlfdkiaaRows
import Derived.Test.YtphhgfgmlfdkiaaGr
import Derived.Deep.QuietTactic
import Derived.BigQuiet
namespace Go.Proofs.Ytphhgfgmlfdkiaa
open Go.RowKit
set_option linter.unusedVariables false

theorem Try.info3 : (Try.prog.info? 3).map (fun i => (i.zero, i.size, i.bytes)) = some (some (.int .i64 0), 1, 8) := by kernel_rfl
theorem Try.info5 : (Try.prog.info? 5).map (fun i => (i.zero, i.size, i.bytes)) = some (some (.int .u8 0), 1, 1) := by kernel_rfl
theorem Try.info9 : (Try.prog.info? 9).map (fun i => (i.zero, i.size, i.bytes)) = some (some (.string ByteArray.empty), 1, 16) := by kernel_rfl
theorem Try.info69 : (Try.prog.info? 69).map (fun i => (i.zero, i.size, i.bytes)) = some (some (.agg #[.int .i64 0, .string ByteArray.empty]), 2, 24) := by kernel_rfl

/-- Block b holds the cells l. -/
def Blk (w : World) (b : Nat) (l : List Value) (t : TypeId) : Prop := w.heap[b]? = some (.cells l.toArray t (0, 0))
theorem Blk.lt {w : World} {b : Nat} {l : List Value} {t : TypeId} (h : Blk w b l t) : b < w.heap.size := (Array.getElem?_eq_some_iff.1 h).1
theorem Blk.cell {w : World} {b : Nat} {l : List Value} {t : TypeId} (h : Blk w b l t) {i : Nat} {v : Value} (hv : l[i]? = some v) : w.cell? ⟨b, i, none⟩ = some v := by
  unfold Blk at h
  unfold World.cell?
  rw [h]
  simpa using hv
theorem Blk.free {w : World} {b : Nat} {l : List Value} {t : TypeId} (h : Blk w b l t) (i : Nat) : w.frozen? ⟨b, i, none⟩ = false := frozen_of_row w b i _ t h
theorem Blk.set {w : World} {b : Nat} {l : List Value} {t : TypeId} (h : Blk w b l t) (i : Nat) (v : Value) : Blk (w.setCell ⟨b, i, none⟩ v) b (l.set i v) t := by
  have := heap_setCell_same w b i _ t v h
  simpa [Blk] using this
theorem Blk.below {w w' : World} {B b : Nat} {l : List Value} {t : TypeId} (h : Blk w b l t) (hb : Below B w w') (hB : b < B) : Blk w' b l t := (hb.block b hB).trans h
theorem Blk.other {w : World} {b : Nat} {l : List Value} {t : TypeId} (h : Blk w b l t) {a : Addr} (ha : b ≠ a.block) (v : Value) : Blk (w.setCell a v) b l t := (heap_setCell_other w a b v ha).trans h
theorem Blk.new (w : World) (l : List Value) (t : TypeId) : Blk (w.alloc (.cells l.toArray t)) w.heap.size l t := heap_alloc_new w _
theorem Blk.alloc {w : World} {b : Nat} {l : List Value} {t : TypeId} (h : Blk w b l t) (o : Obj) : Blk (w.alloc o) b l t := h.below ((Below.refl _ _).alloc (Nat.le_refl _) _) h.lt
theorem Blk.kept {w w' : World} {b : Nat} {l : List Value} {t : TypeId} {row : Option Nat} (h : Blk w b l t) (hg : w.grownBy w' row) (hne : some b ≠ row) : Blk w' b l t := (hg.block b h.lt hne).trans h
theorem new_two (w : World) (l m : List Value) (t u : TypeId) : Blk ((w.alloc (.cells l.toArray t)).alloc (.cells m.toArray u)) w.heap.size l t ∧ Blk ((w.alloc (.cells l.toArray t)).alloc (.cells m.toArray u)) (w.heap.size + 1) m u ∧ Below w.heap.size w ((w.alloc (.cells l.toArray t)).alloc (.cells m.toArray u)) := by
  refine ⟨(Blk.new w l t).alloc _, ?_, ((Below.refl w.heap.size w).alloc (Nat.le_refl _) _).alloc (by simp) _⟩
  have := Blk.new (w.alloc (.cells l.toArray t)) m u
  rw [show (w.alloc (.cells l.toArray t)).heap.size = w.heap.size + 1 by simp] at this
  exact this
theorem new_three (w : World) (l m o : List Value) (t u s : TypeId) : Blk (((w.alloc (.cells l.toArray t)).alloc (.cells m.toArray u)).alloc (.cells o.toArray s)) w.heap.size l t ∧ Blk (((w.alloc (.cells l.toArray t)).alloc (.cells m.toArray u)).alloc (.cells o.toArray s)) (w.heap.size + 1) m u ∧ Blk (((w.alloc (.cells l.toArray t)).alloc (.cells m.toArray u)).alloc (.cells o.toArray s)) (w.heap.size + 1 + 1) o s ∧ Below w.heap.size w (((w.alloc (.cells l.toArray t)).alloc (.cells m.toArray u)).alloc (.cells o.toArray s)) := by
  obtain ⟨h1, h2, h3⟩ := new_two w l m t u
  refine ⟨h1.alloc _, h2.alloc _, ?_, h3.alloc (by simp; omega) _⟩
  have := Blk.new ((w.alloc (.cells l.toArray t)).alloc (.cells m.toArray u)) o s
  rw [show ((w.alloc (.cells l.toArray t)).alloc (.cells m.toArray u)).heap.size = w.heap.size + 1 + 1 by simp] at this
  exact this

/-- A disk that is read. -/
def DV (w : World) (v : Value) (S : List ByteArray) (L : List (Int × ByteArray)) : Prop :=
  ∃ a c a' c', v = .agg #[.slice a S.length c, .slice a' L.length c'] ∧ Rw w a (encS S) ∧ Rw w a' (encW L)
theorem DV.below {w w' : World} {B : Nat} {v : Value} {S : List ByteArray} {L : List (Int × ByteArray)} (h : DV w v S L) (hB : w.heap.size ≤ B) (hb : Below B w w') : DV w' v S L := by
  obtain ⟨a, c, a', c', e, h1, h2⟩ := h
  exact ⟨a, c, a', c', e, h1.below hB hb, h2.below hB hb⟩
/-- One whose slices are nil or have an address. -/
def DP (w : World) (v : Value) (S : List ByteArray) (L : List (Int × ByteArray)) : Prop :=
  ∃ a c a' c', v = .agg #[.slice a S.length c, .slice a' L.length c'] ∧ Rw w a (encS S) ∧ Rw w a' (encW L) ∧ Pc a S.length c ∧ Pc a' L.length c'
theorem DP.below {w w' : World} {B : Nat} {v : Value} {S : List ByteArray} {L : List (Int × ByteArray)} (h : DP w v S L) (hB : w.heap.size ≤ B) (hb : Below B w w') : DP w' v S L := by
  obtain ⟨a, c, a', c', e, h1, h2, h3⟩ := h
  exact ⟨a, c, a', c', e, h1.below hB hb, h2.below hB hb, h3⟩
theorem DP.dv {w : World} {v : Value} {S : List ByteArray} {L : List (Int × ByteArray)} (h : DP w v S L) : DV w v S L := by
  obtain ⟨a, c, a', c', e, h1, h2, _⟩ := h
  exact ⟨a, c, a', c', e, h1, h2⟩
/-- A disk that is the call's own. -/
def DO (w : World) (base : Nat) (v : Value) (S : List ByteArray) (L : List (Int × ByteArray)) : Prop :=
  ∃ va vb, v = .agg #[va, vb] ∧ OwG w base 9 1 va S.length (encS S) ∧ OwG w base 69 2 vb L.length (encW L)
theorem DO.dp {w : World} {base : Nat} {v : Value} {S : List ByteArray} {L : List (Int × ByteArray)} (h : DO w base v S L) : DP w v S L := by
  obtain ⟨va, vb, rfl, h1, h2⟩ := h
  obtain ⟨a, c, rfl, p1, _⟩ := h1.shape
  obtain ⟨a', c', rfl, p2, _⟩ := h2.shape
  exact ⟨a, c, a', c', rfl, h1.rw, h2.rw, p1, p2⟩
theorem DO.below {w w' : World} {base : Nat} {v : Value} {S : List ByteArray} {L : List (Int × ByteArray)} (h : DO w base v S L) (hb : Below w.heap.size w w') : DO w' base v S L := by
  obtain ⟨va, vb, e, h1, h2⟩ := h
  exact ⟨va, vb, e, h1.below hb, h2.below hb⟩
theorem DO.mono {w : World} {base base' : Nat} {v : Value} {S : List ByteArray} {L : List (Int × ByteArray)} (h : DO w base v S L) (hb : base' ≤ base) : DO w base' v S L := by
  obtain ⟨va, vb, e, h1, h2⟩ := h
  exact ⟨va, vb, e, h1.mono hb, h2.mono hb⟩

/-- One cell of a row of texts, two cells of a row of writes. -/
theorem Rw.atS {w : World} {ao : Option Addr} {S : List ByteArray} (h : Rw w ao (encS S)) (j : Nat) (hj : j < S.length) : ∃ b off, ao = some ⟨b, off, none⟩ ∧ w.cell? ⟨b, off + j, none⟩ = some (.string (sAt S j)) := h j _ (encS_at S j hj)
theorem Rw.atW {w : World} {ao : Option Addr} {L : List (Int × ByteArray)} (h : Rw w ao (encW L)) (j : Nat) (hj : j < L.length) : ∃ b off, ao = some ⟨b, off, none⟩ ∧ w.cell? ⟨b, off + j * 2, none⟩ = some (.int .i64 (lAt L j).1) ∧ w.cell? ⟨b, off + j * 2 + 1, none⟩ = some (.string (lAt L j).2) := by
  obtain ⟨h1, h2⟩ := encW_at L j hj
  obtain ⟨b, off, rfl, c1⟩ := h _ _ h1
  obtain ⟨b', off', e, c2⟩ := h _ _ h2
  cases e
  exact ⟨b, off, rfl, c1, c2⟩
end Go.Proofs.Ytphhgfgmlfdkiaa
