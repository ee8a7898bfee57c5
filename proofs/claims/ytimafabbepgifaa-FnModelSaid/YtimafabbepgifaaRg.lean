/- The contract of the program's ReaderGet. -/
import Derived.Test.YtimafabbepgifaaRd
import Derived.Test.YtimafabbepgifaaFw
namespace Go.Proofs.Ytimafabbepgifaa
open Go.RowKit
set_option linter.unusedVariables false

/-- May the reader go on? -/
def okGet (lo hi i p : Int) : Bool := decide ((1 ≤ p ∧ p ≤ 4095) ∧ lo ≤ hi ∧ 0 ≤ i ∧ i ≤ 60008)
/-- What ReaderGet answers. -/
def rRes (lo hi co : Int) (s : ByteArray) (i p : Int) : Value :=
  if okGet lo hi i p = true then .tuple #[rV (rP lo hi co p).2.1 (rP lo hi co p).2.2 (rC co s i (rP lo hi co p).1.length) s (i + (rP lo hi co p).1.length), .int .i64 (rBit lo hi co p)] else .tuple #[rV lo hi co s i, .int .i64 (-1)]

/-- Two new rows, the later one behind the elder. -/
theorem new2 (w : World) (l m : List Value) (t u : TypeId) : Blk ((w.alloc (.cells l.toArray t)).alloc (.cells m.toArray u)) w.heap.size l t ∧ Blk ((w.alloc (.cells l.toArray t)).alloc (.cells m.toArray u)) (w.heap.size + 1) m u ∧ Below w.heap.size w ((w.alloc (.cells l.toArray t)).alloc (.cells m.toArray u)) := by
  refine ⟨(Blk.new w l t).below ((Below.refl (w.alloc (.cells l.toArray t)).heap.size (w.alloc (.cells l.toArray t))).alloc (Nat.le_refl _) (.cells m.toArray u)) (by simp), ?_, ((Below.refl w.heap.size w).alloc (Nat.le_refl _) _).alloc (by simp) _⟩
  have := Blk.new (w.alloc (.cells l.toArray t)) m u
  rw [show (w.alloc (.cells l.toArray t)).heap.size = w.heap.size + 1 by simp] at this
  exact this

theorem new5 (w : World) (a b c d e a' b' c' d' e' : Value) : Blk ((w.alloc (.cells #[a, b, c, d, e] 38)).alloc (.cells #[a', b', c', d', e'] 38)) w.heap.size [a, b, c, d, e] 38 ∧ Blk ((w.alloc (.cells #[a, b, c, d, e] 38)).alloc (.cells #[a', b', c', d', e'] 38)) (w.heap.size + 1) [a', b', c', d', e'] 38 ∧ Below w.heap.size w ((w.alloc (.cells #[a, b, c, d, e] 38)).alloc (.cells #[a', b', c', d', e'] 38)) :=
  new2 w [a, b, c, d, e] [a', b', c', d', e'] 38 38

/-- What the program's get answers, and where the reader then is: the state of five. -/
def gR (lo hi co : Int) (s : ByteArray) (i p : Int) : Int × Int × Int × Int × Int :=
  if lo ≤ hi ∧ 0 ≤ i ∧ i ≤ 60008 then (rBit lo hi co p, (rP lo hi co p).2.1, (rP lo hi co p).2.2, rC co s i (rP lo hi co p).1.length, i + (rP lo hi co p).1.length) else (-1, lo, hi, co, i)
theorem get_any (r : List Value) (t : TypeId) (b : Nat) (lo hi co p : Int) (s : ByteArray) (i : Int) (w : World) (hl : W32 lo) (hh : W32 hi) (hc : W32 co) (hB : Blk w b (rCs lo hi co s i r) t) :
    Calls Try.prog 70 #[.pointer (some ⟨b, 0, none⟩), .int .i64 p] w fun e w' => e = .returned (.int .i64 (gR lo hi co s i p).1) ∧ Blk w' b (rCs (gR lo hi co s i p).2.1 (gR lo hi co s i p).2.2.1 (gR lo hi co s i p).2.2.2.1 s (gR lo hi co s i p).2.2.2.2 r) t ∧ Ef b w w' := by
  unfold gR
  by_cases h : lo ≤ hi ∧ 0 ≤ i ∧ i ≤ 60008
  · rw [if_pos h]
    obtain ⟨k, rfl⟩ := Int.eq_ofNat_of_zero_le h.2.1
    have := get_yes r t b lo hi co p s k w hl hh hc h.1 (by omega) hB
    rw [show ((k + (rP lo hi co p).1.length : Nat) : Int) = (k : Int) + ((rP lo hi co p).1.length : Int) by simp] at this
    exact this
  · rw [if_neg h]
    exact get_no r t b lo hi co p s i w hl hh h hB

end Go.Proofs.Ytimafabbepgifaa
