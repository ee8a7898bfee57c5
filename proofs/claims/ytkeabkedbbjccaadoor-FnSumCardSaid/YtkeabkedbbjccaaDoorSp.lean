/- The plain form of a sum: the blocks of the padded text, one after the other. -/
import Derived.Test.YtkeabkedbbjccaaDoorBb
import Derived.Test.YtkeabkedbbjccaaDoorRp
namespace Go.Proofs.YtkeabkedbbjccaaDoor
open Go.RowKit
set_option linter.unusedVariables false

/-- The first k words that a sum starts with, the others 0. -/
def stTo : Nat → List Int
  | 0 => [0, 0, 0, 0, 0, 0, 0, 0]
  | k + 1 => (stTo k).set k (sc k)
theorem stTo_len : ∀ k, (stTo k).length = 8
  | 0 => rfl
  | k + 1 => by rw [stTo, List.length_set, stTo_len k]
theorem stTo_8 : stTo 8 = st0 := by decide +kernel
theorem st0_8 : St8 st0 := ⟨rfl, fun x hx => by
  have : ∀ x ∈ st0, 0 ≤ x ∧ x < 4294967296 := by decide +kernel
  exact this x hx⟩
theorem sc_word (k : Nat) (h : k < 8) : W32 (sc k) := by
  rw [sc_nat k h]
  exact st0_bd ⟨k, h⟩
/-- The k-th block of a text; the state behind the first k blocks; the first k words of a state as a text. -/
def blk (p : ByteArray) (k : Nat) : ByteArray := p.extract (64 * k) (64 * k + 64)
def blocks (p : ByteArray) : Nat → List Int
  | 0 => st0
  | k + 1 => blockR (blocks p k) (blk p k)
theorem blocks_8 (p : ByteArray) : ∀ k, St8 (blocks p k)
  | 0 => st0_8
  | k + 1 => (blocks_8 p k).block _
def outTo (L : List Int) : Nat → ByteArray
  | 0 => ⟨#[]⟩
  | k + 1 => outTo L k ++ strOfNums (wordBytes (L.getD k 0))
theorem outTo_size (L : List Int) : ∀ k, (outTo L k).size = 4 * k
  | 0 => rfl
  | k + 1 => by
    rw [outTo, ByteArray.size_append, outTo_size L k, strOfNums_size]
    show 4 * k + 4 = _
    omega
def sumP (s : ByteArray) : ByteArray := outTo (blocks (padP s) ((padP s).size / 64)) 8
def sumR (s : ByteArray) : ByteArray := if s.size ≤ 60000 then sumP s else ⟨#[]⟩
theorem blk_size (p : ByteArray) (k : Nat) (h : 64 * k + 64 ≤ p.size) : (blk p k).size = 64 := by
  unfold blk
  rw [ByteArray.size_extract]
  omega
theorem rest_size (p : ByteArray) (k : Nat) : (p.extract (64 * k) p.size).size = p.size - 64 * k := by
  rw [ByteArray.size_extract]
  omega
theorem rest_head (p : ByteArray) (k : Nat) (h : 64 * k + 64 ≤ p.size) : (p.extract (64 * k) p.size).extract 0 64 = blk p k := by
  unfold blk
  rw [ByteArray.extract_extract]
  congr 1
  omega
theorem rest_tail (p : ByteArray) (k : Nat) (h : 64 * k + 64 ≤ p.size) : (p.extract (64 * k) p.size).extract 64 (p.extract (64 * k) p.size).size = p.extract (64 * (k + 1)) p.size := by
  rw [ByteArray.extract_extract, rest_size]
  congr 1
  omega
theorem some_bytes {t : ByteArray} (h : 0 < t.size) : t.toList.isEmpty = false := by
  rw [ByteArray.toList_eq]
  cases h2 : t.data.toList with
  | nil =>
    have h3 : t.data.size = 0 := by simpa using congrArg List.length h2
    have h4 : t.size = t.data.size := rfl
    omega
  | cons a l => rfl
theorem no_bytes {t : ByteArray} (h : t.size = 0) : t.toList.isEmpty = true := by
  rw [ByteArray.toList_eq]
  have h4 : t.size = t.data.size := rfl
  have h3 : t.data.toList.length = 0 := by rw [Array.length_toList]; omega
  rw [List.length_eq_zero_iff.1 h3]
  rfl
def strLen' : Value → Nat
  | .string s => s.size
  | _ => 0
end Go.Proofs.YtkeabkedbbjccaaDoor
