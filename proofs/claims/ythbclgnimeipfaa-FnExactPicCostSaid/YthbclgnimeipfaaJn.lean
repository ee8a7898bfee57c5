/- strings.Join over texts with nothing between them: the library's contract, laid at this program. -/
import Derived.Test.YthbclgnimeipfaaInts
import Derived.Shelf.Lay
import Derived.Shelf.Strings.OnBuilder
import Derived.Ground.NamesProg
namespace Go.Proofs.Ythbclgnimeipfaa
open Go.RowKit Go.Shelf
set_option linter.unusedVariables false

shelf_lay Lays.n156 Nm 156 at Try as Try.lays156

theorem Try.Builder_Extra_156 : Builder.Extra Try.prog Try.lays156_ren where
  sizeBuilder := by kernel_rfl
  liesBuilder := by kernel_rfl
  t5 := Try.underlying5
  a5 := Try.isAgg5
  z5 := Try.sizeOf5
  v5 := Try.zeroValue5
  infoByte := by kernel_rfl
  cellsByte := by kernel_rfl
  sizeByte := by kernel_rfl
  neB5 := by decide

/-- Texts, one behind the other. -/
def catS : List ByteArray → ByteArray
  | [] => ⟨#[]⟩
  | x :: xs => x ++ catS xs
theorem catS_data : ∀ xs : List ByteArray, (catS xs).data.toList = (xs.map (·.data.toList)).flatten
  | [] => rfl
  | x :: xs => by simp [catS, catS_data xs, ByteArray.data_append]
theorem join_nil_sep : ∀ xs : List (List UInt8), Lib.join xs [] = xs.flatten
  | [] => rfl
  | x :: xs => by
    rw [Lib.join_cons]
    simp [Lib.joinTail]
theorem join_cat (xs : List ByteArray) : (⟨(Lib.join (xs.map (·.data.toList)) []).toArray⟩ : ByteArray) = catS xs := by
  apply ByteArray.ext
  rw [join_nil_sep, ← catS_data]
theorem catS_size : ∀ xs : List ByteArray, (catS xs).size = (xs.map (·.size)).sum
  | [] => rfl
  | x :: xs => by simp [catS, catS_size xs, ByteArray.size_append]
theorem join_any (bk c : Nat) (xs : List ByteArray) (w : World) (hcells : ∀ (j : Nat) x, xs[j]? = some x → w.cell? ⟨bk, 0 + j, none⟩ = some (.string x)) (hbk : bk < w.heap.size) (hN : xs.length ≤ 1000) (hcap : xs.length ≤ c) (hlen : (catS xs).size ≤ 140737488355328) :
    Calls Try.prog 59 #[.slice (some ⟨bk, 0, none⟩) xs.length c, .string ⟨#[]⟩] w fun e w' => e = .returned (.string (catS xs)) ∧ Below w.heap.size w w' := by
  have hl : (Lib.join (xs.map (·.data.toList)) (⟨#[]⟩ : ByteArray).data.toList).length ≤ 140737488355328 := by
    show (Lib.join (xs.map (·.data.toList)) []).length ≤ _
    rw [join_nil_sep, ← catS_data]
    exact hlen
  have h := Any.strings_Join Try.lays156 Try.Builder_Extra_156 bk 0 c xs ⟨#[]⟩ w hcells hbk (by omega) hcap hl
  refine h.mono fun e w' ⟨he, hb⟩ => ⟨?_, hb⟩
  rw [he]
  exact congrArg (fun x => Ending.returned (.string x)) (join_cat xs)
end Go.Proofs.Ythbclgnimeipfaa
