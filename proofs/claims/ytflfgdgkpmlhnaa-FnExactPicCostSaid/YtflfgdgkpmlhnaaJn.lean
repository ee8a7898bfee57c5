/- strings.Join over texts with nothing between them: the library's contract, laid at this program. -/
import Derived.Test.YtflfgdgkpmlhnaaInts
import Derived.Shelf.Strings.OnBuilder
namespace Go.Proofs.Ytflfgdgkpmlhnaa
open Go.RowKit Go.Shelf
set_option linter.unusedVariables false

def Try.lays156_ren : Go.Shelf.Ren := { f := fun x => match x with | 156 => 59 | 165 => 72 | 166 => 73 | 169 => 74 | 240 => 83 | 241 => 84 | 276 => 95 | 277 => 96 | n => n, t := fun x => match x with | 31 => 84 | 9 => 9 | 3 => 3 | 4 => 4 | 0 => 0 | 20 => 20 | 72 => 97 | 76 => 101 | 70 => 95 | 37 => 62 | 75 => 100 | 127 => 121 | 164 => 129 | 5 => 5 | 80 => 103 | n => n, g := fun n => n }
theorem Try.lays156 : Lays.n156 Try.prog Try.lays156_ren := {
  mixed := by kernel_rfl
  f156 := Try.func59.trans (by kernel_rfl)
  f165 := Try.func72.trans (by kernel_rfl)
  f166 := Try.func73.trans (by kernel_rfl)
  f169 := Try.func74.trans (by kernel_rfl)
  f240 := Try.func83.trans (by kernel_rfl)
  f241 := Try.func84.trans (by kernel_rfl)
  f276 := Try.func95.trans (by kernel_rfl)
  f277 := Try.func96.trans (by kernel_rfl)
  t0 := Try.underlying0
  a0 := Try.isAgg0
  z0 := Try.sizeOf0
  v0 := Try.zeroValue0
  t3 := Try.underlying3
  a3 := Try.isAgg3
  z3 := Try.sizeOf3
  v3 := Try.zeroValue3
  t4 := Try.underlying4
  a4 := Try.isAgg4
  z4 := Try.sizeOf4
  v4 := Try.zeroValue4
  t9 := Try.underlying9
  a9 := Try.isAgg9
  z9 := Try.sizeOf9
  v9 := Try.zeroValue9
  t20 := Try.underlying20
  a20 := Try.isAgg20
  z20 := Try.sizeOf20
  v20 := Try.zeroValue20
  t31 := Try.underlying84
  a31 := Try.isAgg84
  z31 := Try.sizeOf84
  v31 := Try.zeroValue84
  t37 := Try.underlying62
  a37 := Try.isAgg62
  z37 := Try.sizeOf62
  v37 := Try.zeroValue62
  t70 := Try.underlying95
  a70 := Try.isAgg95
  z70 := Try.sizeOf95
  v70 := Try.zeroValue95
  t72 := Try.underlying97
  a72 := Try.isAgg97
  z72 := Try.sizeOf97
  v72 := Try.zeroValue97
  t75 := Try.underlying100
  a75 := Try.isAgg100
  z75 := Try.sizeOf100
  v75 := Try.zeroValue100
  t76 := Try.underlying101
  a76 := Try.isAgg101
  z76 := Try.sizeOf101
  v76 := Try.zeroValue101
  t127 := Try.underlying121
  a127 := Try.isAgg121
  z127 := Try.sizeOf121
  v127 := Try.zeroValue121
  t164 := Try.underlying129
  a164 := Try.isAgg129
  z164 := Try.sizeOf129
  v164 := Try.zeroValue129 }

theorem Try.Builder_Extra_156 : Builder.Extra Try.prog Try.lays156_ren := {
  sizeBuilder := by kernel_rfl
  liesBuilder := by kernel_rfl
  t5 := Try.underlying5
  a5 := Try.isAgg5
  z5 := Try.sizeOf5
  v5 := Try.zeroValue5
  infoByte := by kernel_rfl
  cellsByte := by kernel_rfl
  sizeByte := by kernel_rfl
  neB5 := by decide }

/-- Texts, one behind the other. -/
def catS : List ByteArray → ByteArray
  | [] => ⟨#[]⟩
  | x :: xs => x ++ catS xs
theorem catS_data : ∀ xs : List ByteArray, (catS xs).data.toList = (xs.map (·.data.toList)).flatten
  | [] => rfl
  | x :: xs => by simp [catS, catS_data xs, ByteArray.data_append]
theorem join_nil_sep : ∀ xs : List (List UInt8), Lib.join xs [] = xs.flatten
  | [] => rfl
  | x :: xs => by
    rw [Lib.join_cons]
    simp [Lib.joinTail]
theorem join_cat (xs : List ByteArray) : (⟨(Lib.join (xs.map (·.data.toList)) []).toArray⟩ : ByteArray) = catS xs := by
  apply ByteArray.ext
  rw [join_nil_sep, ← catS_data]
theorem catS_size : ∀ xs : List ByteArray, (catS xs).size = (xs.map (·.size)).sum
  | [] => rfl
  | x :: xs => by simp [catS, catS_size xs, ByteArray.size_append]
theorem join_any (bk c : Nat) (xs : List ByteArray) (w : World) (hcells : ∀ (j : Nat) x, xs[j]? = some x → w.cell? ⟨bk, 0 + j, none⟩ = some (.string x)) (hbk : bk < w.heap.size) (hN : xs.length ≤ 1000) (hcap : xs.length ≤ c) (hlen : (catS xs).size ≤ 140737488355328) :
    Calls Try.prog 59 #[.slice (some ⟨bk, 0, none⟩) xs.length c, .string ⟨#[]⟩] w fun e w' => e = .returned (.string (catS xs)) ∧ Below w.heap.size w w' := by
  have hl : (Lib.join (xs.map (·.data.toList)) (⟨#[]⟩ : ByteArray).data.toList).length ≤ 140737488355328 := by
    show (Lib.join (xs.map (·.data.toList)) []).length ≤ _
    rw [join_nil_sep, ← catS_data]
    exact hlen
  have h := Any.strings_Join Try.lays156 Try.Builder_Extra_156 bk 0 c xs ⟨#[]⟩ w hcells hbk (by omega) hcap hl
  refine h.mono fun e w' ⟨he, hb⟩ => ⟨?_, hb⟩
  rw [he]
  exact congrArg (fun x => Ending.returned (.string x)) (join_cat xs)
end Go.Proofs.Ytflfgdgkpmlhnaa
