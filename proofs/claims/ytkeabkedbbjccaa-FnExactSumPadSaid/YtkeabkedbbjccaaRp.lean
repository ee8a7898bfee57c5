/- strings.Repeat of the text of one byte 0: the library's contract, laid at this program; the plain form of a padded text. -/
import Derived.Test.YtkeabkedbbjccaaPw
import Derived.Shelf.Strings.Repeat
import Derived.Lib.Agree
namespace Go.Proofs.Ytkeabkedbbjccaa
open Go.RowKit Go.Shelf
set_option linter.unusedVariables false

def Try.laysRepeat_ren : Go.Shelf.Ren := { f := fun x => match x with | 105 => 18 | 212 => 22 | 99 => 23 | 165 => 24 | 166 => 25 | 170 => 26 | 169 => 27 | 263 => 28 | 264 => 29 | 206 => 30 | 240 => 31 | 241 => 32 | 276 => 33 | 277 => 34 | n => n, t := fun x => match x with | 9 => 9 | 3 => 3 | 4 => 4 | 20 => 20 | 0 => 0 | 46 => 31 | 109 => 39 | 5 => 5 | 72 => 44 | 76 => 48 | 51 => 28 | 146 => 52 | 53 => 35 | 148 => 54 | 70 => 42 | 37 => 33 | 75 => 47 | 127 => 56 | 164 => 57 | 80 => 51 | n => n, g := fun n => n }
theorem Try.laysRepeat : Lays.n105 Try.prog Try.laysRepeat_ren := {
  mixed := by kernel_rfl
  f99 := Try.func23.trans (by kernel_rfl)
  f105 := Try.func18.trans (by kernel_rfl)
  f165 := Try.func24.trans (by kernel_rfl)
  f166 := Try.func25.trans (by kernel_rfl)
  f169 := Try.func27.trans (by kernel_rfl)
  f170 := Try.func26.trans (by kernel_rfl)
  f206 := Try.func30.trans (by kernel_rfl)
  f212 := Try.func22.trans (by kernel_rfl)
  f240 := Try.func31.trans (by kernel_rfl)
  f241 := Try.func32.trans (by kernel_rfl)
  f263 := Try.func28.trans (by kernel_rfl)
  f264 := Try.func29.trans (by kernel_rfl)
  f276 := Try.func33.trans (by kernel_rfl)
  f277 := Try.func34.trans (by kernel_rfl)
  t0 := Try.underlying0
  a0 := Try.isAgg0
  z0 := Try.sizeOf0
  v0 := Try.zeroValue0
  t3 := Try.underlying3
  a3 := Try.isAgg3
  z3 := Try.sizeOf3
  v3 := Try.zeroValue3
  t4 := Try.underlying4
  a4 := Try.isAgg4
  z4 := Try.sizeOf4
  v4 := Try.zeroValue4
  t5 := Try.underlying5
  a5 := Try.isAgg5
  z5 := Try.sizeOf5
  v5 := Try.zeroValue5
  t9 := Try.underlying9
  a9 := Try.isAgg9
  z9 := Try.sizeOf9
  v9 := Try.zeroValue9
  t20 := Try.underlying20
  a20 := Try.isAgg20
  z20 := Try.sizeOf20
  v20 := Try.zeroValue20
  t37 := Try.underlying33
  a37 := Try.isAgg33
  z37 := Try.sizeOf33
  v37 := Try.zeroValue33
  t46 := Try.underlying31
  a46 := Try.isAgg31
  z46 := Try.sizeOf31
  v46 := Try.zeroValue31
  t51 := Try.underlying28
  a51 := Try.isAgg28
  z51 := Try.sizeOf28
  v51 := Try.zeroValue28
  t53 := Try.underlying35
  a53 := Try.isAgg35
  z53 := Try.sizeOf35
  v53 := Try.zeroValue35
  t70 := Try.underlying42
  a70 := Try.isAgg42
  z70 := Try.sizeOf42
  v70 := Try.zeroValue42
  t72 := Try.underlying44
  a72 := Try.isAgg44
  z72 := Try.sizeOf44
  v72 := Try.zeroValue44
  t75 := Try.underlying47
  a75 := Try.isAgg47
  z75 := Try.sizeOf47
  v75 := Try.zeroValue47
  t76 := Try.underlying48
  a76 := Try.isAgg48
  z76 := Try.sizeOf48
  v76 := Try.zeroValue48
  t109 := Try.underlying39
  a109 := Try.isAgg39
  z109 := Try.sizeOf39
  v109 := Try.zeroValue39
  t127 := Try.underlying56
  a127 := Try.isAgg56
  z127 := Try.sizeOf56
  v127 := Try.zeroValue56
  t146 := Try.underlying52
  a146 := Try.isAgg52
  z146 := Try.sizeOf52
  v146 := Try.zeroValue52
  t148 := Try.underlying54
  a148 := Try.isAgg54
  z148 := Try.sizeOf54
  v148 := Try.zeroValue54
  t164 := Try.underlying57
  a164 := Try.isAgg57
  z164 := Try.sizeOf57
  v164 := Try.zeroValue57 }

theorem Try.extraRepeat : Builder.Extra Try.prog Try.laysRepeat_ren := {
  sizeBuilder := by kernel_rfl
  liesBuilder := by kernel_rfl
  t5 := Try.laysRepeat.t5
  a5 := Try.laysRepeat.a5
  z5 := Try.laysRepeat.z5
  v5 := Try.laysRepeat.v5
  infoByte := by kernel_rfl
  cellsByte := by kernel_rfl
  sizeByte := by kernel_rfl
  neB5 := by decide }

theorem rep_zeros : ∀ c : Nat, (Lib.repeatL [0] c) = (List.replicate c (0 : Int)).map fun n => UInt8.ofNat n.toNat
  | 0 => rfl
  | c + 1 => by
    rw [Lib.repeatL, rep_zeros c]
    rfl
theorem repeat_any (c : Nat) (w : World) (hc : c ≤ 64) :
    Calls Try.prog 18 #[.string ⟨#[0]⟩, .int .i64 c] w fun e w' => e = .returned (.string (strOfNums (List.replicate c 0))) ∧ Below w.heap.size w w' := by
  have h := Any.strings_Repeat Try.laysRepeat Try.extraRepeat ⟨#[0]⟩ c w (by omega) (by show 1 * c ≤ _; omega)
  refine h.mono fun e w' ⟨he, hb⟩ => ⟨?_, hb⟩
  rw [he]
  refine congrArg (fun x => Ending.returned (.string x)) ?_
  apply ByteArray.ext
  show (Lib.repeatL [0] c).toArray = _
  rw [rep_zeros]
  rfl
/-- How many zeros a text of n bytes is padded with; the padded text. -/
def padZ (n : Nat) : Nat := (64 - (n + 9) % 64) % 64
def padP (s : ByteArray) : ByteArray := s ++ strOfNums [128] ++ strOfNums (List.replicate (padZ s.size) 0) ++ strOfNums (wordBytes 0) ++ strOfNums (wordBytes (8 * s.size))
/-- What SumPad tells. -/
def padR (s : ByteArray) : ByteArray := if s.size ≤ 60000 then padP s else ⟨#[]⟩
theorem padP_size (s : ByteArray) : (padP s).size = s.size + 9 + padZ s.size := by
  unfold padP
  simp only [ByteArray.size_append, strOfNums_size, List.length_replicate, wordBytes, List.length_cons, List.length_nil]
  omega
theorem padP_mod (s : ByteArray) : (padP s).size % 64 = 0 := by
  rw [padP_size]
  unfold padZ
  omega
end Go.Proofs.Ytkeabkedbbjccaa
