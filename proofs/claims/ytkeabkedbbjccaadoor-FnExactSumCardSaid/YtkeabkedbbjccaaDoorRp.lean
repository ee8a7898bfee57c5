/- strings.Repeat of the text of one byte 0: the library's contract, laid at this program; the plain form of a padded text. -/
import Derived.Test.YtkeabkedbbjccaaDoorPw
import Derived.Shelf.Strings.Repeat
import Derived.Lib.Agree
namespace Go.Proofs.YtkeabkedbbjccaaDoor
open Go.RowKit Go.Shelf
set_option linter.unusedVariables false

def Tryd.laysRepeat_ren : Go.Shelf.Ren := { f := fun x => match x with | 105 => 27 | 212 => 41 | 99 => 42 | 165 => 43 | 166 => 44 | 170 => 45 | 169 => 46 | 263 => 53 | 264 => 54 | 206 => 55 | 240 => 56 | 241 => 57 | 276 => 58 | 277 => 59 | n => n, t := fun x => match x with | 9 => 9 | 3 => 3 | 4 => 4 | 20 => 20 | 0 => 0 | 46 => 45 | 109 => 57 | 5 => 5 | 72 => 62 | 76 => 66 | 51 => 26 | 146 => 73 | 53 => 43 | 148 => 75 | 70 => 60 | 37 => 22 | 75 => 65 | 127 => 77 | 164 => 78 | 80 => 69 | n => n, g := fun n => n }
theorem Tryd.laysRepeat : Lays.n105 Tryd.prog Tryd.laysRepeat_ren := {
  mixed := by kernel_rfl
  f99 := Tryd.func42.trans (by kernel_rfl)
  f105 := Tryd.func27.trans (by kernel_rfl)
  f165 := Tryd.func43.trans (by kernel_rfl)
  f166 := Tryd.func44.trans (by kernel_rfl)
  f169 := Tryd.func46.trans (by kernel_rfl)
  f170 := Tryd.func45.trans (by kernel_rfl)
  f206 := Tryd.func55.trans (by kernel_rfl)
  f212 := Tryd.func41.trans (by kernel_rfl)
  f240 := Tryd.func56.trans (by kernel_rfl)
  f241 := Tryd.func57.trans (by kernel_rfl)
  f263 := Tryd.func53.trans (by kernel_rfl)
  f264 := Tryd.func54.trans (by kernel_rfl)
  f276 := Tryd.func58.trans (by kernel_rfl)
  f277 := Tryd.func59.trans (by kernel_rfl)
  t0 := Tryd.underlying0
  a0 := Tryd.isAgg0
  z0 := Tryd.sizeOf0
  v0 := Tryd.zeroValue0
  t3 := Tryd.underlying3
  a3 := Tryd.isAgg3
  z3 := Tryd.sizeOf3
  v3 := Tryd.zeroValue3
  t4 := Tryd.underlying4
  a4 := Tryd.isAgg4
  z4 := Tryd.sizeOf4
  v4 := Tryd.zeroValue4
  t5 := Tryd.underlying5
  a5 := Tryd.isAgg5
  z5 := Tryd.sizeOf5
  v5 := Tryd.zeroValue5
  t9 := Tryd.underlying9
  a9 := Tryd.isAgg9
  z9 := Tryd.sizeOf9
  v9 := Tryd.zeroValue9
  t20 := Tryd.underlying20
  a20 := Tryd.isAgg20
  z20 := Tryd.sizeOf20
  v20 := Tryd.zeroValue20
  t37 := Tryd.underlying22
  a37 := Tryd.isAgg22
  z37 := Tryd.sizeOf22
  v37 := Tryd.zeroValue22
  t46 := Tryd.underlying45
  a46 := Tryd.isAgg45
  z46 := Tryd.sizeOf45
  v46 := Tryd.zeroValue45
  t51 := Tryd.underlying26
  a51 := Tryd.isAgg26
  z51 := Tryd.sizeOf26
  v51 := Tryd.zeroValue26
  t53 := Tryd.underlying43
  a53 := Tryd.isAgg43
  z53 := Tryd.sizeOf43
  v53 := Tryd.zeroValue43
  t70 := Tryd.underlying60
  a70 := Tryd.isAgg60
  z70 := Tryd.sizeOf60
  v70 := Tryd.zeroValue60
  t72 := Tryd.underlying62
  a72 := Tryd.isAgg62
  z72 := Tryd.sizeOf62
  v72 := Tryd.zeroValue62
  t75 := Tryd.underlying65
  a75 := Tryd.isAgg65
  z75 := Tryd.sizeOf65
  v75 := Tryd.zeroValue65
  t76 := Tryd.underlying66
  a76 := Tryd.isAgg66
  z76 := Tryd.sizeOf66
  v76 := Tryd.zeroValue66
  t109 := Tryd.underlying57
  a109 := Tryd.isAgg57
  z109 := Tryd.sizeOf57
  v109 := Tryd.zeroValue57
  t127 := Tryd.underlying77
  a127 := Tryd.isAgg77
  z127 := Tryd.sizeOf77
  v127 := Tryd.zeroValue77
  t146 := Tryd.underlying73
  a146 := Tryd.isAgg73
  z146 := Tryd.sizeOf73
  v146 := Tryd.zeroValue73
  t148 := Tryd.underlying75
  a148 := Tryd.isAgg75
  z148 := Tryd.sizeOf75
  v148 := Tryd.zeroValue75
  t164 := Tryd.underlying78
  a164 := Tryd.isAgg78
  z164 := Tryd.sizeOf78
  v164 := Tryd.zeroValue78 }

theorem Tryd.extraRepeat : Builder.Extra Tryd.prog Tryd.laysRepeat_ren := {
  sizeBuilder := by kernel_rfl
  liesBuilder := by kernel_rfl
  t5 := Tryd.laysRepeat.t5
  a5 := Tryd.laysRepeat.a5
  z5 := Tryd.laysRepeat.z5
  v5 := Tryd.laysRepeat.v5
  infoByte := by kernel_rfl
  cellsByte := by kernel_rfl
  sizeByte := by kernel_rfl
  neB5 := by decide }

theorem rep_zeros : ∀ c : Nat, (Lib.repeatL [0] c) = (List.replicate c (0 : Int)).map fun n => UInt8.ofNat n.toNat
  | 0 => rfl
  | c + 1 => by
    rw [Lib.repeatL, rep_zeros c]
    rfl
theorem repeat_any (c : Nat) (w : World) (hc : c ≤ 64) :
    Calls Tryd.prog 27 #[.string ⟨#[0]⟩, .int .i64 c] w fun e w' => e = .returned (.string (strOfNums (List.replicate c 0))) ∧ Below w.heap.size w w' := by
  have h := Any.strings_Repeat Tryd.laysRepeat Tryd.extraRepeat ⟨#[0]⟩ c w (by omega) (by show 1 * c ≤ _; omega)
  refine h.mono fun e w' ⟨he, hb⟩ => ⟨?_, hb⟩
  rw [he]
  refine congrArg (fun x => Ending.returned (.string x)) ?_
  apply ByteArray.ext
  show (Lib.repeatL [0] c).toArray = _
  rw [rep_zeros]
  rfl
/-- How many zeros a text of n bytes is padded with; the padded text. -/
def padZ (n : Nat) : Nat := (64 - (n + 9) % 64) % 64
def padP (s : ByteArray) : ByteArray := s ++ strOfNums [128] ++ strOfNums (List.replicate (padZ s.size) 0) ++ strOfNums (wordBytes 0) ++ strOfNums (wordBytes (8 * s.size))
/-- What SumPad tells. -/
def padR (s : ByteArray) : ByteArray := if s.size ≤ 60000 then padP s else ⟨#[]⟩
theorem padP_size (s : ByteArray) : (padP s).size = s.size + 9 + padZ s.size := by
  unfold padP
  simp only [ByteArray.size_append, strOfNums_size, List.length_replicate, wordBytes, List.length_cons, List.length_nil]
  omega
theorem padP_mod (s : ByteArray) : (padP s).size % 64 = 0 := by
  rw [padP_size]
  unfold padZ
  omega
end Go.Proofs.YtkeabkedbbjccaaDoor
