/- strings.Repeat of the text of one byte 0: the library's contract, laid at this program; the plain form of a padded text. -/
import Derived.Test.YtojeggellccojaaDoorPw
import Derived.Shelf.Strings.Repeat
import Derived.Shelf.Lay
import Derived.Ground.NamesProg
import Derived.Lib.Agree
namespace Go.Proofs.YtojeggellccojaaDoor
open Go.RowKit Go.Shelf
set_option linter.unusedVariables false

shelf_lay Lays.n105 Nm 105 at Tryd as Tryd.laysRepeat

theorem Tryd.extraRepeat : Builder.Extra Tryd.prog Tryd.laysRepeat_ren where
  sizeBuilder := by kernel_rfl
  liesBuilder := by kernel_rfl
  t5 := Tryd.laysRepeat.t5
  a5 := Tryd.laysRepeat.a5
  z5 := Tryd.laysRepeat.z5
  v5 := Tryd.laysRepeat.v5
  infoByte := by kernel_rfl
  cellsByte := by kernel_rfl
  sizeByte := by kernel_rfl
  neB5 := by decide

theorem rep_zeros : ∀ c : Nat, (Lib.repeatL [0] c) = (List.replicate c (0 : Int)).map fun n => UInt8.ofNat n.toNat
  | 0 => rfl
  | c + 1 => by
    rw [Lib.repeatL, rep_zeros c]
    rfl
theorem repeat_any (c : Nat) (w : World) (hc : c ≤ 64) :
    Calls Tryd.prog 27 #[.string ⟨#[0]⟩, .int .i64 c] w fun e w' => e = .returned (.string (strOfNums (List.replicate c 0))) ∧ Below w.heap.size w w' := by
  have h := Any.strings_Repeat Tryd.laysRepeat Tryd.extraRepeat ⟨#[0]⟩ c w (by omega) (by show 1 * c ≤ _; omega)
  refine h.mono fun e w' ⟨he, hb⟩ => ⟨?_, hb⟩
  rw [he]
  refine congrArg (fun x => Ending.returned (.string x)) ?_
  apply ByteArray.ext
  show (Lib.repeatL [0] c).toArray = _
  rw [rep_zeros]
  rfl
/-- How many zeros a text of n bytes is padded with; the padded text. -/
def padZ (n : Nat) : Nat := (64 - (n + 9) % 64) % 64
def padP (s : ByteArray) : ByteArray := s ++ strOfNums [128] ++ strOfNums (List.replicate (padZ s.size) 0) ++ strOfNums (wordBytes 0) ++ strOfNums (wordBytes (8 * s.size))
/-- What SumPad tells. -/
def padR (s : ByteArray) : ByteArray := if s.size ≤ 60000 then padP s else ⟨#[]⟩
theorem padP_size (s : ByteArray) : (padP s).size = s.size + 9 + padZ s.size := by
  unfold padP
  simp only [ByteArray.size_append, strOfNums_size, List.length_replicate, wordBytes, List.length_cons, List.length_nil]
  omega
theorem padP_mod (s : ByteArray) : (padP s).size % 64 = 0 := by
  rw [padP_size]
  unfold padZ
  omega
end Go.Proofs.YtojeggellccojaaDoor
