/- What a coder and a reader that a law is given read as. -/
import Derived.Test.YtimafabbepgifaaSp
import Derived.ProofKit
import Derived.OpenShut
import Derived.ShutString
import Derived.ChangeOld
import Derived.Deep.Strs
namespace Go.Proofs.Ytimafabbepgifaa
open Go.ChangeShapes Go.WideShapes Go.ChangeAt Go.RowKit Go.Deep
set_option linter.unusedVariables false

theorem u32_of {H : Type} {enc : TypeId × Value → H} {W : World} {n : Nat} {v : Value} {y : DataW H × List MemPlace}
    (h : DataW.trod enc Try.prog W 0 (fun _ => true) true n 30 [v] = some y) : ∃ z, v = .int .u32 z ∧ W32 z := by
  obtain ⟨z, hz, _, hw⟩ := DataW.trod_int Try.underlying30 h
  simp at hz
  obtain ⟨h0, h1⟩ := bounds_u32 hw
  exact ⟨z, hz, h0, by omega⟩
theorem i64_of {H : Type} {enc : TypeId × Value → H} {W : World} {n : Nat} {v : Value} {y : DataW H × List MemPlace}
    (h : DataW.trod enc Try.prog W 0 (fun _ => true) true n 3 [v] = some y) : ∃ z, v = .int .i64 z ∧ -9223372036854775808 ≤ z ∧ z ≤ 9223372036854775807 := by
  obtain ⟨z, hz, _, hw⟩ := DataW.trod_int Try.underlying3 h
  simp at hz
  exact ⟨z, hz, bounds_i64 hw⟩
theorem str_of {H : Type} {enc : TypeId × Value → H} {W : World} {n : Nat} {v : Value} {y : DataW H × List MemPlace}
    (h : DataW.trod enc Try.prog W 0 (fun _ => true) true n 9 [v] = some y) : ∃ s : ByteArray, v = .string s ∧ s.size ≤ 9223372036854775807 := by
  obtain ⟨s, hs, _, hm⟩ := DataW.trod_string Try.underlying9 h
  simp at hs
  unfold maxLen at hm
  exact ⟨s, hs, by omega⟩
theorem trod_struct5 {H : Type} {enc : TypeId × Value → H} {P : Program} {w : World} {base : Nat} {spare : Nat → Bool} {held : Bool} {t : TypeId} {f0 f1 f2 f3 f4 : Field} {fuel : Nat} {cs : List Value} {x : DataW H × List MemPlace} (ht : P.underlying t = some (.struct #[f0, f1, f2, f3, f4])) (h : DataW.trod enc P w base spare held fuel t cs = some x) :
    ∃ y0 y1 y2 y3 y4 n, DataW.trod enc P w base spare held n f0.type ((cs.drop f0.offset).take (P.cellsOf f0.type)) = some y0 ∧
      DataW.trod enc P w base spare held n f1.type ((cs.drop f1.offset).take (P.cellsOf f1.type)) = some y1 ∧
      DataW.trod enc P w base spare held n f2.type ((cs.drop f2.offset).take (P.cellsOf f2.type)) = some y2 ∧
      DataW.trod enc P w base spare held n f3.type ((cs.drop f3.offset).take (P.cellsOf f3.type)) = some y3 ∧
      DataW.trod enc P w base spare held n f4.type ((cs.drop f4.offset).take (P.cellsOf f4.type)) = some y4 := by
  obtain ⟨xs, n, _, rfl, hl, hlen, hf⟩ := DataW.trod_struct ht h
  match xs, hlen with
  | [y0, y1, y2, y3, y4], _ => exact ⟨y0, y1, y2, y3, y4, n, by simpa using hf 0 f0 rfl, by simpa using hf 1 f1 rfl, by simpa using hf 2 f2 rfl, by simpa using hf 3 f3 rfl, by simpa using hf 4 f4 rfl⟩
theorem trod_struct3' {H : Type} {enc : TypeId × Value → H} {P : Program} {w : World} {base : Nat} {spare : Nat → Bool} {held : Bool} {t : TypeId} {f0 f1 f2 : Field} {fuel : Nat} {cs : List Value} {x : DataW H × List MemPlace} (ht : P.underlying t = some (.struct #[f0, f1, f2])) (h : DataW.trod enc P w base spare held fuel t cs = some x) :
    ∃ y0 y1 y2 n, DataW.trod enc P w base spare held n f0.type ((cs.drop f0.offset).take (P.cellsOf f0.type)) = some y0 ∧
      DataW.trod enc P w base spare held n f1.type ((cs.drop f1.offset).take (P.cellsOf f1.type)) = some y1 ∧
      DataW.trod enc P w base spare held n f2.type ((cs.drop f2.offset).take (P.cellsOf f2.type)) = some y2 := by
  obtain ⟨xs, n, _, rfl, hl, hlen, hf⟩ := DataW.trod_struct ht h
  match xs, hlen with
  | [y0, y1, y2], _ => exact ⟨y0, y1, y2, n, by simpa using hf 0 f0 rfl, by simpa using hf 1 f1 rfl, by simpa using hf 2 f2 rfl⟩
theorem cells3 : Try.prog.cellsOf 3 = 1 := by kernel_rfl
theorem cells9 : Try.prog.cellsOf 9 = 1 := by kernel_rfl
theorem cells33 : Try.prog.cellsOf 30 = 1 := by kernel_rfl
theorem cells40 : Try.prog.cellsOf 44 = 3 := by kernel_rfl
theorem cells46 : Try.prog.cellsOf 54 = 5 := by kernel_rfl
set_option maxRecDepth 100000 in
/-- A coder, cell by cell. -/
theorem coder_of {H : Type} {enc : TypeId × Value → H} {W : World} {r : Reach} {b0 : Nat} {v : Value} {d : DataW H} {p : List MemPlace} (hok : Value.okWide Try.prog W r b0 44 v)
    (h : DataW.Trod enc Try.prog W 0 (fun _ => true) true 44 v d p) : ∃ lo hi s, v = cV lo hi s ∧ W32 lo ∧ W32 hi ∧ s.size ≤ 9223372036854775807 := by
  obtain ⟨cs, rfl, hsz⟩ := okWide_struct Try.underlying44 hok
  rw [cells40] at hsz
  obtain ⟨fuel, hf⟩ := h
  obtain ⟨l⟩ := cs
  match l, hsz with
  | [x0, x1, x2], _ =>
    obtain ⟨y0, y1, y2, k, g0, g1, g2⟩ := trod_struct3' Try.underlying44 hf
    have g0' : DataW.trod enc Try.prog W 0 (fun _ => true) true k 30 [x0] = some y0 := by simpa [cells33, Value.cells] using g0
    have g1' : DataW.trod enc Try.prog W 0 (fun _ => true) true k 30 [x1] = some y1 := by simpa [cells33, Value.cells] using g1
    have g2' : DataW.trod enc Try.prog W 0 (fun _ => true) true k 9 [x2] = some y2 := by simpa [cells9, Value.cells] using g2
    obtain ⟨a, rfl, ha⟩ := u32_of g0'
    obtain ⟨b, rfl, hb⟩ := u32_of g1'
    obtain ⟨s, rfl, hs⟩ := str_of g2'
    exact ⟨a, b, s, rfl, ha, hb, hs⟩
/-- A reader as a value. -/
def rV (lo hi co : Int) (s : ByteArray) (i : Int) : Value := .agg #[.int .u32 lo, .int .u32 hi, .int .u32 co, .string s, .int .i64 i]
set_option maxRecDepth 100000 in
/-- A reader, cell by cell. -/
theorem reader_of {H : Type} {enc : TypeId × Value → H} {W : World} {r : Reach} {b0 : Nat} {v : Value} {d : DataW H} {p : List MemPlace} (hok : Value.okWide Try.prog W r b0 54 v)
    (h : DataW.Trod enc Try.prog W 0 (fun _ => true) true 54 v d p) : ∃ lo hi co s i, v = rV lo hi co s i ∧ W32 lo ∧ W32 hi ∧ W32 co ∧ s.size ≤ 9223372036854775807 ∧ (-9223372036854775808 ≤ i ∧ i ≤ 9223372036854775807) := by
  obtain ⟨cs, rfl, hsz⟩ := okWide_struct Try.underlying54 hok
  rw [cells46] at hsz
  obtain ⟨fuel, hf⟩ := h
  obtain ⟨l⟩ := cs
  match l, hsz with
  | [x0, x1, x2, x3, x4], _ =>
    obtain ⟨y0, y1, y2, y3, y4, k, g0, g1, g2, g3, g4⟩ := trod_struct5 Try.underlying54 hf
    have g0' : DataW.trod enc Try.prog W 0 (fun _ => true) true k 30 [x0] = some y0 := by simpa [cells33, Value.cells] using g0
    have g1' : DataW.trod enc Try.prog W 0 (fun _ => true) true k 30 [x1] = some y1 := by simpa [cells33, Value.cells] using g1
    have g2' : DataW.trod enc Try.prog W 0 (fun _ => true) true k 30 [x2] = some y2 := by simpa [cells33, Value.cells] using g2
    have g3' : DataW.trod enc Try.prog W 0 (fun _ => true) true k 9 [x3] = some y3 := by simpa [cells9, Value.cells] using g3
    have g4' : DataW.trod enc Try.prog W 0 (fun _ => true) true k 3 [x4] = some y4 := by simpa [cells3, Value.cells] using g4
    obtain ⟨a, rfl, ha⟩ := u32_of g0'
    obtain ⟨b, rfl, hb⟩ := u32_of g1'
    obtain ⟨c, rfl, hc⟩ := u32_of g2'
    obtain ⟨s, rfl, hs⟩ := str_of g3'
    obtain ⟨i, rfl, hi⟩ := i64_of g4'
    exact ⟨a, b, c, s, i, rfl, ha, hb, hc, hs, hi⟩
end Go.Proofs.Ytimafabbepgifaa
