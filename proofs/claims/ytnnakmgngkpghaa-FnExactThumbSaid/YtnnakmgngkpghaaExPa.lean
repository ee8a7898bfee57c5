/- What a picture that a law is given reads as. -/
import Derived.Test.YtnnakmgngkpghaaExAid
import Derived.Test.YtnnakmgngkpghaaPd
namespace Go.Proofs.Ytnnakmgngkpghaa
namespace exScan
open Go.ChangeShapes Go.WideShapes Go.ChangeAt Go.RowKit
set_option linter.unusedVariables false

theorem trod_struct5 {H : Type} {enc : TypeId × Value → H} {P : Program} {w : World} {base : Nat} {spare : Nat → Bool} {held : Bool} {t : TypeId} {f0 f1 f2 f3 f4 : Field} {fuel : Nat} {cs : List Value} {x : DataW H × List MemPlace} (ht : P.underlying t = some (.struct #[f0, f1, f2, f3, f4])) (h : DataW.trod enc P w base spare held fuel t cs = some x) :
    ∃ y0 y1 y2 y3 y4 n, DataW.trod enc P w base spare held n f0.type ((cs.drop f0.offset).take (P.cellsOf f0.type)) = some y0 ∧
      DataW.trod enc P w base spare held n f1.type ((cs.drop f1.offset).take (P.cellsOf f1.type)) = some y1 ∧
      DataW.trod enc P w base spare held n f2.type ((cs.drop f2.offset).take (P.cellsOf f2.type)) = some y2 ∧
      DataW.trod enc P w base spare held n f3.type ((cs.drop f3.offset).take (P.cellsOf f3.type)) = some y3 ∧
      DataW.trod enc P w base spare held n f4.type ((cs.drop f4.offset).take (P.cellsOf f4.type)) = some y4 := by
  obtain ⟨xs, n, _, rfl, hl, hlen, hf⟩ := DataW.trod_struct ht h
  match xs, hlen with
  | [y0, y1, y2, y3, y4], _ => exact ⟨y0, y1, y2, y3, y4, n, by simpa using hf 0 f0 rfl, by simpa using hf 1 f1 rfl, by simpa using hf 2 f2 rfl, by simpa using hf 3 f3 rfl, by simpa using hf 4 f4 rfl⟩

theorem slice_of {H : Type} {enc : TypeId × Value → H} {W : World} {n : Nat} {v : Value} {y : DataW H × List MemPlace}
    (h : DataW.trod enc Try.prog W 0 (fun _ => true) true n 27 [v] = some y) : ∃ a l c, v = .slice a l c := by
  rcases DataW.trod_slice Try.underlying27 h with ⟨hcs, _⟩ | ⟨ad, len, cap, elems, rest, m, _, hcs, _, _, hl, hm, hlen, hel, _, _⟩
  · simp at hcs
    exact ⟨_, _, _, hcs⟩
  · simp at hcs
    exact ⟨_, _, _, hcs⟩
theorem str_of {H : Type} {enc : TypeId × Value → H} {W : World} {n : Nat} {v : Value} {y : DataW H × List MemPlace}
    (h : DataW.trod enc Try.prog W 0 (fun _ => true) true n 9 [v] = some y) : ∃ s : ByteArray, v = .string s ∧ s.size ≤ 9223372036854775807 := by
  obtain ⟨s, hs, _, hm⟩ := DataW.trod_string Try.underlying9 h
  simp at hs
  unfold maxLen at hm
  exact ⟨s, hs, by omega⟩
theorem cells9 : Try.prog.cellsOf 9 = 1 := by kernel_rfl
theorem cells27 : Try.prog.cellsOf 27 = 1 := by kernel_rfl
theorem cells29 : Try.prog.cellsOf 29 = 8 := by kernel_rfl
set_option maxRecDepth 100000 in
/-- A picture, cell by cell. -/
theorem pic_of {H : Type} {enc : TypeId × Value → H} {W : World} {r : Reach} {b0 : Nat} {v : Value} {d : DataW H} {p : List MemPlace} (hok : Value.okWide Try.prog W r b0 29 v)
    (h : DataW.Trod enc Try.prog W 0 (fun _ => true) true 29 v d p) : ∃ P : Pk, P.Big ∧ PV W v P := by
  obtain ⟨cs, rfl, hsz⟩ := okWide_struct Try.underlying29 hok
  rw [cells29] at hsz
  obtain ⟨fuel, hf⟩ := h
  obtain ⟨l⟩ := cs
  match l, hsz with
  | [x0, x1, x2, x3, x4, x5, x6, x7], _ =>
    obtain ⟨y0, y1, y2, y3, y4, k, g0, g1, g2, g3, g4⟩ := trod_struct5 Try.underlying29 hf
    have g0' : DataW.trod enc Try.prog W 0 (fun _ => true) true k 3 [x0] = some y0 := by simpa [cells3, Value.cells] using g0
    have g1' : DataW.trod enc Try.prog W 0 (fun _ => true) true k 3 [x1] = some y1 := by simpa [cells3, Value.cells] using g1
    have g2' : DataW.trod enc Try.prog W 0 (fun _ => true) true k 26 [x2, x3, x4, x5] = some y2 := by simpa [cells26, Value.cells] using g2
    have g3' : DataW.trod enc Try.prog W 0 (fun _ => true) true k 9 [x6] = some y3 := by simpa [cells9, Value.cells] using g3
    have g4' : DataW.trod enc Try.prog W 0 (fun _ => true) true k 27 [x7] = some y4 := by simpa [cells27, Value.cells] using g4
    obtain ⟨w0, rfl, _⟩ := int_of g0'
    obtain ⟨w1, rfl, _⟩ := int_of g1'
    obtain ⟨u0, u1, k2, _, _, t0, t1⟩ := trod_struct2 Try.underlying26 g2'
    have t0' : DataW.trod enc Try.prog W 0 (fun _ => true) true k2 24 [x2, x3] = some u0 := by simpa [cells24, Value.cells] using t0
    have t1' : DataW.trod enc Try.prog W 0 (fun _ => true) true k2 24 [x4, x5] = some u1 := by simpa [cells24, Value.cells] using t1
    obtain ⟨⟨a0, n0, c0, z0, rfl, r0⟩, a1, n1, c1, z1, rfl, r1⟩ := codes_of t0'
    obtain ⟨⟨a2, n2, c2, z2, rfl, r2⟩, a3, n3, c3, z3, rfl, r3⟩ := codes_of t1'
    obtain ⟨s, rfl, hs⟩ := str_of g3'
    obtain ⟨ao, l, c, rfl⟩ := slice_of g4'
    obtain ⟨L, rfl, hl1, hl2, hrow⟩ := blocks_of g4'
    have m0 := r0.len.1
    have m1 := r1.len.1
    have m2 := r2.len.1
    have m3 := r3.len.1
    obtain ⟨T, ⟨rfl, rfl, rfl, rfl⟩, hT⟩ := rows_tv r0 r1 r2 r3
    exact ⟨⟨w0, w1, T, s, L⟩, ⟨m0, m1, m2, m3, hs, hl1, hl2⟩, a0, c0, a1, c1, a2, c2, a3, c3, ao, c, rfl, hT, hrow⟩
end exScan
end Go.Proofs.Ytnnakmgngkpghaa
