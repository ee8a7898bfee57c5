/- Texts joined: ExAid, ExPa. No statement is proved here. -/
import Derived.Test.YtnnakmgngkpghaaGreatRows
import Derived.Test.YtnnakmgngkpghaaGreatScb
import Derived.WalkKit
import Derived.ProofKit
import Derived.OpenShut
import Derived.ShutString
import Derived.ChangeOld
import Derived.Below
import Derived.ChangeSame
import Derived.Test.YtnnakmgngkpghaaGreatPd

/- What the parameters of the exact laws of scans read as. -/
namespace Go.Proofs.YtnnakmgngkpghaaGreat
namespace exScan
open Go.ChangeShapes Go.WideShapes Go.ChangeAt Go.RowKit
set_option linter.unusedVariables false

theorem cells61 : Tryz.prog.cellsOf 71 = 2 := by kernel_rfl
theorem cells3 : Tryz.prog.cellsOf 3 = 1 := by kernel_rfl
theorem cells22 : Tryz.prog.cellsOf 22 = 1 := by kernel_rfl

/-- A cell that reads at a slice of ints. -/
theorem row_of {H : Type} {enc : TypeId × Value → H} {W : World} {n : Nat} {v : Value} {y : DataW H × List MemPlace}
    (h : DataW.trod enc Tryz.prog W 0 (fun _ => true) true n 22 [v] = some y) : ∃ a l c zs, v = .slice a l c ∧ IsRow .i64 W a l c zs := by
  rcases open_ints Tryz.underlying22 Tryz.underlying3 (by kernel_rfl) h with ⟨hcs, _⟩ | ⟨x, l, c, zs, hcs, _, hl, hm, hz, _, hcell, hwz⟩
  · simp at hcs
    exact ⟨none, 0, 0, [], hcs, .inl ⟨rfl, rfl, rfl, rfl⟩⟩
  · simp at hcs
    exact ⟨some x, l, c, zs, hcs, .inr ⟨_, rfl, hl, hm, by simpa using hz, hcell, hwz⟩⟩
/-- A cell that reads at an int. -/
theorem int_of {H : Type} {enc : TypeId × Value → H} {W : World} {n : Nat} {v : Value} {y : DataW H × List MemPlace}
    (h : DataW.trod enc Tryz.prog W 0 (fun _ => true) true n 3 [v] = some y) : ∃ z, v = .int .i64 z ∧ (Lit.int .i64 z).wf = true := by
  obtain ⟨z, hz, _, hw⟩ := DataW.trod_int Tryz.underlying3 h
  simp at hz
  exact ⟨z, hz, hw⟩
theorem list_choose {P : Nat → Int × List Int → Prop} : ∀ n, (∀ i, i < n → ∃ x, P i x) → ∃ L : List (Int × List Int), L.length = n ∧ ∀ i, i < n → P i (nth L i)
  | 0, _ => ⟨[], rfl, fun i hi => by omega⟩
  | n + 1, h => by
    obtain ⟨L, hl, hL⟩ := list_choose n (fun i hi => h i (by omega))
    obtain ⟨x, hx⟩ := h n (by omega)
    refine ⟨L ++ [x], by simp [hl], fun i hi => ?_⟩
    by_cases e : i = n
    · subst e
      have : nth (L ++ [x]) i = x := by simp [nth, List.getD, ← hl]
      rw [this]
      exact hx
    · have : nth (L ++ [x]) i = nth L i := by
        simp only [nth, List.getD]
        rw [List.getElem?_append_left (by omega)]
      rw [this]
      exact hL i (by omega)
set_option maxRecDepth 100000 in
/-- What a slice of blocks reads as. -/
theorem blocks_of {H : Type} {enc : TypeId × Value → H} {W : World} {n : Nat} {a : Option Addr} {l c : Nat} {y : DataW H × List MemPlace}
    (h : DataW.trod enc Tryz.prog W 0 (fun _ => true) true n 27 [.slice a l c] = some y) : ∃ L : List (Int × List Int), L.length = l ∧ l ≤ 9223372036854775807 ∧ (∀ j, j < L.length → (nth L j).2.length ≤ 9223372036854775807) ∧ BRow W a L := by
  rcases DataW.trod_slice Tryz.underlying27 h with ⟨hcs, _⟩ | ⟨ad, len, cap, elems, rest, m, _, hcs, _, _, hl, hm, hlen, hel, _, _⟩
  · simp at hcs
    obtain ⟨rfl, rfl, rfl⟩ := hcs
    exact ⟨[], rfl, by decide, fun j hj => by simp at hj, fun j hj => by simp at hj⟩
  · simp at hcs
    obtain ⟨rfl, rfl, rfl⟩ := hcs
    obtain ⟨b, off, spot⟩ := ad
    have hspot : 0 < l → spot = none := fun h0 => by
      have he := hel 0 h0
      rw [List.getElem?_eq_getElem (by omega)] at he
      obtain ⟨cs, hcs, _⟩ := Option.bind_eq_some_iff.1 he
      rw [cells61] at hcs
      obtain ⟨_, hcl, hcell⟩ := World.cells?_some hcs
      match cs, hcl with
      | [v0, v1], _ =>
        have c0 := hcell 0 (by omega)
        simp only [List.getElem?_cons_zero] at c0
        simpa [Addr.add] using World.cell?_spot c0
    obtain ⟨L, h1, h2⟩ := list_choose (P := fun i x => x.2.length ≤ 9223372036854775807 ∧ ∃ b' off' a' c', (some ⟨b, off, spot⟩ : Option Addr) = some ⟨b', off', none⟩ ∧ W.cell? ⟨b', off' + i * 2, none⟩ = some (.int .i64 x.1) ∧ W.cell? ⟨b', off' + i * 2 + 1, none⟩ = some (.slice a' x.2.length c') ∧ View .i64 W a' x.2.length x.2) l (fun i hi => by
      have he := hel i hi
      rw [List.getElem?_eq_getElem (by omega)] at he
      obtain ⟨cs, hcs, htr⟩ := Option.bind_eq_some_iff.1 he
      rw [cells61] at hcs
      obtain ⟨_, hcl, hcell⟩ := World.cells?_some hcs
      obtain ⟨y0, y1, k, _, _, g0, g1⟩ := trod_struct2 Tryz.underlying71 htr
      match cs, hcl with
      | [v0, v1], _ =>
        have g0' : DataW.trod enc Tryz.prog W 0 (fun _ => true) true k 3 [v0] = some y0 := by simpa [cells3] using g0
        have g1' : DataW.trod enc Tryz.prog W 0 (fun _ => true) true k 22 [v1] = some y1 := by simpa [cells22] using g1
        obtain ⟨z, rfl, _⟩ := int_of g0'
        obtain ⟨a', l', c', zs, rfl, hz⟩ := row_of g1'
        have c0 := hcell 0 (by omega)
        have c1 := hcell 1 (by omega)
        simp only [List.getElem?_cons_zero, List.getElem?_cons_succ] at c0 c1
        have hs0 : spot = none := hspot (by omega)
        subst hs0
        rw [Addr.add_lit, Addr.add_lit] at c0 c1
        have hv := hz.view
        refine ⟨(z, zs.take l'), by show (zs.take l').length ≤ _; rw [hv.1]; exact hz.len.1, b, off, a', c', rfl, c0, ?_, ?_⟩
        · show W.cell? _ = some (.slice a' (zs.take l').length c')
          rw [hv.1]
          exact c1
        · show View .i64 W a' (zs.take l').length (zs.take l')
          rw [hv.1]
          exact hv)
    unfold maxLen at hm
    exact ⟨L, h1, by omega, fun j hj => (h2 j (by omega)).1, fun j hj => (h2 j (by omega)).2⟩

theorem cells26 : Tryz.prog.cellsOf 26 = 4 := by kernel_rfl
theorem cells24 : Tryz.prog.cellsOf 24 = 2 := by kernel_rfl
set_option maxRecDepth 100000 in
/-- Codes, cell by cell. -/
theorem codes_of {H : Type} {enc : TypeId × Value → H} {W : World} {n : Nat} {x0 x1 : Value} {y : DataW H × List MemPlace}
    (h : DataW.trod enc Tryz.prog W 0 (fun _ => true) true n 24 [x0, x1] = some y) : (∃ a l c zs, x0 = .slice a l c ∧ IsRow .i64 W a l c zs) ∧ ∃ a l c zs, x1 = .slice a l c ∧ IsRow .i64 W a l c zs := by
  obtain ⟨y0, y1, k, _, _, g0, g1⟩ := trod_struct2 Tryz.underlying24 h
  have g0' : DataW.trod enc Tryz.prog W 0 (fun _ => true) true k 22 [x0] = some y0 := by simpa [cells22] using g0
  have g1' : DataW.trod enc Tryz.prog W 0 (fun _ => true) true k 22 [x1] = some y1 := by simpa [cells22] using g1
  exact ⟨row_of g0', row_of g1'⟩
set_option maxRecDepth 100000 in
/-- Tables, cell by cell. -/
theorem tables_of {H : Type} {enc : TypeId × Value → H} {W : World} {r : Reach} {b0 : Nat} {v : Value} {d : DataW H} {p : List MemPlace} (hok : Value.okWide Tryz.prog W r b0 26 v)
    (h : DataW.Trod enc Tryz.prog W 0 (fun _ => true) true 26 v d p) : ∃ a0 n0 c0 a1 n1 c1 a2 n2 c2 a3 n3 c3, v = .agg #[.slice a0 n0 c0, .slice a1 n1 c1, .slice a2 n2 c2, .slice a3 n3 c3] ∧ (∃ z, IsRow .i64 W a0 n0 c0 z) ∧ (∃ z, IsRow .i64 W a1 n1 c1 z) ∧ (∃ z, IsRow .i64 W a2 n2 c2 z) ∧ ∃ z, IsRow .i64 W a3 n3 c3 z := by
  obtain ⟨cs, rfl, hsz⟩ := okWide_struct Tryz.underlying26 hok
  rw [cells26] at hsz
  obtain ⟨fuel, hf⟩ := h
  obtain ⟨l⟩ := cs
  match l, hsz with
  | [x0, x1, x2, x3], _ =>
    obtain ⟨y0, y1, k, _, _, g0, g1⟩ := trod_struct2 Tryz.underlying26 hf
    have g0' : DataW.trod enc Tryz.prog W 0 (fun _ => true) true k 24 [x0, x1] = some y0 := by simpa [cells24, Value.cells] using g0
    have g1' : DataW.trod enc Tryz.prog W 0 (fun _ => true) true k 24 [x2, x3] = some y1 := by simpa [cells24, Value.cells] using g1
    obtain ⟨⟨a0, n0, c0, z0, rfl, r0⟩, a1, n1, c1, z1, rfl, r1⟩ := codes_of g0'
    obtain ⟨⟨a2, n2, c2, z2, rfl, r2⟩, a3, n3, c3, z3, rfl, r3⟩ := codes_of g1'
    exact ⟨a0, n0, c0, a1, n1, c1, a2, n2, c2, a3, n3, c3, rfl, ⟨_, r0⟩, ⟨_, r1⟩, ⟨_, r2⟩, _, r3⟩
end exScan
end Go.Proofs.YtnnakmgngkpghaaGreat

/- What a picture that a law is given reads as. -/
namespace Go.Proofs.YtnnakmgngkpghaaGreat
namespace exScan
open Go.ChangeShapes Go.WideShapes Go.ChangeAt Go.RowKit
set_option linter.unusedVariables false

theorem trod_struct5 {H : Type} {enc : TypeId × Value → H} {P : Program} {w : World} {base : Nat} {spare : Nat → Bool} {held : Bool} {t : TypeId} {f0 f1 f2 f3 f4 : Field} {fuel : Nat} {cs : List Value} {x : DataW H × List MemPlace} (ht : P.underlying t = some (.struct #[f0, f1, f2, f3, f4])) (h : DataW.trod enc P w base spare held fuel t cs = some x) :
    ∃ y0 y1 y2 y3 y4 n, DataW.trod enc P w base spare held n f0.type ((cs.drop f0.offset).take (P.cellsOf f0.type)) = some y0 ∧
      DataW.trod enc P w base spare held n f1.type ((cs.drop f1.offset).take (P.cellsOf f1.type)) = some y1 ∧
      DataW.trod enc P w base spare held n f2.type ((cs.drop f2.offset).take (P.cellsOf f2.type)) = some y2 ∧
      DataW.trod enc P w base spare held n f3.type ((cs.drop f3.offset).take (P.cellsOf f3.type)) = some y3 ∧
      DataW.trod enc P w base spare held n f4.type ((cs.drop f4.offset).take (P.cellsOf f4.type)) = some y4 := by
  obtain ⟨xs, n, _, rfl, hl, hlen, hf⟩ := DataW.trod_struct ht h
  match xs, hlen with
  | [y0, y1, y2, y3, y4], _ => exact ⟨y0, y1, y2, y3, y4, n, by simpa using hf 0 f0 rfl, by simpa using hf 1 f1 rfl, by simpa using hf 2 f2 rfl, by simpa using hf 3 f3 rfl, by simpa using hf 4 f4 rfl⟩

theorem slice_of {H : Type} {enc : TypeId × Value → H} {W : World} {n : Nat} {v : Value} {y : DataW H × List MemPlace}
    (h : DataW.trod enc Tryz.prog W 0 (fun _ => true) true n 27 [v] = some y) : ∃ a l c, v = .slice a l c := by
  rcases DataW.trod_slice Tryz.underlying27 h with ⟨hcs, _⟩ | ⟨ad, len, cap, elems, rest, m, _, hcs, _, _, hl, hm, hlen, hel, _, _⟩
  · simp at hcs
    exact ⟨_, _, _, hcs⟩
  · simp at hcs
    exact ⟨_, _, _, hcs⟩
theorem str_of {H : Type} {enc : TypeId × Value → H} {W : World} {n : Nat} {v : Value} {y : DataW H × List MemPlace}
    (h : DataW.trod enc Tryz.prog W 0 (fun _ => true) true n 9 [v] = some y) : ∃ s : ByteArray, v = .string s ∧ s.size ≤ 9223372036854775807 := by
  obtain ⟨s, hs, _, hm⟩ := DataW.trod_string Tryz.underlying9 h
  simp at hs
  unfold maxLen at hm
  exact ⟨s, hs, by omega⟩
theorem cells9 : Tryz.prog.cellsOf 9 = 1 := by kernel_rfl
theorem cells27 : Tryz.prog.cellsOf 27 = 1 := by kernel_rfl
theorem cells29 : Tryz.prog.cellsOf 29 = 8 := by kernel_rfl
set_option maxRecDepth 100000 in
/-- A picture, cell by cell. -/
theorem pic_of {H : Type} {enc : TypeId × Value → H} {W : World} {r : Reach} {b0 : Nat} {v : Value} {d : DataW H} {p : List MemPlace} (hok : Value.okWide Tryz.prog W r b0 29 v)
    (h : DataW.Trod enc Tryz.prog W 0 (fun _ => true) true 29 v d p) : ∃ P : Pk, P.Big ∧ PV W v P := by
  obtain ⟨cs, rfl, hsz⟩ := okWide_struct Tryz.underlying29 hok
  rw [cells29] at hsz
  obtain ⟨fuel, hf⟩ := h
  obtain ⟨l⟩ := cs
  match l, hsz with
  | [x0, x1, x2, x3, x4, x5, x6, x7], _ =>
    obtain ⟨y0, y1, y2, y3, y4, k, g0, g1, g2, g3, g4⟩ := trod_struct5 Tryz.underlying29 hf
    have g0' : DataW.trod enc Tryz.prog W 0 (fun _ => true) true k 3 [x0] = some y0 := by simpa [cells3, Value.cells] using g0
    have g1' : DataW.trod enc Tryz.prog W 0 (fun _ => true) true k 3 [x1] = some y1 := by simpa [cells3, Value.cells] using g1
    have g2' : DataW.trod enc Tryz.prog W 0 (fun _ => true) true k 26 [x2, x3, x4, x5] = some y2 := by simpa [cells26, Value.cells] using g2
    have g3' : DataW.trod enc Tryz.prog W 0 (fun _ => true) true k 9 [x6] = some y3 := by simpa [cells9, Value.cells] using g3
    have g4' : DataW.trod enc Tryz.prog W 0 (fun _ => true) true k 27 [x7] = some y4 := by simpa [cells27, Value.cells] using g4
    obtain ⟨w0, rfl, _⟩ := int_of g0'
    obtain ⟨w1, rfl, _⟩ := int_of g1'
    obtain ⟨u0, u1, k2, _, _, t0, t1⟩ := trod_struct2 Tryz.underlying26 g2'
    have t0' : DataW.trod enc Tryz.prog W 0 (fun _ => true) true k2 24 [x2, x3] = some u0 := by simpa [cells24, Value.cells] using t0
    have t1' : DataW.trod enc Tryz.prog W 0 (fun _ => true) true k2 24 [x4, x5] = some u1 := by simpa [cells24, Value.cells] using t1
    obtain ⟨⟨a0, n0, c0, z0, rfl, r0⟩, a1, n1, c1, z1, rfl, r1⟩ := codes_of t0'
    obtain ⟨⟨a2, n2, c2, z2, rfl, r2⟩, a3, n3, c3, z3, rfl, r3⟩ := codes_of t1'
    obtain ⟨s, rfl, hs⟩ := str_of g3'
    obtain ⟨ao, l, c, rfl⟩ := slice_of g4'
    obtain ⟨L, rfl, hl1, hl2, hrow⟩ := blocks_of g4'
    have m0 := r0.len.1
    have m1 := r1.len.1
    have m2 := r2.len.1
    have m3 := r3.len.1
    obtain ⟨T, ⟨rfl, rfl, rfl, rfl⟩, hT⟩ := rows_tv r0 r1 r2 r3
    exact ⟨⟨w0, w1, T, s, L⟩, ⟨m0, m1, m2, m3, hs, hl1, hl2⟩, a0, c0, a1, c1, a2, c2, a3, c3, ao, c, rfl, hT, hrow⟩
end exScan
end Go.Proofs.YtnnakmgngkpghaaGreat
