/- What the parameters of the exact laws of scans read as. -/
import Derived.Test.YtnnakmgngkpghaaRows
import Derived.Test.YtnnakmgngkpghaaScb
import Derived.WalkKit
import Derived.ProofKit
import Derived.OpenShut
import Derived.ShutString
import Derived.ChangeOld
import Derived.Below
import Derived.ChangeSame
namespace Go.Proofs.Ytnnakmgngkpghaa
namespace exScan
open Go.ChangeShapes Go.WideShapes Go.ChangeAt Go.RowKit
set_option linter.unusedVariables false

theorem cells61 : Try.prog.cellsOf 60 = 2 := by kernel_rfl
theorem cells3 : Try.prog.cellsOf 3 = 1 := by kernel_rfl
theorem cells22 : Try.prog.cellsOf 22 = 1 := by kernel_rfl

/-- A cell that reads at a slice of ints. -/
theorem row_of {H : Type} {enc : TypeId × Value → H} {W : World} {n : Nat} {v : Value} {y : DataW H × List MemPlace}
    (h : DataW.trod enc Try.prog W 0 (fun _ => true) true n 22 [v] = some y) : ∃ a l c zs, v = .slice a l c ∧ IsRow .i64 W a l c zs := by
  rcases open_ints Try.underlying22 Try.underlying3 (by kernel_rfl) h with ⟨hcs, _⟩ | ⟨x, l, c, zs, hcs, _, hl, hm, hz, _, hcell, hwz⟩
  · simp at hcs
    exact ⟨none, 0, 0, [], hcs, .inl ⟨rfl, rfl, rfl, rfl⟩⟩
  · simp at hcs
    exact ⟨some x, l, c, zs, hcs, .inr ⟨_, rfl, hl, hm, by simpa using hz, hcell, hwz⟩⟩
/-- A cell that reads at an int. -/
theorem int_of {H : Type} {enc : TypeId × Value → H} {W : World} {n : Nat} {v : Value} {y : DataW H × List MemPlace}
    (h : DataW.trod enc Try.prog W 0 (fun _ => true) true n 3 [v] = some y) : ∃ z, v = .int .i64 z ∧ (Lit.int .i64 z).wf = true := by
  obtain ⟨z, hz, _, hw⟩ := DataW.trod_int Try.underlying3 h
  simp at hz
  exact ⟨z, hz, hw⟩
theorem list_choose {P : Nat → Int × List Int → Prop} : ∀ n, (∀ i, i < n → ∃ x, P i x) → ∃ L : List (Int × List Int), L.length = n ∧ ∀ i, i < n → P i (nth L i)
  | 0, _ => ⟨[], rfl, fun i hi => by omega⟩
  | n + 1, h => by
    obtain ⟨L, hl, hL⟩ := list_choose n (fun i hi => h i (by omega))
    obtain ⟨x, hx⟩ := h n (by omega)
    refine ⟨L ++ [x], by simp [hl], fun i hi => ?_⟩
    by_cases e : i = n
    · subst e
      have : nth (L ++ [x]) i = x := by simp [nth, List.getD, ← hl]
      rw [this]
      exact hx
    · have : nth (L ++ [x]) i = nth L i := by
        simp only [nth, List.getD]
        rw [List.getElem?_append_left (by omega)]
      rw [this]
      exact hL i (by omega)
set_option maxRecDepth 100000 in
/-- What a slice of blocks reads as. -/
theorem blocks_of {H : Type} {enc : TypeId × Value → H} {W : World} {n : Nat} {a : Option Addr} {l c : Nat} {y : DataW H × List MemPlace}
    (h : DataW.trod enc Try.prog W 0 (fun _ => true) true n 27 [.slice a l c] = some y) : ∃ L : List (Int × List Int), L.length = l ∧ l ≤ 9223372036854775807 ∧ (∀ j, j < L.length → (nth L j).2.length ≤ 9223372036854775807) ∧ BRow W a L := by
  rcases DataW.trod_slice Try.underlying27 h with ⟨hcs, _⟩ | ⟨ad, len, cap, elems, rest, m, _, hcs, _, _, hl, hm, hlen, hel, _, _⟩
  · simp at hcs
    obtain ⟨rfl, rfl, rfl⟩ := hcs
    exact ⟨[], rfl, by decide, fun j hj => by simp at hj, fun j hj => by simp at hj⟩
  · simp at hcs
    obtain ⟨rfl, rfl, rfl⟩ := hcs
    obtain ⟨b, off, spot⟩ := ad
    have hspot : 0 < l → spot = none := fun h0 => by
      have he := hel 0 h0
      rw [List.getElem?_eq_getElem (by omega)] at he
      obtain ⟨cs, hcs, _⟩ := Option.bind_eq_some_iff.1 he
      rw [cells61] at hcs
      obtain ⟨_, hcl, hcell⟩ := World.cells?_some hcs
      match cs, hcl with
      | [v0, v1], _ =>
        have c0 := hcell 0 (by omega)
        simp only [List.getElem?_cons_zero] at c0
        simpa [Addr.add] using World.cell?_spot c0
    obtain ⟨L, h1, h2⟩ := list_choose (P := fun i x => x.2.length ≤ 9223372036854775807 ∧ ∃ b' off' a' c', (some ⟨b, off, spot⟩ : Option Addr) = some ⟨b', off', none⟩ ∧ W.cell? ⟨b', off' + i * 2, none⟩ = some (.int .i64 x.1) ∧ W.cell? ⟨b', off' + i * 2 + 1, none⟩ = some (.slice a' x.2.length c') ∧ View .i64 W a' x.2.length x.2) l (fun i hi => by
      have he := hel i hi
      rw [List.getElem?_eq_getElem (by omega)] at he
      obtain ⟨cs, hcs, htr⟩ := Option.bind_eq_some_iff.1 he
      rw [cells61] at hcs
      obtain ⟨_, hcl, hcell⟩ := World.cells?_some hcs
      obtain ⟨y0, y1, k, _, _, g0, g1⟩ := trod_struct2 Try.underlying60 htr
      match cs, hcl with
      | [v0, v1], _ =>
        have g0' : DataW.trod enc Try.prog W 0 (fun _ => true) true k 3 [v0] = some y0 := by simpa [cells3] using g0
        have g1' : DataW.trod enc Try.prog W 0 (fun _ => true) true k 22 [v1] = some y1 := by simpa [cells22] using g1
        obtain ⟨z, rfl, _⟩ := int_of g0'
        obtain ⟨a', l', c', zs, rfl, hz⟩ := row_of g1'
        have c0 := hcell 0 (by omega)
        have c1 := hcell 1 (by omega)
        simp only [List.getElem?_cons_zero, List.getElem?_cons_succ] at c0 c1
        have hs0 : spot = none := hspot (by omega)
        subst hs0
        rw [Addr.add_lit, Addr.add_lit] at c0 c1
        have hv := hz.view
        refine ⟨(z, zs.take l'), by show (zs.take l').length ≤ _; rw [hv.1]; exact hz.len.1, b, off, a', c', rfl, c0, ?_, ?_⟩
        · show W.cell? _ = some (.slice a' (zs.take l').length c')
          rw [hv.1]
          exact c1
        · show View .i64 W a' (zs.take l').length (zs.take l')
          rw [hv.1]
          exact hv)
    unfold maxLen at hm
    exact ⟨L, h1, by omega, fun j hj => (h2 j (by omega)).1, fun j hj => (h2 j (by omega)).2⟩

theorem cells26 : Try.prog.cellsOf 26 = 4 := by kernel_rfl
theorem cells24 : Try.prog.cellsOf 24 = 2 := by kernel_rfl
set_option maxRecDepth 100000 in
/-- Codes, cell by cell. -/
theorem codes_of {H : Type} {enc : TypeId × Value → H} {W : World} {n : Nat} {x0 x1 : Value} {y : DataW H × List MemPlace}
    (h : DataW.trod enc Try.prog W 0 (fun _ => true) true n 24 [x0, x1] = some y) : (∃ a l c zs, x0 = .slice a l c ∧ IsRow .i64 W a l c zs) ∧ ∃ a l c zs, x1 = .slice a l c ∧ IsRow .i64 W a l c zs := by
  obtain ⟨y0, y1, k, _, _, g0, g1⟩ := trod_struct2 Try.underlying24 h
  have g0' : DataW.trod enc Try.prog W 0 (fun _ => true) true k 22 [x0] = some y0 := by simpa [cells22] using g0
  have g1' : DataW.trod enc Try.prog W 0 (fun _ => true) true k 22 [x1] = some y1 := by simpa [cells22] using g1
  exact ⟨row_of g0', row_of g1'⟩
set_option maxRecDepth 100000 in
/-- Tables, cell by cell. -/
theorem tables_of {H : Type} {enc : TypeId × Value → H} {W : World} {r : Reach} {b0 : Nat} {v : Value} {d : DataW H} {p : List MemPlace} (hok : Value.okWide Try.prog W r b0 26 v)
    (h : DataW.Trod enc Try.prog W 0 (fun _ => true) true 26 v d p) : ∃ a0 n0 c0 a1 n1 c1 a2 n2 c2 a3 n3 c3, v = .agg #[.slice a0 n0 c0, .slice a1 n1 c1, .slice a2 n2 c2, .slice a3 n3 c3] ∧ (∃ z, IsRow .i64 W a0 n0 c0 z) ∧ (∃ z, IsRow .i64 W a1 n1 c1 z) ∧ (∃ z, IsRow .i64 W a2 n2 c2 z) ∧ ∃ z, IsRow .i64 W a3 n3 c3 z := by
  obtain ⟨cs, rfl, hsz⟩ := okWide_struct Try.underlying26 hok
  rw [cells26] at hsz
  obtain ⟨fuel, hf⟩ := h
  obtain ⟨l⟩ := cs
  match l, hsz with
  | [x0, x1, x2, x3], _ =>
    obtain ⟨y0, y1, k, _, _, g0, g1⟩ := trod_struct2 Try.underlying26 hf
    have g0' : DataW.trod enc Try.prog W 0 (fun _ => true) true k 24 [x0, x1] = some y0 := by simpa [cells24, Value.cells] using g0
    have g1' : DataW.trod enc Try.prog W 0 (fun _ => true) true k 24 [x2, x3] = some y1 := by simpa [cells24, Value.cells] using g1
    obtain ⟨⟨a0, n0, c0, z0, rfl, r0⟩, a1, n1, c1, z1, rfl, r1⟩ := codes_of g0'
    obtain ⟨⟨a2, n2, c2, z2, rfl, r2⟩, a3, n3, c3, z3, rfl, r3⟩ := codes_of g1'
    exact ⟨a0, n0, c0, a1, n1, c1, a2, n2, c2, a3, n3, c3, rfl, ⟨_, r0⟩, ⟨_, r1⟩, ⟨_, r2⟩, _, r3⟩
end exScan
end Go.Proofs.Ytnnakmgngkpghaa
