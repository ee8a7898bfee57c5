/- Proved: at every int and every slice of steps the law FnExactFromSteps of the program answers true (FromSteps answers as the specification's FromSteps, writes into no argument, and its answer owns its memory), without a condition. -/
import Derived.Test.YtdlookcklkdonabRows
import Derived.Test.YtdlookcklkdonabFsLaw
import Derived.WalkKit
import Derived.ProofKit
import Derived.OpenShut
import Derived.ShutString
import Derived.ChangeOld
import Derived.Below
import Derived.Deep.Strs
namespace Go.Proofs.Ytdlookcklkdonab
namespace fnExactFromStepsProof
open Go.ChangeShapes Go.WideShapes Go.ChangeAt Go.RowKit
set_option linter.unusedVariables false

theorem own : ownKnob Try.prog.godebug = none := by kernel_rfl
theorem laidOutHere : laidOutB Try.prog = true := by kernel_rfl
theorem cells70 : Try.prog.cellsOf 70 = 3 := by kernel_rfl
theorem cells3 : Try.prog.cellsOf 3 = 1 := by kernel_rfl
theorem cells24 : Try.prog.cellsOf 24 = 1 := by kernel_rfl

/-- A cell that reads at a slice of ints. -/
theorem row_of {H : Type} {enc : TypeId × Value → H} {W : World} {n : Nat} {v : Value} {y : DataW H × List MemPlace}
    (h : DataW.trod enc Try.prog W 0 (fun _ => true) true n 24 [v] = some y) : ∃ a l c zs, v = .slice a l c ∧ IsRow .i64 W a l c zs := by
  rcases open_ints Try.underlying24 Try.underlying3 (by kernel_rfl) h with ⟨hcs, _⟩ | ⟨x, l, c, zs, hcs, _, hl, hm, hz, _, hcell, hwz⟩
  · simp at hcs
    exact ⟨none, 0, 0, [], hcs, .inl ⟨rfl, rfl, rfl, rfl⟩⟩
  · simp at hcs
    exact ⟨some x, l, c, zs, hcs, .inr ⟨_, rfl, hl, hm, by simpa using hz, hcell, hwz⟩⟩
/-- A cell that reads at an int. -/
theorem int_of {H : Type} {enc : TypeId × Value → H} {W : World} {n : Nat} {v : Value} {y : DataW H × List MemPlace}
    (h : DataW.trod enc Try.prog W 0 (fun _ => true) true n 3 [v] = some y) : ∃ z, v = .int .i64 z ∧ (Lit.int .i64 z).wf = true := by
  obtain ⟨z, hz, _, hw⟩ := DataW.trod_int Try.underlying3 h
  simp at hz
  exact ⟨z, hz, hw⟩
theorem list_choose {P : Nat → Int × Int × List Int → Prop} : ∀ n, (∀ i, i < n → ∃ x, P i x) → ∃ L : List (Int × Int × List Int), L.length = n ∧ ∀ i, i < n → P i (nthS L i)
  | 0, _ => ⟨[], rfl, fun i hi => by omega⟩
  | n + 1, h => by
    obtain ⟨L, hl, hL⟩ := list_choose n (fun i hi => h i (by omega))
    obtain ⟨x, hx⟩ := h n (by omega)
    refine ⟨L ++ [x], by simp [hl], fun i hi => ?_⟩
    by_cases e : i = n
    · subst e
      have : nthS (L ++ [x]) i = x := by simp [nthS, List.getD, ← hl]
      rw [this]
      exact hx
    · have : nthS (L ++ [x]) i = nthS L i := by
        simp only [nthS, List.getD]
        rw [List.getElem?_append_left (by omega)]
      rw [this]
      exact hL i (by omega)
/-- What a slice of steps reads as. -/
theorem steps_of {H : Type} {enc : TypeId × Value → H} {W : World} {n : Nat} {a : Option Addr} {l c : Nat} {y : DataW H × List MemPlace}
    (h : DataW.trod enc Try.prog W 0 (fun _ => true) true n 44 [.slice a l c] = some y) : ∃ L : List (Int × Int × List Int), L.length = l ∧ l ≤ 9223372036854775807 ∧ (∀ j, j < L.length → (nthS L j).2.2.length ≤ 9223372036854775807) ∧ SRow W a L := by
  rcases DataW.trod_slice Try.underlying44 h with ⟨hcs, _⟩ | ⟨ad, len, cap, elems, rest, m, _, hcs, _, _, hl, hm, hlen, hel, _, _⟩
  · simp at hcs
    obtain ⟨rfl, rfl, rfl⟩ := hcs
    exact ⟨[], rfl, by decide, fun j hj => by simp at hj, fun j hj => by simp at hj⟩
  · simp at hcs
    obtain ⟨rfl, rfl, rfl⟩ := hcs
    obtain ⟨b, off, spot⟩ := ad
    have hspot : 0 < l → spot = none := fun h0 => by
      have he := hel 0 h0
      rw [List.getElem?_eq_getElem (by omega)] at he
      obtain ⟨cs, hcs, _⟩ := Option.bind_eq_some_iff.1 he
      rw [cells70] at hcs
      obtain ⟨_, hcl, hcell⟩ := World.cells?_some hcs
      match cs, hcl with
      | [v0, v1, v2], _ =>
        have c0 := hcell 0 (by omega)
        simp only [List.getElem?_cons_zero] at c0
        simpa [Addr.add] using World.cell?_spot c0
    obtain ⟨L, h1, h2⟩ := list_choose (P := fun i x => x.2.2.length ≤ 9223372036854775807 ∧ ∃ b' off' a' c', (some ⟨b, off, spot⟩ : Option Addr) = some ⟨b', off', none⟩ ∧ W.cell? ⟨b', off' + i * 3, none⟩ = some (.int .i64 x.1) ∧ W.cell? ⟨b', off' + i * 3 + 1, none⟩ = some (.int .i64 x.2.1) ∧ W.cell? ⟨b', off' + i * 3 + 2, none⟩ = some (.slice a' x.2.2.length c') ∧ View .i64 W a' x.2.2.length x.2.2) l (fun i hi => by
      have he := hel i hi
      rw [List.getElem?_eq_getElem (by omega)] at he
      obtain ⟨cs, hcs, htr⟩ := Option.bind_eq_some_iff.1 he
      rw [cells70] at hcs
      obtain ⟨_, hcl, hcell⟩ := World.cells?_some hcs
      obtain ⟨y0, y1, y2, k, _, _, g0, g1, g2⟩ := Go.Deep.trod_struct3 Try.underlying70 htr
      match cs, hcl with
      | [v0, v1, v2], _ =>
        have g0' : DataW.trod enc Try.prog W 0 (fun _ => true) true k 3 [v0] = some y0 := by simpa [cells3] using g0
        have g1' : DataW.trod enc Try.prog W 0 (fun _ => true) true k 3 [v1] = some y1 := by simpa [cells3] using g1
        have g2' : DataW.trod enc Try.prog W 0 (fun _ => true) true k 24 [v2] = some y2 := by simpa [cells24] using g2
        obtain ⟨z, rfl, _⟩ := int_of g0'
        obtain ⟨z2, rfl, _⟩ := int_of g1'
        obtain ⟨a', l', c', zs, rfl, hz⟩ := row_of g2'
        have c0 := hcell 0 (by omega)
        have c1 := hcell 1 (by omega)
        have c2 := hcell 2 (by omega)
        simp only [List.getElem?_cons_zero, List.getElem?_cons_succ] at c0 c1 c2
        have hs0 : spot = none := hspot (by omega)
        subst hs0
        rw [Addr.add_lit, Addr.add_lit] at c0 c1 c2
        have hv := hz.view
        refine ⟨(z, z2, zs.take l'), by show (zs.take l').length ≤ _; rw [hv.1]; exact hz.len.1, b, off, a', c', rfl, c0, c1, ?_, ?_⟩
        · show W.cell? _ = some (.slice a' (zs.take l').length c')
          rw [hv.1]
          exact c2
        · show View .i64 W a' (zs.take l').length (zs.take l')
          rw [hv.1]
          exact hv)
    unfold maxLen at hm
    exact ⟨L, h1, by omega, fun j hj => (h2 j (by omega)).1, fun j hj => (h2 j (by omega)).2⟩

set_option maxRecDepth 100000 in
theorem lifted (os : Os) (started : os.Started) (H : Type) (enc : TypeId × Value → H) :
    ReturnsInHanded {} Try.checked os 7 .any (Rows.fnExactFromStepsSpec.pre6 enc Try.prog Try.f7 Rows.fnExactFromStepsRow.domain false) (Rows.fnExactFromStepsSpec.post enc Try.prog Try.f7 false true false false) := by
  refine returnsInHanded_of_change (C := Try.checked) own started (by kernel_rfl) Try.func7
    (ChangeSpec.witness6 (enc := enc) (C := Try.checked) false ⟨#[], #[.int .i64 0, .slice none 0 0], []⟩ 8 (by kernel_rfl) (by kernel_rfl) (by kernel_rfl) (by kernel_rfl)) ?_
  intro W base args ds gs before hval0 hW hcnd _
  have hval : ∀ (j : Nat) t v, Try.f7.params[j]? = some t → args[j]? = some v → Value.okWide Try.prog W .any base t v := hval0
  have hW' := hW
  obtain ⟨p, q, hA0, hV, rfl, hfz, hnd⟩ := hW
  have hA : DataW.TrodAll enc Try.prog W 0 (fun _ => true) true Try.f7.params.toList args.toList ds p := hA0
  rw [Try.params7] at hA hval
  obtain ⟨v0, vs0, d0, ds0, p0, q0, hargs, rfl, rfl, h0, r0⟩ := trodAll_cons hA
  obtain ⟨v1, vs1, d1, ds1, p1, q1, rfl, rfl, rfl, h1, r1⟩ := trodAll_cons r0
  obtain ⟨rfl, rfl, rfl⟩ := trodAll_nil r1
  obtain rfl : args = #[v0, v1] := by cases args; simp_all
  obtain ⟨rfl, rfl⟩ := trodVars_none hV
  obtain ⟨i0, rfl, rfl, rfl, w0⟩ := open_int Try.underlying3 (hval 0 3 v0 rfl rfl) h0
  obtain ⟨a1, len1, cap1, rfl⟩ := okWide_slice Try.underlying44 (hval 1 44 v1 rfl rfl)
  have k1 := h1
  have lt1 : ∀ x ∈ p1, x.block < W.heap.size := by obtain ⟨m, hm⟩ := k1; exact DataW.trod_lt m _ _ _ hm
  obtain ⟨fuel, hf⟩ := h1
  obtain ⟨L, hL, hl1, hl2, hrow⟩ := steps_of (n := fuel) (a := a1) (l := len1) (c := cap1) (by simpa [Value.cells] using hf)
  clear hA0 hval0
  subst hL
  refine (law_fromSteps i0 a1 cap1 L W hl1 hl2 hrow).mono fun e W' ⟨he, bel⟩ => ?_
  subst he
  exact ⟨_, rfl, _, _, _, [], _, [], hW', trodAll_mk1 (shut_bool Try.underlying4 _), (trodAll_cons_mk (shut_int Try.underlying3 w0) (trodAll_cons_mk (Below.trod laidOutHere (by kernel_rfl) (of_decide_eq_true (by kernel_rfl)) k1 bel lt1) trodAll_mk0)), rfl, bel.frame _, fun h => by cases h⟩

theorem over : Rows.fnExactFromStepsRow.holds Try.pinned (OpenSpec.ofChange Rows.fnExactFromStepsSpec) :=
  OpenClaim.holds_of_wide 7 Try.f7 rfl rfl rfl rfl rfl rfl rfl ⟨rfl, rfl, rfl, rfl, rfl⟩ rfl rfl rfl rfl rfl (by kernel_rfl) Try.func7 (by kernel_rfl)
    (of_decide_eq_true (by kernel_rfl)) (by unfold Func.isWrapper; first | (rw [if_pos (by decide +kernel)]; kernel_rfl) | (rw [if_neg (by decide +kernel)]; exact ⟨rfl, rfl⟩))
    (fun os started H enc _ => lifted os started H enc)
end fnExactFromStepsProof

theorem fnExactFromSteps_holds : Rows.FnExactFromStepsSaid := fnExactFromStepsProof.over
end Go.Proofs.Ytdlookcklkdonab
