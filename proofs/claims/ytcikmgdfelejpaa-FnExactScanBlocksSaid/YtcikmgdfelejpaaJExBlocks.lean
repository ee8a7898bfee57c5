/- Proved: at all tables, every slice of ints and every int the law FnExactScanBlocks of the program answers true (ScanBlocks answers as the specification's ScanBlocks, writes into no argument, and its answer owns its memory), without a condition. -/
import Derived.Test.YtcikmgdfelejpaaJRdL
import Derived.Test.YtcikmgdfelejpaaJExAid
namespace Go.Proofs.Ytcikmgdfelejpaa
namespace fnExactScanBlocksProof
open Go.ChangeShapes Go.WideShapes Go.ChangeAt Go.RowKit
set_option linter.unusedVariables false

theorem own : ownKnob Try.prog.godebug = none := by kernel_rfl
theorem laidOutHere : laidOutB Try.prog = true := by kernel_rfl

set_option maxRecDepth 100000 in
theorem lifted (os : Os) (started : os.Started) (H : Type) (enc : TypeId × Value → H) :
    ReturnsInHanded {} Try.checked os 4 .any (Rows.fnExactScanBlocksSpec.pre6 enc Try.prog Try.f4 Rows.fnExactScanBlocksRow.domain false) (Rows.fnExactScanBlocksSpec.post enc Try.prog Try.f4 false true false false) := by
  refine returnsInHanded_of_change (C := Try.checked) own started (by kernel_rfl) Try.func4
    (ChangeSpec.witness6 (enc := enc) (C := Try.checked) false ⟨#[], #[.agg #[.slice none 0 0, .slice none 0 0, .slice none 0 0, .slice none 0 0], .slice none 0 0, .int .i64 0], []⟩ 8 (by kernel_rfl) (by kernel_rfl) (by kernel_rfl) (by kernel_rfl)) ?_
  intro W base args ds gs before hval0 hW hcnd _
  have hval : ∀ (j : Nat) t v, Try.f4.params[j]? = some t → args[j]? = some v → Value.okWide Try.prog W .any base t v := hval0
  have hW' := hW
  obtain ⟨p, q, hA0, hV, rfl, hfz, hnd⟩ := hW
  have hA : DataW.TrodAll enc Try.prog W 0 (fun _ => true) true Try.f4.params.toList args.toList ds p := hA0
  rw [Try.params4] at hA hval
  obtain ⟨v0, vs0, d0, ds0, p0, q0, hargs, rfl, rfl, h0, r0⟩ := trodAll_cons hA
  obtain ⟨v1, vs1, d1, ds1, p1, q1, rfl, rfl, rfl, h1, r1⟩ := trodAll_cons r0
  obtain ⟨v2, vs2, d2, ds2, p2, q2, rfl, rfl, rfl, h2, r2⟩ := trodAll_cons r1
  obtain ⟨rfl, rfl, rfl⟩ := trodAll_nil r2
  obtain rfl : args = #[v0, v1, v2] := by cases args; simp_all
  obtain ⟨rfl, rfl⟩ := trodVars_none hV
  have k0 := h0
  have k1 := h1
  have lt0 : ∀ x ∈ p0, x.block < W.heap.size := by obtain ⟨m, hm⟩ := k0; exact DataW.trod_lt m _ _ _ hm
  have lt1 : ∀ x ∈ p1, x.block < W.heap.size := by obtain ⟨m, hm⟩ := k1; exact DataW.trod_lt m _ _ _ hm
  obtain ⟨a0, n0, c0, a1, n1, c1, a2, n2, c2, a3, n3, c3, rfl, ⟨z0, w0⟩, ⟨z1, w1⟩, ⟨z2, w2⟩, z3, w3⟩ := exScan.tables_of (hval 0 26 v0 rfl rfl) h0
  obtain ⟨b0, len0, cap0, rfl⟩ := okWide_slice Try.underlying22 (hval 1 22 v1 rfl rfl)
  obtain ⟨z4, w4⟩ : ∃ zs, IsRow .i64 W b0 len0 cap0 zs := by
    obtain ⟨fuel, hf⟩ := h1
    obtain ⟨a, l, c, zs, hv, hz⟩ := exScan.row_of (n := fuel) (v := .slice b0 len0 cap0) (by simpa [Value.cells] using hf)
    cases hv
    exact ⟨zs, hz⟩
  obtain ⟨a2', rfl, rfl, rfl, w5⟩ := open_int Try.underlying3 (hval 2 3 v2 rfl rfl) h2
  have m0 := w0.len.1
  have m1 := w1.len.1
  have m2 := w2.len.1
  have m3 := w3.len.1
  obtain ⟨T, ⟨rfl, rfl, rfl, rfl⟩, hT⟩ := rows_tv w0 w1 w2 w3
  clear hA0 hval0
  have hvw := w4.view
  have hl4 := hvw.1
  have m4 := w4.len.1
  generalize z4.take len0 = Z at hvw hl4
  subst hl4
  refine (law_blocks a0 a1 a2 a3 c0 c1 c2 c3 T b0 cap0 Z a2' W m0 m1 m2 m3 m4 hT hvw).mono fun e W' ⟨he, bel⟩ => ?_
  subst he
  exact ⟨_, rfl, _, _, _, [], _, [], hW', trodAll_mk1 (shut_bool Try.underlying4 _), (trodAll_cons_mk (Below.trod laidOutHere (by kernel_rfl) (of_decide_eq_true (by kernel_rfl)) k0 bel lt0) (trodAll_cons_mk (Below.trod laidOutHere (by kernel_rfl) (of_decide_eq_true (by kernel_rfl)) k1 bel lt1) (trodAll_cons_mk (shut_int Try.underlying3 w5) trodAll_mk0))), rfl, bel.frame _, fun h => by cases h⟩

theorem over : Rows.fnExactScanBlocksRow.holds Try.pinned (OpenSpec.ofChange Rows.fnExactScanBlocksSpec) :=
  OpenClaim.holds_of_wide 4 Try.f4 rfl rfl rfl rfl rfl rfl rfl ⟨rfl, rfl, rfl, rfl, rfl⟩ rfl rfl rfl rfl rfl (by kernel_rfl) Try.func4 (by kernel_rfl)
    (of_decide_eq_true (by kernel_rfl)) (by unfold Func.isWrapper; first | (rw [if_pos (by decide +kernel)]; kernel_rfl) | (rw [if_neg (by decide +kernel)]; exact ⟨rfl, rfl⟩))
    (fun os started H enc _ => lifted os started H enc)
end fnExactScanBlocksProof

theorem fnExactScanBlocks_holds : Rows.FnExactScanBlocksSaid := fnExactScanBlocksProof.over
end Go.Proofs.Ytcikmgdfelejpaa
