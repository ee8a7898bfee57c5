/- A copy of a row of blocks: slices.Clone. -/
import Derived.Test.YtnnakmgngkpghaaGreatRk
import Derived.Test.YtnnakmgngkpghaaGreatCpc
namespace Go.Proofs.YtnnakmgngkpghaaGreat
open Go.RowKit Go.Maps
set_option linter.unusedVariables false

/-- A row of blocks that reads as L, its rows of numbers as vs. -/
def BLv (w : World) (v : Value) (L : List (Int × List Int)) (vs : List Value) : Prop :=
  vs.length = L.length ∧ (∀ j, j < L.length → Vp w (vs.getD j (.bool false)) (nth L j).2) ∧
    ((v = .slice none 0 0 ∧ L = []) ∨ ∃ b off c, v = .slice (some ⟨b, off, none⟩) L.length c ∧ ∀ (j : Nat) u, (flN L vs L.length)[j]? = some u → w.cell? ⟨b, off + j, none⟩ = some u)
theorem BLv.below {w w' : World} {v : Value} {L : List (Int × List Int)} {vs : List Value} (h : BLv w v L vs) (hb : Below w.heap.size w w') : BLv w' v L vs := by
  obtain ⟨h1, h2, h3⟩ := h
  refine ⟨h1, fun j hj => (h2 j hj).below hb, ?_⟩
  rcases h3 with h3 | ⟨b, off, c, rfl, h4⟩
  · exact .inl h3
  · exact .inr ⟨b, off, c, rfl, fun j u hj => (hb.cell (p := ⟨b, off + j, none⟩) (World.block_lt_of_cell? w _ (h4 j u hj))).trans (h4 j u hj)⟩
theorem flN_one (L : List (Int × List Int)) (vs : List Value) (h : ∀ j, j < L.length → (vs.getD j (.bool false)).oneCell' = true) : ∀ k, k ≤ L.length → ∀ u ∈ flN L vs k, u.oneCell' = true
  | 0, _, u, hu => by cases hu
  | k + 1, hk, u, hu => by
    rw [flN] at hu
    rcases List.mem_append.1 hu with h1 | h1
    · exact flN_one L vs h k (by omega) u h1
    · simp at h1
      rcases h1 with rfl | rfl
      · rfl
      · exact h k (by omega)

set_option maxRecDepth 20000 in
set_option maxHeartbeats 1600000 in
theorem cloneB_any (v : Value) (L : List (Int × List Int)) (vs : List Value) (w : World) (hn : L.length ≤ 1048576) (h : BLv w v L vs) :
    Calls Tryz.prog 84 #[v] w fun e w' => ∃ v', e = .returned v' ∧ w'.ownsRow w.heap.size 65 2 v' L.length (flN L vs L.length) ∧ Below w.heap.size w w' := by
  obtain ⟨hl, hvs, hv⟩ := h
  have q36 : ∀ (w : World) (a : Option Addr) (n c n' c' : Nat), (binOp .eql 34 (.slice a n c) (.slice none n' c')).run Tryz.prog w = .ok (.bool a.isNone) w := fun w a n c n' c' => Lib.run_eql_slice_nil w _ _ a n c n' c' Tryz.underlying34
  rcases hv with ⟨rfl, rfl⟩ | ⟨b, off, c, rfl, hc⟩
  · clear hvs
    go_enter Tryz.func84, Tryz.ntmps84
    go_wp2_with fail
    go_ret
    exact ⟨_, rfl, ⟨rfl, .inl ⟨rfl, rfl⟩⟩, Below.refl _ _⟩
  · have HO0 := hid (show (w.alloc (.cells #[] 65)).ownsRow w.heap.size 65 2 (.slice (some ⟨w.heap.size, 0, none⟩) 0 0) 0 [] from World.ownsRow_made w #[] 0 (Nat.le_refl _) (by simp [maxLen]) rfl)
    have HB0 := hid ((Below.refl w.heap.size w).alloc (Nat.le_refl _) (.cells #[] 65))
    have HCL := hid (show ∀ (j : Nat) u, (flN L vs L.length)[j]? = some u → (w.alloc (.cells #[] 65)).cell? ((⟨b, off, none⟩ : Addr).add j) = some u from fun j u hj => by
      rw [Addr.add_lit]
      exact (HB0.out.cell (p := ⟨b, off + j, none⟩) (World.block_lt_of_cell? w _ (hc j u hj))).trans (hc j u hj))
    have HON := hid (flN_one L vs (fun j hj => by
      obtain ⟨ao, cap, e, _⟩ := hvs j hj
      rw [e]
      rfl) L.length (Nat.le_refl _))
    have HLN := hid (flN_len L vs L.length)
    have hi65 : (Tryz.prog.info? 65).map (fun i => (i.zero, i.size, i.bytes)) = some (some (.agg #[.int .i64 0, .slice none 0 0]), 2, 32) := by kernel_rfl
    have HI := hid hi65
    clear hc hvs hl hi65
    generalize flN L vs L.length = F at *
    go_enter Tryz.func84, Tryz.ntmps84
    obtain ⟨i, hi, hz0, hz1, hz2⟩ := info_parts HI.out
    have HII := hid (show Tryz.prog.info? 65 = some i ∧ i.zero = some (.agg #[.int .i64 0, .slice none 0 0]) ∧ i.size = 2 ∧ i.bytes = 32 from ⟨hi, hz0, hz1, hz2⟩)
    clear hi hz0 hz1 hz2
    go_wp2_with (at_builtin; refine wpList_append_own _ rfl _ _ 34 rfl w.heap.size 65 i (.agg #[.int .i64 0, .slice none 0 0]) 2 32 Tryz.underlying34 HII.out.1 HII.out.2.1 HII.out.2.2.1 HII.out.2.2.2 rfl (by decide) _ 0 [] rfl HO0.out ⟨b, off, none⟩ L.length c F rfl HLN.out HCL.out HON.out (by unfold maxLen; omega) (by omega) HB0.out.size ?_)
    intro v3 w3 hown3 hgrow _
    have hO3 : w3.ownsRow w.heap.size 65 2 v3 L.length F := by simpa using hown3
    have hB3 : Below w.heap.size w w3 := HB0.out.grown hgrow HB0.out.size (fun g hg => by
      have : g = w.heap.size := by simpa [Value.ownBlock] using hg.symm
      omega)
    have HE := hid (show w3.ownsRow w.heap.size 65 2 v3 L.length F ∧ Below w.heap.size w w3 from ⟨hO3, hB3⟩)
    clear hown3 hgrow hO3 hB3
    go_wp2_with fail
    obtain ⟨a3, c3, rfl⟩ : ∃ a3 c3, v3 = .slice a3 L.length c3 := by
      rcases HE.out.1.2 with ⟨rfl, h0⟩ | ⟨g, cap, cur, rfl, _⟩
      · exact ⟨none, 0, by rw [h0]⟩
      · exact ⟨_, _, rfl⟩
    go_ret
    exact ⟨_, rfl, HE.out.1, HE.out.2⟩
end Go.Proofs.YtnnakmgngkpghaaGreat
