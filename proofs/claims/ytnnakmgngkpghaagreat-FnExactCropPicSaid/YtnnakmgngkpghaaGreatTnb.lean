/- A block that is thinned; eachOf over blocks. -/
import Derived.Test.YtnnakmgngkpghaaGreatRk
import Derived.Test.YtnnakmgngkpghaaGreatCln
import Derived.Laws.CopyOwn
namespace Go.Proofs.YtnnakmgngkpghaaGreat
open Go.RowKit Go.Maps
set_option linter.unusedVariables false

/-- The numbers of a block that is thinned. -/
def thR (k : Nat) (xs : List Int) : List Int := xs.take k ++ List.replicate (63 - k) 0
theorem thR_len (k : Nat) (xs : List Int) (h : xs.length = 63) (hk : k ≤ 63) : (thR k xs).length = 63 := by
  unfold thR
  rw [List.length_append, List.length_take, List.length_replicate]
  omega
def Z63 : Array Value := Array.replicate 63 (.int .i64 0)
theorem run_mk63 (q : World) : (Instr.makeSlice 22 (.int .i64 63) (.int .i64 63)).run Tryz.prog q = .ok (.slice (some ⟨q.heap.size, 0, none⟩) 63 63) (q.alloc (.cells Z63 3)) := by kernel_rfl
theorem z63_list : Z63.toList = List.replicate 63 (Value.int .i64 0) := by simp only [Z63, Array.toList_replicate]
theorem setRow_at (w : World) (g : Nat) (cs : Array Value) {cur : Array Value} {t : TypeId} (h : w.heap[g]? = some (.cells cur t (0, 0))) : (w.setRow g cs).heap[g]? = some (.cells cs t (0, 0)) := setRow_heap w g cur cs t (0, 0) h

set_option maxRecDepth 100000 in
set_option maxHeartbeats 1600000 in
theorem thin_any (d : Int) (b off c k : Nat) (xs : List Int) (w : World) (hx : xs.length = 63) (hk : k ≤ 63) (hc : 63 ≤ c) (hv : View .i64 w (some ⟨b, off, none⟩) 63 xs) :
    Calls Tryz.prog 38 #[.agg #[.int .i64 d, .slice (some ⟨b, off, none⟩) 63 c], .int .i64 k] w fun e w' => ∃ g, e = .returned (.agg #[.int .i64 d, .slice (some ⟨g, 0, none⟩) 63 63]) ∧ Own w' w.heap.size 3 .i64 (.slice (some ⟨g, 0, none⟩) 63 63) (thR k xs) ∧ Below w.heap.size w w' := by
  have HR := hid run_mk63
  have hk0 : (0 : Int) ≤ (k : Int) := by omega
  have hk1 : (k : Int) ≤ (c : Int) := by omega
  have hk2 : (k : Int) ≤ 63 := by omega
  obtain ⟨W3, hW3⟩ : ∃ W3, W3 = ((w.alloc (.cells #[.int .i64 d, .slice (some ⟨b, off, none⟩) 63 c] 65)).alloc (.cells #[.int .i64 0, .slice none 0 0] 65)).alloc (.cells Z63 3) := ⟨_, rfl⟩
  have b1 := (Below.refl w.heap.size w).alloc (Nat.le_refl _) (.cells #[.int .i64 d, .slice (some ⟨b, off, none⟩) 63 c] 65)
  have t1 := Two.new w (.int .i64 d) (.slice (some ⟨b, off, none⟩) 63 c) 65
  have t2 := Two.new (w.alloc (.cells #[.int .i64 d, .slice (some ⟨b, off, none⟩) 63 c] 65)) (.int .i64 0) (.slice none 0 0) 65
  have hz : W3.heap[w.heap.size + 1 + 1]? = some (.cells Z63 3 (0, 0)) := by
    rw [hW3]
    have := heap_alloc_new ((w.alloc (.cells #[.int .i64 d, .slice (some ⟨b, off, none⟩) 63 c] 65)).alloc (.cells #[.int .i64 0, .slice none 0 0] 65)) (.cells Z63 3)
    simpa using this
  have T1 : Two W3 w.heap.size (.int .i64 d) (.slice (some ⟨b, off, none⟩) 63 c) 65 := by rw [hW3]; exact (t1.alloc _).alloc _
  have T2 : Two W3 (w.heap.size + 1) (.int .i64 0) (.slice none 0 0) 65 := by
    rw [hW3]
    have := t2.alloc (.cells Z63 3)
    simpa using this
  have B3 : Below w.heap.size w W3 := by
    rw [hW3]
    exact (b1.alloc (by simp) _).alloc (by simp; omega) _
  have hsz3 : w.heap.size + 1 + 1 + 1 ≤ W3.heap.size := by rw [hW3]; simp
  have V3 := hv.below (Nat.le_refl _) (B3)
  obtain ⟨cs, hcs⟩ : ∃ cs : List Value, cs = (xs.take k).map (Value.int .i64) := ⟨_, rfl⟩
  have hcl : cs.length = k := by rw [hcs, List.length_map, List.length_take]; omega
  have hsrc : ∀ (j : Nat) v, cs[j]? = some v → W3.cell? ((⟨b, off, none⟩ : Addr).add j) = some v := by
    intro j v hj
    have hjl : j < k := by have := (List.getElem?_eq_some_iff.1 hj).1; omega
    obtain ⟨b', off', e', hc'⟩ := V3.2 j (by omega)
    cases e'
    rw [Addr.add_lit, hc', ← hj, hcs]
    simp [hjl, List.getD, show j < xs.length by omega]
  have h1 : ∀ v ∈ cs, v.oneCell' = true := by
    intro v hv'
    rw [hcs] at hv'
    obtain ⟨x, _, rfl⟩ := List.mem_map.1 hv'
    rfl
  have hfit : 0 + cs.length ≤ Z63.size := by rw [hcl]; simp only [Z63, Array.size_replicate]; omega
  obtain ⟨A, hA⟩ : ∃ A : Array Value, A = (Z63.toList.take 0 ++ (cs ++ Z63.toList.drop (0 + cs.length))).toArray := ⟨_, rfl⟩
  have hAL : A.toList = (thR k xs).map (Value.int .i64) := by
    rw [hA, z63_list, hcl, hcs, Nat.zero_add, List.drop_replicate]
    unfold thR
    rw [List.map_append, List.map_replicate]
    simp only [List.take_zero, List.nil_append]
  have hO : Own (W3.setRow (w.heap.size + 1 + 1) A) (w.heap.size + 1 + 1) 3 .i64 (.slice (some ⟨w.heap.size + 1 + 1, 0, none⟩) 63 63) (thR k xs) := by
    have hl := thR_len k xs hx hk
    have hal : A.size = 63 := by rw [← Array.length_toList, hAL, List.length_map, hl]
    refine ⟨by simp [World.setRow]; omega, by rw [List.length_map, hl], .inr ⟨w.heap.size + 1 + 1, 63, A, by rw [hl], Nat.le_refl _, setRow_at W3 _ A hz, by rw [hl]; exact Nat.le_refl _, by unfold maxLen; omega, by rw [hal], ?_⟩⟩
    rw [hl, hAL, Nat.mul_one]
    exact List.take_of_length_le (by rw [List.length_map, hl]; exact Nat.le_refl _)
  have hB4 : Below w.heap.size w (W3.setRow (w.heap.size + 1 + 1) A) := below_setRow B3 (by omega) A
  have hT1 : Two (W3.setRow (w.heap.size + 1 + 1) A) w.heap.size (.int .i64 d) (.slice (some ⟨b, off, none⟩) 63 c) 65 := (setRow_other W3 _ _ A (by omega)).trans T1
  have hT2 : Two (W3.setRow (w.heap.size + 1 + 1) A) (w.heap.size + 1) (.int .i64 0) (.slice none 0 0) 65 := (setRow_other W3 _ _ A (by omega)).trans T2
  have HH := hid (show Own (W3.setRow (w.heap.size + 1 + 1) A) (w.heap.size + 1 + 1) 3 .i64 (.slice (some ⟨w.heap.size + 1 + 1, 0, none⟩) 63 63) (thR k xs) ∧ Below w.heap.size w (W3.setRow (w.heap.size + 1 + 1) A) ∧ Two (W3.setRow (w.heap.size + 1 + 1) A) w.heap.size (.int .i64 d) (.slice (some ⟨b, off, none⟩) 63 c) 65 ∧ Two (W3.setRow (w.heap.size + 1 + 1) A) (w.heap.size + 1) (.int .i64 0) (.slice none 0 0) 65 from ⟨hO, hB4, hT1, hT2⟩)
  have hEnd : Own (((W3.setRow (w.heap.size + 1 + 1) A).setCell ⟨w.heap.size + 1, 0, none⟩ (.int .i64 d)).setCell ⟨w.heap.size + 1, 1, none⟩ (.slice (some ⟨w.heap.size + 1 + 1, 0, none⟩) 63 63)) w.heap.size 3 .i64 (.slice (some ⟨w.heap.size + 1 + 1, 0, none⟩) 63 63) (thR k xs) ∧ Below w.heap.size w (((W3.setRow (w.heap.size + 1 + 1) A).setCell ⟨w.heap.size + 1, 0, none⟩ (.int .i64 d)).setCell ⟨w.heap.size + 1, 1, none⟩ (.slice (some ⟨w.heap.size + 1 + 1, 0, none⟩) 63 63)) :=
    ⟨((hO.setCell_below (a := ⟨w.heap.size + 1, 0, none⟩) (Nat.lt_succ_self _) _).setCell_below (a := ⟨w.heap.size + 1, 1, none⟩) (Nat.lt_succ_self _) _).mono (by omega), (hB4.setCell (p := ⟨w.heap.size + 1, 0, none⟩) (by show w.heap.size ≤ w.heap.size + 1; omega) _).setCell (p := ⟨w.heap.size + 1, 1, none⟩) (by show w.heap.size ≤ w.heap.size + 1; omega) _⟩
  have HEND := hid hEnd
  clear hEnd
  have HCP := hid (show (W3.heap[w.heap.size + 1 + 1]? = some (.cells Z63 3 (0, 0))) ∧ (cs.length = k) ∧ (∀ (j : Nat) v, cs[j]? = some v → W3.cell? ((⟨b, off, none⟩ : Addr).add j) = some v) ∧ 0 + cs.length ≤ Z63.size ∧ (∀ v ∈ cs, v.oneCell' = true) from ⟨hz, hcl, hsrc, hfit, h1⟩)
  have HMN := hid (show cs.length = Nat.min k 63 from by rw [hcl]; exact (Nat.min_eq_left hk).symm)
  have HAE := hid hA
  have HWE := hid hW3
  clear hv b1 t1 t2 hz T1 T2 B3 hsz3 V3 hcs hcl hsrc h1 hfit hA hAL hO hB4 hT1 hT2 hW3
  obtain ⟨p0, p1, p2, p3⟩ := HH.out.2.2.1.cells
  obtain ⟨r0, r1, r2, r3⟩ := HH.out.2.2.2.cells
  go_enter Tryz.func38, Tryz.ntmps38
  have R := HR.out
  have hsi : (Tryz.prog.info? 3).map (·.size) = some 1 := by kernel_rfl
  have HSI := hid hsi
  clear hsi
  go_wp2_with (rw [← HWE.out]; refine wpList_copy_own rfl _ _ 22 22 rfl 3 Tryz.underlying22 HSI.out (w.heap.size + 1 + 1) 0 63 63 ⟨b, off, none⟩ k c rfl rfl Z63 3 HCP.out.1 cs HMN.out HCP.out.2.2.1 HCP.out.2.2.2.1 HCP.out.2.2.2.2 ?_; rw [← HAE.out])
  exact bodyPost_ret (v := .agg #[.int .i64 d, .slice (some ⟨w.heap.size + 1 + 1, 0, none⟩) 63 63]) (by simp [results, Tryz.results38, go_sem, r0, r1]) rfl ⟨_, rfl, HEND.out.1, HEND.out.2⟩
end Go.Proofs.YtnnakmgngkpghaaGreat
