/- SumPad of the program. -/
import Derived.Test.YtkeabkedbbjccaaDoorRp
import Derived.Deep.RegionWith
namespace Go.Proofs.YtkeabkedbbjccaaDoor
open Go.RowKit
set_option linter.unusedVariables false

theorem bcell {W w1 : World} (hb : Below W.heap.size W w1) : (∀ b o, b < W.heap.size → w1.cell? ⟨b, o, none⟩ = W.cell? ⟨b, o, none⟩) :=
  fun b o h => hb.cell (p := ⟨b, o, none⟩) h
theorem cA {w w3 : World} (h : Below (w.alloc (.cells #[.int .u8 128] 5)).drew.heap.size (w.alloc (.cells #[.int .u8 128] 5)).drew w3) : w3.cell? ⟨w.heap.size, 0, none⟩ = some (.int .u8 128) ∧ w.heap.size < w3.heap.size :=
  ⟨(h.cell (p := ⟨w.heap.size, 0, none⟩) (by simp)).trans (by simp), Nat.lt_of_lt_of_le (by simp) h.size⟩
theorem cB {w w3 : World} (h : Below (w.alloc (.cells #[.int .u8 128] 5)).heap.size (w.alloc (.cells #[.int .u8 128] 5)) w3) : w3.cell? ⟨w.heap.size, 0, none⟩ = some (.int .u8 128) ∧ w.heap.size < w3.heap.size :=
  ⟨(h.cell (p := ⟨w.heap.size, 0, none⟩) (by simp)).trans (by simp), Nat.lt_of_lt_of_le (by simp) h.size⟩
theorem cN {g : Nat} {w w3 : World} (h : Below w.heap.size w w3) (hg : w.cell? ⟨g, 0, none⟩ = some (.int .u8 128) ∧ g < w.heap.size) : w3.cell? ⟨g, 0, none⟩ = some (.int .u8 128) ∧ g < w3.heap.size :=
  ⟨(h.cell (p := ⟨g, 0, none⟩) hg.2).trans hg.1, Nat.lt_of_lt_of_le hg.2 h.size⟩
theorem conv1 (g : Nat) (q : World) (h : q.cell? ⟨g, 0, none⟩ = some (.int .u8 128)) : Sem.run Tryd.prog (convert 22 9 (.slice (some ⟨g, 0, none⟩) 1 1)) q = .ok (.string (strOfNums [128])) q := by
  refine run_convert_bytes_arg _ 22 5 Tryd.underlying22 Tryd.underlying5 _ 0 1 1 [128] rfl ?_ 9 Tryd.underlying9
  intro i hi
  match i, hi with
  | 0, _ => simpa using h

set_option maxRecDepth 100000 in
set_option maxHeartbeats 1600000 in
theorem impl_pad_yes (s : ByteArray) (hs : s.size ≤ 60000) (w : World) :
    Calls Tryd.prog 9 #[.string s] w fun e w' => e = .returned (.string (padP s)) ∧ Below w.heap.size w w' := by
  have HCV := fun g q h => conv1 g q h
  have HP : Hid (padP s = s ++ strOfNums [128] ++ strOfNums (List.replicate (padZ s.size) 0) ++ strOfNums (wordBytes 0) ++ strOfNums (wordBytes (8 * s.size))) := rfl
  have HR := hid (fun q => repeat_any (padZ s.size) q (by unfold padZ; omega))
  have HW0 : Hid (∀ q (x : Int), x = 0 → Calls Tryd.prog 13 #[.int .u32 x] q fun e w' => e = .returned (.string (strOfNums (wordBytes 0))) ∧ Below q.heap.size q w') := fun q x hx => by subst hx; exact impl_putWord 0 q (by decide) (by decide)
  have HW1 : Hid (∀ q (x : Int), x = 8 * s.size → Calls Tryd.prog 13 #[.int .u32 x] q fun e w' => e = .returned (.string (strOfNums (wordBytes (8 * s.size)))) ∧ Below q.heap.size q w') := fun q x hx => by subst hx; exact impl_putWord (8 * s.size) q (by omega) (by omega)
  have z1 : (strOfNums [128]).size = 1 := rfl
  have z2 : (strOfNums (List.replicate (padZ s.size) 0)).size ≤ 64 := by rw [strOfNums_size, List.length_replicate]; unfold padZ; omega
  have z3 : (strOfNums (wordBytes 0)).size = 4 := rfl
  have z4 : (strOfNums (wordBytes (8 * s.size))).size = 4 := rfl
  have hzz : Hid ((padZ s.size : Int) = (64 - ((s.size : Int) + 9) % 64) % 64) := hid (by unfold padZ; omega)
  generalize padP s = PP at *
  generalize strOfNums [128] = c1 at *
  generalize strOfNums (List.replicate (padZ s.size) 0) = c2 at *
  generalize strOfNums (wordBytes 0) = c3 at *
  generalize strOfNums (wordBytes (8 * s.size)) = c4 at *
  generalize padZ s.size = Z at *
  obtain ⟨x1, h1⟩ : ∃ x1, s ++ c1 = x1 := ⟨_, rfl⟩
  obtain ⟨x2, h2⟩ : ∃ x2, x1 ++ c2 = x2 := ⟨_, rfl⟩
  obtain ⟨x3, h3⟩ : ∃ x3, x2 ++ c3 = x3 := ⟨_, rfl⟩
  obtain ⟨x4, h4⟩ : ∃ x4, x3 ++ c4 = x4 := ⟨_, rfl⟩
  have HPP := hid (HP.out.trans (by rw [h1, h2, h3, h4]))
  have y1 : x1.size = s.size + c1.size := by rw [← h1, ByteArray.size_append]
  have y2 : x2.size = x1.size + c2.size := by rw [← h2, ByteArray.size_append]
  have y3 : x3.size = x2.size + c3.size := by rw [← h3, ByteArray.size_append]
  have k1 : ¬ 9223372036854775807 < s.size + c1.size := by omega
  have k2 : ¬ 9223372036854775807 < x1.size + c2.size := by omega
  have k3 : ¬ 9223372036854775807 < x2.size + c3.size := by omega
  have k4 : ¬ 9223372036854775807 < x3.size + c4.size := by omega
  have hd : decide ((60000 : Int) < (s.size : Int)) = false := decide_eq_false (by omega)
  have EZ : Hid ((wrap64 (64 - (wrap64 ((s.size : Int) + 9)).tmod 64)).tmod 64 = (Z : Int)) := hid (by
    rw [w64 (x := (s.size : Int) + 9) (by omega) (by omega), Int.tmod_eq_emod_of_nonneg (a := (s.size : Int) + 9) (by omega), w64 (x := 64 - ((s.size : Int) + 9) % 64) (by omega) (by omega), Int.tmod_eq_emod_of_nonneg (by omega)]
    exact hzz.out.symm)
  obtain ⟨T, hT⟩ : ∃ T : Int, 8 * (s.size : Int) = T := ⟨_, rfl⟩
  have ET : Hid (IntKind.u64.wrap ((s.size : Int) * 8) = T) := hid (by rw [IntKind.wrap_u64]; omega)
  have d0 : T / 4294967296 = 0 := by omega
  have m0 : T % 4294967296 = T := by omega
  have b0 : 0 ≤ T := by omega
  have b1 : T < 4294967296 := by omega
  rw [hT] at HW1
  clear hT
  have HSZ := hid hs
  clear z1 z2 z3 z4 y1 y2 y3 HP hs
  go_enter Tryd.func9, Tryd.ntmps9
  go_wp2_with fail
  rw [EZ.out, ET.out]
  first
  | go_region_with (first
    | (go_at_call 27; refine (HR.out _).mono ?_; rintro e w3 ⟨rfl, hb3⟩
       have HB3 := hid hb3
       first
       | (have hA := cA hb3; have hcA := hA.1)
       | skip)
    | (go_at_call 13; refine (HW0.out _ _ (by first | rfl | (rw [IntKind.wrap_u32]; omega) | omega)).mono ?_; rintro e w4 ⟨rfl, hb4⟩
       have HB4 := hid hb4
       first
       | (have hB := cN hb4 hA; have hcB := hB.1)
       | (have hB := cB hb4; have hcB := hB.1)
       | skip)
    | (go_at_call 13; refine (HW1.out _ _ (by first | rfl | (rw [IntKind.wrap_u32]; omega) | omega)).mono ?_; rintro e w5 ⟨rfl, hb5⟩
       have HB5 := hid hb5
       first
       | (have hC := cN hb5 hB; have hcC := hC.1)
       | (have hC := cB hb5; have hcC := hC.1)
       | skip))
  | fail
  all_goals
    have b3 : Below w.heap.size w w3 := by
      first
      | exact Below.trans (below_drewN w 1) HB3.out
      | exact (belowN ((Below.refl w.heap.size w).alloc (Nat.le_refl _) _) 1).trans (HB3.out.mono (by simp))
    have b4 : Below w.heap.size w w4 := by
      first
      | exact b3.trans (HB4.out.mono b3.size)
      | exact (b3.alloc b3.size _).trans (HB4.out.mono (Nat.le_trans b3.size (by simp)))
    have b5 : Below w.heap.size w w5 := by
      first
      | exact b4.trans (HB5.out.mono b4.size)
      | exact (b4.alloc b4.size _).trans (HB5.out.mono (Nat.le_trans b4.size (by simp)))
    go_wp2_with fail
    go_ret
    refine ⟨ret_str HPP.out.symm, ?_⟩
    first
    | exact b5
    | exact b5.alloc b5.size _
end Go.Proofs.YtkeabkedbbjccaaDoor
