/- SumPad of the specification walked. -/
import Derived.Test.YtkeabkedbbjccaaPs
namespace Go.Proofs.Ytkeabkedbbjccaa
open Go.RowKit
set_option linter.unusedVariables false

theorem OwnM.conv {w : World} {base : Nat} {v : Value} {xs : List Int} (h : OwnM w base v xs) : Sem.run Try.prog (convert 33 9 v) w = .ok (.string (strOfNums xs)) w := by
  obtain ⟨g, cap, rfl, hg, hl, hc, hsp⟩ := h
  refine run_convert_bytes_arg w 33 5 Try.underlying33 Try.underlying5 g 0 xs.length cap xs rfl ?_ 9 Try.underlying9
  intro i hi
  rw [Nat.zero_add]
  exact hc i _ (by simp [hi])
theorem OwnM.shape {w : World} {base : Nat} {v : Value} {xs : List Int} (h : OwnM w base v xs) : ∃ g cap, v = .slice (some ⟨g, 0, none⟩) xs.length cap := by
  obtain ⟨g, cap, rfl, _⟩ := h
  exact ⟨g, cap, rfl⟩
/-- The text, 128, and k zeros. -/
def pz (s : ByteArray) (k : Nat) : List Int := nums s ++ [128] ++ List.replicate k 0
theorem pz_len (s : ByteArray) (k : Nat) : (pz s k).length = s.size + 1 + k := by
  unfold pz
  rw [List.length_append, List.length_append, nums_len, List.length_replicate]
  rfl
theorem pz_next (s : ByteArray) (k : Nat) : pz s (k + 1) = pz s k ++ [0] := by
  unfold pz
  rw [List.replicate_succ', List.append_assoc, List.append_assoc, List.append_assoc]
theorem pz_str (s : ByteArray) (k : Nat) : strOfNums (pz s k) = s ++ strOfNums [128] ++ strOfNums (List.replicate k 0) := by
  unfold pz
  rw [strOfNums_app, strOfNums_app, strOfNums_nums']

def sliceLen : Value → Nat
  | .slice _ n _ => n
  | _ => 0

set_option maxRecDepth 100000 in
set_option maxHeartbeats 1600000 in
theorem spec_pad_yes (s : ByteArray) (hs : s.size ≤ 60000) (w : World) :
    Calls Try.prog 10 #[.string s] w fun e w' => e = .returned (.string (padP s)) ∧ Below w.heap.size w w' := by
  have HP : Hid (padP s = strOfNums (pz s (padZ s.size)) ++ strOfNums (wordBytes 0) ++ strOfNums (wordBytes (8 * s.size))) := hid (by rw [pz_str]; rfl)
  have HW0 : Hid (∀ q (x : Int), x = 0 → Calls Try.prog 17 #[.int .u32 x] q fun e w' => e = .returned (.string (strOfNums (wordBytes 0))) ∧ Below q.heap.size q w') := fun q x hx => by subst hx; exact spec_putWord 0 q (by decide) (by decide)
  have HW1 : Hid (∀ q (x : Int), x = 8 * s.size → Calls Try.prog 17 #[.int .u32 x] q fun e w' => e = .returned (.string (strOfNums (wordBytes (8 * s.size)))) ∧ Below q.heap.size q w') := fun q x hx => by subst hx; exact spec_putWord (8 * s.size) q (by omega) (by omega)
  have hconv := run_bytes_of_string (P := Try.prog) w 9 33 5 s Try.underlying9 Try.underlying33 Try.underlying5
  have O0 := hid (ownM_conv w s)
  have B0 : Hid (Below w.heap.size w (w.drew.alloc (.cells (bytesRow s (grownCap w s.size 0 5)) 5 ((bytesRow s (grownCap w s.size 0 5)).size, (bytesRow s (grownCap w s.size 0 5)).size + 1)))) := (belowN (Below.refl w.heap.size w) 1).alloc (Nat.le_refl _) _
  generalize w.drew.alloc (.cells (bytesRow s (grownCap w s.size 0 5)) 5 ((bytesRow s (grownCap w s.size 0 5)).size, (bytesRow s (grownCap w s.size 0 5)).size + 1)) = w0 at *
  generalize grownCap w s.size 0 5 = CP at *
  have HSZ := hid hs
  have hd : decide ((60000 : Int) < (s.size : Int)) = false := decide_eq_false (by omega)
  clear hs
  go_enter Try.func10, Try.ntmps10
  have hlen0 : Hid ((nums s).length < 1000000000000) := hid (by rw [nums_len]; have := HSZ.out; omega)
  go_wp2_with (at_builtin; refine wpList_pushM w0 rfl _ _ rfl w.heap.size B0.out.size (.slice (some ⟨w.heap.size, 0, none⟩) s.size CP) (nums s) rfl O0.out 128 rfl hlen0.out ?_)
  intro v1 w1 ho1 hb1
  have O1 : Hid (OwnM w1 w.heap.size v1 (pz s 0)) := hid (by unfold pz; simpa using ho1)
  have B1 := hid (B0.out.trans hb1)
  clear ho1 hb1 O0 B0 hconv
  go_wp2_with fail
  go_loopw [3] (fun v wr => ∃ k : Nat, k ≤ padZ s.size ∧ Hid (OwnM wr w.heap.size v (pz s k)) ∧ Hid (Below w.heap.size w wr)) (fun v _ => 200000 - sliceLen v)
  case atStart => exact ⟨0, Nat.zero_le _, O1.out, B1.out⟩
  case round =>
    clear O1 B1
    obtain ⟨k, hk, hown, hb⟩ := hrel
    obtain ⟨g, cp, rfl⟩ := hown.out.shape
    have HPL := hid (pz_len s k)
    have hkz : Hid (k ≤ padZ s.size) := hk
    by_cases hlt : k < padZ s.size
    · have hne : ((((pz s k).length : Int)) % 64 == 56) = false := by
        rw [HPL.out]
        unfold padZ at hlt
        simp only [beq_eq_false_iff_ne]
        omega
      have hl1 : Hid ((pz s k).length < 1000000000000) := hid (by rw [HPL.out]; unfold padZ at hlt; have := HSZ.out; omega)
      have HNX := hid (pz_next s k)
      have HPLT := hid hlt
      clear hlt hk
      have HO2 := hid hown.out
      go_wp2_with (at_builtin; refine wpList_pushM wr rfl _ _ rfl w.heap.size hb.out.size (.slice (some ⟨g, 0, none⟩) (pz s k).length cp) (pz s k) rfl HO2.out 0 rfl hl1.out ?_)
      intro v3 w3 ho3 hb3
      have O3 := hid ho3
      have B3 := hid (hb.out.trans hb3)
      obtain ⟨g3, c3, rfl⟩ := ho3.shape
      clear ho3 hb3
      go_wp2_with fail
      go_roundw
      case rel => exact ⟨k + 1, HPLT.out, by rw [HNX.out]; exact O3.out, B3.out⟩
      case measure =>
        have h1 := HPL.out
        have h2 := HSZ.out
        have h3 := HPLT.out
        unfold padZ at h3
        simp [sliceLen]
        omega
    · obtain rfl : k = padZ s.size := by omega
      have heq : ((((pz s (padZ s.size)).length : Int)) % 64 == 56) = true := by
        rw [HPL.out]
        unfold padZ
        simp only [beq_iff_eq]
        omega
      have HO := hid hown.out
      generalize hPZ : pz s (padZ s.size) = PZ at *
      clear hPZ hlt hk hown
      have z1 : (strOfNums PZ).size ≤ 60065 := by
        rw [strOfNums_size, HPL.out]
        have := HSZ.out
        unfold padZ
        omega
      have z3 : (strOfNums (wordBytes 0)).size = 4 := rfl
      have z4 : (strOfNums (wordBytes (8 * s.size))).size = 4 := rfl
      have HCV := fun q (hq : OwnM q w.heap.size (.slice (some ⟨g, 0, none⟩) PZ.length cp) PZ) => hq.conv
      generalize strOfNums PZ = c1 at *
      generalize strOfNums (wordBytes 0) = c3 at *
      generalize strOfNums (wordBytes (8 * s.size)) = c4 at *
      obtain ⟨x3, h3⟩ : ∃ x3, c1 ++ c3 = x3 := ⟨_, rfl⟩
      obtain ⟨x4, h4⟩ : ∃ x4, x3 ++ c4 = x4 := ⟨_, rfl⟩
      have HPP := hid (HP.out.trans (by rw [h3, h4]))
      have y3 : x3.size = c1.size + c3.size := by rw [← h3, ByteArray.size_append]
      have k3 : ¬ 9223372036854775807 < c1.size + c3.size := by omega
      have k4 : ¬ 9223372036854775807 < x3.size + c4.size := by omega
      obtain ⟨T, hT⟩ : ∃ T : Int, 8 * (s.size : Int) = T := ⟨_, rfl⟩
      have ET : Hid (wrap64 (8 * (s.size : Int)) = T) := hid (by have := HSZ.out; rw [w64 (by omega) (by omega)]; exact hT)
      have m0 : T % 4294967296 = T := by have := HSZ.out; omega
      have b0 : 0 ≤ T := by omega
      have b1 : T < 4294967296 := by have := HSZ.out; omega
      rw [hT] at HW1
      have cv0 := HCV wr.drew HO.out
      clear hT z1 z3 z4 y3 HP HPL HSZ hkz
      generalize PZ.length = PL at *
      go_wp2_with fail
      rw [ET.out]
      first
      | go_region_with (first
          | (go_at_call 17; refine (HW0.out _ _ (by first | rfl | (rw [IntKind.wrap_u32]; omega) | omega)).mono ?_; rintro e w4 ⟨rfl, hb4⟩
             have HB4 := hid hb4
             have HO4 := hid ((HO.out.drew 1).below (Nat.le_refl _) hb4)
             have cv4 := HCV w4 HO4.out)
          | (go_at_call 17; refine (HW1.out _ _ (by first | rfl | (rw [IntKind.wrap_u32]; omega) | omega)).mono ?_; rintro e w5 ⟨rfl, hb5⟩
             have HB5 := hid hb5
             have cv5 := HCV w5 (HO4.out.below (Nat.le_refl _) hb5)))
      | fail
      all_goals
        have b4 : Below w.heap.size w w4 := (belowN hb.out 1).trans (HB4.out.mono hb.out.size)
        have b5 : Below w.heap.size w w5 := b4.trans (HB5.out.mono b4.size)
        go_wp2_with fail
        go_ret
        exact ⟨ret_str HPP.out.symm, b5⟩
end Go.Proofs.Ytkeabkedbbjccaa
