/- Contracts of the law's marks: markText, markStringS, markWriteS, heldStringS, heldWriteS, markDisk, heldDisk. -/
import Derived.Test.YtphhgfgmlfdkiaaSz
import Derived.Deep.WholeRow
import Derived.Deep.CutRange
namespace Go.Proofs.Ytphhgfgmlfdkiaa
open Go.RowKit
set_option linter.unusedVariables false

theorem get_some (l : List Value) (j : Nat) (h : j < l.length) : l[j]? = some (l.getD j (.bool false)) := by simp [List.getD, h]
/-- What stands behind the letter of a mark. -/
def mtF : Nat → Nat → ByteArray → ByteArray
  | 0, _, acc => acc
  | f + 1, k, acc => if k = 0 then acc else mtF f (k / 10) (strOfNums [48 + (k : Int) % 10] ++ acc)
theorem mtF_more : ∀ (f k : Nat) (acc : ByteArray), k ≤ f → mtF (f + 1) k acc = mtF f k acc
  | 0, k, acc, h => by
    have : k = 0 := by omega
    subst this
    rfl
  | f + 1, k, acc, h => by
    by_cases hk : k = 0
    · subst hk
      rfl
    · show (if k = 0 then acc else mtF (f + 1) (k / 10) _) = (if k = 0 then acc else mtF f (k / 10) _)
      rw [if_neg hk, if_neg hk]
      exact mtF_more f (k / 10) _ (by omega)
theorem mtF_far (k : Nat) (acc : ByteArray) : ∀ d, mtF (k + d) k acc = mtF k k acc
  | 0 => rfl
  | d + 1 => (mtF_more (k + d) k acc (by omega)).trans (mtF_far k acc d)
def mtG (k : Nat) (acc : ByteArray) : ByteArray := mtF k k acc
def mt (k : Int) : ByteArray := ByteArray.mk #[109] ++ mtG k.toNat (ByteArray.mk #[])
theorem mtG_zero (acc : ByteArray) : mtG 0 acc = acc := rfl
theorem mtG_pos (k : Nat) (acc : ByteArray) (h : 0 < k) : mtG k acc = mtG (k / 10) (strOfNums [48 + (k : Int) % 10] ++ acc) := by
  obtain ⟨f, rfl⟩ : ∃ f, k = f + 1 := ⟨k - 1, by omega⟩
  unfold mtG
  have h1 : mtF (f + 1) (f + 1) acc = mtF f ((f + 1) / 10) (strOfNums [48 + ((f + 1 : Nat) : Int) % 10] ++ acc) := by
    show (if f + 1 = 0 then acc else _) = _
    rw [if_neg (by omega)]
  rw [h1]
  have h2 : f = (f + 1) / 10 + (f - (f + 1) / 10) := by omega
  have h3 := mtF_far ((f + 1) / 10) (strOfNums [48 + ((f + 1 : Nat) : Int) % 10] ++ acc) (f - (f + 1) / 10)
  rw [← h2] at h3
  exact h3
theorem str_one (x : Int) : (strOfNums [x]).size = 1 := by simp [strOfNums, ByteArray.size]

set_option maxHeartbeats 800000 in
theorem mark_text (k : Int) (w : World) (h0 : 0 < k) (h1 : k ≤ 100000000) :
    Calls Try.prog 61 #[.int .i64 k] w fun e w' => e = .returned (.string (mt k)) ∧ Below w.heap.size w w' := by
  obtain ⟨n, rfl⟩ : ∃ n : Nat, k = n := ⟨k.toNat, by omega⟩
  have hnp : ¬ (n : Int) ≤ 0 := by omega
  have HR := hid (show mt (n : Int) = ByteArray.mk #[109] ++ mtG n (ByteArray.mk #[]) by unfold mt; rw [Int.toNat_natCast])
  generalize mt (n : Int) = R at *
  go_enter Try.func61, Try.ntmps61
  go_wp2
  go_loopw [0, 3] (fun q t wr => ∃ (m : Nat) (acc : ByteArray), q = .int .i64 m ∧ t = .string acc ∧ Hid (m + acc.size ≤ 100000000) ∧ Hid (R = ByteArray.mk #[109] ++ mtG m acc) ∧ Hid (Below w.heap.size w wr)) (fun q _ _ => (intOf q).toNat)
  case atStart => exact ⟨n, ByteArray.mk #[], rfl, rfl, hid (by show n + 0 ≤ _; omega), HR.out, Below.refl _ _⟩
  case round =>
    obtain ⟨m, acc, rfl, rfl, hsz, hR, hb⟩ := hrel
    clear HR
    by_cases hm : 0 < m
    · have hm' : (0 : Int) < (m : Int) := by omega
      have hmod : Int.tmod (m : Int) 10 = (m : Int) % 10 := Int.tmod_eq_emod_of_nonneg (by omega)
      have hdiv : Int.tdiv (m : Int) 10 = ((m / 10 : Nat) : Int) := by rw [Int.tdiv_eq_ediv_of_nonneg (by omega)]; omega
      have hr0 : 0 ≤ (m : Int) % 10 := by omega
      have hr1 : (m : Int) % 10 < 10 := by omega
      have HN := hid (show R = ByteArray.mk #[109] ++ mtG (m / 10) (strOfNums [48 + (m : Int) % 10] ++ acc) by rw [hR.out, mtG_pos m acc hm])
      have HS1 := hid (show m / 10 + (strOfNums [48 + (m : Int) % 10] ++ acc).size ≤ 100000000 by
        have := hsz.out
        rw [ByteArray.size_append, str_one]
        omega)
      have HM := hid (show m / 10 < m by omega)
      have hov : ¬ 9223372036854775807 < (strOfNums [48 + (m : Int) % 10]).size + acc.size := by have := hsz.out; rw [str_one]; omega
      have HO := hid (Own.conv (P := Try.prog) Try.underlying22 Try.underlying5 Try.underlying9 (show Own (wr.alloc (.cells #[.int .u8 (48 + (m : Int) % 10)] 5)) wr.heap.size 5 .u8 (.slice (some ⟨wr.heap.size, 0, none⟩) 1 1) [48 + (m : Int) % 10] from
        ⟨by simp, by simp, .inr ⟨wr.heap.size, 1, #[.int .u8 (48 + (m : Int) % 10)], rfl, Nat.le_refl _, heap_alloc_new wr _, Nat.le_refl _, by simp [maxLen], by simp, by simp⟩⟩))
      have HB1 := hid (hb.out.alloc hb.out.size (.cells #[.int .u8 (48 + (m : Int) % 10)] 5))
      have hm3 : m ≤ 100000000 := by have := hsz.out; omega
      clear hsz hR hb
      have ho := HO.out
      generalize (m : Int) % 10 = D at *
      generalize hT : strOfNums [48 + D] = T at *
      clear hT
      go_wp2
      go_roundw
      case rel => exact ⟨m / 10, _, val_int (by omega), rfl, HS1.out, HN.out, HB1.out⟩
      case measure => simp [intOf]; omega
    · obtain rfl : m = 0 := by omega
      have hR2 := hid hR.out
      rw [mtG_zero] at hR2
      have hov : ¬ 9223372036854775807 < (ByteArray.mk #[109]).size + acc.size := by have := hsz.out; show ¬ _ < 1 + acc.size; omega
      clear hR hsz
      go_wp2
      go_ret
      exact ⟨ret_str hR2.out.symm, hb.out⟩

/-- n marks from k on; n writes of marks. -/
def marksS (k : Int) : Nat → List ByteArray
  | 0 => []
  | n + 1 => marksS k n ++ [mt (k + n)]
def marksW (k : Int) : Nat → List (Int × ByteArray)
  | 0 => []
  | n + 1 => marksW k n ++ [(k + 2 * n, mt (k + 2 * n + 1))]
theorem marksS_len (k : Int) : ∀ n, (marksS k n).length = n
  | 0 => rfl
  | n + 1 => by rw [marksS, List.length_append, marksS_len k n]; rfl
theorem marksW_len (k : Int) : ∀ n, (marksW k n).length = n
  | 0 => rfl
  | n + 1 => by rw [marksW, List.length_append, marksW_len k n]; rfl
theorem marksS_at (k : Int) : ∀ n j, j < n → sAt (marksS k n) j = mt (k + j)
  | n + 1, j, h => by
    rw [marksS]
    by_cases e : j = n
    · subst e
      have := marksS_len k j
      simp [sAt, List.getD, this]
    · have hl := marksS_len k n
      have := marksS_at k n j (by omega)
      simp only [sAt, List.getD] at this ⊢
      rw [List.getElem?_append_left (by omega)]
      exact this
theorem marksW_at (k : Int) : ∀ n j, j < n → lAt (marksW k n) j = (k + 2 * j, mt (k + 2 * j + 1))
  | n + 1, j, h => by
    rw [marksW]
    by_cases e : j = n
    · subst e
      have := marksW_len k j
      simp [lAt, List.getD, this]
    · have hl := marksW_len k n
      have := marksW_at k n j (by omega)
      simp only [lAt, List.getD] at this ⊢
      rw [List.getElem?_append_left (by omega)]
      exact this

set_option maxHeartbeats 1600000 in
theorem mark_strings (v : Value) (base : Nat) (S : List ByteArray) (k : Int) (w : World) (hk : 0 < k) (hk2 : k ≤ 10000000) (hn : S.length ≤ 4194304) (hv : OwG w base 9 1 v S.length (encS S)) :
    Calls Try.prog 27 #[v, .int .i64 k] w fun e w' => e = .returned (.int .i64 (k + S.length)) ∧ OwG w' base 9 1 v S.length (encS (marksS k S.length)) ∧ w.grownBy w' v.ownBlock ∧ Below base w w' := by
  obtain ⟨ao, cap, rfl, hp, hc⟩ := hv.shape
  have hge := fun (a : Addr) (e : ao = some a) => (show base ≤ a.block ∧ a.block < w.heap.size by subst e; exact hv.ge)
  have HGE := hid hge
  have HP := hid hp
  have hbs := hv.1
  have HV := hid hv
  clear hge hv hp
  generalize hN : S.length = n at *
  have HN := hid hN
  clear hN
  go_enter Try.func27, Try.ntmps27
  go_wp2_with fail
  go_loopw [1, 5] (fun q i wr => ∃ (j : Nat) (ys : List ByteArray), j ≤ n ∧ i = .int .i64 j ∧ q = .int .i64 (k + j) ∧ Hid (OwG wr base 9 1 (.slice ao n cap) n (encS ys)) ∧ Hid (ys.length = n ∧ ∀ i, i < j → sAt ys i = mt (k + i)) ∧ Hid (w.grownBy wr (Value.slice ao n cap).ownBlock) ∧ Hid (Below base w wr)) (fun _ i _ => n - (intOf i).toNat)
  case atStart => exact ⟨0, S, by omega, rfl, val_int (by omega), HV.out, ⟨HN.out, fun i hi => by omega⟩, World.grownBy.refl _ _, Below.refl _ _⟩
  case round =>
    obtain ⟨j, ys, hj, rfl, rfl, hown, hys, hgr, hb⟩ := hrel
    by_cases hlt : j < n
    · obtain ⟨g, rfl⟩ := hown.out.addr (by omega)
      have HT := hid (mark_text (k + j) wr (by omega) (by omega))
      have hlt' : (j : Int) < (n : Int) := by omega
      have hkj : k + (j : Int) ≤ 100000000 := by omega
      have hkj0 : 0 ≤ k + (j : Int) := by omega
      generalize hM : mt (k + j) = M at *
      have HM := hid hM
      clear hM
      go_wp2_with fail
      refine HT.out.mono ?_
      rintro e w1 ⟨rfl, hb1⟩
      have ho1 := hown.out.below hb1
      obtain ⟨b', off', e', hold⟩ := ho1.rw.atS j (by have := hys.out.1; omega)
      cases e'
      rw [Nat.zero_add] at hold
      have hfr := ho1.free j
      have hnew := ho1.store j (.string M)
      rw [encS_set] at hnew
      have HNEW := hid hnew
      have G1 := hid (hgr.out.trans (show wr.grownBy w1 (Value.slice (some ⟨g, 0, none⟩) n cap).ownBlock from ⟨hb1.os, hb1.tape, hb1.output, hb1.size, fun k hk _ => hb1.block k hk⟩))
      have G2 : Hid (w.grownBy (w1.setCell ⟨g, j, none⟩ (.string M)) (some g)) := hid ⟨G1.out.os, G1.out.tape, G1.out.output, by have := G1.out.size; simpa [World.setCell] using this, fun q hq hne => (Below.heap_setCell _ _ _ _ (fun e => hne (by rw [e]))).trans (G1.out.block q hq hne)⟩
      have hgb := (HGE.out _ rfl).1
      have B1 := hid ((hb.out.trans (hb1.mono hown.out.1)).setCell (p := ⟨g, j, none⟩) hgb (.string M))
      clear hnew ho1 hb1 G1
      generalize sAt ys j = Y at *
      go_wp2_with fail
      go_roundw
      case rel =>
        refine ⟨j + 1, _, by omega, by go_num, val_int (by omega), HNEW.out, ⟨by simp; exact hys.out.1, fun i hi => ?_⟩, G2.out, B1.out⟩
        by_cases e : i = j
        · subst e
          rw [sAt_set_same _ _ _ (by rw [hys.out.1]; exact hlt), HM.out]
        · rw [sAt_set_ne _ _ _ _ (fun h => e h.symm), hys.out.2 i (by omega)]
      case measure => simp [intOf]; omega
    · obtain rfl : j = n := by omega
      have hxy : ys = marksS k j := s_ext (by rw [marksS_len]; exact hys.out.1) (fun i hi => by
        rw [marksS_at k j i (by rw [← hys.out.1]; exact hi)]
        exact hys.out.2 i (by rw [← hys.out.1]; exact hi))
      subst hxy
      go_wp2_with fail
      go_ret
      exact ⟨rfl, hown.out, hgr.out, hb.out⟩

set_option maxHeartbeats 1600000 in
theorem mark_writes (v : Value) (base : Nat) (L : List (Int × ByteArray)) (k : Int) (w : World) (hk : 0 < k) (hk2 : k ≤ 10000000) (hn : L.length ≤ 4194304) (hv : OwG w base 69 2 v L.length (encW L)) :
    Calls Try.prog 68 #[v, .int .i64 k] w fun e w' => e = .returned (.int .i64 (k + 2 * L.length)) ∧ OwG w' base 69 2 v L.length (encW (marksW k L.length)) ∧ w.grownBy w' v.ownBlock ∧ Below base w w' := by
  obtain ⟨ao, cap, rfl, hp, hc⟩ := hv.shape
  have hge := fun (a : Addr) (e : ao = some a) => (show base ≤ a.block ∧ a.block < w.heap.size by subst e; exact hv.ge)
  have HGE := hid hge
  have HP := hid hp
  have hbs := hv.1
  have HV := hid hv
  clear hge hv hp
  generalize hN : L.length = n at *
  have HN := hid hN
  clear hN
  go_enter Try.func68, Try.ntmps68
  go_wp2_with fail
  go_loopw [1, 5] (fun q i wr => ∃ (j : Nat) (ys : List (Int × ByteArray)), j ≤ n ∧ i = .int .i64 j ∧ q = .int .i64 (k + 2 * j) ∧ Hid (OwG wr base 69 2 (.slice ao n cap) n (encW ys)) ∧ Hid (ys.length = n ∧ ∀ i, i < j → lAt ys i = (k + 2 * i, mt (k + 2 * i + 1))) ∧ Hid (w.grownBy wr (Value.slice ao n cap).ownBlock) ∧ Hid (Below base w wr)) (fun _ i _ => n - (intOf i).toNat)
  case atStart => exact ⟨0, L, by omega, rfl, val_int (by omega), HV.out, ⟨HN.out, fun i hi => by omega⟩, World.grownBy.refl _ _, Below.refl _ _⟩
  case round =>
    obtain ⟨j, ys, hj, rfl, rfl, hown, hys, hgr, hb⟩ := hrel
    by_cases hlt : j < n
    · obtain ⟨g, rfl⟩ := hown.out.addr (by omega)
      have hlt' : (j : Int) < (n : Int) := by omega
      have hkj : k + 2 * (j : Int) ≤ 100000000 := by omega
      have hkj0 : 0 < k + 2 * (j : Int) := by omega
      obtain ⟨b', off', e', hold, hold2⟩ := hown.out.rw.atW j (by have := hys.out.1; omega)
      cases e'
      rw [Nat.zero_add] at hold hold2
      have hfr := hown.out.free (j * 2)
      have HT := hid (fun q => mark_text (k + 2 * j + 1) q (by omega) (by omega))
      have hst := hown.out.store (j * 2) (.int .i64 (k + 2 * j))
      have HST := hid hst
      have hgb := (HGE.out _ rfl).1
      have B0 := hid (hb.out.setCell (p := ⟨g, j * 2, none⟩) hgb (.int .i64 (k + 2 * j)))
      have G0 : Hid (w.grownBy (wr.setCell ⟨g, j * 2, none⟩ (.int .i64 (k + 2 * j))) (some g)) := hid ⟨hgr.out.os, hgr.out.tape, hgr.out.output, by have := hgr.out.size; simpa [World.setCell] using this, fun q hq hne => (Below.heap_setCell _ _ _ _ (fun e => hne (by rw [e]))).trans (hgr.out.block q hq hne)⟩
      have HL := hid hys.out.1
      generalize hM : mt (k + 2 * j + 1) = M at *
      have HM := hid hM
      clear hM hst hown hgr hb
      generalize (lAt ys j).1 = Y1 at *
      generalize (lAt ys j).2 = Y2 at *
      generalize hK : k + 2 * (j : Int) = K at *
      have HK := hid hK
      clear hK
      go_wp2_with fail
      refine (HT.out _).mono ?_
      generalize wr.setCell ⟨g, j * 2, none⟩ (.int .i64 K) = wa at *
      rintro e w1 ⟨rfl, hb1⟩
      have ho1 := HST.out.below hb1
      obtain ⟨b', off', e', ha2⟩ := ho1.rw (j * 2 + 1) (((encW ys).set (j * 2) (.int .i64 K)).getD (j * 2 + 1) (.bool false)) (get_some _ _ (by rw [List.length_set, encW_len, HL.out]; omega))
      cases e'
      rw [Nat.zero_add] at ha2
      have hfr2 := ho1.free (j * 2 + 1)
      have hnew := ho1.store (j * 2 + 1) (.string M)
      rw [encW_set ys j (K, M)] at hnew
      have HNEW := hid hnew
      have G1 := hid (G0.out.trans (show wa.grownBy w1 (some g) from ⟨hb1.os, hb1.tape, hb1.output, hb1.size, fun k hk _ => hb1.block k hk⟩))
      have G2 : Hid (w.grownBy (w1.setCell ⟨g, j * 2 + 1, none⟩ (.string M)) (some g)) := hid ⟨G1.out.os, G1.out.tape, G1.out.output, by have := G1.out.size; simpa [World.setCell] using this, fun q hq hne => (Below.heap_setCell _ _ _ _ (fun e => hne (by rw [e]))).trans (G1.out.block q hq hne)⟩
      have B1 := hid ((B0.out.trans (hb1.mono HST.out.1)).setCell (p := ⟨g, j * 2 + 1, none⟩) hgb (.string M))
      clear hnew ho1 hb1 G1 hold hold2 hfr
      generalize ((encW ys).set (j * 2) (.int .i64 K)).getD (j * 2 + 1) (.bool false) = Y3 at *
      go_wp2_with fail
      go_roundw
      case rel =>
        refine ⟨j + 1, _, by omega, by go_num, val_int (by have := HK.out; omega), HNEW.out, ⟨by simp; exact HL.out, fun i hi => ?_⟩, G2.out, B1.out⟩
        by_cases e : i = j
        · subst e
          rw [lAt_set_same _ _ _ (by rw [HL.out]; exact hlt), HK.out, ← HM.out]
        · rw [lAt_set_ne _ _ _ _ (fun h => e h.symm), hys.out.2 i (by omega)]
      case measure => simp [intOf]; omega
    · obtain rfl : j = n := by omega
      have hxy : ys = marksW k j := l_ext (by rw [marksW_len]; exact hys.out.1) (fun i hi => by
        rw [marksW_at k j i (by rw [← hys.out.1]; exact hi)]
        exact hys.out.2 i (by rw [← hys.out.1]; exact hi))
      subst hxy
      go_wp2_with fail
      go_ret
      exact ⟨rfl, hown.out, hgr.out, hb.out⟩

set_option maxHeartbeats 1600000 in
theorem held_strings (ao : Option Addr) (cap n : Nat) (k : Int) (w : World) (hk : 0 < k) (hk2 : k ≤ 10000000) (hn : n ≤ 4194304) (hv : Rw w ao (encS (marksS k n))) :
    Calls Try.prog 28 #[.slice ao n cap, .int .i64 k] w fun e w' => e = .returned (.int .i64 (k + n)) ∧ Below w.heap.size w w' := by
  have HV := hid hv
  clear hv
  go_enter Try.func28, Try.ntmps28
  go_wp2_with fail
  go_loopw [1, 5] (fun q i wr => ∃ j : Nat, j ≤ n ∧ i = .int .i64 j ∧ q = .int .i64 (k + j) ∧ Hid (Below w.heap.size w wr)) (fun _ i _ => n - (intOf i).toNat)
  case atStart => exact ⟨0, by omega, rfl, val_int (by omega), Below.refl _ _⟩
  case round =>
    obtain ⟨j, hj, rfl, rfl, hb⟩ := hrel
    by_cases hlt : j < n
    · obtain ⟨b, off, rfl, hc⟩ := (HV.out.below (Nat.le_refl _) hb.out).atS j (by rw [marksS_len]; exact hlt)
      rw [marksS_at k n j hlt] at hc
      have hlt' : (j : Int) < (n : Int) := by omega
      have hkj : k + (j : Int) ≤ 100000000 := by omega
      have hkj0 : 0 ≤ k + (j : Int) := by omega
      have HT := hid (fun q => mark_text (k + j) q (by omega) (by omega))
      generalize mt (k + j) = M at *
      have HC := hid (fun q (hq : Below wr.heap.size wr q) => (hq.cell (p := ⟨b, off + j, none⟩) (World.block_lt_of_cell? wr _ hc)).trans hc)
      go_wp2_with fail
      go_cut [18] from 12 to 18 (fun s wx => s = .bool false ∧ Below wr.heap.size wr wx)
      case first =>
        go_region_with (go_at_call 61; refine (HT.out _).mono ?_
                        rintro e w2 ⟨rfl, hb2⟩
                        have hc2 : Below wr.heap.size wr w2 := by first | exact hb2 | exact Below.trans (Below.refl _ _).drew hb2 | exact Below.trans (Below.refl _ _).drew.drew hb2
                        have hq2 := HC.out w2 hc2)
        all_goals
          go_wp2_with fail
          go_meet
          first | exact ⟨rfl, hc2⟩ | exact ⟨rfl, hc2.drew⟩
      case rest =>
        obtain ⟨rfl, hb9⟩ := hcut
        have B9 := hid (hb.out.trans (hb9.mono hb.out.size))
        clear hb9
        go_wp2_with fail
        go_roundw
        case rel => exact ⟨j + 1, by omega, by go_num, val_int (by omega), B9.out⟩
        case measure => simp [intOf]; omega
    · obtain rfl : j = n := by omega
      go_wp2_with fail
      go_ret
      exact ⟨rfl, hb.out⟩

set_option maxHeartbeats 1600000 in
theorem held_writes (ao : Option Addr) (cap n : Nat) (k : Int) (w : World) (hk : 0 < k) (hk2 : k ≤ 10000000) (hn : n ≤ 4194304) (hv : Rw w ao (encW (marksW k n))) :
    Calls Try.prog 69 #[.slice ao n cap, .int .i64 k] w fun e w' => e = .returned (.int .i64 (k + 2 * n)) ∧ Below w.heap.size w w' := by
  have HV := hid hv
  clear hv
  go_enter Try.func69, Try.ntmps69
  go_wp2_with fail
  go_loopw [1, 5] (fun q i wr => ∃ j : Nat, j ≤ n ∧ i = .int .i64 j ∧ q = .int .i64 (k + 2 * j) ∧ Hid (Below w.heap.size w wr)) (fun _ i _ => n - (intOf i).toNat)
  case atStart => exact ⟨0, by omega, rfl, val_int (by omega), Below.refl _ _⟩
  case round =>
    obtain ⟨j, hj, rfl, rfl, hb⟩ := hrel
    by_cases hlt : j < n
    · obtain ⟨b, off, rfl, hc1, hc2⟩ := (HV.out.below (Nat.le_refl _) hb.out).atW j (by rw [marksW_len]; exact hlt)
      rw [marksW_at k n j hlt] at hc1 hc2
      simp only at hc1 hc2
      have hlt' : (j : Int) < (n : Int) := by omega
      have HT := hid (fun q => mark_text (k + 2 * j + 1) q (by omega) (by omega))
      have hkj : k + 2 * (j : Int) ≤ 100000000 := by omega
      have hkj0 : 0 ≤ k + 2 * (j : Int) := by omega
      generalize mt (k + 2 * j + 1) = M at *
      have HC := hid (fun q (hq : Below wr.heap.size wr q) => (hq.cell (p := ⟨b, off + j * 2 + 1, none⟩) (World.block_lt_of_cell? wr _ hc2)).trans hc2)
      generalize hK : k + 2 * (j : Int) = K at *
      have HK := hid hK
      clear hK
      go_wp2_with fail
      go_cut [28] from 21 to 28 (fun s wx => s = .bool false ∧ Below wr.heap.size wr wx)
      case first =>
        go_region_with (go_at_call 61; refine (HT.out _).mono ?_
                        rintro e w2 ⟨rfl, hb2⟩
                        have hc2 : Below wr.heap.size wr w2 := by first | exact hb2 | exact Below.trans (Below.refl _ _).drew hb2 | exact Below.trans (Below.refl _ _).drew.drew hb2
                        have hq2 := HC.out w2 hc2)
        all_goals
          go_wp2_with fail
          go_meet
          first | exact ⟨rfl, hc2⟩ | exact ⟨rfl, hc2.drew⟩
      case rest =>
        obtain ⟨rfl, hb9⟩ := hcut
        have B9 := hid (hb.out.trans (hb9.mono hb.out.size))
        clear hb9
        go_wp2_with fail
        go_roundw
        case rel => exact ⟨j + 1, by omega, by go_num, val_int (by have := HK.out; omega), B9.out⟩
        case measure => simp [intOf]; omega
    · obtain rfl : j = n := by omega
      go_wp2_with fail
      go_ret
      exact ⟨rfl, hb.out⟩

/-- Of what was there only the own blocks of two slices have turned. -/
def Fr (va vb : Value) (w w' : World) : Prop := w.heap.size ≤ w'.heap.size ∧ ∀ g, g < w.heap.size → some g ≠ va.ownBlock → some g ≠ vb.ownBlock → w'.heap[g]? = w.heap[g]?
theorem OwG.fr {va vb : Value} {w w' : World} {base e sz : Nat} {v : Value} {n : Nat} {cs : List Value} (h : OwG w base e sz v n cs) (hf : Fr va vb w w') (ha : ∀ g, va.ownBlock = some g → g < base) (hb : ∀ g, vb.ownBlock = some g → g < base) : OwG w' base e sz v n cs := by
  refine ⟨Nat.le_trans h.1 hf.1, h.2.1, ?_⟩
  rcases h.2.2 with h0 | ⟨g, cap, cur, hv, hg', hh, r⟩
  · exact .inl h0
  · refine .inr ⟨g, cap, cur, hv, hg', (hf.2 g (Array.getElem?_eq_some_iff.1 hh).1 (fun e => ?_) (fun e => ?_)).trans hh, r⟩
    · have := ha g e.symm; omega
    · have := hb g e.symm; omega
theorem DO.fr {va vb : Value} {w w' : World} {base : Nat} {v : Value} {S : List ByteArray} {L : List (Int × ByteArray)} (h : DO w base v S L) (hf : Fr va vb w w') (ha : ∀ g, va.ownBlock = some g → g < base) (hb : ∀ g, vb.ownBlock = some g → g < base) : DO w' base v S L := by
  obtain ⟨x, y, e, h1, h2⟩ := h
  exact ⟨x, y, e, h1.fr hf ha hb, h2.fr hf ha hb⟩

set_option maxHeartbeats 1600000 in
theorem mark_disk (va vb : Value) (base : Nat) (S : List ByteArray) (L : List (Int × ByteArray)) (k : Int) (w : World) (hk : 0 < k) (hk2 : k ≤ 4000000) (h1 : S.length ≤ 2097152) (h2 : L.length ≤ 2097152) (hv : OwG w base 9 1 va S.length (encS S)) (hv2 : OwG w base 69 2 vb L.length (encW L)) :
    Calls Try.prog 33 #[.agg #[va, vb], .int .i64 k] w fun e w' => e = .returned (.int .i64 (k + S.length + 2 * L.length)) ∧ DO w' base (.agg #[va, vb]) (marksS k S.length) (marksW (k + S.length) L.length) ∧ Fr va vb w w' ∧ Below base w w' := by
  obtain ⟨ao, cap, rfl, hp, hc⟩ := hv.shape
  obtain ⟨bo, bap, rfl, hp2, hc2⟩ := hv2.shape
  have HA := hid (hv.apart hv2 (by decide))
  have HB0 := hid ((Below.refl w.heap.size w).alloc (Nat.le_refl _) (.cells #[.slice ao S.length cap, .slice bo L.length bap] 27))
  have HN := hid (Blk.new w [.slice ao S.length cap, .slice bo L.length bap] 27)
  have HV := hid (hv.below HB0.out)
  have HV2 := hid (hv2.below HB0.out)
  have HBs := hid hv.1
  have HLT1 := hid hv.2.lt
  have HLT2 := hid hv2.2.lt
  clear hv hv2 hp hp2
  go_enter Try.func33, Try.ntmps33
  go_wp2_with fail
  refine (mark_strings _ base S k _ hk (by omega) (by omega) HV.out).mono ?_
  have HBA := hid (show Below base w (w.alloc (.cells #[.slice ao S.length cap, .slice bo L.length bap] 27)) from (Below.refl base w).alloc HBs.out _)
  generalize w.alloc _ = wa at *
  rintro e w1 ⟨rfl, ho1, hg1, hb1⟩
  have HN1 := hid (HN.out.kept hg1 (fun e => by have := (HLT1.out w.heap.size e.symm).2; omega))
  have HV3 := hid (HV2.out.kept hg1 (fun g hg e => (HV2.out.apart HV.out (by decide) g hg) e))
  have c1 := HN1.out.cell (i := 1) rfl
  have HO1 := hid ho1
  have HG1 := hid hg1
  have HB1 := hid (HBA.out.trans hb1)
  have HK1 : 0 < k + (S.length : Int) := by omega
  have HK2 : k + (S.length : Int) ≤ 10000000 := by omega
  clear ho1 hg1 hb1
  go_wp2_with fail
  refine (mark_writes _ base L (k + S.length) _ HK1 HK2 (by omega) HV3.out).mono ?_
  rintro e w2 ⟨rfl, ho2, hg2, hb2⟩
  have HO2 := hid ho2
  have HO3 := hid (HO1.out.kept hg2 (fun g hg e => (HO1.out.apart HV3.out (by decide) g hg) e))
  have HB2 := hid (HB1.out.trans hb2)
  have HF : Hid (Fr (.slice ao S.length cap) (.slice bo L.length bap) w w2) := hid ⟨HB2.out.size, fun g hg n1 n2 => ((hg2.block g (Nat.lt_of_lt_of_le hg HB1.out.size) n2).trans (HG1.out.block g (Nat.lt_of_lt_of_le hg HB0.out.size) n1)).trans (HB0.out.block g hg)⟩
  clear ho2 hg2 hb2 c1
  go_wp2_with fail
  go_ret
  exact ⟨rfl, ⟨_, _, rfl, by rw [marksS_len]; exact HO3.out, by rw [marksW_len]; exact HO2.out⟩, HF.out, HB2.out⟩

set_option maxHeartbeats 1600000 in
theorem held_disk (v : Value) (n m : Nat) (k : Int) (w : World) (hk : 0 < k) (hk2 : k ≤ 4000000) (h1 : n ≤ 2097152) (h2 : m ≤ 2097152) (hv : DV w v (marksS k n) (marksW (k + n) m)) :
    Calls Try.prog 35 #[v, .int .i64 k] w fun e w' => e = .returned (.int .i64 (k + n + 2 * m)) ∧ Below w.heap.size w w' := by
  obtain ⟨a, c, a', c', rfl, r1, r2⟩ := hv
  rw [marksS_len, marksW_len]
  have HB0 := hid ((Below.refl w.heap.size w).alloc (Nat.le_refl _) (.cells #[.slice a n c, .slice a' m c'] 27))
  have HN := hid (Blk.new w [.slice a n c, .slice a' m c'] 27)
  have HC := hid (held_strings a c n k (w.alloc (.cells #[.slice a n c, .slice a' m c'] 27)) hk (by omega) (by omega) (r1.below (Nat.le_refl _) HB0.out))
  have HR := hid r2
  clear r1 r2
  go_enter Try.func35, Try.ntmps35
  go_wp2_with fail
  refine HC.out.mono ?_
  clear HC
  generalize w.alloc _ = wa at *
  rintro e w1 ⟨rfl, hb1⟩
  have c1 := (HN.out.below hb1 HN.out.lt).cell (i := 1) rfl
  have HB1 := hid (HB0.out.trans (hb1.mono HB0.out.size))
  have HK1 : 0 < k + (n : Int) := by omega
  have HK2 : k + (n : Int) ≤ 10000000 := by omega
  have hng : ¬ k + (n : Int) < 0 := by omega
  clear hb1 HN
  go_wp2_with fail
  refine (held_writes a' c' m (k + n) _ HK1 HK2 (by omega) (HR.out.below (Nat.le_refl _) HB1.out)).mono ?_
  rintro e w2 ⟨rfl, hb2⟩
  have HB2 := hid (HB1.out.trans (hb2.mono HB1.out.size))
  have hng2 : ¬ k + (n : Int) + 2 * (m : Int) < 0 := by omega
  clear hb2 c1
  go_wp2_with fail
  go_ret
  exact ⟨rfl, HB2.out⟩
end Go.Proofs.Ytphhgfgmlfdkiaa
