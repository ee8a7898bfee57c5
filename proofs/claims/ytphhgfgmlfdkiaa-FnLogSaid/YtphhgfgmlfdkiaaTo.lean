/- Contracts of the law's copies: toStringS, toWrite, toWriteS, toDisk. -/
import Derived.Test.YtphhgfgmlfdkiaaSz
namespace Go.Proofs.Ytphhgfgmlfdkiaa
open Go.RowKit
set_option linter.unusedVariables false

set_option maxHeartbeats 800000 in
theorem to_strings (ao : Option Addr) (cap : Nat) (S : List ByteArray) (w : World) (hn : S.length ≤ 1048576) (hv : Rw w ao (encS S)) :
    Calls Try.prog 65 #[.slice ao S.length cap] w fun e w' => ∃ v, e = .returned v ∧ OwG w' w.heap.size 9 1 v S.length (encS S) ∧ Below w.heap.size w w' := by
  have HV := hid hv
  clear hv
  go_enter Try.func65, Try.ntmps65
  go_wp2_with (at_make; refine wpList_mkS w rfl _ _ 24 rfl w.heap.size 9 16 Try.underlying24 Try.info9 _ _ _ _ S.length rfl rfl rfl rfl (by omega) (by decide) (Nat.le_refl _) ?_)
  intro w0 hown0 hb0 _
  go_wp2
  go_loopw [4] (fun i wr => ∃ (k : Nat) (ys : List ByteArray), k ≤ S.length ∧ i = .int .i64 k ∧ OwG wr w.heap.size 9 1 (.slice (some ⟨w.heap.size, 0, none⟩) S.length S.length) S.length (encS ys) ∧ Hid (ys.length = S.length ∧ ∀ j, j < k → sAt ys j = sAt S j) ∧ Hid (Below w.heap.size w wr)) (fun i _ => S.length - (intOf i).toNat)
  case atStart => exact ⟨0, _, by omega, rfl, hown0, ⟨by simp, fun j hj => by omega⟩, hb0⟩
  case round =>
    obtain ⟨k, ys, hk, rfl, hown, hys, hb⟩ := hrel
    clear hown0 hb0
    by_cases hlt : k < S.length
    · obtain ⟨b, off, rfl, hc⟩ := (HV.out.below (Nat.le_refl _) hb.out).atS k hlt
      obtain ⟨b', off', e', hold⟩ := hown.rw.atS k (by have := hys.out.1; omega)
      cases e'
      rw [Nat.zero_add] at hold
      have hfree := hown.free k
      have hnew := hown.store k (.string (sAt S k))
      rw [encS_set] at hnew
      have HNEW := hid hnew
      have HL := hid hys.out.1
      generalize hX : sAt S k = X at *
      have HX := hid hX
      generalize sAt ys k = Y at *
      clear hX hnew hown
      go_wp2
      go_roundw
      case rel =>
        refine ⟨k + 1, _, by omega, by go_num, HNEW.out, ⟨by simp; exact hys.out.1, fun j hj => ?_⟩, hb.out.setCell (p := ⟨w.heap.size, k, none⟩) (Nat.le_refl _) _⟩
        by_cases e : j = k
        · subst e
          rw [sAt_set_same _ _ _ (by rw [HL.out]; exact hlt), HX.out]
        · rw [sAt_set_ne _ _ _ _ (fun h => e h.symm), hys.out.2 j (by omega)]
      case measure => simp [intOf]; omega
    · obtain rfl : k = S.length := by omega
      have hxy : ys = S := s_ext hys.out.1 (fun i hi => hys.out.2 i (by rw [← hys.out.1]; exact hi))
      subst hxy
      go_wp2
      go_ret
      exact ⟨_, rfl, hown, hb.out⟩

set_option maxHeartbeats 800000 in
theorem to_write (x : Int) (s : ByteArray) (w : World) :
    Calls Try.prog 89 #[.agg #[.int .i64 x, .string s]] w fun e w' => e = .returned (.agg #[.int .i64 x, .string s]) ∧ Below w.heap.size w w' := by
  go_enter Try.func89, Try.ntmps89
  go_wp2
  refine bodyPost_ret (v := .agg #[.int .i64 x, .string s]) (by simp [results, Try.results89, go_sem]) rfl ⟨rfl, ?_⟩
  exact (((Below.refl w.heap.size w).alloc (Nat.le_refl _) _).alloc (by simp) _).alloc (by simp; omega) _

set_option maxHeartbeats 800000 in
theorem to_writes (ao : Option Addr) (cap : Nat) (L : List (Int × ByteArray)) (w : World) (hn : L.length ≤ 1048576) (hv : Rw w ao (encW L)) :
    Calls Try.prog 66 #[.slice ao L.length cap] w fun e w' => ∃ v, e = .returned v ∧ OwG w' w.heap.size 69 2 v L.length (encW L) ∧ Below w.heap.size w w' := by
  have HV := hid hv
  clear hv
  go_enter Try.func66, Try.ntmps66
  go_wp2_with (at_make; refine wpList_mkW w rfl _ _ 25 rfl w.heap.size 69 24 Try.underlying25 Try.info69 _ _ _ _ L.length rfl rfl rfl rfl (by omega) (by decide) (Nat.le_refl _) ?_)
  intro w0 hown0 hb0 _
  go_wp2
  go_loopw [4] (fun i wr => ∃ (k : Nat) (ys : List (Int × ByteArray)), k ≤ L.length ∧ i = .int .i64 k ∧ OwG wr w.heap.size 69 2 (.slice (some ⟨w.heap.size, 0, none⟩) L.length L.length) L.length (encW ys) ∧ Hid (ys.length = L.length ∧ ∀ j, j < k → lAt ys j = lAt L j) ∧ Hid (Below w.heap.size w wr)) (fun i _ => L.length - (intOf i).toNat)
  case atStart => exact ⟨0, _, by omega, rfl, hown0, ⟨by simp, fun j hj => by omega⟩, hb0⟩
  case round =>
    obtain ⟨k, ys, hk, rfl, hown, hys, hb⟩ := hrel
    clear hown0 hb0
    by_cases hlt : k < L.length
    · obtain ⟨b, off, rfl, hc1, hc2⟩ := (HV.out.below (Nat.le_refl _) hb.out).atW k hlt
      have HL := hid hys.out.1
      have HTW := hid (to_write (lAt L k).1 (lAt L k).2 wr)
      have HOWN := hid hown
      clear hown
      generalize hX : lAt L k = X at *
      have HX := hid hX
      clear hX
      obtain ⟨x, s⟩ := X
      simp only at hc1 hc2 HTW
      go_wp2_with fail
      refine HTW.out.mono ?_
      rintro e w1 ⟨rfl, hb1⟩
      have B1 := hid (hb.out.trans (hb1.mono hb.out.size))
      have hown1 := HOWN.out.below hb1
      clear hb1 hc1 hc2
      obtain ⟨b', off', e', old1, old2⟩ := hown1.rw.atW k (by have := HL.out; omega)
      cases e'
      rw [Nat.zero_add] at old1 old2
      have hfree1 := hown1.free (k * 2)
      have hfree2 := hown1.free (k * 2 + 1)
      have hnew := (hown1.store (k * 2) (.int .i64 x)).store (k * 2 + 1) (.string s)
      rw [encW_set ys k (x, s)] at hnew
      have HNEW := hid hnew
      generalize (lAt ys k).1 = Y1 at *
      generalize (lAt ys k).2 = Y2 at *
      clear hnew hown1
      go_wp2_with fail
      go_roundw
      case rel =>
        refine ⟨k + 1, _, by omega, by go_num, HNEW.out, ⟨by simp; exact hys.out.1, fun j hj => ?_⟩, (B1.out.setCell (p := ⟨w.heap.size, k * 2, none⟩) (Nat.le_refl _) _).setCell (p := ⟨w.heap.size, k * 2 + 1, none⟩) (Nat.le_refl _) _⟩
        by_cases e : j = k
        · subst e
          rw [lAt_set_same _ _ _ (by rw [HL.out]; exact hlt), HX.out]
        · rw [lAt_set_ne _ _ _ _ (fun h => e h.symm), hys.out.2 j (by omega)]
      case measure => simp [intOf]; omega
    · obtain rfl : k = L.length := by omega
      have hxy : ys = L := l_ext hys.out.1 (fun i hi => hys.out.2 i (by rw [← hys.out.1]; exact hi))
      subst hxy
      go_wp2
      go_ret
      exact ⟨_, rfl, hown, hb.out⟩

set_option maxHeartbeats 1600000 in
theorem to_disk (v : Value) (S : List ByteArray) (L : List (Int × ByteArray)) (w : World) (hs : Sm S L) (hv : DV w v S L) :
    Calls Try.prog 31 #[v] w fun e w' => ∃ v', e = .returned v' ∧ DO w' w.heap.size v' S L ∧ Below w.heap.size w w' := by
  obtain ⟨a, c, a', c', rfl, hr1, hr2⟩ := hv
  obtain ⟨n1, n2, n3, n4⟩ := new_three w [.slice a S.length c, .slice a' L.length c'] [.slice none 0 0, .slice none 0 0] [.slice none 0 0, .slice none 0 0] 53 27 27
  have N1 := hid n1
  have N2 := hid n2
  have N3 := hid n3
  have N4 := hid n4
  have R1 := hid (hr1.below (Nat.le_refl _) n4)
  have R2 := hid hr2
  have HS := hid hs
  clear n1 n2 n3 n4 hr1 hr2 hs
  go_enter Try.func31, Try.ntmps31
  go_wp2_with fail
  refine (to_strings a c S _ HS.out.1 R1.out).mono ?_
  generalize ((w.alloc _).alloc _).alloc _ = wa at *
  rintro e w1 ⟨va, rfl, ho1, hb1⟩
  obtain ⟨ao, cap, rfl, hp1, _⟩ := ho1.shape
  have hlt3 := N3.out.lt
  have M1 := hid ((N1.out.below hb1 N1.out.lt).other (a := ⟨w.heap.size + 1 + 1, 0, none⟩) (by show w.heap.size ≠ w.heap.size + 1 + 1; omega) (.slice ao S.length cap))
  have M2 := hid ((N2.out.below hb1 N2.out.lt).other (a := ⟨w.heap.size + 1 + 1, 0, none⟩) (by show w.heap.size + 1 ≠ w.heap.size + 1 + 1; omega) (.slice ao S.length cap))
  have M3 := hid ((N3.out.below hb1 N3.out.lt).set 0 (.slice ao S.length cap))
  have M4 := hid ((N4.out.trans (hb1.mono N4.out.size)).setCell (p := ⟨w.heap.size + 1 + 1, 0, none⟩) (by show w.heap.size ≤ w.heap.size + 1 + 1; omega) (.slice ao S.length cap))
  have HO1 := hid (ho1.setCell_below (a := ⟨w.heap.size + 1 + 1, 0, none⟩) hlt3 (.slice ao S.length cap))
  have K1 := (N1.out.below hb1 N1.out.lt).cell (i := 1) rfl
  have K3 := (N3.out.below hb1 N3.out.lt).cell (i := 0) rfl
  have F3 := (N3.out.below hb1 N3.out.lt).free 0
  have Q2 := hid (R2.out.below (Nat.le_refl _) M4.out)
  clear ho1 hb1 hp1 N1 N2 N3 N4 R1 R2
  go_wp2_with fail
  clear K1 K3 F3
  refine (to_writes a' c' L _ HS.out.2.2.1 Q2.out).mono ?_
  generalize w1.setCell _ _ = wb at *
  rintro e w2 ⟨vb, rfl, ho2, hb2⟩
  obtain ⟨bo, bap, rfl, _, _⟩ := ho2.shape
  have W1 := hid (M1.out.below hb2 M1.out.lt)
  have W2 := hid (M2.out.below hb2 M2.out.lt)
  have W3 := hid (M3.out.below hb2 M3.out.lt)
  have W4 := hid (M4.out.trans (hb2.mono M4.out.size))
  have HO2 := hid (HO1.out.below hb2)
  have HO3 := hid ho2
  have hltb := M3.out.lt
  clear ho2 hb2 M1 M2 M3 M4 HO1 Q2
  have c20 := W2.out.cell (i := 0) rfl
  have c21 := W2.out.cell (i := 1) rfl
  have f20 := W2.out.free 0
  have f21 := W2.out.free 1
  have c30 := W3.out.cell (i := 0) rfl
  have c31 := W3.out.cell (i := 1) rfl
  have f30 := W3.out.free 0
  have f31 := W3.out.free 1
  go_wp2_with fail
  refine bodyPost_ret (v := .agg #[.slice ao S.length cap, .slice bo L.length bap]) (by simp [results, Try.results31, go_sem, c20, c21]) rfl ⟨_, rfl, ⟨_, _, rfl, ?_, ?_⟩, ?_⟩
  · exact (((HO2.out.setCell_below (a := ⟨w.heap.size + 1 + 1, 1, none⟩) (by show w.heap.size + 1 + 1 < _; omega) _).setCell_below (a := ⟨w.heap.size + 1, 0, none⟩) (by show w.heap.size + 1 < _; omega) _).setCell_below (a := ⟨w.heap.size + 1, 1, none⟩) (by show w.heap.size + 1 < _; omega) _).mono (by omega)
  · exact (((HO3.out.setCell_below (a := ⟨w.heap.size + 1 + 1, 1, none⟩) (by show w.heap.size + 1 + 1 < _; omega) _).setCell_below (a := ⟨w.heap.size + 1, 0, none⟩) (by show w.heap.size + 1 < _; omega) _).setCell_below (a := ⟨w.heap.size + 1, 1, none⟩) (by show w.heap.size + 1 < _; omega) _).mono (by omega)
  · exact ((W4.out.setCell (p := ⟨w.heap.size + 1 + 1, 1, none⟩) (by show w.heap.size ≤ w.heap.size + 1 + 1; omega) _).setCell (p := ⟨w.heap.size + 1, 0, none⟩) (by show w.heap.size ≤ w.heap.size + 1; omega) _).setCell (p := ⟨w.heap.size + 1, 1, none⟩) (by show w.heap.size ≤ w.heap.size + 1; omega) _
end Go.Proofs.Ytphhgfgmlfdkiaa
