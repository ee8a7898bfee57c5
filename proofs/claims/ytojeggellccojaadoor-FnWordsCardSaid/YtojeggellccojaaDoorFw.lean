/- The law FnWords walked. -/
import Derived.Test.YtojeggellccojaaDoorDw
import Derived.Test.YtojeggellccojaaDoorKt
import Derived.Test.YtojeggellccojaaDoorWt
import Derived.Test.YtojeggellccojaaDoorPw
import Derived.Deep.RegionWith
namespace Go.Proofs.YtojeggellccojaaDoor
open Go.RowKit
set_option linter.unusedVariables false

theorem words_no (s : ByteArray) (hs : ¬ s.size = 64) (hm : s.size ≤ 1048576) (w : World) :
    Calls Tryd.prog 17 #[.string s] w fun e w' => e = .returned (.slice (some ⟨w.heap.size, 0, none⟩) 0 0) ∧ Below w.heap.size w w' := by
  have h1 : ((s.size : Int) == 64) = false := by simp; omega
  clear hs hm
  go_enter Tryd.func17, Tryd.ntmps17
  go_wp2_with fail
  go_ret
  exact ⟨rfl, (Below.refl _ _).alloc (Nat.le_refl _) _⟩

theorem ws_get (s : ByteArray) (k : Nat) (hk : k < 16) : ∀ m, k < m → (ws s m).getD k 0 = wordAt s (4 * k)
  | 0, h => by omega
  | m + 1, h => by
    rw [ws]
    by_cases e : k = m
    · subst e
      have : (ws s k).length = k := ws_len s k
      simp [List.getD, this, nextW, hk]
    · rw [← ws_get s k hk m (by omega)]
      have : k < (ws s m).length := by rw [ws_len]; omega
      simp [List.getD, List.getElem?_append, this]
theorem byte_back (a : UInt8) : UInt8.ofNat ((a.toNat : Int)).toNat = a := by simp
theorem wordBytes_of (a b c d : UInt8) : wordBytes (wordOf a b c d) = [(a.toNat : Int), (b.toNat : Int), (c.toNat : Int), (d.toNat : Int)] := by
  have := byte_lt a
  have := byte_lt b
  have := byte_lt c
  have := byte_lt d
  unfold wordBytes wordOf
  simp only [List.cons.injEq, and_true]
  omega
theorem word_text (s : ByteArray) (k : Nat) (h : k + 4 ≤ s.size) : s.extract 0 k ++ strOfNums (wordBytes (wordAt s k)) = s.extract 0 (k + 4) := by
  have e : strOfNums (wordBytes (wordAt s k)) = s.extract k (k + 4) := by
    unfold wordAt
    rw [dif_pos h, wordBytes_of]
    apply ByteArray.ext_getElem
    · rw [strOfNums_size, ByteArray.size_extract]
      show 4 = _
      omega
    · intro i h1 h2
      rw [strOfNums_size] at h1
      have hi : i < 4 := h1
      rw [ByteArray.getElem_extract]
      obtain rfl | rfl | rfl | rfl : i = 0 ∨ i = 1 ∨ i = 2 ∨ i = 3 := by omega
      all_goals exact byte_back _
  rw [e, ByteArray.extract_append_extract]
  congr 1 <;> omega

theorem ext0 (s : ByteArray) : s.extract 0 (4 * 0) = ⟨#[]⟩ := by
  apply ByteArray.ext_getElem
  · rw [ByteArray.size_extract]
    show min (4 * 0) s.size - 0 = 0
    omega
  · intro i h1 h2
    exact absurd h2 (Nat.not_lt_zero _)

set_option maxRecDepth 100000 in
set_option maxHeartbeats 3200000 in
theorem law_fnWords (ao : Option Addr) (n cap : Nat) (zs : List Int) (w : World) (hr : IsRow .u8 w ao n cap zs) (hw : ConstsAt w) :
    Calls Tryd.prog 4 #[.slice ao n cap] w fun e w' => e = .returned (.bool true) ∧ Below w.heap.size w w' := by
  by_cases hl : (1048576 : Int) < (n : Int)
  · have hd : decide ((1048576 : Int) < (n : Int)) = true := by simpa using hl
    clear hr hw hl
    go_enter Tryd.func4, Tryd.ntmps4
    go_wp2_with (go_at_call 7; refine (big_any _ _ _ _).mono ?_; rw [hd]; rintro e w' ⟨rfl, rfl⟩)
    go_ret
    exact ⟨rfl, Below.refl _ _⟩
  · have hd : decide ((1048576 : Int) < (n : Int)) = false := by simpa using hl
    have HCD := hid (show Code w ao n (zs.take n) from ⟨by omega, hr.view, hr.wf⟩)
    have HW := hid hw
    clear hr hw hl
    go_enter Tryd.func4, Tryd.ntmps4
    go_wp2_with fail
    refine (big_any _ _ _ _).mono ?_
    rw [hd]
    rintro e w0 ⟨rfl, rfl⟩
    clear hd
    go_wp2_with fail
    refine (draw_words ao n cap _ w HCD.out).mono ?_
    rintro e w1 ⟨s, rfl, hs, hb1⟩
    have B1 := hid hb1
    have HSZ := hid hs
    clear hs hb1
    by_cases h64 : s.size = 64
    · have h64' : (s.size : Int) = 64 := by omega
      have H64 := hid h64
      clear h64
      go_wp2_with fail
      refine (impl_words s H64.out w1).mono ?_
      rintro e w2 ⟨v, rfl, ho, hb2⟩
      obtain ⟨g, cp, rfl⟩ := ho.at0 (by rw [ws_len]; omega)
      have hlen := ws_len s 64
      have hG := hid (fun j hj => ho.at j hj)
      have hgl := ho.ge.2
      rw [hlen] at hG ⊢
      have B2 := hid (B1.out.trans (hb2.mono B1.out.size))
      clear ho hb2 B1 hlen
      have HW16 := hid (fun k hk => ws_get s k hk 64 (by omega))
      have HWW := hid (fun j => getD_word (ws_word s 64) j)
      have HTX := hid (fun k (hk : k < 16) => word_text s (4 * k) (by have := H64.out; omega))
      go_wp2_with fail
      go_loopw [5, 6] (fun t i wr => ∃ k : Nat, k ≤ 16 ∧ i = .int .i64 k ∧ t = .string (s.extract 0 (4 * k)) ∧ Hid (Below w2.heap.size w2 wr)) (fun _ i _ => 16 - (intOf i).toNat)
      case atStart => exact ⟨0, by omega, rfl, by rw [ext0], Below.refl _ _⟩
      case round =>
        obtain ⟨k, hk, rfl, rfl, hb⟩ := hrel
        by_cases hlt : k < 16
        · have hlt' : (k : Int) < 16 := by omega
          have hlt2 : (k : Int) < 64 := by omega
          have cx : wr.cell? ⟨g, k, none⟩ = some (.int .u32 ((ws s 64).getD k 0)) := (hb.out.cell (p := ⟨g, k, none⟩) hgl).trans (hG.out k (by omega))
          have hwd := HWW.out k
          have HT := hid (HTX.out k hlt)
          rw [← HW16.out k hlt] at HT
          have HPW := hid (fun q => impl_putWord ((ws s 64).getD k 0) q hwd.1 (by have := hwd.2; omega))
          generalize (ws s 64).getD k 0 = XK at *
          have hz4 : (strOfNums (wordBytes XK)).size = 4 := rfl
          have hz0 : (s.extract 0 (4 * k)).size ≤ 64 := by rw [ByteArray.size_extract]; omega
          generalize strOfNums (wordBytes XK) = C4 at *
          have hNX := HT.out
          have hsz : ¬ 9223372036854775807 < (s.extract 0 (4 * k)).size + C4.size := by omega
          have HL := hid hlt
          have E4 : Hid (4 * k + 4 = 4 * (k + 1)) := hid (by omega)
          generalize s.extract 0 (4 * k) = TK at *
          clear hz4 hz0 hlt hk HT
          go_wp2_with fail
          refine (HPW.out _).mono ?_
          rintro e w4 ⟨rfl, hb4⟩
          have B4 := hid (hb.out.trans (hb4.mono hb.out.size))
          clear hb4
          go_wp2_with fail
          go_roundw
          case rel => exact ⟨k + 1, HL.out, by go_num, by rw [E4.out], B4.out⟩
          case measure => have := HL.out; simp [intOf]; omega
        · obtain rfl : k = 16 := by omega
          have hfull : s.extract 0 (4 * 16) = s := by
            rw [show 4 * 16 = s.size from H64.out.symm]
            exact ByteArray.extract_zero_size
          rw [hfull]
          clear hlt hk hfull
          go_wp2_with fail
          refine (spec_words s H64.out wr).mono ?_
          rintro e w5 ⟨v5, rfl, ho5, hb5⟩
          obtain ⟨g5, cp5, rfl⟩ := ho5.at0 (by rw [ws_len]; omega)
          have hlen := ws_len s 64
          have hG5 := hid (fun j hj => ho5.at j hj)
          have hgl5 := ho5.ge.2
          rw [hlen] at hG5 ⊢
          have B25 := hid (hb.out.trans (hb5.mono hb.out.size))
          clear ho5 hb5 hlen
          have hgl2 : g < w5.heap.size := Nat.lt_of_lt_of_le hgl B25.out.size
          have hGG : Hid (∀ j, j < 64 → w5.cell? ⟨g, j, none⟩ = some (.int .u32 ((ws s 64).getD j 0))) := fun j hj => (B25.out.cell (p := ⟨g, j, none⟩) hgl).trans (hG.out j hj)
          have B5 := hid (B2.out.trans (B25.out.mono B2.out.size))
          clear hG B2 B25 hb
          go_wp2_with fail
          go_loopw [8] (fun i wr => ∃ k : Nat, k ≤ 64 ∧ i = .int .i64 k ∧ Hid (Below w5.heap.size w5 wr)) (fun i _ => 64 - (intOf i).toNat)
          case atStart => exact ⟨0, by omega, rfl, Below.refl _ _⟩
          case round =>
            obtain ⟨k, hk, rfl, hb⟩ := hrel
            have BW := hid (B5.out.trans (hb.out.mono B5.out.size))
            have CW := hid (HW.out.below (Nat.le_refl _) BW.out)
            by_cases hlt : k < 64
            · have hlt' : (k : Int) < 64 := by omega
              have cx : wr.cell? ⟨g, k, none⟩ = some (.int .u32 ((ws s 64).getD k 0)) := (hb.out.cell (p := ⟨g, k, none⟩) hgl2).trans (hGG.out k hlt)
              have cy : wr.cell? ⟨g5, k, none⟩ = some (.int .u32 ((ws s 64).getD k 0)) := (hb.out.cell (p := ⟨g5, k, none⟩) hgl5).trans (hG5.out k hlt)
              have HKI := hid (impl_const k wr.drew CW.out)
              have HKS := hid (spec_const k wr.drew)
              generalize (ws s 64).getD k 0 = XK at *
              generalize kc (k : Int) = KK at *
              have HL := hid hlt
              clear hlt hk
              go_wp2_with fail
              go_region_with (first
                | (go_at_call 19; refine HKI.out.mono ?_; rintro e w6 ⟨rfl, rfl⟩)
                | (go_at_call 20; refine HKS.out.mono ?_; rintro e w7 ⟨rfl, hb7⟩))
              all_goals
                have B7 := hid (hb.out.trans ((Below.trans (below_drewN wr 1) hb7).mono hb.out.size))
                clear hb7
                go_wp2_with fail
                go_roundw
                case rel => exact ⟨k + 1, HL.out, by go_num, B7.out⟩
                case measure => have := HL.out; simp [intOf]; omega
            · obtain rfl : k = 64 := by omega
              have HKI := hid (impl_const 64 wr CW.out)
              have h0 : kc 64 = 0 := rfl
              rw [h0] at HKI
              clear hlt hk
              go_wp2_with fail
              refine HKI.out.mono ?_
              rintro e w8 ⟨rfl, rfl⟩
              go_wp2_with fail
              go_ret
              exact ⟨rfl, BW.out⟩
    · have h1 : ((s.size : Int) == 64) = false := by simp; omega
      have H64 := hid h64
      clear h64
      go_wp2_with fail
      refine (words_no s H64.out (by have := HSZ.out; omega) w1).mono ?_
      rintro e w2 ⟨rfl, hb2⟩
      have B2 := hid (B1.out.trans (hb2.mono B1.out.size))
      clear hb2
      go_wp2_with fail
      go_ret
      exact ⟨rfl, B2.out⟩
end Go.Proofs.YtojeggellccojaaDoor
