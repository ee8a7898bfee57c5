/- ReaderStart of both sides. -/
import Derived.Test.YtokmkijpfmopiaaCo
import Derived.Deep.RegionHeld3
import Derived.BigRegion
namespace Go.Proofs.Ytokmkijpfmopiaa
open Go.RowKit
set_option linter.unusedVariables false

/-- A reader as a value. -/
def rV (lo hi co : Int) (s : ByteArray) (i : Int) : Value := .agg #[.int .u32 lo, .int .u32 hi, .int .u32 co, .string s, .int .i64 i]
/-- A reader's cells. -/
def rCs (lo hi co : Int) (s : ByteArray) (i : Int) : List Value := [.int .u32 lo, .int .u32 hi, .int .u32 co, .string s, .int .i64 i]

theorem byteAt_in (s : ByteArray) (k : Nat) (h : k < s.size) : byteAt s (k : Int) = (s[k].toNat : Int) := by
  unfold byteAt
  rw [if_pos ⟨by omega, by omega⟩]
  have e : s.data.getD ((k : Int).toNat) 0 = s[k] := by
    have h' : k < s.data.size := h
    simp only [Int.toNat_natCast, Array.getD, h', dif_pos]
    rfl
  rw [e]
theorem byteAt_out (s : ByteArray) (k : Int) (h : k < 0 ∨ (s.size : Int) ≤ k) : byteAt s k = 0 := by
  unfold byteAt
  rw [if_neg (by omega)]

theorem orByte (x y : Int) (h0 : 0 ≤ x) (h : x % 256 = 0) (h1 : x < 4294967296) (hy0 : 0 ≤ y) (hy1 : y < 256) : bits .or .u32 x y = x + y :=
  bits_join .u32 32 (by decide) (fun n h0 h1 => by rw [IntKind.wrap_u32]; omega) 8 x y h0 h h1 hy0 hy1 (by omega)

set_option maxRecDepth 100000 in
set_option maxHeartbeats 1600000 in
theorem fill_any (b : Nat) (lo hi co : Int) (s : ByteArray) (i : Nat) (w : World) (hc : W32 co) (hi9 : i ≤ 1000000) (hB : Blk w b (rCs lo hi co s i) 58) :
    Calls Try.prog 36 #[.pointer (some ⟨b, 0, none⟩)] w fun e w' => e = .returned (.tuple #[]) ∧ Blk w' b (rCs lo hi (co % 16777216 * 256 + byteAt s i) s (i + 1 : Nat)) 58 ∧ Ef b w w' := by
  have q2 : w.cell? ⟨b, 2, none⟩ = some (.int .u32 co) := hB.cell rfl
  have q3 : w.cell? ⟨b, 3, none⟩ = some (.string s) := hB.cell rfl
  have q4 : w.cell? ⟨b, 4, none⟩ = some (.int .i64 i) := hB.cell rfl
  have z2 := hB.free 2
  have z4 := hB.free 4
  have c0 := hc.1
  have c1 := hc.2
  have HB := hid hB
  clear hc hB
  by_cases h : i < s.size
  · have HV : Hid (bits .or .u32 (co * 256 % 4294967296) (s[i].toNat : Int) = co % 16777216 * 256 + byteAt s i) := by
      have hb := byte_lt s[i]
      show _ = _
      rw [byteAt_in s i h, orByte _ _ (by omega) (by omega) (by omega) (by omega) hb]
      omega
    have hlt : (i : Int) < (s.size : Int) := by omega
    have hb0 : (0 : Int) ≤ (s[i].toNat : Int) := by omega
    have hb1 := byte_lt s[i]
    go_enter Try.func36, Try.ntmps36
    go_wp2_with fail
    go_quiet (fail)
    go_wp2_with fail
    go_region
    all_goals
      go_wp2_with fail
      go_end0
      rw [HV.out]
      refine ⟨rfl, ?_, ?_⟩
      · exact ((HB.out.set 2 (.int .u32 (co * 256 % 4294967296))).set 2 (.int .u32 (co % 16777216 * 256 + byteAt s i))).set 4 (.int .i64 ((i + 1 : Nat) : Int))
      · exact ((Ef.set w 2 _).drewN _).trans ((Ef.set _ 2 _).trans (Ef.set _ 4 _))
  · have HV : Hid (co * 256 % 4294967296 = co % 16777216 * 256 + byteAt s i) := by
      show _ = _
      rw [byteAt_out s i (by omega)]
      omega
    have hge : ¬ (i : Int) < (s.size : Int) := by omega
    clear h
    go_enter Try.func36, Try.ntmps36
    go_wp2_with fail
    go_quiet (fail)
    go_wp2_with fail
    go_end0
    rw [HV.out]
    refine ⟨rfl, ?_, ?_⟩
    · exact (HB.out.set 2 (.int .u32 (co % 16777216 * 256 + byteAt s i))).set 4 (.int .i64 ((i + 1 : Nat) : Int))
    · exact ((Ef.set w 2 _).drewN _).trans (Ef.set _ 4 _)

set_option maxRecDepth 100000 in
set_option maxHeartbeats 1600000 in
theorem face_any (b : Nat) (lo hi co : Int) (s : ByteArray) (i : Int) (w : World) (hB : Blk w b (rCs lo hi co s i) 58) :
    Calls Try.prog 37 #[.pointer (some ⟨b, 0, none⟩)] w fun e w' => e = .returned (rV lo hi co s i) ∧ Below w.heap.size w w' := by
  have q0 : w.cell? ⟨b, 0, none⟩ = some (.int .u32 lo) := hB.cell rfl
  have q1 : w.cell? ⟨b, 1, none⟩ = some (.int .u32 hi) := hB.cell rfl
  have q2 : w.cell? ⟨b, 2, none⟩ = some (.int .u32 co) := hB.cell rfl
  have q3 : w.cell? ⟨b, 3, none⟩ = some (.string s) := hB.cell rfl
  have q4 : w.cell? ⟨b, 4, none⟩ = some (.int .i64 i) := hB.cell rfl
  have hlt := hB.lt
  have hne : ¬ b = w.heap.size := Nat.ne_of_lt hB.lt
  have hne' : ¬ w.heap.size = b := fun e => hne e.symm
  have HZ := hid (Blk.new w [.int .u32 0, .int .u32 0, .int .u32 0, .string ⟨#[]⟩, .int .i64 0] 41)
  have HB0 := hid ((Below.refl w.heap.size w).alloc (Nat.le_refl _) (.cells #[.int .u32 0, .int .u32 0, .int .u32 0, .string ⟨#[]⟩, .int .i64 0] 41))
  clear hB
  unfold rV
  go_enter Try.func37, Try.ntmps37
  go_wp2_with fail
  go_region_held3 (fun q => q.cell? ⟨b, 0, none⟩ = some (.int .u32 lo) ∧ q.cell? ⟨b, 1, none⟩ = some (.int .u32 hi) ∧ q.cell? ⟨b, 2, none⟩ = some (.int .u32 co) ∧ q.cell? ⟨b, 3, none⟩ = some (.string s) ∧ q.cell? ⟨b, 4, none⟩ = some (.int .i64 i)) (go_keep) (fail)
  all_goals
    go_wp2_with fail
    refine bodyPost_ret (v := .agg #[.int .u32 lo, .int .u32 hi, .int .u32 co, .string s, .int .i64 i]) (by simp [results, Try.results37, go_sem]) rfl ?_
    exact ⟨rfl, belowN ((Below.refl w.heap.size w).alloc (Nat.le_refl _) _) 1⟩


/-- The word of the first four bytes. -/
def code0 (s : ByteArray) : Int := byteAt s 0 * 16777216 + byteAt s 1 * 65536 + byteAt s 2 * 256 + byteAt s 3
theorem code0_word (s : ByteArray) : W32 (code0 s) := by
  have h0 := byteAt_lt s 0
  have h1 := byteAt_lt s 1
  have h2 := byteAt_lt s 2
  have h3 := byteAt_lt s 3
  unfold W32 code0
  omega
theorem rC4 (s : ByteArray) : rC 0 s 0 4 = code0 s := by
  have h0 := byteAt_lt s 0
  have h1 := byteAt_lt s 1
  have h2 := byteAt_lt s 2
  have h3 := byteAt_lt s 3
  simp only [rC]
  rw [show ((0 : Int) + 1 + 1 + 1) = 3 from rfl, show ((0 : Int) + 1 + 1) = 2 from rfl, show ((0 : Int) + 1) = 1 from rfl]
  unfold code0
  omega
theorem rC_step (s : ByteArray) : ∀ (n : Nat) (co i : Int), rC co s i (n + 1) = rC co s i n % 16777216 * 256 + byteAt s (i + n)
  | 0, co, i => by simp [rC]
  | n + 1, co, i => by
    rw [rC, rC_step s n, rC]
    congr 2
    omega

set_option maxHeartbeats 400000 in
theorem spec_byte (s : ByteArray) (i : Int) (w : World) (hs : s.size ≤ 1048576) :
    Calls Try.prog 35 #[.string s, .int .i64 i] w fun e w' => e = .returned (.int .u32 (byteAt s i)) ∧ w = w' := by
  have HI := hid (fun q => spec_in i 0 ((s.size : Int) - 1) q)
  by_cases h : 0 ≤ i ∧ i ≤ (s.size : Int) - 1
  · obtain ⟨k, rfl⟩ := Int.eq_ofNat_of_zero_le h.1
    have hk : k < s.size := by omega
    have HV := hid (byteAt_in s k hk)
    have hlt : (k : Int) < (s.size : Int) := by omega
    have hb1 := byte_lt s[k]
    rw [decide_eq_true h] at HI
    clear h
    generalize byteAt s k = Y at *
    go_enter Try.func35, Try.ntmps35
    go_wp2_with (go_at_call 31; refine (HI.out _).mono ?_; rintro e w1 ⟨rfl, rfl⟩)
    go_ret
    exact ⟨ret_int HV.out.symm, rfl⟩
  · have HV := hid (byteAt_out s i (by omega))
    have HI' : Hid (∀ q, Calls Try.prog 31 #[.int .i64 i, .int .i64 0, .int .i64 ((s.size : Int) - 1)] q fun e w' => e = .returned (.bool false) ∧ q = w') := fun q => by have := HI.out q; rw [decide_eq_false h] at this; exact this
    clear h HI
    generalize byteAt s i = Y at *
    go_enter Try.func35, Try.ntmps35
    go_wp2_with (go_at_call 31; refine (HI'.out _).mono ?_; rintro e w1 ⟨rfl, rfl⟩)
    go_ret
    exact ⟨ret_int HV.out.symm, rfl⟩

set_option maxRecDepth 100000 in
set_option maxHeartbeats 1600000 in
theorem spec_rstart (s : ByteArray) (w : World) (hs : s.size ≤ 1048576) :
    Calls Try.prog 22 #[.string s] w fun e w' => e = .returned (rV 0 4294967295 (code0 s) s 4) ∧ Below w.heap.size w w' := by
  have H0 := hid (fun q => spec_byte s 0 q hs)
  have H1 := hid (fun q => spec_byte s 1 q hs)
  have H2 := hid (fun q => spec_byte s 2 q hs)
  have H3 := hid (fun q => spec_byte s 3 q hs)
  obtain ⟨a0, a1⟩ := byteAt_lt s 0
  obtain ⟨b0, b1⟩ := byteAt_lt s 1
  obtain ⟨c0, c1⟩ := byteAt_lt s 2
  obtain ⟨d0, d1⟩ := byteAt_lt s 3
  have HC := hid (show code0 s = byteAt s 0 * 16777216 + byteAt s 1 * 65536 + byteAt s 2 * 256 + byteAt s 3 from rfl)
  generalize byteAt s 0 = A at *
  generalize byteAt s 1 = B at *
  generalize byteAt s 2 = C at *
  generalize byteAt s 3 = D at *
  rw [HC.out]
  unfold rV
  go_enter Try.func22, Try.ntmps22
  go_wp2_with fail
  refine (H0.out _).mono ?_
  rintro e w1 ⟨rfl, rfl⟩
  go_wp2_with fail
  refine (H1.out _).mono ?_
  rintro e w1 ⟨rfl, rfl⟩
  go_wp2_with fail
  refine (H2.out _).mono ?_
  rintro e w1 ⟨rfl, rfl⟩
  go_wp2_with fail
  refine (H3.out _).mono ?_
  rintro e w1 ⟨rfl, rfl⟩
  go_wp2_with fail
  refine bodyPost_ret (v := .agg #[.int .u32 0, .int .u32 4294967295, .int .u32 (A * 16777216 + B * 65536 + C * 256 + D), .string s, .int .i64 4]) (by simp [results, Try.results22, go_sem]) rfl ?_
  exact ⟨rfl, (Below.refl w.heap.size w).alloc (Nat.le_refl _) _⟩

theorem impl_widest (w : World) :
    Calls Try.prog 32 #[] w fun e w' => e = .returned (.agg #[.int .u32 0, .int .u32 4294967295]) ∧ Below w.heap.size w w' := by
  go_enter Try.func32, Try.ntmps32
  go_wp2_with fail
  refine bodyPost_ret (v := .agg #[.int .u32 0, .int .u32 4294967295]) (by simp [results, Try.results32, go_sem]) rfl ?_
  exact ⟨rfl, (Below.refl w.heap.size w).alloc (Nat.le_refl _) _⟩

set_option maxRecDepth 100000 in
set_option maxHeartbeats 1600000 in
theorem impl_rstart (s : ByteArray) (w : World) (hs : s.size ≤ 1048576) :
    Calls Try.prog 23 #[.string s] w fun e w' => e = .returned (rV 0 4294967295 (code0 s) s 4) ∧ Below w.heap.size w w' := by
  have HW := hid (fun q => impl_widest q)
  have HB0 := hid ((Below.refl w.heap.size w).alloc (Nat.le_refl _) (.cells #[.int .u32 0, .int .u32 0, .int .u32 0, .string ⟨#[]⟩, .int .i64 0] 41))
  have HN := hid (Blk.new w [.int .u32 0, .int .u32 0, .int .u32 0, .string ⟨#[]⟩, .int .i64 0] 41)
  have HC4 := hid (rC4 s)
  have HCW := hid (code0_word s)
  generalize code0 s = C0 at *
  unfold rV
  go_enter Try.func23, Try.ntmps23
  go_wp2_with fail
  refine (HW.out _).mono ?_
  generalize w.alloc (.cells #[.int .u32 0, .int .u32 0, .int .u32 0, .string ⟨#[]⟩, .int .i64 0] 41) = W0 at *
  rintro e w1 ⟨rfl, hb1⟩
  have hz := hid ((Below.refl w1.heap.size w1).alloc (Nat.le_refl _) (.cells #[.int .u32 0, .int .u32 4294967295, .int .u32 0, .string s, .int .i64 0] 58))
  have N1 := hid ((HN.out.below hb1 HN.out.lt).below hz.out (HN.out.below hb1 HN.out.lt).lt)
  have B1 := hid ((HB0.out.trans (hb1.mono HB0.out.size)).trans (hz.out.mono (Nat.le_trans HB0.out.size hb1.size)))
  have R1 := hid (Blk.new w1 [.int .u32 0, .int .u32 4294967295, .int .u32 0, .string s, .int .i64 0] 58)
  have hlt : Hid (w.heap.size < w1.heap.size) := Nat.lt_of_lt_of_le HN.out.lt hb1.size
  clear hb1 HN HB0 hz
  go_wp2_with fail
  generalize w1.alloc (.cells #[.int .u32 0, .int .u32 4294967295, .int .u32 0, .string s, .int .i64 0] 58) = W1 at *
  generalize w1.heap.size = G at *
  go_loopw [7] (fun i wr => ∃ k : Nat, k ≤ 4 ∧ i = .int .i64 k ∧ Hid (W32 (rC 0 s 0 k)) ∧ Blk wr G (rCs 0 4294967295 (rC 0 s 0 k) s k) 58 ∧ Blk wr w.heap.size [.int .u32 0, .int .u32 0, .int .u32 0, .string ⟨#[]⟩, .int .i64 0] 41 ∧ Below w.heap.size w wr) (fun i _ => 4 - (intOf i).toNat)
  case atStart => exact ⟨0, by omega, rfl, (show W32 0 from ⟨by decide, by decide⟩), R1.out, N1.out, B1.out⟩
  case round =>
    obtain ⟨k, hk, rfl, hw, hR, hN, hB⟩ := hrel
    clear R1 N1 B1 HW
    have HR := hid hR
    have HN := hid hN
    have HB := hid hB
    clear hR hN hB
    by_cases hlt4 : k < 4
    · have h4 : (k : Int) < 4 := by omega
      have HF := hid (fill_any G 0 4294967295 (rC 0 s 0 k) s k wr hw.out (by omega) HR.out)
      have e1 : rC 0 s 0 k % 16777216 * 256 + byteAt s k = rC 0 s 0 (k + 1) := by
        rw [rC_step]
        congr 2
        omega
      rw [e1] at HF
      have HW2 : Hid (W32 (rC 0 s 0 (k + 1))) := rC_word _ _ _ ⟨by decide, by decide⟩
      clear e1 hw
      go_wp2_with fail
      refine HF.out.mono ?_
      rintro e w2 ⟨rfl, hR2, hE2⟩
      have HR2 := hid hR2
      have HN2 := hid (HN.out.ef hE2 (Nat.ne_of_lt hlt.out))
      have HB2 := hid (HB.out.trans (hE2.below (Nat.le_of_lt hlt.out) HB.out.size))
      clear hR2 hE2
      go_wp2_with fail
      go_roundw
      case rel => exact ⟨k + 1, by omega, by go_num, HW2.out, HR2.out, HN2.out, HB2.out⟩
      case measure => simp [intOf]; omega
    · obtain rfl : k = 4 := by omega
      have HF := hid (face_any G 0 4294967295 (rC 0 s 0 4) s 4 wr HR.out)
      rw [HC4.out] at HF
      clear hlt4 hk
      go_wp2_with fail
      refine HF.out.mono ?_
      rintro e w2 ⟨rfl, hb2⟩
      have HN2 := hid (HN.out.below hb2 HN.out.lt)
      have HB2 := hid (HB.out.trans (hb2.mono HB.out.size))
      have r0 := HN2.out.cell (i := 0) rfl
      have r1 := HN2.out.cell (i := 1) rfl
      have r2 := HN2.out.cell (i := 2) rfl
      have r3 := HN2.out.cell (i := 3) rfl
      have r4 := HN2.out.cell (i := 4) rfl
      have y0 := HN2.out.free 0
      have y1 := HN2.out.free 1
      have y2 := HN2.out.free 2
      have y3 := HN2.out.free 3
      have y4 := HN2.out.free 4
      clear hb2
      unfold rV
      go_wp2_with fail
      refine bodyPost_ret (v := .agg #[.int .u32 0, .int .u32 4294967295, .int .u32 C0, .string s, .int .i64 4]) (by simp [results, Try.results23, go_sem, r0, r1, r2, r3, r4]) rfl ?_
      exact ⟨rfl, ((((HB2.out.setCell (p := ⟨w.heap.size, 0, none⟩) (Nat.le_refl _) _).setCell (p := ⟨w.heap.size, 1, none⟩) (Nat.le_refl _) _).setCell (p := ⟨w.heap.size, 2, none⟩) (Nat.le_refl _) _).setCell (p := ⟨w.heap.size, 3, none⟩) (Nat.le_refl _) _).setCell (p := ⟨w.heap.size, 4, none⟩) (Nat.le_refl _) _⟩

theorem eq_reader (lo hi co : Int) (s : ByteArray) (i : Int) (w : World) :
    Calls Try.prog 24 #[rV lo hi co s i, rV lo hi co s i] w fun e w' => e = .returned (.bool true) ∧ Below w.heap.size w w' := by
  unfold rV
  go_enter Try.func24, Try.ntmps24
  go_wp2_with fail
  go_ret
  exact ⟨rfl, (((Below.refl w.heap.size w).alloc (Nat.le_refl _) _).alloc (by simp) _)⟩

set_option maxRecDepth 100000 in
set_option maxHeartbeats 800000 in
theorem law_rstart (s : ByteArray) (w : World) (hm : s.size ≤ 9223372036854775807) :
    Calls Try.prog 7 #[.string s] w fun e w' => e = .returned (.bool true) ∧ Below w.heap.size w w' := by
  by_cases hs : (1048576 : Int) < (s.size : Int)
  · go_enter Try.func7, Try.ntmps7
    go_wp2_with fail
    go_ret
    exact ⟨rfl, Below.refl _ _⟩
  · have HS := hid (fun q => spec_rstart s q (by omega))
    have HI := hid (fun q => impl_rstart s q (by omega))
    have HQ := hid (fun q => eq_reader 0 4294967295 (code0 s) s 4 q)
    generalize code0 s = C0 at *
    unfold rV at *
    have hd : decide ((1048576 : Int) < (s.size : Int)) = false := decide_eq_false hs
    clear hs hm
    go_enter Try.func7, Try.ntmps7
    go_wp2_with fail
    refine (HS.out _).mono ?_
    rintro e w3 ⟨rfl, hb3⟩
    have C3 := hid (Blk.new w3 [.int .u32 0, .int .u32 4294967295, .int .u32 C0, .string s, .int .i64 4] 41)
    have B3 := hid (hb3.trans (((Below.refl w3.heap.size w3).alloc (Nat.le_refl _) (.cells #[.int .u32 0, .int .u32 4294967295, .int .u32 C0, .string s, .int .i64 4] 41)).mono hb3.size))
    clear hb3
    go_wp2_with fail
    refine (HI.out _).mono ?_
    generalize w3.alloc (.cells #[.int .u32 0, .int .u32 4294967295, .int .u32 C0, .string s, .int .i64 4] 41) = W3 at *
    generalize w3.heap.size = G3 at *
    rintro e w5 ⟨rfl, hb5⟩
    have hz5 := hid ((Below.refl w5.heap.size w5).alloc (Nat.le_refl _) (.cells #[.int .u32 0, .int .u32 4294967295, .int .u32 C0, .string s, .int .i64 4] 41))
    have C5 := hid ((C3.out.below hb5 C3.out.lt).below hz5.out (C3.out.below hb5 C3.out.lt).lt)
    have B5 := hid ((B3.out.trans (hb5.mono B3.out.size)).trans (hz5.out.mono (Nat.le_trans B3.out.size hb5.size)))
    have q0 := C5.out.cell (i := 0) rfl
    have q1 := C5.out.cell (i := 1) rfl
    have q2 := C5.out.cell (i := 2) rfl
    have q3 := C5.out.cell (i := 3) rfl
    have q4 := C5.out.cell (i := 4) rfl
    clear hb5 C3 B3 hz5
    go_wp2_with fail
    refine (HQ.out _).mono ?_
    generalize w5.alloc (.cells #[.int .u32 0, .int .u32 4294967295, .int .u32 C0, .string s, .int .i64 4] 41) = W5 at *
    rintro e w6 ⟨rfl, hb6⟩
    have B6 := hid (B5.out.trans (hb6.mono B5.out.size))
    clear hb6
    go_wp2_with fail
    go_ret
    exact ⟨rfl, B6.out⟩
end Go.Proofs.Ytokmkijpfmopiaa
