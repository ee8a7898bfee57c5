/- The contract of the specification's ReaderGet. -/
import Derived.Test.YtimafabbepgifaaRg
namespace Go.Proofs.Ytimafabbepgifaa
open Go.RowKit
set_option linter.unusedVariables false

set_option maxHeartbeats 400000 in
theorem spec_byte (s : ByteArray) (i : Int) (w : World) (hs : s.size ≤ 1048576) :
    Calls Try.prog 103 #[.string s, .int .i64 i] w fun e w' => e = .returned (.int .u32 (byteAt s i)) ∧ w = w' := by
  have HI := hid (fun q => spec_in i 0 ((s.size : Int) - 1) q)
  by_cases h : 0 ≤ i ∧ i ≤ (s.size : Int) - 1
  · obtain ⟨k, rfl⟩ := Int.eq_ofNat_of_zero_le h.1
    have hk : k < s.size := by omega
    have HV := hid (byteAt_in s k hk)
    have hlt : (k : Int) < (s.size : Int) := by omega
    have hb1 := byte_lt s[k]
    rw [decide_eq_true h] at HI
    clear h
    generalize byteAt s k = Y at *
    go_enter Try.func103, Try.ntmps103
    go_wp2_with (go_at_call 51; refine (HI.out _).mono ?_; rintro e w1 ⟨rfl, rfl⟩)
    go_ret
    exact ⟨ret_int HV.out.symm, rfl⟩
  · have HV := hid (byteAt_out s i (by omega))
    have HI' : Hid (∀ q, Calls Try.prog 51 #[.int .i64 i, .int .i64 0, .int .i64 ((s.size : Int) - 1)] q fun e w' => e = .returned (.bool false) ∧ q = w') := fun q => by have := HI.out q; rw [decide_eq_false h] at this; exact this
    clear h HI
    generalize byteAt s i = Y at *
    go_enter Try.func103, Try.ntmps103
    go_wp2_with (go_at_call 51; refine (HI'.out _).mono ?_; rintro e w1 ⟨rfl, rfl⟩)
    go_ret
    exact ⟨ret_int HV.out.symm, rfl⟩

set_option maxRecDepth 100000 in
set_option maxHeartbeats 1600000 in
theorem spec_get_no (lo hi co : Int) (s : ByteArray) (i p : Int) (w : World) (hl : W32 lo) (hh : W32 hi) (hno : okGet lo hi i p = false) :
    Calls Try.prog 79 #[rV lo hi co s i, .int .i64 p] w fun e w' => e = .returned (.tuple #[rV lo hi co s i, .int .i64 (-1)]) ∧ Below w.heap.size w w' := by
  have HC := hid (fun q => spec_ch p q)
  have HI := hid (fun q => spec_in i 0 60008 q)
  unfold okGet at hno
  replace hno := of_decide_eq_false hno
  have BE := hid (new5 w (.int .u32 lo) (.int .u32 hi) (.int .u32 co) (.string s) (.int .i64 i) (.int .u32 lo) (.int .u32 hi) (.int .u32 co) (.string s) (.int .i64 i)).2.2
  by_cases h2 : 1 ≤ p ∧ p ≤ 4095
  · have HC' : Hid (∀ q, Calls Try.prog 72 #[.int .i64 p] q fun e w' => e = .returned (.bool true) ∧ q = w') := fun q => by have := HC.out q; rw [show isCh p = true from decide_eq_true h2] at this; exact this
    by_cases h3 : lo ≤ hi
    · have h5 : ¬ hi < lo := by omega
      · have h7 : ¬ (0 ≤ i ∧ i ≤ 60008) := fun h => hno ⟨h2, h3, h.1, h.2⟩
        have HI' : Hid (∀ q, Calls Try.prog 51 #[.int .i64 i, .int .i64 0, .int .i64 60008] q fun e w' => e = .returned (.bool false) ∧ q = w') := fun q => by have := HI.out q; rw [decide_eq_false (fun h => hno ⟨h2, h3, h.1, h.2⟩)] at this; exact this
        clear hno HC HI
        unfold rV
        go_enter Try.func79, Try.ntmps79
        go_wp2_with (first | (go_at_call 72; refine (HC'.out _).mono ?_; rintro e w1 ⟨rfl, rfl⟩) | (go_at_call 51; refine (HI'.out _).mono ?_; rintro e w1 ⟨rfl, rfl⟩))
        refine bodyPost_ret (v := .tuple #[.agg #[.int .u32 lo, .int .u32 hi, .int .u32 co, .string s, .int .i64 i], .int .i64 (-1)]) (by simp [results, Try.results79, go_sem]) rfl ?_
        exact ⟨rfl, BE.out⟩
    · have h5 : hi < lo := by omega
      clear hno HC HI
      unfold rV
      go_enter Try.func79, Try.ntmps79
      go_wp2_with (first | (go_at_call 72; refine (HC'.out _).mono ?_; rintro e w1 ⟨rfl, rfl⟩))
      refine bodyPost_ret (v := .tuple #[.agg #[.int .u32 lo, .int .u32 hi, .int .u32 co, .string s, .int .i64 i], .int .i64 (-1)]) (by simp [results, Try.results79, go_sem]) rfl ?_
      exact ⟨rfl, BE.out⟩
  · have HC' : Hid (∀ q, Calls Try.prog 72 #[.int .i64 p] q fun e w' => e = .returned (.bool false) ∧ q = w') := fun q => by have := HC.out q; rw [show isCh p = false from decide_eq_false h2] at this; exact this
    clear hno HC HI
    unfold rV
    go_enter Try.func79, Try.ntmps79
    go_wp2_with (first | (go_at_call 72; refine (HC'.out _).mono ?_; rintro e w1 ⟨rfl, rfl⟩))
    refine bodyPost_ret (v := .tuple #[.agg #[.int .u32 lo, .int .u32 hi, .int .u32 co, .string s, .int .i64 i], .int .i64 (-1)]) (by simp [results, Try.results79, go_sem]) rfl ?_
    exact ⟨rfl, BE.out⟩

/-- What one round of the specification's reader comes to. -/
theorem sget_round {PP : List Int × Int × Int} {co : Int} {s : ByteArray} {i : Nat} {l h c : Int} {j m B : Nat} {w wr Wz : World} {l' h' c' j' : Int} {z : List Value} (hrec : Hid (GetInv PP co s i l h c j m)) (he : top l = top h) (hBr : Blk wr B (rCs l h c s j) 38)
    (hB4 : Blk Wz B [.int .u32 l', .int .u32 h', .int .u32 c', .string s, .int .i64 j'] 38) (hZ : Blk Wz (B + 1) z 38) (hE4 : Below B w Wz) (h1 : l' = sl l) (h2 : h' = sh h) (h3 : c' = c % 16777216 * 256 + byteAt s j) (h4 : j' = (j : Int) + 1) :
    (∃ (l h c : Int) (j m : Nat), Hid (GetInv PP co s i l h c j m) ∧ Blk Wz B (rCs l h c s (j : Nat)) 38 ∧ Blk Wz (B + 1) z 38 ∧ Below B w Wz) ∧ (cN (wInt Wz B 0) (wInt Wz B 1)).1.length < (cN (wInt wr B 0) (wInt wr B 1)).1.length := by
  subst h1 h2 h3 h4
  obtain ⟨⟨h1, h2, h3⟩, h4, h5, h6, h7⟩ := hrec.out
  have hby := byteAt_lt s j
  refine ⟨⟨sl l, sh h, c % 16777216 * 256 + byteAt s j, j + 1, m + 1, ⟨⟨sl_word l, sh_word h, by unfold W32; omega⟩, ?_, by omega, ?_, ?_⟩, hB4, hZ, hE4⟩, ?_⟩
  · rw [h4, cN_yes he]
    simp
    omega
  · rw [rC_step, ← h6, h5]
    congr 2
  · rw [h7, cN_yes he]
  · have a1 := Blk.ints (r := _) hB4
    have a2 := Blk.ints (r := _) hBr
    rw [a1.1, a1.2, a2.1, a2.2, cN_yes he]
    simp
theorem sget_world {w wr : World} {B : Nat} {a b c d e a' b' c' e' : Value} {z : List Value} (hA : Blk wr B [a, b, c, d, e] 38) (hR : Blk wr (B + 1) z 38) (hb : Below B w wr) :
    Blk ((((wr.setCell ⟨B, 0, none⟩ a').setCell ⟨B, 1, none⟩ b').setCell ⟨B, 2, none⟩ c').setCell ⟨B, 4, none⟩ e').drew B [a', b', c', d, e'] 38 ∧ Blk ((((wr.setCell ⟨B, 0, none⟩ a').setCell ⟨B, 1, none⟩ b').setCell ⟨B, 2, none⟩ c').setCell ⟨B, 4, none⟩ e').drew (B + 1) z 38 ∧ Below B w ((((wr.setCell ⟨B, 0, none⟩ a').setCell ⟨B, 1, none⟩ b').setCell ⟨B, 2, none⟩ c').setCell ⟨B, 4, none⟩ e').drew := by
  have h1 := (((hA.set 0 a').set 1 b').set 2 c').set 4 e'
  have h2 := (((hR.other (a := ⟨B, 0, none⟩) (Nat.succ_ne_self B) a').other (a := ⟨B, 1, none⟩) (Nat.succ_ne_self B) b').other (a := ⟨B, 2, none⟩) (Nat.succ_ne_self B) c').other (a := ⟨B, 4, none⟩) (Nat.succ_ne_self B) e'
  have h3 := (((hb.setCell (p := ⟨B, 0, none⟩) (Nat.le_refl _) a').setCell (p := ⟨B, 1, none⟩) (Nat.le_refl _) b').setCell (p := ⟨B, 2, none⟩) (Nat.le_refl _) c').setCell (p := ⟨B, 4, none⟩) (Nat.le_refl _) e'
  exact ⟨h1, h2, belowN h3 1⟩
theorem sget_end {PP : List Int × Int × Int} {co : Int} {s : ByteArray} {i : Nat} {l h c : Int} {j m : Nat} (hrec : Hid (GetInv PP co s i l h c j m)) (he : top l ≠ top h) : PP.2.1 = l ∧ PP.2.2 = h ∧ rC co s i PP.1.length = c ∧ i + PP.1.length = j := by
  obtain ⟨⟨h1, h2, h3⟩, h4, h5, h6, h7⟩ := hrec.out
  rw [cN_no he] at h4 h7
  simp only [List.length_nil, Nat.add_zero] at h4
  rw [h4, h7, ← h6, ← h5]
  exact ⟨rfl, rfl, rfl, rfl⟩

set_option maxRecDepth 100000 in
set_option maxHeartbeats 1600000 in
theorem spec_get_yes (lo hi co : Int) (s : ByteArray) (i : Nat) (p : Int) (w : World) (hl : W32 lo) (hh : W32 hi) (hc : W32 co) (hs : s.size ≤ 1048576) (hok : okGet lo hi i p = true) :
    Calls Try.prog 79 #[rV lo hi co s i, .int .i64 p] w fun e w' => e = .returned (.tuple #[rV (rP lo hi co p).2.1 (rP lo hi co p).2.2 (rC co s i (rP lo hi co p).1.length) s (i + (rP lo hi co p).1.length), .int .i64 (rBit lo hi co p)]) ∧ Below w.heap.size w w' := by
  unfold okGet at hok
  obtain ⟨h2, h3, h4, h6⟩ := of_decide_eq_true hok
  obtain ⟨BIT, hBIT⟩ : ∃ B, rBit lo hi co p = B := ⟨_, rfl⟩
  have hb01 : BIT = 0 ∨ BIT = 1 := hBIT ▸ rBit_in lo hi co p
  unfold rP
  rw [hBIT]
  have HC : Hid (∀ q, Calls Try.prog 72 #[.int .i64 p] q fun e w' => e = .returned (.bool true) ∧ q = w') := fun q => by have := spec_ch p q; rw [show isCh p = true from decide_eq_true h2] at this; exact this
  have HI : Hid (∀ q, Calls Try.prog 51 #[.int .i64 i, .int .i64 0, .int .i64 60008] q fun e w' => e = .returned (.bool true) ∧ q = w') := fun q => by have := spec_in i 0 60008 q; rw [decide_eq_true ⟨h4, h6⟩] at this; exact this
  have HM := hid (fun q => spec_mid lo hi p q hl hh)
  have h5 : ¬ hi < lo := by omega
  have HL := hid (nLo_word (b := BIT) (p := p) hl hh)
  have HH := hid (nHi_word (b := BIT) (p := p) hl hh)
  have HPL := hid (show (cPut lo hi BIT p).1.length ≤ 4 from cN_len _ _)
  have HP := hid (show cPut lo hi BIT p = cN (nLo lo hi BIT p) (nHi lo hi BIT p) from rfl)
  have HCO := hid hc
  have H6 := hid h6
  have H8 := hid hs
  have hm0 := (cMid_word (p := p) hl hh).1
  have hm1 := (cMid_word (p := p) hl hh).2
  rw [show ((i : Int) + ((cPut lo hi BIT p).1.length : Int)) = ((i + (cPut lo hi BIT p).1.length : Nat) : Int) by simp]
  generalize cPut lo hi BIT p = PP at *
  clear hok h2 h4 h6 hs
  unfold rV
  by_cases hcm : co ≤ cMid lo hi p
  · obtain rfl : BIT = 1 := by rw [← hBIT]; unfold rBit; rw [if_pos hcm]
    have HN : Hid (lo = nLo lo hi 1 p ∧ cMid lo hi p = nHi lo hi 1 p) := ⟨by unfold nLo; simp, by unfold nHi; simp⟩
    generalize cMid lo hi p = M at *
    clear hBIT hl hh hc hb01
    generalize nLo lo hi 1 p = L at *
    generalize nHi lo hi 1 p = H at *
    go_enter Try.func79, Try.ntmps79
    go_wp2_with (first | (go_at_call 72; refine (HC.out _).mono ?_; rintro e w1 ⟨rfl, rfl⟩) | (go_at_call 51; refine (HI.out _).mono ?_; rintro e w1 ⟨rfl, rfl⟩) | (go_at_call 99; refine (HM.out _).mono ?_; rintro e w1 ⟨rfl, rfl⟩))
    go_loopw [] (fun wr => ∃ (l h c : Int) (j m : Nat), Hid (GetInv PP co s i l h c j m) ∧ Blk wr w.heap.size (rCs l h c s (j : Nat)) 38 ∧ Blk wr (w.heap.size + 1) [.int .u32 0, .int .u32 0, .int .u32 0, .string ⟨#[]⟩, .int .i64 0] 38 ∧ Below w.heap.size w wr) (fun wr => (cN (wInt wr w.heap.size 0) (wInt wr w.heap.size 1)).1.length)
    case atStart =>
      refine ⟨L, H, co, i, 0, ⟨⟨HL.out, HH.out, HCO.out⟩, by rw [HP.out]; simp, rfl, rfl, HP.out ▸ rfl⟩, ?_, (new5 w _ _ _ _ _ _ _ _ _ _).2.1, (new5 w _ _ _ _ _ _ _ _ _ _).2.2⟩
      unfold rCs
      rw [← HN.out.1, ← HN.out.2]
      exact (new5 w _ _ _ _ _ _ _ _ _ _).1
    case round =>
      obtain ⟨l, h, c, j, m, hrec, hB0, hB1, hBr⟩ := hrel
      clear HL HH HP HC HM HN HI
      have HS := hid (spec_top0 l h wr hrec.out.1.1 hrec.out.1.2.1)
      have b0 := hid hB0
      have b1 := hid hB1
      have q0 : wr.cell? ⟨w.heap.size, 0, none⟩ = some (.int .u32 l) := hB0.cell rfl
      have q1 : wr.cell? ⟨w.heap.size, 1, none⟩ = some (.int .u32 h) := hB0.cell rfl
      have q2 : wr.cell? ⟨w.heap.size, 2, none⟩ = some (.int .u32 c) := hB0.cell rfl
      have q3 : wr.cell? ⟨w.heap.size, 3, none⟩ = some (.string s) := hB0.cell rfl
      have q4 : wr.cell? ⟨w.heap.size, 4, none⟩ = some (.int .i64 (j : Nat)) := hB0.cell rfl
      have r0 := hB1.cell (i := 0) rfl
      have r1 := hB1.cell (i := 1) rfl
      have r2 := hB1.cell (i := 2) rfl
      have r3 := hB1.cell (i := 3) rfl
      have r4 := hB1.cell (i := 4) rfl
      have z0 := hB0.free 0
      have z1 := hB0.free 1
      have z2 := hB0.free 2
      have z4 := hB0.free 4
      have y0 := hB1.free 0
      have y1 := hB1.free 1
      have y2 := hB1.free 2
      have y3 := hB1.free 3
      have y4 := hB1.free 4
      have HBr := hid hBr
      have hj : (j : Int) ≤ 100004 := by
        have h1 := hrec.out.2.1
        have h2 := HPL.out
        have h3 := hrec.out.2.2.1
        have h4 := H6.out
        omega
      have hl0 := hrec.out.1.1.1
      have hl1 := hrec.out.1.1.2
      have hh0 := hrec.out.1.2.1.1
      have hh1 := hrec.out.1.2.1.2
      have hc0 := hrec.out.1.2.2.1
      have hc1 := hrec.out.1.2.2.2
      have hy0 := (byteAt_lt s j).1
      have hy1 := (byteAt_lt s j).2
      have HSL := hid (show l * 256 % 4294967296 = sl l from sl_val hl0 hl1)
      have HSH := hid (show h * 256 % 4294967296 + 255 = sh h from by unfold sh; omega)
      have HCV := hid (show (c * 256 + byteAt s j) % 4294967296 = c % 16777216 * 256 + byteAt s j from by omega)
      have HBY := hid (fun q => spec_byte s j q (by have := H8.out; omega))
      clear hB0 hB1 hBr
      by_cases e : top l = top h
      · have hd : decide (top l = top h) = true := decide_eq_true e
        rw [hd] at HS
        have HE := hid e
        clear hd e
        obtain ⟨Y, hY⟩ : ∃ Y, byteAt s j = Y := ⟨_, rfl⟩
        rw [hY] at hy0 hy1 HCV HBY
        have HY := hid hY
        clear hY
        go_wp2_with fail
        refine HS.out.mono ?_
        rintro e w2 ⟨rfl, rfl⟩
        go_wp2_with fail
        go_region_with (first | (go_at_call 103; refine (HBY.out _).mono ?_; rintro e w1 ⟨rfl, rfl⟩))
        all_goals
          go_wp2_with fail
          have HW := sget_world (a' := .int .u32 (l * 256 % 4294967296)) (b' := .int .u32 (h * 256 % 4294967296 + 255)) (c' := .int .u32 ((c * 256 + Y) % 4294967296)) (e' := .int .i64 ((j : Int) + 1)) b0.out b1.out HBr.out
          exact sget_round hrec HE.out b0.out HW.1 HW.2.1 HW.2.2 HSL.out HSH.out (by rw [HCV.out, HY.out]) rfl
      · have hd : decide (top l = top h) = false := decide_eq_false e
        rw [hd] at HS
        have HE := hid e
        clear hd e hj
        go_wp2_with fail
        refine HS.out.mono ?_
        rintro e w2 ⟨rfl, rfl⟩
        go_wp2_with fail
        obtain ⟨e1, e2, e3, e4⟩ := sget_end hrec HE.out
        rw [e1, e2, e3, e4]
        refine bodyPost_ret (v := .tuple #[.agg #[.int .u32 l, .int .u32 h, .int .u32 c, .string s, .int .i64 (j : Nat)], .int .i64 1]) (by simp [results, Try.results79, go_sem, r0, r1, r2, r3, r4]) rfl ?_
        exact ⟨rfl, ((((HBr.out.setCell (p := ⟨w.heap.size + 1, 0, none⟩) (Nat.le_succ _) _).setCell (p := ⟨w.heap.size + 1, 1, none⟩) (Nat.le_succ _) _).setCell (p := ⟨w.heap.size + 1, 2, none⟩) (Nat.le_succ _) _).setCell (p := ⟨w.heap.size + 1, 3, none⟩) (Nat.le_succ _) _).setCell (p := ⟨w.heap.size + 1, 4, none⟩) (Nat.le_succ _) _⟩
  · obtain rfl : BIT = 0 := by rw [← hBIT]; unfold rBit; rw [if_neg hcm]
    have HN : Hid ((cMid lo hi p + 1) % 4294967296 = nLo lo hi 0 p ∧ hi = nHi lo hi 0 p) := ⟨by unfold nLo; simp, by unfold nHi; simp⟩
    generalize cMid lo hi p = M at *
    clear hBIT hl hh hc hb01
    generalize nLo lo hi 0 p = L at *
    generalize nHi lo hi 0 p = H at *
    go_enter Try.func79, Try.ntmps79
    go_wp2_with (first | (go_at_call 72; refine (HC.out _).mono ?_; rintro e w1 ⟨rfl, rfl⟩) | (go_at_call 51; refine (HI.out _).mono ?_; rintro e w1 ⟨rfl, rfl⟩) | (go_at_call 99; refine (HM.out _).mono ?_; rintro e w1 ⟨rfl, rfl⟩))
    go_loopw [] (fun wr => ∃ (l h c : Int) (j m : Nat), Hid (GetInv PP co s i l h c j m) ∧ Blk wr w.heap.size (rCs l h c s (j : Nat)) 38 ∧ Blk wr (w.heap.size + 1) [.int .u32 0, .int .u32 0, .int .u32 0, .string ⟨#[]⟩, .int .i64 0] 38 ∧ Below w.heap.size w wr) (fun wr => (cN (wInt wr w.heap.size 0) (wInt wr w.heap.size 1)).1.length)
    case atStart =>
      refine ⟨L, H, co, i, 0, ⟨⟨HL.out, HH.out, HCO.out⟩, by rw [HP.out]; simp, rfl, rfl, HP.out ▸ rfl⟩, ?_, (new5 w _ _ _ _ _ _ _ _ _ _).2.1, (new5 w _ _ _ _ _ _ _ _ _ _).2.2⟩
      unfold rCs
      rw [← HN.out.1, ← HN.out.2]
      exact (new5 w _ _ _ _ _ _ _ _ _ _).1
    case round =>
      obtain ⟨l, h, c, j, m, hrec, hB0, hB1, hBr⟩ := hrel
      clear HL HH HP HC HM HN HI
      have HS := hid (spec_top0 l h wr hrec.out.1.1 hrec.out.1.2.1)
      have b0 := hid hB0
      have b1 := hid hB1
      have q0 : wr.cell? ⟨w.heap.size, 0, none⟩ = some (.int .u32 l) := hB0.cell rfl
      have q1 : wr.cell? ⟨w.heap.size, 1, none⟩ = some (.int .u32 h) := hB0.cell rfl
      have q2 : wr.cell? ⟨w.heap.size, 2, none⟩ = some (.int .u32 c) := hB0.cell rfl
      have q3 : wr.cell? ⟨w.heap.size, 3, none⟩ = some (.string s) := hB0.cell rfl
      have q4 : wr.cell? ⟨w.heap.size, 4, none⟩ = some (.int .i64 (j : Nat)) := hB0.cell rfl
      have r0 := hB1.cell (i := 0) rfl
      have r1 := hB1.cell (i := 1) rfl
      have r2 := hB1.cell (i := 2) rfl
      have r3 := hB1.cell (i := 3) rfl
      have r4 := hB1.cell (i := 4) rfl
      have z0 := hB0.free 0
      have z1 := hB0.free 1
      have z2 := hB0.free 2
      have z4 := hB0.free 4
      have y0 := hB1.free 0
      have y1 := hB1.free 1
      have y2 := hB1.free 2
      have y3 := hB1.free 3
      have y4 := hB1.free 4
      have HBr := hid hBr
      have hj : (j : Int) ≤ 100004 := by
        have h1 := hrec.out.2.1
        have h2 := HPL.out
        have h3 := hrec.out.2.2.1
        have h4 := H6.out
        omega
      have hl0 := hrec.out.1.1.1
      have hl1 := hrec.out.1.1.2
      have hh0 := hrec.out.1.2.1.1
      have hh1 := hrec.out.1.2.1.2
      have hc0 := hrec.out.1.2.2.1
      have hc1 := hrec.out.1.2.2.2
      have hy0 := (byteAt_lt s j).1
      have hy1 := (byteAt_lt s j).2
      have HSL := hid (show l * 256 % 4294967296 = sl l from sl_val hl0 hl1)
      have HSH := hid (show h * 256 % 4294967296 + 255 = sh h from by unfold sh; omega)
      have HCV := hid (show (c * 256 + byteAt s j) % 4294967296 = c % 16777216 * 256 + byteAt s j from by omega)
      have HBY := hid (fun q => spec_byte s j q (by have := H8.out; omega))
      clear hB0 hB1 hBr
      by_cases e : top l = top h
      · have hd : decide (top l = top h) = true := decide_eq_true e
        rw [hd] at HS
        have HE := hid e
        clear hd e
        obtain ⟨Y, hY⟩ : ∃ Y, byteAt s j = Y := ⟨_, rfl⟩
        rw [hY] at hy0 hy1 HCV HBY
        have HY := hid hY
        clear hY
        go_wp2_with fail
        refine HS.out.mono ?_
        rintro e w2 ⟨rfl, rfl⟩
        go_wp2_with fail
        go_region_with (first | (go_at_call 103; refine (HBY.out _).mono ?_; rintro e w1 ⟨rfl, rfl⟩))
        all_goals
          go_wp2_with fail
          have HW := sget_world (a' := .int .u32 (l * 256 % 4294967296)) (b' := .int .u32 (h * 256 % 4294967296 + 255)) (c' := .int .u32 ((c * 256 + Y) % 4294967296)) (e' := .int .i64 ((j : Int) + 1)) b0.out b1.out HBr.out
          exact sget_round hrec HE.out b0.out HW.1 HW.2.1 HW.2.2 HSL.out HSH.out (by rw [HCV.out, HY.out]) rfl
      · have hd : decide (top l = top h) = false := decide_eq_false e
        rw [hd] at HS
        have HE := hid e
        clear hd e hj
        go_wp2_with fail
        refine HS.out.mono ?_
        rintro e w2 ⟨rfl, rfl⟩
        go_wp2_with fail
        obtain ⟨e1, e2, e3, e4⟩ := sget_end hrec HE.out
        rw [e1, e2, e3, e4]
        refine bodyPost_ret (v := .tuple #[.agg #[.int .u32 l, .int .u32 h, .int .u32 c, .string s, .int .i64 (j : Nat)], .int .i64 0]) (by simp [results, Try.results79, go_sem, r0, r1, r2, r3, r4]) rfl ?_
        exact ⟨rfl, ((((HBr.out.setCell (p := ⟨w.heap.size + 1, 0, none⟩) (Nat.le_succ _) _).setCell (p := ⟨w.heap.size + 1, 1, none⟩) (Nat.le_succ _) _).setCell (p := ⟨w.heap.size + 1, 2, none⟩) (Nat.le_succ _) _).setCell (p := ⟨w.heap.size + 1, 3, none⟩) (Nat.le_succ _) _).setCell (p := ⟨w.heap.size + 1, 4, none⟩) (Nat.le_succ _) _⟩

theorem spec_get (lo hi co : Int) (s : ByteArray) (i p : Int) (w : World) (hl : W32 lo) (hh : W32 hi) (hc : W32 co) (hs : s.size ≤ 1048576) :
    Calls Try.prog 79 #[rV lo hi co s i, .int .i64 p] w fun e w' => e = .returned (rRes lo hi co s i p) ∧ Below w.heap.size w w' := by
  unfold rRes
  by_cases h : okGet lo hi i p = true
  · rw [if_pos h]
    have hi0 : 0 ≤ i := by
      unfold okGet at h
      exact (of_decide_eq_true h).2.2.1
    obtain ⟨k, rfl⟩ := Int.eq_ofNat_of_zero_le hi0
    exact spec_get_yes lo hi co s k p w hl hh hc hs h
  · rw [if_neg h]
    exact spec_get_no lo hi co s i p w hl hh (by simpa using h)
end Go.Proofs.Ytimafabbepgifaa
