/- Contracts of the program's reader of bits: fill, face, get, and ReaderGet. -/
import Derived.Test.YtimafabbepgifaaPt
import Derived.Test.YtimafabbepgifaaXa
import Derived.BigRegion
namespace Go.Proofs.Ytimafabbepgifaa
open Go.RowKit
set_option linter.unusedVariables false

/-- A reader's cells. -/
def rCs (lo hi co : Int) (s : ByteArray) (i : Int) (r : List Value := []) : List Value := .int .u32 lo :: .int .u32 hi :: .int .u32 co :: .string s :: .int .i64 i :: r

theorem byteAt_in (s : ByteArray) (k : Nat) (h : k < s.size) : byteAt s (k : Int) = (s[k].toNat : Int) := by
  unfold byteAt
  rw [if_pos ⟨by omega, by omega⟩]
  have e : s.data.getD ((k : Int).toNat) 0 = s[k] := by
    have h' : k < s.data.size := h
    simp only [Int.toNat_natCast, Array.getD, h', dif_pos]
    rfl
  rw [e]
theorem byteAt_out (s : ByteArray) (k : Int) (h : k < 0 ∨ (s.size : Int) ≤ k) : byteAt s k = 0 := by
  unfold byteAt
  rw [if_neg (by omega)]

theorem orByte (x y : Int) (h0 : 0 ≤ x) (h : x % 256 = 0) (h1 : x < 4294967296) (hy0 : 0 ≤ y) (hy1 : y < 256) : bits .or .u32 x y = x + y :=
  bits_join .u32 32 (by decide) (fun n h0 h1 => by rw [IntKind.wrap_u32]; omega) 8 x y h0 h h1 hy0 hy1 (by omega)

set_option maxRecDepth 100000 in
set_option maxHeartbeats 1600000 in
theorem fill_any (r : List Value) (t : TypeId) (b : Nat) (lo hi co : Int) (s : ByteArray) (i : Nat) (w : World) (hc : W32 co) (hi9 : i ≤ 1000000) (hB : Blk w b (rCs lo hi co s i r) t) :
    Calls Try.prog 43 #[.pointer (some ⟨b, 0, none⟩)] w fun e w' => e = .returned (.tuple #[]) ∧ Blk w' b (rCs lo hi (co % 16777216 * 256 + byteAt s i) s (i + 1 : Nat) r) t ∧ Ef b w w' := by
  have q2 : w.cell? ⟨b, 2, none⟩ = some (.int .u32 co) := hB.cell rfl
  have q3 : w.cell? ⟨b, 3, none⟩ = some (.string s) := hB.cell rfl
  have q4 : w.cell? ⟨b, 4, none⟩ = some (.int .i64 i) := hB.cell rfl
  have z2 := hB.free 2
  have z4 := hB.free 4
  have c0 := hc.1
  have c1 := hc.2
  have HB := hid hB
  clear hc hB
  by_cases h : i < s.size
  · have HV : Hid (bits .or .u32 (co * 256 % 4294967296) (s[i].toNat : Int) = co % 16777216 * 256 + byteAt s i) := by
      have hb := byte_lt s[i]
      show _ = _
      rw [byteAt_in s i h, orByte _ _ (by omega) (by omega) (by omega) (by omega) hb]
      omega
    have hlt : (i : Int) < (s.size : Int) := by omega
    have hb0 : (0 : Int) ≤ (s[i].toNat : Int) := by omega
    have hb1 := byte_lt s[i]
    go_enter Try.func43, Try.ntmps43
    go_wp2_with fail
    go_quiet (fail)
    go_wp2_with fail
    go_region
    all_goals
      go_wp2_with fail
      go_end0
      rw [HV.out]
      refine ⟨rfl, ?_, ?_⟩
      · exact ((HB.out.set 2 (.int .u32 (co * 256 % 4294967296))).set 2 (.int .u32 (co % 16777216 * 256 + byteAt s i))).set 4 (.int .i64 ((i + 1 : Nat) : Int))
      · exact ((Ef.set w 2 _).drewN _).trans ((Ef.set _ 2 _).trans (Ef.set _ 4 _))
  · have HV : Hid (co * 256 % 4294967296 = co % 16777216 * 256 + byteAt s i) := by
      show _ = _
      rw [byteAt_out s i (by omega)]
      omega
    have hge : ¬ (i : Int) < (s.size : Int) := by omega
    clear h
    go_enter Try.func43, Try.ntmps43
    go_wp2_with fail
    go_quiet (fail)
    go_wp2_with fail
    go_end0
    rw [HV.out]
    refine ⟨rfl, ?_, ?_⟩
    · exact (HB.out.set 2 (.int .u32 (co % 16777216 * 256 + byteAt s i))).set 4 (.int .i64 ((i + 1 : Nat) : Int))
    · exact ((Ef.set w 2 _).drewN _).trans (Ef.set _ 4 _)

set_option maxRecDepth 100000 in
set_option maxHeartbeats 1600000 in
theorem face_any (r : List Value) (t : TypeId) (b : Nat) (lo hi co : Int) (s : ByteArray) (i : Int) (w : World) (hB : Blk w b (rCs lo hi co s i r) t) :
    Calls Try.prog 44 #[.pointer (some ⟨b, 0, none⟩)] w fun e w' => e = .returned (rV lo hi co s i) ∧ Below w.heap.size w w' := by
  have q0 : w.cell? ⟨b, 0, none⟩ = some (.int .u32 lo) := hB.cell rfl
  have q1 : w.cell? ⟨b, 1, none⟩ = some (.int .u32 hi) := hB.cell rfl
  have q2 : w.cell? ⟨b, 2, none⟩ = some (.int .u32 co) := hB.cell rfl
  have q3 : w.cell? ⟨b, 3, none⟩ = some (.string s) := hB.cell rfl
  have q4 : w.cell? ⟨b, 4, none⟩ = some (.int .i64 i) := hB.cell rfl
  have hlt := hB.lt
  have hne : ¬ b = w.heap.size := Nat.ne_of_lt hB.lt
  have hne' : ¬ w.heap.size = b := fun e => hne e.symm
  have HZ := hid (Blk.new w [.int .u32 0, .int .u32 0, .int .u32 0, .string ⟨#[]⟩, .int .i64 0] 38)
  have HB0 := hid ((Below.refl w.heap.size w).alloc (Nat.le_refl _) (.cells #[.int .u32 0, .int .u32 0, .int .u32 0, .string ⟨#[]⟩, .int .i64 0] 38))
  clear hB
  unfold rV
  go_enter Try.func44, Try.ntmps44
  go_wp2_with fail
  go_region_held3 (fun q => q.cell? ⟨b, 0, none⟩ = some (.int .u32 lo) ∧ q.cell? ⟨b, 1, none⟩ = some (.int .u32 hi) ∧ q.cell? ⟨b, 2, none⟩ = some (.int .u32 co) ∧ q.cell? ⟨b, 3, none⟩ = some (.string s) ∧ q.cell? ⟨b, 4, none⟩ = some (.int .i64 i)) (go_keep) (fail)
  all_goals
    go_wp2_with fail
    refine bodyPost_ret (v := .agg #[.int .u32 lo, .int .u32 hi, .int .u32 co, .string s, .int .i64 i]) (by simp [results, Try.results44, go_sem]) rfl ?_
    exact ⟨rfl, belowN ((Below.refl w.heap.size w).alloc (Nat.le_refl _) _) 1⟩

/-- The bit that the reader tells. -/
def rBit (lo hi co p : Int) : Int := if co ≤ cMid lo hi p then 1 else 0
theorem rBit_in (lo hi co p : Int) : rBit lo hi co p = 0 ∨ rBit lo hi co p = 1 := by
  unfold rBit
  split
  · exact .inr rfl
  · exact .inl rfl
/-- The bounds and the bytes behind a bit that was read. -/
def rP (lo hi co p : Int) : List Int × Int × Int := cPut lo hi (rBit lo hi co p) p
theorem rC_step (s : ByteArray) : ∀ (n : Nat) (co i : Int), rC co s i (n + 1) = rC co s i n % 16777216 * 256 + byteAt s (i + n)
  | 0, co, i => by simp [rC]
  | n + 1, co, i => by
    rw [rC, rC_step s n, rC]
    congr 2
    omega
/-- What stands in the reader's loop: the bounds l, h, the code c, the place j, m bytes behind the first. -/
def GetInv (PP : List Int × Int × Int) (co : Int) (s : ByteArray) (i : Nat) (l h c : Int) (j m : Nat) : Prop :=
  (W32 l ∧ W32 h ∧ W32 c) ∧ PP.1.length = m + (cN l h).1.length ∧ j = i + m ∧ c = rC co s i m ∧ PP.2 = (cN l h).2
theorem get_round {r : List Value} {t : TypeId} {PP : List Int × Int × Int} {co : Int} {s : ByteArray} {i : Nat} {l h c : Int} {j m b : Nat} {w wr w4 : World} (hrec : Hid (GetInv PP co s i l h c j m)) (he : top l = top h) (hBr : Blk wr b (rCs l h c s j r) t)
    (hB4 : Blk w4 b (rCs (sl l) (sh h) (c % 16777216 * 256 + byteAt s j) s (j + 1 : Nat) r) t) (hE4 : Ef b w w4) :
    (∃ (l h c : Int) (j m : Nat), Hid (GetInv PP co s i l h c j m) ∧ Blk w4 b (rCs l h c s (j : Nat) r) t ∧ Ef b w w4) ∧ (cN (wInt w4 b 0) (wInt w4 b 1)).1.length < (cN (wInt wr b 0) (wInt wr b 1)).1.length := by
  obtain ⟨⟨h1, h2, h3⟩, h4, h5, h6, h7⟩ := hrec.out
  have hby := byteAt_lt s j
  refine ⟨⟨sl l, sh h, c % 16777216 * 256 + byteAt s j, j + 1, m + 1, ⟨⟨sl_word l, sh_word h, by unfold W32; omega⟩, ?_, by omega, ?_, ?_⟩, hB4, hE4⟩, ?_⟩
  · rw [h4, cN_yes he]
    simp
    omega
  · rw [rC_step, ← h6, h5]
    congr 2
  · rw [h7, cN_yes he]
  · have a1 := Blk.ints (r := _) hB4
    have a2 := Blk.ints (r := _) hBr
    rw [a1.1, a1.2, a2.1, a2.2, cN_yes he]
    simp
theorem get_end {r : List Value} {t : TypeId} {PP : List Int × Int × Int} {co : Int} {s : ByteArray} {i : Nat} {l h c : Int} {j m b : Nat} {w2 : World} (hrec : Hid (GetInv PP co s i l h c j m)) (he : top l ≠ top h) (hB : Blk w2 b (rCs l h c s j r) t) :
    Blk w2 b (rCs PP.2.1 PP.2.2 (rC co s i PP.1.length) s (i + PP.1.length : Nat) r) t := by
  obtain ⟨⟨h1, h2, h3⟩, h4, h5, h6, h7⟩ := hrec.out
  rw [cN_no he] at h4 h7
  simp only [List.length_nil, Nat.add_zero] at h4
  rw [h4, h7, ← h6, ← h5]
  exact hB

set_option maxRecDepth 100000 in
set_option maxHeartbeats 1600000 in
theorem get_yes (r : List Value) (t : TypeId) (b : Nat) (lo hi co p : Int) (s : ByteArray) (i : Nat) (w : World) (hl : W32 lo) (hh : W32 hi) (hc : W32 co) (hle : lo ≤ hi) (hi9 : i ≤ 60008) (hB : Blk w b (rCs lo hi co s i r) t) :
    Calls Try.prog 70 #[.pointer (some ⟨b, 0, none⟩), .int .i64 p] w fun e w' => e = .returned (.int .i64 (rBit lo hi co p)) ∧ Blk w' b (rCs (rP lo hi co p).2.1 (rP lo hi co p).2.2 (rC co s i (rP lo hi co p).1.length) s (i + (rP lo hi co p).1.length : Nat) r) t ∧ Ef b w w' := by
  obtain ⟨BIT, hBIT⟩ : ∃ B, rBit lo hi co p = B := ⟨_, rfl⟩
  have hb01 : BIT = 0 ∨ BIT = 1 := hBIT ▸ rBit_in lo hi co p
  unfold rP
  rw [hBIT]
  have HM : Hid (∀ q, Calls Try.prog 96 #[.int .u32 lo, .int .u32 hi, .int .i64 p] q fun e w' => e = .returned (.int .u32 (cMid lo hi p)) ∧ w' = q) := fun q => (impl_mid lo hi p q hl hh).mono fun _ _ ⟨a, b⟩ => ⟨a, b.symm⟩
  have HCR := hid (crossed b lo hi (.int .u32 co :: .string s :: .int .i64 i :: r) t w hl hh hB)
  rw [decide_eq_false (show ¬ hi < lo by omega)] at HCR
  have h60 : decide ((60008 : Int) < (i : Int)) = false := decide_eq_false (by omega)
  have hi0 : decide ((i : Int) < 0) = false := decide_eq_false (by omega)
  have HT := hid (fun q (hq : Blk q b (rCs lo hi co s i r) t) => take_any b lo hi BIT p (.int .u32 co :: .string s :: .int .i64 i :: r) t q hl hh hb01 hq)
  have HB := hid hB
  have HL := hid (nLo_word (b := BIT) (p := p) hl hh)
  have HH := hid (nHi_word (b := BIT) (p := p) hl hh)
  have HPL := hid (show (cPut lo hi BIT p).1.length ≤ 4 from cN_len _ _)
  have HP := hid (show cPut lo hi BIT p = cN (nLo lo hi BIT p) (nHi lo hi BIT p) from rfl)
  have HC := hid hc
  have hm0 := (cMid_word (p := p) hl hh).1
  generalize cPut lo hi BIT p = PP at *
  by_cases hcm : co ≤ cMid lo hi p
  · obtain rfl : BIT = 1 := by rw [← hBIT]; unfold rBit; rw [if_pos hcm]
    generalize cMid lo hi p = M at *
    clear hBIT hl hh hc hB hb01 hle
    generalize nLo lo hi 1 p = L at *
    generalize nHi lo hi 1 p = H at *
    go_enter Try.func70, Try.ntmps70
    go_wp2_with fail
    refine HCR.out.mono ?_
    rintro e w0 ⟨rfl, q, rfl⟩
    have HBq := hid (HB.out.below (below_drewN w q) HB.out.lt)
    have HEq := hid (Ef.ofBelow (C := b) (below_drewN w q))
    generalize w.drewN q = wq at *
    have q0 := HBq.out.cell (i := 0) rfl
    have q1 := HBq.out.cell (i := 1) rfl
    have q2 := HBq.out.cell (i := 2) rfl
    have q4 := HBq.out.cell (i := 4) rfl
    go_wp2_with fail
    go_quiet ((go_at_call 96; exact Calls.quiet_of_same (HM.out _)))
    go_wp2_with fail
    refine (HT.out (wq.drewN _) (HBq.out.below (below_drewN _ _) HBq.out.lt)).mono ?_
    rintro e w1 ⟨rfl, hB1, hE1⟩
    have HB1 := hid hB1
    have HE1 := hid (HEq.out.trans ((Ef.ofBelow (below_drewN _ _)).trans hE1))
    clear hB1 hE1 HT HB HBq HEq q0 q1 q2 q4
    go_wp2_with fail
    go_loopw [] (fun wr => ∃ (l h c : Int) (j m : Nat), Hid (GetInv PP co s i l h c j m) ∧ Blk wr b (rCs l h c s (j : Nat) r) t ∧ Ef b w wr) (fun wr => (cN (wInt wr b 0) (wInt wr b 1)).1.length)
    case atStart => exact ⟨L, H, co, i, 0, ⟨⟨HL.out, HH.out, HC.out⟩, by rw [HP.out]; simp, rfl, rfl, HP.out ▸ rfl⟩, HB1.out, HE1.out⟩
    case round =>
      obtain ⟨l, h, c, j, m, hrec, hBr, hEr⟩ := hrel
      clear HB1 HE1 HL HH HP HC HM
      have HS := hid (settled b l h (.int .u32 c :: .string s :: .int .i64 j :: r) t wr hrec.out.1.1 hrec.out.1.2.1 hBr)
      have HBr := hid hBr
      have HEr := hid hEr
      have hj := hid (show j ≤ 100004 from by
        have h1 := hrec.out.2.1
        have h2 := HPL.out
        have h3 := hrec.out.2.2.1
        omega)
      clear hBr hEr
      by_cases e : top l = top h
      · have hd : decide (top l = top h) = true := decide_eq_true e
        rw [hd] at HS
        have HE := hid e
        clear hd e
        go_wp2_with fail
        refine HS.out.mono ?_
        rintro e w2 ⟨rfl, q, rfl⟩
        go_wp2_with fail
        refine (shift_any b l h (.int .u32 c :: .string s :: .int .i64 j :: r) t (wr.drewN q) hrec.out.1.1 hrec.out.1.2.1 (HBr.out.below (below_drewN _ _) HBr.out.lt)).mono ?_
        rintro e w3 ⟨rfl, hB3, hE3⟩
        have HB3 := hid hB3
        have HE3 := hid ((HEr.out.drewN q).trans hE3)
        clear hB3 hE3
        go_wp2_with fail
        refine (fill_any r t b (sl l) (sh h) c s j w3 hrec.out.1.2.2 (Nat.le_trans hj.out (by decide)) HB3.out).mono ?_
        rintro e w4 ⟨rfl, hB4, hE4⟩
        have HB4 := hid hB4
        have HE4 := hid (HE3.out.trans hE4)
        clear hB4 hE4
        go_wp2_with fail
        exact get_round hrec HE.out HBr.out HB4.out HE4.out
      · have hd : decide (top l = top h) = false := decide_eq_false e
        rw [hd] at HS
        have HE := hid e
        clear hd e
        go_wp2_with fail
        refine HS.out.mono ?_
        rintro e w2 ⟨rfl, q, rfl⟩
        have HB2 := hid (HBr.out.below (below_drewN _ q) HBr.out.lt)
        have HE2 := hid (HEr.out.drewN q)
        generalize wr.drewN q = w2 at *
        go_wp2_with fail
        go_ret
        exact ⟨rfl, get_end hrec HE.out HB2.out, HE2.out⟩
  · obtain rfl : BIT = 0 := by rw [← hBIT]; unfold rBit; rw [if_neg hcm]
    generalize cMid lo hi p = M at *
    clear hBIT hl hh hc hB hb01 hle
    generalize nLo lo hi 0 p = L at *
    generalize nHi lo hi 0 p = H at *
    go_enter Try.func70, Try.ntmps70
    go_wp2_with fail
    refine HCR.out.mono ?_
    rintro e w0 ⟨rfl, q, rfl⟩
    have HBq := hid (HB.out.below (below_drewN w q) HB.out.lt)
    have HEq := hid (Ef.ofBelow (C := b) (below_drewN w q))
    generalize w.drewN q = wq at *
    have q0 := HBq.out.cell (i := 0) rfl
    have q1 := HBq.out.cell (i := 1) rfl
    have q2 := HBq.out.cell (i := 2) rfl
    have q4 := HBq.out.cell (i := 4) rfl
    go_wp2_with fail
    go_quiet ((go_at_call 96; exact Calls.quiet_of_same (HM.out _)))
    go_wp2_with fail
    refine (HT.out (wq.drewN _) (HBq.out.below (below_drewN _ _) HBq.out.lt)).mono ?_
    rintro e w1 ⟨rfl, hB1, hE1⟩
    have HB1 := hid hB1
    have HE1 := hid (HEq.out.trans ((Ef.ofBelow (below_drewN _ _)).trans hE1))
    clear hB1 hE1 HT HB HBq HEq q0 q1 q2 q4
    go_wp2_with fail
    go_loopw [] (fun wr => ∃ (l h c : Int) (j m : Nat), Hid (GetInv PP co s i l h c j m) ∧ Blk wr b (rCs l h c s (j : Nat) r) t ∧ Ef b w wr) (fun wr => (cN (wInt wr b 0) (wInt wr b 1)).1.length)
    case atStart => exact ⟨L, H, co, i, 0, ⟨⟨HL.out, HH.out, HC.out⟩, by rw [HP.out]; simp, rfl, rfl, HP.out ▸ rfl⟩, HB1.out, HE1.out⟩
    case round =>
      obtain ⟨l, h, c, j, m, hrec, hBr, hEr⟩ := hrel
      clear HB1 HE1 HL HH HP HC HM
      have HS := hid (settled b l h (.int .u32 c :: .string s :: .int .i64 j :: r) t wr hrec.out.1.1 hrec.out.1.2.1 hBr)
      have HBr := hid hBr
      have HEr := hid hEr
      have hj := hid (show j ≤ 100004 from by
        have h1 := hrec.out.2.1
        have h2 := HPL.out
        have h3 := hrec.out.2.2.1
        omega)
      clear hBr hEr
      by_cases e : top l = top h
      · have hd : decide (top l = top h) = true := decide_eq_true e
        rw [hd] at HS
        have HE := hid e
        clear hd e
        go_wp2_with fail
        refine HS.out.mono ?_
        rintro e w2 ⟨rfl, q, rfl⟩
        go_wp2_with fail
        refine (shift_any b l h (.int .u32 c :: .string s :: .int .i64 j :: r) t (wr.drewN q) hrec.out.1.1 hrec.out.1.2.1 (HBr.out.below (below_drewN _ _) HBr.out.lt)).mono ?_
        rintro e w3 ⟨rfl, hB3, hE3⟩
        have HB3 := hid hB3
        have HE3 := hid ((HEr.out.drewN q).trans hE3)
        clear hB3 hE3
        go_wp2_with fail
        refine (fill_any r t b (sl l) (sh h) c s j w3 hrec.out.1.2.2 (Nat.le_trans hj.out (by decide)) HB3.out).mono ?_
        rintro e w4 ⟨rfl, hB4, hE4⟩
        have HB4 := hid hB4
        have HE4 := hid (HE3.out.trans hE4)
        clear hB4 hE4
        go_wp2_with fail
        exact get_round hrec HE.out HBr.out HB4.out HE4.out
      · have hd : decide (top l = top h) = false := decide_eq_false e
        rw [hd] at HS
        have HE := hid e
        clear hd e
        go_wp2_with fail
        refine HS.out.mono ?_
        rintro e w2 ⟨rfl, q, rfl⟩
        have HB2 := hid (HBr.out.below (below_drewN _ q) HBr.out.lt)
        have HE2 := hid (HEr.out.drewN q)
        generalize wr.drewN q = w2 at *
        go_wp2_with fail
        go_ret
        exact ⟨rfl, get_end hrec HE.out HB2.out, HE2.out⟩

set_option maxRecDepth 100000 in
set_option maxHeartbeats 1600000 in
/-- Where the reader has -1 it stays as it is. -/
theorem get_no (r : List Value) (t : TypeId) (b : Nat) (lo hi co p : Int) (s : ByteArray) (i : Int) (w : World) (hl : W32 lo) (hh : W32 hi) (hno : ¬ (lo ≤ hi ∧ 0 ≤ i ∧ i ≤ 60008)) (hB : Blk w b (rCs lo hi co s i r) t) :
    Calls Try.prog 70 #[.pointer (some ⟨b, 0, none⟩), .int .i64 p] w fun e w' => e = .returned (.int .i64 (-1)) ∧ Blk w' b (rCs lo hi co s i r) t ∧ Ef b w w' := by
  have HCR := hid (crossed b lo hi (.int .u32 co :: .string s :: .int .i64 i :: r) t w hl hh hB)
  have HB := hid hB
  clear hB hl hh
  by_cases hle : lo ≤ hi
  · rw [decide_eq_false (show ¬ hi < lo by omega)] at HCR
    by_cases hi0 : i < 0
    · clear hno
      go_enter Try.func70, Try.ntmps70
      go_wp2_with fail
      refine HCR.out.mono ?_
      rintro e w0 ⟨rfl, q, rfl⟩
      have HBq := hid (HB.out.below (below_drewN w q) HB.out.lt)
      have HEq := hid (Ef.ofBelow (C := b) (below_drewN w q))
      generalize w.drewN q = wq at *
      have q4 := HBq.out.cell (i := 4) rfl
      go_wp2_with fail
      go_ret
      exact ⟨rfl, HBq.out, HEq.out⟩
    · have h6 : (60008 : Int) < i := by omega
      clear hno
      go_enter Try.func70, Try.ntmps70
      go_wp2_with fail
      refine HCR.out.mono ?_
      rintro e w0 ⟨rfl, q, rfl⟩
      have HBq := hid (HB.out.below (below_drewN w q) HB.out.lt)
      have HEq := hid (Ef.ofBelow (C := b) (below_drewN w q))
      generalize w.drewN q = wq at *
      have q4 := HBq.out.cell (i := 4) rfl
      go_wp2_with fail
      go_ret
      exact ⟨rfl, HBq.out, HEq.out⟩
  · rw [decide_eq_true (show hi < lo by omega)] at HCR
    clear hno
    go_enter Try.func70, Try.ntmps70
    go_wp2_with fail
    refine HCR.out.mono ?_
    rintro e w0 ⟨rfl, q, rfl⟩
    have HBq := hid (HB.out.below (below_drewN w q) HB.out.lt)
    have HEq := hid (Ef.ofBelow (C := b) (below_drewN w q))
    generalize w.drewN q = wq at *
    go_wp2_with fail
    go_ret
    exact ⟨rfl, HBq.out, HEq.out⟩
end Go.Proofs.Ytimafabbepgifaa
