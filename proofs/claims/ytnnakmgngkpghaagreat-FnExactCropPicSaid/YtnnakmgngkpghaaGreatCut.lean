/- A part of a sheet: what is cut out, plain; cut and isWithin of the program. -/
import Derived.Test.YtnnakmgngkpghaaGreatCol
namespace Go.Proofs.YtnnakmgngkpghaaGreat
open Go.RowKit Go.Maps
set_option linter.unusedVariables false

/-- One row of what is cut out. -/
def segZ (S : Sh) (x n r : Nat) : List ((Int × List Int) × Value) := (S.Z.drop (r * S.w + x)).take n
def segTo (S : Sh) (x n : Nat) : Nat → List ((Int × List Int) × Value)
  | 0 => []
  | r + 1 => segTo S x n r ++ segZ S x n r
/-- The rows from y on. -/
def crTo (S : Sh) (x n y : Nat) : Nat → List ((Int × List Int) × Value)
  | 0 => []
  | i + 1 => crTo S x n y i ++ segZ S x n (y + i)
theorem segZ_len (S : Sh) (H x n r : Nat) (hl : S.Z.length = S.w * H) (hx : x + n ≤ S.w) (hr : r < H) : (segZ S x n r).length = n := by
  unfold segZ
  have h1 : (r + 1) * S.w ≤ H * S.w := Nat.mul_le_mul_right _ hr
  rw [Nat.succ_mul, Nat.mul_comm H] at h1
  rw [List.length_take, List.length_drop, hl]
  omega
theorem segTo_len (S : Sh) (H x n : Nat) (hl : S.Z.length = S.w * H) (hx : x + n ≤ S.w) : ∀ r, r ≤ H → (segTo S x n r).length = r * n
  | 0, _ => by simp [segTo]
  | r + 1, h => by rw [segTo, List.length_append, segTo_len S H x n hl hx r (by omega), segZ_len S H x n r hl hx (by omega), Nat.succ_mul]
theorem segTo_cr (S : Sh) (x n y : Nat) : ∀ i, segTo S x n (y + i) = segTo S x n y ++ crTo S x n y i
  | 0 => by simp [crTo]
  | i + 1 => by rw [← Nat.add_assoc, segTo, segTo_cr S x n y i, crTo, List.append_assoc]
theorem segTo_more (S : Sh) (x n m : Nat) : ∀ k, ∃ Y, segTo S x n (m + k) = segTo S x n m ++ Y
  | 0 => ⟨[], by simp⟩
  | k + 1 => by
    obtain ⟨Y, h⟩ := segTo_more S x n m k
    exact ⟨Y ++ segZ S x n (m + k), by rw [← Nat.add_assoc, segTo, h, List.append_assoc]⟩
theorem crTo_len (S : Sh) (H x n y : Nat) (hl : S.Z.length = S.w * H) (hx : x + n ≤ S.w) : ∀ i, y + i ≤ H → (crTo S x n y i).length = i * n
  | 0, _ => by simp [crTo]
  | i + 1, h => by rw [crTo, List.length_append, crTo_len S H x n y hl hx i (by omega), segZ_len S H x n _ hl hx (by omega), Nat.succ_mul]
theorem seg_cut (S : Sh) (H x n y h : Nat) (hl : S.Z.length = S.w * H) (hx : x + n ≤ S.w) (hy : y + h ≤ H) : ((segTo S x n H).drop (y * n)).take (h * n) = crTo S x n y h := by
  obtain ⟨Y, e⟩ := segTo_more S x n (y + h) (H - (y + h))
  rw [show y + h + (H - (y + h)) = H by omega, segTo_cr] at e
  rw [e, List.append_assoc, List.drop_left' (segTo_len S H x n hl hx y (by omega)), List.take_left' (crTo_len S H x n y hl hx h hy)]
theorem crTo_mem (S : Sh) (x n y : Nat) : ∀ i, ∀ z ∈ crTo S x n y i, z ∈ S.Z
  | 0, z, hz => by simp [crTo] at hz
  | i + 1, z, hz => by
    rw [crTo, List.mem_append] at hz
    rcases hz with hz | hz
    · exact crTo_mem S x n y i z hz
    · exact List.mem_of_mem_drop (List.mem_of_mem_take hz)
/-- The same without the values. -/
def crL (W : Nat) (L : List (Int × List Int)) (x n y : Nat) : Nat → List (Int × List Int)
  | 0 => []
  | i + 1 => crL W L x n y i ++ (L.drop ((y + i) * W + x)).take n
theorem crTo_plain (S : Sh) (x n y : Nat) : ∀ i, (crTo S x n y i).map (·.1) = crL S.w (S.Z.map (·.1)) x n y i
  | 0 => rfl
  | i + 1 => by rw [crTo, crL, List.map_append, crTo_plain S x n y i]; simp [segZ]
theorem crL_mem (W : Nat) (L : List (Int × List Int)) (x n y : Nat) : ∀ i, ∀ b ∈ crL W L x n y i, b ∈ L
  | 0, b, hb => by simp [crL] at hb
  | i + 1, b, hb => by
    rw [crL, List.mem_append] at hb
    rcases hb with hb | hb
    · exact crL_mem W L x n y i b hb
    · exact List.mem_of_mem_drop (List.mem_of_mem_take hb)
theorem crL_len (W : Nat) (L : List (Int × List Int)) (x n y : Nat) : ∀ i, (crL W L x n y i).length ≤ i * n
  | 0 => by simp [crL]
  | i + 1 => by
    have := crL_len W L x n y i
    rw [crL, List.length_append, List.length_take, Nat.succ_mul]
    omega
theorem colTo_get (S : Sh) (c : Nat) : ∀ n r, r < n → (colTo S c n).getD r noZ = S.Z.getD (r * S.w + c) noZ
  | n + 1, r, h => by
    rw [colTo]
    by_cases e : r = n
    · subst e
      simp [List.getD, colTo_len]
    · have := colTo_get S c n r (by omega)
      rw [← this]
      simp [List.getD, List.getElem?_append_left (show r < (colTo S c n).length by rw [colTo_len]; omega)]
theorem colTo_mem (S : Sh) (c : Nat) (H : Nat) (hl : S.Z.length = S.w * H) (hc : c < S.w) : ∀ r, r ≤ H → ∀ z ∈ colTo S c r, z ∈ S.Z
  | 0, _, z, hz => by simp [colTo] at hz
  | r + 1, h, z, hz => by
    rw [colTo, List.mem_append] at hz
    rcases hz with hz | hz
    · exact colTo_mem S c H hl hc r (by omega) z hz
    · simp at hz
      have hidx : r * S.w + c < S.Z.length := by
        rw [hl]
        have h1 : (r + 1) * S.w ≤ H * S.w := Nat.mul_le_mul_right _ h
        rw [Nat.succ_mul, Nat.mul_comm H] at h1
        omega
      have : S.Z[r * S.w + c]?.getD noZ = S.Z[r * S.w + c] := by simp [hidx]
      rw [this] at hz
      rw [hz]
      exact List.getElem_mem hidx
/-- Columns side by side are rows cut out. -/
theorem band_cols (S : Sh) (H x : Nat) (Ts : List Sh) (hl : S.Z.length = S.w * H) (hT : ∀ i, i < Ts.length → (nthSh Ts i).w = 1 ∧ (nthSh Ts i).Z = colTo S (x + i) H) (hx : x + Ts.length ≤ S.w) (r : Nat) (hr : r < H) : ∀ k, k ≤ Ts.length → bandTo Ts r k = segZ S x k r
  | 0, _ => by simp [bandTo, segZ]
  | k + 1, h => by
    have hidx : r * S.w + x + k < S.Z.length := by
      rw [hl]
      have h1 : (r + 1) * S.w ≤ H * S.w := Nat.mul_le_mul_right _ hr
      rw [Nat.succ_mul, Nat.mul_comm H] at h1
      omega
    rw [bandTo, band_cols S H x Ts hl hT hx r hr k (by omega)]
    have e1 : rowZ (nthSh Ts k) r = [S.Z[r * S.w + x + k]] := by
      unfold rowZ
      rw [(hT k (by omega)).1, (hT k (by omega)).2, Nat.mul_one]
      have hlen := colTo_len S (x + k) H
      rw [List.drop_eq_getElem_cons (by omega)]
      have hg := colTo_get S (x + k) H r hr
      simp [List.getD, hlen, hr] at hg
      have hidx' : r * S.w + (x + k) < S.Z.length := by omega
      simp [hidx'] at hg
      simp [hg, Nat.add_assoc]
    rw [e1]
    unfold segZ
    rw [List.take_add_one]
    simp [hidx]
theorem all_cols (S : Sh) (H x : Nat) (Ts : List Sh) (hl : S.Z.length = S.w * H) (hT : ∀ i, i < Ts.length → (nthSh Ts i).w = 1 ∧ (nthSh Ts i).Z = colTo S (x + i) H) (hx : x + Ts.length ≤ S.w) : ∀ r, r ≤ H → allTo Ts r = segTo S x Ts.length r
  | 0, _ => rfl
  | r + 1, h => by rw [allTo, segTo, all_cols S H x Ts hl hT hx r (by omega), band_cols S H x Ts hl hT hx r (by omega) _ (Nat.le_refl _)]
theorem wTo_ones (Ts : List Sh) (hT : ∀ i, i < Ts.length → (nthSh Ts i).w = 1) : ∀ k, k ≤ Ts.length → wTo Ts k = k
  | 0, _ => rfl
  | k + 1, h => by rw [wTo, wTo_ones Ts hT k (by omega), hT k (by omega)]
theorem nthSh_sub (Ts : List Sh) (x n i : Nat) (hi : i < n) (h : x + n ≤ Ts.length) : nthSh ((Ts.drop x).take n) i = nthSh Ts (x + i) := by
  simp [nthSh, List.getD, hi, List.getElem?_drop]
theorem sub_len (Ts : List Sh) (x n : Nat) (h : x + n ≤ Ts.length) : ((Ts.drop x).take n).length = n := by
  rw [List.length_take, List.length_drop]
  omega

set_option maxHeartbeats 800000 in
theorem within_any (a n m : Int) (w : World) (hm : 0 ≤ m ∧ m ≤ 1000) :
    Calls Tryz.prog 25 #[.int .i64 a, .int .i64 n, .int .i64 m] w fun e w' => e = .returned (.bool (decide (0 ≤ a ∧ 1 ≤ n ∧ a + n ≤ m))) ∧ w = w' := by
  by_cases h1 : 0 ≤ a
  · by_cases h2 : 1 ≤ n
    · by_cases h3 : n ≤ m
      · by_cases h4 : a ≤ m - n
        · rw [decide_eq_true (show 0 ≤ a ∧ 1 ≤ n ∧ a + n ≤ m by omega)]
          go_enter Tryz.func25, Tryz.ntmps25
          go_wp2
          go_ret
          exact ⟨rfl, rfl⟩
        · rw [decide_eq_false (show ¬ (0 ≤ a ∧ 1 ≤ n ∧ a + n ≤ m) by omega)]
          go_enter Tryz.func25, Tryz.ntmps25
          go_wp2
          go_ret
          exact ⟨rfl, rfl⟩
      · rw [decide_eq_false (show ¬ (0 ≤ a ∧ 1 ≤ n ∧ a + n ≤ m) by omega)]
        go_enter Tryz.func25, Tryz.ntmps25
        go_wp2
        go_ret
        exact ⟨rfl, rfl⟩
    · rw [decide_eq_false (show ¬ (0 ≤ a ∧ 1 ≤ n ∧ a + n ≤ m) by omega)]
      go_enter Tryz.func25, Tryz.ntmps25
      go_wp2
      go_ret
      exact ⟨rfl, rfl⟩
  · rw [decide_eq_false (show ¬ (0 ≤ a ∧ 1 ≤ n ∧ a + n ≤ m) by omega)]
    go_enter Tryz.func25, Tryz.ntmps25
    go_wp2
    go_ret
    exact ⟨rfl, rfl⟩

set_option maxRecDepth 100000 in
set_option maxHeartbeats 3200000 in
theorem cut_any (S : Sh) (H x y n h : Nat) (w : World) (hW : 1 ≤ S.w ∧ S.w ≤ 40) (hH : 1 ≤ H ∧ H ≤ 40) (hs : ShIn w S) (hl : S.Z.length = S.w * H) (hcap : S.Z.length ≤ S.cap) (h1c : ∀ z ∈ S.Z, z.2.oneCell' = true) (hn : 1 ≤ n) (hh : 1 ≤ h) (hx : x + n ≤ S.w) (hy : y + h ≤ H) :
    Calls Tryz.prog 28 #[.agg #[.int .i64 (S.w : Int), .int .i64 (H : Int), .slice (some ⟨S.b, S.off, none⟩) S.Z.length S.cap], .int .i64 (x : Int), .int .i64 (y : Int), .int .i64 (n : Int), .int .i64 (h : Int)] w fun e w' => ∃ b off cap, e = .returned (.agg #[.int .i64 (n : Int), .int .i64 (h : Int), .slice (some ⟨b, off, none⟩) (h * n) cap]) ∧ ShIn w' ⟨n, crTo S x n y h, b, off, cap⟩ ∧ Below w.heap.size w w' := by
  have HCO := hid (fun q (hq : Below w.heap.size w q) => columns_any S H q ⟨hW.1, by omega⟩ ⟨hH.1, by omega⟩ (hs.below hq) hl hcap h1c)
  have HL := hid hl
  have H1C := hid h1c
  have hA1 := (Below.refl w.heap.size w).alloc (Nat.le_refl _) (.cells #[.int .i64 (S.w : Int), .int .i64 (H : Int), .slice (some ⟨S.b, S.off, none⟩) S.Z.length S.cap] 56)
  have hA := hA1.alloc (by simp) (.cells #[.int .i64 0, .int .i64 0, .slice none 0 0] 56)
  have hs1 : (w.alloc (.cells #[.int .i64 (S.w : Int), .int .i64 (H : Int), .slice (some ⟨S.b, S.off, none⟩) S.Z.length S.cap] 56)).heap.size = w.heap.size + 1 := by simp
  have t1 := Tri.new (w.alloc (.cells #[.int .i64 (S.w : Int), .int .i64 (H : Int), .slice (some ⟨S.b, S.off, none⟩) S.Z.length S.cap] 56)) (.int .i64 0) (.int .i64 0) (.slice none 0 0) 56
  rw [hs1] at t1
  have T1 := hid t1
  have B0 := hid hA
  clear hs h1c hl hcap hA hA1 hs1 t1
  go_enter Tryz.func28, Tryz.ntmps28
  go_wp2_with (first | (go_at_call 48; fail) | fail)
  refine (HCO.out _ B0.out).mono ?_
  generalize (w.alloc _).alloc _ = wa at *
  rintro e w1 ⟨G, arr, Ts, rfl, harr, hcl, hb1⟩
  have B1 := hid (B0.out.trans (hb1.mono B0.out.size))
  have T2 := hid (T1.out.below hb1 T1.out.lt)
  have HTL : Ts.length = S.w := hcl.2.1
  have hsl := sub_len Ts x n (by omega)
  have HNT := hid (fun i (hi : i < n) => nthSh_sub Ts x n i hi (by omega))
  have HPI : Hid (PIn w1 G (x * 3) ((Ts.drop x).take n) H) := hid (fun i hi => by
    rw [hsl] at hi
    rw [HNT.out i hi]
    obtain ⟨⟨a1, a2, _⟩, _, a3, a4, a5⟩ := hcl.2.2 (x + i) (by omega)
    rw [a1, a2, colTo_len]
    refine ⟨?_, ?_, ?_⟩
    · rw [harr.cell, show x * 3 + i * 3 = (x + i) * 3 by omega]; exact a3
    · rw [harr.cell, show x * 3 + i * 3 = (x + i) * 3 by omega]; exact a4
    · rw [harr.cell, show x * 3 + i * 3 = (x + i) * 3 by omega]; exact a5)
  have HSH := hid (fun i (hi : i < ((Ts.drop x).take n).length) => show ShIn w1 (nthSh ((Ts.drop x).take n) i) ∧ (nthSh ((Ts.drop x).take n) i).Z.length = (nthSh ((Ts.drop x).take n) i).w * H ∧ 1 ≤ (nthSh ((Ts.drop x).take n) i).w ∧ (nthSh ((Ts.drop x).take n) i).Z.length ≤ (nthSh ((Ts.drop x).take n) i).cap from by
    rw [hsl] at hi
    rw [HNT.out i hi]
    obtain ⟨⟨a1, a2, _, _, a3⟩, a4, _⟩ := hcl.2.2 (x + i) (by omega)
    rw [a1, a2, colTo_len]
    exact ⟨a4, by omega, by omega, a3⟩)
  have HON := hid (fun i (hi : i < ((Ts.drop x).take n).length) => show ∀ z ∈ (nthSh ((Ts.drop x).take n) i).Z, z.2.oneCell' = true from by
    rw [hsl] at hi
    rw [HNT.out i hi]
    obtain ⟨⟨_, a2, _⟩, _⟩ := hcl.2.2 (x + i) (by omega)
    rw [a2]
    exact fun z hz => H1C.out z (colTo_mem S (x + i) H HL.out (by omega) H (Nat.le_refl _) z hz))
  have HWO := hid (wTo_ones ((Ts.drop x).take n) (fun i hi => by
    rw [hsl] at hi
    rw [HNT.out i hi]
    exact (hcl.2.2 (x + i) (by omega)).1.1) n (by omega))
  have HALL := hid (all_cols S H x ((Ts.drop x).take n) HL.out (fun i hi => by
    rw [hsl] at hi
    rw [HNT.out i hi]
    exact ⟨(hcl.2.2 (x + i) (by omega)).1.1, (hcl.2.2 (x + i) (by omega)).1.2.1⟩) (by rw [hsl]; exact hx) H (Nat.le_refl _))
  have HBS := hid (fun c => beside_any ((Ts.drop x).take n) H G (x * 3) c w1 (by omega) (by omega) (by omega) (by rw [hsl, HWO.out]; omega) HPI.out HSH.out HON.out)
  rw [hsl] at HALL HBS
  rw [HWO.out, HALL.out] at HBS
  have HSL := hid hsl
  clear harr hcl hb1 HPI HSH HON HNT HCO T1 hsl
  generalize (Ts.drop x).take n = Ts' at *
  go_wp2_with (first | (go_at_call 35; fail) | fail)
  rw [show x + n - x = n by omega]
  refine (HBS.out (S.w - x)).mono ?_
  rintro e w2 ⟨v, rfl, hz, hb2⟩
  have hm1 : 1 ≤ H * n := Nat.mul_pos hH.1 hn
  have hm2 : H * n ≤ 40 * 40 := Nat.mul_le_mul hH.2 (by omega)
  have hseg := segTo_len S H x n HL.out hx H (Nat.le_refl _)
  obtain ⟨g, cap, rfl, hcap, hcells⟩ : ∃ g cap, v = .slice (some ⟨g, 0, none⟩) (H * n) cap ∧ H * n ≤ cap ∧ ∀ j u, (flZ (segTo S x n H))[j]? = some u → w2.cell? ⟨g, 0 + j, none⟩ = some u := by
    rcases hz.2.2 with ⟨_, h0⟩ | ⟨g, cp, cur, hv, hg, hh, hle, hmx, hss, htk⟩
    · rw [hseg] at h0
      omega
    · rw [hseg] at hv hle
      refine ⟨g, cp, hv, hle, fun j u hu => ?_⟩
      rw [cell_of_row w2 g (0 + j) _ 65 (0, 0) hh]
      rw [← htk, List.getElem?_take] at hu
      split at hu
      · simpa using hu
      · cases hu
  have HC := hid hcells
  have hA3 := (Below.refl w2.heap.size w2).alloc (Nat.le_refl _) (.cells #[.int .i64 (n : Int), .int .i64 (H : Int), .slice (some ⟨g, 0, none⟩) (H * n) cap] 56)
  have B3 := hid ((B1.out.trans (hb2.mono B1.out.size)).trans (hA3.mono (Nat.le_trans B1.out.size hb2.size)))
  have N3 := hid (Tri.new w2 (.int .i64 (n : Int)) (.int .i64 (H : Int)) (.slice (some ⟨g, 0, none⟩) (H * n) cap) 56)
  have T3 := hid ((T2.out.below hb2 T2.out.lt).below hA3 (T2.out.below hb2 T2.out.lt).lt)
  have C3 := hid (fun j u hu => (hA3.cell (p := ⟨g, 0 + j, none⟩) (World.block_lt_of_cell? _ _ (HC.out j u hu))).trans (HC.out j u hu))
  have hym : (y + h) * n ≤ H * n := Nat.mul_le_mul_right _ hy
  rw [Nat.add_mul] at hym
  have hhn : 1 ≤ h * n := Nat.mul_pos hh hn
  obtain ⟨P, hP⟩ : ∃ P, P = y * n := ⟨_, rfl⟩
  obtain ⟨R, hR⟩ : ∃ R, R = h * n := ⟨_, rfl⟩
  have e1 : (y : Int) * (n : Int) = (P : Int) := by rw [hP]; simp
  have e2 : ((y : Int) + (h : Int)) * (n : Int) = (P : Int) + (R : Int) := by rw [hP, hR, Int.add_mul]; simp
  have HPR := hid (show P = y * n ∧ R = h * n from ⟨hP, hR⟩)
  rw [← hP, ← hR] at hym
  rw [← hR] at hhn
  have hglt : g < w2.heap.size := (hz.2.lt g rfl).2
  have HGW := hid (show w.heap.size + 1 < g by have := (hz.2.lt g rfl).1; have := T2.out.lt; omega)
  have HGL := hid hglt
  clear hcells hA3 hb2 hz HC hP hR T2 B1 hglt
  have S3 := hid (show ShIn (w2.alloc (.cells #[.int .i64 (n : Int), .int .i64 (H : Int), .slice (some ⟨g, 0, none⟩) (H * n) cap] 56)) ⟨n, segTo S x n H, g, 0, cap⟩ from C3.out)
  have SC := hid (seg_cut S H x n y h HL.out hx hy)
  obtain ⟨n0, n1, n2⟩ := N3.out.cells
  obtain ⟨s0, s1, s2⟩ := T3.out.cells
  have sz := T3.out.free
  generalize H * n = HN at *
  have EZ := hid (((T3.out.set0 (.int .i64 (n : Int))).set1 (.int .i64 (h : Int))).set2 (.slice (some ⟨g, P * 2, none⟩) R (cap - P))).cells
  have BZ := hid (((B3.out.setCell (p := ⟨w.heap.size + 1, 0, none⟩) (show w.heap.size ≤ w.heap.size + 1 by omega) (.int .i64 (n : Int))).setCell (p := ⟨w.heap.size + 1, 1, none⟩) (show w.heap.size ≤ w.heap.size + 1 by omega) (.int .i64 (h : Int))).setCell (p := ⟨w.heap.size + 1, 2, none⟩) (show w.heap.size ≤ w.heap.size + 1 by omega) (.slice (some ⟨g, P * 2, none⟩) R (cap - P)))
  go_wp2_with fail
  have S4 := hid (S3.out.kx ((((Kx.refl (g + 1) (w.heap.size + 1) _).set 0 (.int .i64 (n : Int))).set 1 (.int .i64 (h : Int))).set 2 (.slice (some ⟨g, P * 2, none⟩) R (cap - P))) (Nat.lt_succ_self _) (show g ≠ w.heap.size + 1 by have := HGW.out; omega))
  generalize (((w2.alloc (.cells #[.int .i64 (n : Int), .int .i64 (H : Int), .slice (some ⟨g, 0, none⟩) HN cap] 56)).setCell ⟨w.heap.size + 1, 0, none⟩ (.int .i64 (n : Int))).setCell ⟨w.heap.size + 1, 1, none⟩ (.int .i64 (h : Int))).setCell ⟨w.heap.size + 1, 2, none⟩ (.slice (some ⟨g, P * 2, none⟩) R (cap - P)) = wf at *
  clear s0 s1 s2 sz n0 n1 n2
  obtain ⟨s0, s1, s2⟩ := EZ.out
  obtain ⟨hP, hR⟩ := HPR.out
  have SF : ShIn wf ⟨n, crTo S x n y h, g, P * 2, cap - P⟩ := by
    intro j u hu
    rw [← SC.out] at hu
    simp only at hu
    rw [flZ_take, flZ_drop, List.getElem?_take] at hu
    split at hu
    · rw [List.getElem?_drop, ← hP] at hu
      have := S4.out _ _ hu
      simp only [Nat.zero_add] at this
      exact this
    · cases hu
  exact bodyPost_ret (v := .agg #[.int .i64 (n : Int), .int .i64 (h : Int), .slice (some ⟨g, P * 2, none⟩) R (cap - P)]) (by simp [results, Tryz.results28, go_sem, s0, s1, s2]) rfl ⟨g, P * 2, cap - P, by rw [hR], SF, BZ.out⟩
end Go.Proofs.YtnnakmgngkpghaaGreat
